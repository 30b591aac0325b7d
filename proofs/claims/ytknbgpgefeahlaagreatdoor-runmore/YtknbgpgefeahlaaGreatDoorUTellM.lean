/- What a call has set is given up: what is kept. -/
import Derived.Test.YtknbgpgefeahlaaGreatDoorURowM
import Derived.Test.YtknbgpgefeahlaaGreatDoorUOrdM
namespace Go.Proofs.YtknbgpgefeahlaaGreatDoor
open Go.RowKit

def unset (l : List Int) (ks : List Sg) : List Int := ks.foldl (fun l s => l.set s.cell (s.old : Int)) l
def St.anew (S : St) (g : Nat) (l : List Int) : St := { S with nw := S.nw.set g (some l) }
def St.cutK (S : St) (k : Nat) : St := { S with kept := S.kept.take k }
def St.cutR (S : St) (k : Nat) : St := { S with rows := S.rows.take k }
def St.forget (S : St) : St := ((S.anew S.top.g (unset (S.row S.top.g) (S.kept.drop S.top.k))).cutK S.top.k).cutR S.top.r
theorem unset_len (ks : List Sg) : ∀ l, (unset l ks).length = l.length := by
  unfold unset
  induction ks with
  | nil => intro l; rfl
  | cons s ks ih => intro l; rw [List.foldl_cons, ih, List.length_set]
theorem unset_take (l : List Int) (ks : List Sg) (i : Nat) (hi : i < ks.length) : unset l (ks.take (i + 1)) = (unset l (ks.take i)).set (ks.getD i default).cell ((ks.getD i default).old : Int) := by
  unfold unset
  have : ks.take (i + 1) = ks.take i ++ [ks.getD i default] := by
    rw [List.take_succ_eq_append_getElem hi]
    simp [List.getD, List.getElem?_eq_getElem hi]
  rw [this, List.foldl_append]
  rfl
/-- The newest settings of a graph are others now. -/
theorem Rn.anew {E : Env} {w : World} {V : Vals} {ss : List Slot} {S : St} (h : Rn E w V ss S) {tg : Nat} {l : List Int} {c N : Nat} {a : Value} (hg : S.nw[tg]? = some (some l)) (hN : V.cl[tg]? = some (a, .slice (some ⟨N, 0, Option.none⟩) l.length l.length)) (x : Int) :
    ∃ ss', Rn E (w.setCell ⟨N, c, Option.none⟩ (intV x)) V ss' (S.anew tg (l.set c x)) := by
  have hgl : tg < S.nw.length := (List.getElem?_eq_some_iff.1 hg).1
  have hgp : tg < E.P.length := by rw [← h.nwl]; exact hgl
  obtain ⟨a', N', hN', hs7, hah⟩ := h.news _ l hg
  rw [hN] at hN'
  cases hN'
  have H3 := h.heap.store hs7 c (intV x)
  have L3 := below_set h.low (h.heap.lt hs7).1 c (intV x)
  refine ⟨_, L3, h.prog, H3, set_other h.s0 (by omega), set_other h.s1 (by omega), set_other h.s2 (by omega), set_other h.s3 (by omega), set_other h.s4 (by omega), ?_, set_other h.s6 (by omega), h.cll, by simpa [St.anew] using h.nwl, ?_, ?_⟩
  · obtain ⟨ws, hw⟩ := h.s5
    exact ⟨ws, set_other hw (by omega)⟩
  · intro i q hq
    have hq' : (S.nw.set tg (some (l.set c x)))[i]? = some (some q) := hq
    by_cases hi : tg = i
    · subst hi
      rw [List.getElem?_set, if_pos rfl, if_pos hgl] at hq'
      cases hq'
      refine ⟨a, N, ?_, ?_, hah.set (by omega) _⟩
      · rw [List.length_set]; exact hN
      · have e3 : (l.map intV).set c (intV x) = (l.set c x).map intV := by rw [List.map_set]
        rw [List.length_set, ← e3]
        exact set_self hs7
    · rw [List.getElem?_set, if_neg hi] at hq'
      obtain ⟨a2, N2, h1, h2, h3⟩ := h.news i q hq'
      exact ⟨a2, N2, h1, set_other h2 (by omega), h3.set (by omega) _⟩
  · intro i hi
    have hi' : (S.nw.set tg (some (l.set c x)))[i]? = some Option.none := hi
    by_cases hgi : tg = i
    · subst hgi
      rw [List.getElem?_set, if_pos rfl, if_pos hgl] at hi'
      cases hi'
    · rw [List.getElem?_set, if_neg hgi] at hi'
      obtain ⟨h1, h2⟩ := h.none i hi'
      exact ⟨h1, set_other h2 (by omega)⟩
/-- A row of one's own that is cut: both ends of it. -/
theorem own_ends {w : World} {base : Nat} {e : TypeId} {sz n k : Nat} {v : Value} {cs : List Value} (h : w.ownsRow base e sz v n cs) (hk : k ≤ n) : ∃ a c v2 a2 c2, v = .slice a n c ∧ k ≤ c ∧ v2 = .slice a2 k c2 ∧ v2 = sliced a 0 k c sz ∧ w.ownsRow base e sz v2 k (cs.take (k * sz)) ∧ v2.ownBlock = v.ownBlock := by
  rcases own_shape h with ⟨hv, hn⟩ | ⟨g, c, hv, hc, hm, _, _⟩
  · subst hn
    have hk0 : k = 0 := by omega
    subst hk0
    have hcs : cs = [] := List.eq_nil_of_length_eq_zero (by have := h.1; simpa using this)
    refine ⟨none, 0, .slice none 0 0, none, 0, hv, by omega, rfl, by simp [sliced], ?_, by rw [hv]⟩
    rw [hcs]
    simp
    exact World.ownsRow_nil _ _ _ _
  · refine ⟨some ⟨g, 0, none⟩, c, .slice (some ⟨g, 0, none⟩) k c, some ⟨g, 0, none⟩, c, hv, by omega, rfl, ?_, ?_, by rw [hv]; rfl⟩
    · simp [sliced, Addr.add]
    · rw [hv] at h
      exact own_take h hk
theorem Rn.cutK {E : Env} {w : World} {V : Vals} {ss : List Slot} {S : St} (h : Rn E w V ss S) {k : Nat} (hk : k ≤ S.kept.length) {v2 : Value} (ho : w.ownsRow E.w0.heap.size 129 3 v2 k ((flat sgCells S.kept).take (k * 3))) (hb : v2.ownBlock = V.kv.ownBlock) :
    ∃ ss', Rn E (w.setCell ⟨E.B, 5, Option.none⟩ v2) { V with kv := v2 } ss' (S.cutK k) := by
  have ho' : (⟨v2, 129, 3, k, (flat sgCells S.kept).take (k * 3)⟩ : Slot).At w E.w0.heap.size := ho
  have H1 := h.heap.turn h.s3 (fun _ _ _ => rfl) ho' (fun g hg => .inl (by rw [← hb]; exact hg))
  have z1 : (ss.set 3 ⟨v2, 129, 3, k, (flat sgCells S.kept).take (k * 3)⟩)[0]? = _ := set_other h.s0 (by omega)
  have H2 := H1.store z1 5 v2
  have L2 := below_set h.low (H1.lt z1).1 5 v2
  refine ⟨_, L2, h.prog, H2, set_self z1, set_other (set_other h.s1 (by omega)) (by omega), set_other (set_other h.s2 (by omega)) (by omega), ?_, set_other (set_other h.s4 (by omega)) (by omega), ?_, set_other (set_other h.s6 (by omega)) (by omega), h.cll, h.nwl, ?_, ?_⟩
  · have e1 : (flat sgCells S.kept).take (k * 3) = flat sgCells (S.cutK k).kept := flat_take sgCells_len S.kept k
    have e2 : k = (S.cutK k).kept.length := by show k = (S.kept.take k).length; rw [List.length_take]; omega
    have := set_other (b := (⟨.slice (some ⟨E.B, 0, Option.none⟩) 1 1, 65, 14, 1, (rnCells E V S).set 5 v2⟩ : Slot)) (set_self (b := (⟨v2, 129, 3, k, (flat sgCells S.kept).take (k * 3)⟩ : Slot)) h.s3) (i := 0) (by omega)
    rw [this, e1, ← e2]
  · obtain ⟨ws, hw⟩ := h.s5
    exact ⟨ws, set_other (set_other hw (by omega)) (by omega)⟩
  · intro i q hq
    obtain ⟨a2, N2, h1, h2, h3⟩ := h.news i q hq
    exact ⟨a2, N2, h1, set_other (set_other h2 (by omega)) (by omega), (h3.set (by omega) _).set (by omega) _⟩
  · intro i hi
    obtain ⟨h1, h2⟩ := h.none i hi
    exact ⟨h1, set_other (set_other h2 (by omega)) (by omega)⟩
theorem Rn.cutR {E : Env} {w : World} {V : Vals} {ss : List Slot} {S : St} (h : Rn E w V ss S) {k : Nat} (hk : k ≤ S.rows.length) {v2 : Value} (ho : w.ownsRow E.w0.heap.size 28 1 v2 k ((S.rows.map wordV).take (k * 1))) (hb : v2.ownBlock = V.rv.ownBlock) :
    ∃ ss', Rn E (w.setCell ⟨E.B, 6, Option.none⟩ v2) { V with rv := v2 } ss' (S.cutR k) := by
  have ho' : (⟨v2, 28, 1, k, (S.rows.map wordV).take (k * 1)⟩ : Slot).At w E.w0.heap.size := ho
  have H1 := h.heap.turn h.s4 (fun _ _ _ => rfl) ho' (fun g hg => .inl (by rw [← hb]; exact hg))
  have z1 : (ss.set 4 ⟨v2, 28, 1, k, (S.rows.map wordV).take (k * 1)⟩)[0]? = _ := set_other h.s0 (by omega)
  have H2 := H1.store z1 6 v2
  have L2 := below_set h.low (H1.lt z1).1 6 v2
  refine ⟨_, L2, h.prog, H2, set_self z1, set_other (set_other h.s1 (by omega)) (by omega), set_other (set_other h.s2 (by omega)) (by omega), set_other (set_other h.s3 (by omega)) (by omega), ?_, ?_, set_other (set_other h.s6 (by omega)) (by omega), h.cll, h.nwl, ?_, ?_⟩
  · have e1 : (S.rows.map wordV).take (k * 1) = (S.cutR k).rows.map wordV := by show _ = (S.rows.take k).map wordV; rw [Nat.mul_one, List.map_take]
    have e2 : k = (S.cutR k).rows.length := by show k = (S.rows.take k).length; rw [List.length_take]; omega
    have := set_other (b := (⟨.slice (some ⟨E.B, 0, Option.none⟩) 1 1, 65, 14, 1, (rnCells E V S).set 6 v2⟩ : Slot)) (set_self (b := (⟨v2, 28, 1, k, (S.rows.map wordV).take (k * 1)⟩ : Slot)) h.s4) (i := 0) (by omega)
    rw [this, e1, ← e2]
  · obtain ⟨ws, hw⟩ := h.s5
    exact ⟨ws, set_other (set_other hw (by omega)) (by omega)⟩
  · intro i q hq
    obtain ⟨a2, N2, h1, h2, h3⟩ := h.news i q hq
    exact ⟨a2, N2, h1, set_other (set_other h2 (by omega)) (by omega), (h3.set (by omega) _).set (by omega) _⟩
  · intro i hi
    obtain ⟨h1, h2⟩ := h.none i hi
    exact ⟨h1, set_other (set_other h2 (by omega)) (by omega)⟩
end Go.Proofs.YtknbgpgefeahlaaGreatDoor
/- What a call has set is given up: the walk. -/
namespace Go.Proofs.YtknbgpgefeahlaaGreatDoor
open Go.RowKit

set_option maxRecDepth 100000 in
set_option maxHeartbeats 2000000 in
theorem forget_walk {B C N cb m n k r tg pl ll ct : Nat} {af at' a2 a3 : Option Addr} {kc rc c2 c3 nr : Nat} {w : World} {R : Nat → World → Prop} {Q : World → Prop}
    (b3 : w.cell? ⟨B, 3, none⟩ = some (.slice (some ⟨C, 0, none⟩) pl pl)) (b5 : w.cell? ⟨B, 5, none⟩ = some (.slice af n kc)) (t0 : w.cell? ⟨cb, m * 5, none⟩ = some (.int .i64 (tg : Int))) (t3 : w.cell? ⟨cb, m * 5 + 3, none⟩ = some (.int .i64 (k : Int)))
    (hgl : (tg : Int) < pl) (k1 : w.cell? ⟨C, tg * 2 + 1, none⟩ = some (.slice (some ⟨N, 0, none⟩) ll ll))
    (HNW : Hid (∀ W j, W = w.drewN j → Calls Tryz.prog 25 #[ptr B] W fun e w' => e = .returned (.pointer (some ⟨cb, m * 5, none⟩)) ∧ ∃ j, w' = W.drewN j))
    (hs1 : ∀ W, (Instr.slice 63 (.slice af n kc) (some (.int .i64 (k : Int))) none none).run Tryz.prog W = .ok (.slice at' (n - k) ct) W)
    (HR0 : Hid (∀ j, R 0 (w.drewN j)))
    (HRS : Hid (∀ i wq, i < n - k → R i wq → ∃ (kb o d old : Nat) (x q : Int), at' = some ⟨kb, o, none⟩ ∧ kb < wq.heap.size ∧ N < wq.heap.size ∧ wq.cell? ⟨kb, o + i * 3, none⟩ = some (.int .i64 (d : Int)) ∧ wq.cell? ⟨kb, o + i * 3 + 1, none⟩ = some (.int .i64 (old : Int)) ∧ wq.cell? ⟨kb, o + i * 3 + 2, none⟩ = some (.int .u64 x) ∧ (d : Int) < ll ∧ wq.cell? ⟨N, d, none⟩ = some (.int .i64 q) ∧ wq.frozen? ⟨N, d, none⟩ = false ∧ R (i + 1) ((wq.setCell ⟨N, d, none⟩ (.int .i64 (old : Int))).alloc (.cells #[.int .i64 (d : Int), .int .i64 (old : Int), .int .u64 x] 129))))
    (hnb : Hid (n - k ≤ 1000000000))
    (HE : Hid (∀ wq, R (n - k) wq → wq.cell? ⟨B, 5, none⟩ = some (.slice af n kc) ∧ wq.cell? ⟨B, 6, none⟩ = some (.slice a3 nr rc) ∧ wq.frozen? ⟨B, 5, none⟩ = false ∧ wq.frozen? ⟨B, 6, none⟩ = false ∧ wq.cell? ⟨cb, m * 5 + 3, none⟩ = some (.int .i64 (k : Int)) ∧ wq.cell? ⟨cb, m * 5 + 4, none⟩ = some (.int .i64 (r : Int)) ∧ ∀ j, Q (((wq.drewN j).setCell ⟨B, 5, none⟩ (.slice a2 k c2)).setCell ⟨B, 6, none⟩ (.slice a3 r c3)) ∧ Q (((wq.drewN j).setCell ⟨B, 6, none⟩ (.slice a3 r c3)).setCell ⟨B, 5, none⟩ (.slice a2 k c2))))
    (hs2 : ∀ W, (Instr.slice 63 (.slice af n kc) none (some (.int .i64 (k : Int))) none).run Tryz.prog W = .ok (.slice a2 k c2) W)
    (hs3 : ∀ W, (Instr.slice 23 (.slice a3 nr rc) none (some (.int .i64 (r : Int))) none).run Tryz.prog W = .ok (.slice a3 r c3) W) :
    Calls Tryz.prog 77 #[ptr B] w fun e w' => e = .returned (.tuple #[]) ∧ Q w' := by
  obtain ⟨nk, hnk⟩ : ∃ nk, nk = n - k := ⟨_, rfl⟩
  rw [← hnk] at hs1 HRS hnb HE
  clear hnk
  go_enter Tryz.func77, Tryz.ntmps77
  go_wp2_with (go_at_call 25; refine Calls.mono (HNW.out _ 0 rfl) ?_; rintro e w1 ⟨rfl, kq, rfl⟩)
  go_quiet (fail)
  go_wp2
  go_quiet (fail)
  go_wp2
  have hnb1 : (nk : Int) ≤ 1000000000 := by have := hnb.out; omega
  go_loopw [29] (fun vi wq => ∃ i : Nat, vi = .int .i64 i ∧ i ≤ nk ∧ Hid (R i wq)) (fun vi _ => nk - (intOf vi).toNat)
  case atStart => exact ⟨0, rfl, by omega, by rw [World.drewN_drewN, World.drewN_drewN]; exact HR0.out _⟩
  case round =>
    obtain ⟨i, rfl, hi, hr⟩ := hrel
    clear HR0 b3 b5 t0 t3 k1 hgl
    by_cases hin : i < nk
    · obtain ⟨kb, o, d, old, x, q, rfl, hkb, hNb, d0, d1, d2, hd, dn, fn, hr1⟩ := HRS.out i wr hin hr.out
      have hin' : (i : Int) < nk := by omega
      have HR1 : Hid _ := hr1
      clear hr1 HRS HE
      go_wp2
      go_roundw
      case rel => exact ⟨i + 1, by first | rfl | (congr 1; omega), by omega, HR1.out⟩
      case measure => simp [intOf]; omega
    · obtain rfl : i = nk := by omega
      obtain ⟨e5, e6, f5, f6, g3, g4, hq⟩ := HE.out wr hr.out
      have HQ : Hid _ := hq
      clear hq HE HRS
      go_wp2
      go_region
      all_goals (try go_wp2)
      all_goals go_end0
      all_goals first | exact ⟨rfl, (HQ.out _).1⟩ | exact ⟨rfl, (HQ.out _).2⟩
end Go.Proofs.YtknbgpgefeahlaaGreatDoor
/- What a call has set is given up. -/
namespace Go.Proofs.YtknbgpgefeahlaaGreatDoor
open Go.RowKit

theorem sizeSg : ∀ W : World, (sizeOf (Tryz.prog.elem 63)).run Tryz.prog W = .ok 3 W := fun W => by kernel_rfl
theorem undSg : Tryz.prog.underlying 63 = some (.slice (Tryz.prog.elem 63)) := by kernel_rfl
theorem sizeW : ∀ W : World, (sizeOf (Tryz.prog.elem 23)).run Tryz.prog W = .ok 1 W := fun W => by kernel_rfl
theorem undW : Tryz.prog.underlying 23 = some (.slice (Tryz.prog.elem 23)) := by kernel_rfl
theorem St.anew_row {S : St} {g : Nat} {l l' : List Int} (hg : S.nw[g]? = some (some l)) : (S.anew g l').nw[g]? = some (some l') := by
  have hgl : g < S.nw.length := (List.getElem?_eq_some_iff.1 hg).1
  show (S.nw.set g (some l'))[g]? = _
  rw [List.getElem?_set, if_pos rfl, if_pos hgl]
theorem St.anew_anew {S : St} {g : Nat} {l l' : List Int} : (S.anew g l).anew g l' = S.anew g l' := by
  unfold St.anew
  simp
theorem St.anew_self {S : St} {g : Nat} {l : List Int} (hg : S.nw[g]? = some (some l)) : S.anew g l = S := by
  unfold St.anew
  have : S.nw.set g (some l) = S.nw := by
    apply List.ext_getElem?
    intro i
    rw [List.getElem?_set]
    split
    · rename_i e; subst e
      rw [if_pos (List.getElem?_eq_some_iff.1 hg).1, hg]
    · rfl
  rw [this]
theorem forget_any {E : Env} {w : World} {V : Vals} {ss : List Slot} {S : St} (h : Rn E w V ss S) {m : Nat} {l : List Int} (ha : Asks E S m l) (hk : S.top.k ≤ S.kept.length) (hr : S.top.r ≤ S.rows.length) (hkl : S.kept.length ≤ 1000000000) (hc : ∀ s ∈ S.kept.drop S.top.k, s.cell < l.length) :
    Calls Tryz.prog 77 #[ptr E.B] w fun e w' => e = .returned (.tuple #[]) ∧ ∃ kv' rv' ss', Rn E w' { V with kv := kv', rv := rv' } ss' S.forget := by
  obtain ⟨b0, b1, b2, b3, b4, b5, b6, b7, b8, b9, b10, b11, b12, b13⟩ := h.box
  obtain ⟨cb, cc, hcv, hcap1, hcap2, hcb, t0, t1, t2, t3, t4⟩ := h.last ha.hm
  obtain ⟨a, N, hgl, hcl, k0, k1, kc, kf, hs7, _⟩ := h.new ha.hg
  obtain ⟨af, kcap, kv2, a2, c2, hkv, hkc, hkv2, hsl2, hok, hbk⟩ := own_ends (h.heap.own 3 _ h.s3) hk
  obtain ⟨a3, rcap, rv2, a3', c3, hrv, hrc, hrv2, hsl3, hor, hbr⟩ := own_ends (h.heap.own 4 _ h.s4) hr
  dsimp only at hkv hrv hok hor hbk hbr hsl2 hsl3
  rw [hcv] at b4
  have ea3 : a3' = a3 := by
    rw [hrv2] at hsl3
    unfold sliced at hsl3
    injection hsl3 with e1 _ _
    rw [e1]
    split
    · rfl
    · cases a3 <;> simp [Addr.add]
  subst ea3
  obtain ⟨at', ct, hfrom⟩ : ∃ at' ct, sliced af S.top.k S.kept.length kcap 3 = .slice at' (S.kept.length - S.top.k) ct := ⟨_, _, rfl⟩
  refine forget_walk (B := E.B) (C := E.C) (N := N) (cb := cb) (m := m) (n := S.kept.length) (k := S.top.k) (r := S.top.r) (tg := S.top.g) (pl := E.P.length) (ll := l.length) (ct := ct) (af := af) (at' := at') (a2 := a2) (a3 := a3') (kc := kcap) (rc := rcap) (c2 := c2) (c3 := c3) (nr := S.rows.length)
    (R := fun i wq => ∃ ssq, Rn E wq V ssq (S.anew S.top.g (unset l ((S.kept.drop S.top.k).take i)))) b3 (by rw [← hkv]; exact b5) t0 t3 (by omega) k1 (fun W j hW => now_at E.B cb m cc W (by rw [hW]; exact b4) ha.hmb) (fun W => ?_) (fun j => ?_) (fun i wq hi hq => ?_) (by show _ ≤ _; omega) (fun wq hq => ?_) (fun W => ?_) (fun W => ?_)
  · rw [run_slice_l W 63 _ _ _ undSg .i64 _ (by omega) (by omega), sizeSg]
    simp only [Result.andThen, Int.toNat_natCast]
    rw [hfrom]
  · refine ⟨ss, ?_⟩
    have e : S.anew S.top.g (unset l ((S.kept.drop S.top.k).take 0)) = S := by rw [List.take_zero]; exact St.anew_self ha.hg
    rw [e]
    exact h.drewN j
  · obtain ⟨ssq, hr1⟩ := hq
    have hlt : S.top.k + i < S.kept.length := by omega
    have hdl : (S.kept.drop S.top.k).length = S.kept.length - S.top.k := by rw [List.length_drop]
    obtain ⟨kb, kc', hkv', hkc', _, hkb, s0, s1, s2, _⟩ := hr1.setting (i := S.top.k + i) hlt
    have hsg : (S.anew S.top.g (unset l ((S.kept.drop S.top.k).take i))).kept = S.kept := rfl
    rw [hsg] at hkv' hkc' s0 s1 s2
    have hmem : S.kept.getD (S.top.k + i) default ∈ S.kept.drop S.top.k := by
      rw [List.getD, List.getElem?_eq_getElem hlt, Option.getD_some, List.mem_iff_getElem]
      exact ⟨i, by omega, by rw [List.getElem_drop]⟩
    have hcell := hc _ hmem
    have hge : (S.kept.drop S.top.k).getD i default = S.kept.getD (S.top.k + i) default := by rw [List.getD, List.getD, List.getElem?_drop]
    have hg1 := St.anew_row (l' := unset l ((S.kept.drop S.top.k).take i)) ha.hg
    have hul : (unset l ((S.kept.drop S.top.k).take i)).length = l.length := unset_len _ _
    obtain ⟨a', N', hgl', hcl', _, _, kc2, kf2, hs72, _⟩ := hr1.new hg1
    rw [hul] at hcl' kc2
    rw [hcl] at hcl'
    cases hcl'
    have eat : at' = some ⟨kb, S.top.k * 3, none⟩ := by
      rw [hkv] at hkv'
      injection hkv' with e1 _ e3
      unfold sliced at hfrom
      injection hfrom with e4 _ _
      rw [← e4, e1, if_neg (by omega), Option.map_some, Addr.add_lit, Nat.zero_add]
    refine ⟨kb, S.top.k * 3, (S.kept.getD (S.top.k + i) default).cell, (S.kept.getD (S.top.k + i) default).old, (S.kept.getD (S.top.k + i) default).word, _, eat, hkb, (hr1.heap.lt hs72).2, ?_, ?_, ?_, by omega, kc2 _ hcell, kf2 _, ?_⟩
    · rw [← Nat.add_mul]; exact s0
    · rw [← Nat.add_mul]; exact s1
    · rw [← Nat.add_mul]; exact s2
    · obtain ⟨ss2, hr2⟩ := hr1.anew (c := (S.kept.getD (S.top.k + i) default).cell) hg1 (by rw [hul]; exact hcl) ((S.kept.getD (S.top.k + i) default).old : Int)
      rw [St.anew_anew, ← hge, ← unset_take l (S.kept.drop S.top.k) i (by omega), hge] at hr2
      exact ⟨ss2, hr2.alloc _⟩
  · obtain ⟨ssq, hr1⟩ := hq
    rw [List.take_of_length_le (by rw [List.length_drop]; omega)] at hr1
    obtain ⟨q0, q1, q2, q3, q4, q5, q6, q7, q8, q9, q10, q11, q12, q13⟩ := hr1.box
    obtain ⟨cb', cc', hcv', _, _, _, u0, u1, u2, u3, u4⟩ := hr1.last (m := m) ha.hm
    rw [hcv] at hcv'
    cases hcv'
    refine ⟨by rw [← hkv]; exact q5, by rw [← hrv]; exact q6, hr1.fz 5, hr1.fz 6, u3, u4, fun j => ?_⟩
    have own3 : ∀ (W : World) (V' : Vals) (ssW : List Slot) (S' : St), Rn E W V' ssW S' → V'.kv = V.kv → S'.kept = S.kept → W.ownsRow E.w0.heap.size 129 3 (.slice a2 S.top.k c2) S.top.k ((flat sgCells S'.kept).take (S.top.k * 3)) := fun W V' ssW S' hR hv hkk => by
      have h3 := hR.heap.own 3 _ hR.s3
      obtain ⟨x1, x2, x3, x4, x5, y1, _, y3, y4, y5, _⟩ := own_ends h3 (k := S.top.k) (by show _ ≤ S'.kept.length; rw [hkk]; exact hk)
      dsimp only at y1 y4 y5
      rw [hv, hkv, hkk] at y1
      injection y1 with z1 _ z3
      subst z1
      subst z3
      rw [y4, ← hsl2, hkv2] at y5
      exact y5
    have own4 : ∀ (W : World) (V' : Vals) (ssW : List Slot) (S' : St), Rn E W V' ssW S' → V'.rv = V.rv → S'.rows = S.rows → W.ownsRow E.w0.heap.size 28 1 (.slice a3' S.top.r c3) S.top.r ((S'.rows.map wordV).take (S.top.r * 1)) := fun W V' ssW S' hR hv hkk => by
      have h3 := hR.heap.own 4 _ hR.s4
      obtain ⟨x1, x2, x3, x4, x5, y1, _, y3, y4, y5, _⟩ := own_ends h3 (k := S.top.r) (by show _ ≤ S'.rows.length; rw [hkk]; exact hr)
      dsimp only at y1 y4 y5
      rw [hv, hrv, hkk] at y1
      injection y1 with z1 _ z3
      subst z1
      subst z3
      rw [y4, ← hsl3, hrv2] at y5
      exact y5
    have eF : S.forget = ((S.anew S.top.g (unset l (S.kept.drop S.top.k))).cutK S.top.k).cutR S.top.r := by unfold St.forget; rw [row_eq ha.hg]
    rw [hkv2] at hbk
    rw [hrv2] at hbr
    rw [eF]
    constructor
    · obtain ⟨s1, r1⟩ := (hr1.drewN j).cutK (k := S.top.k) hk (own3 _ _ _ _ (hr1.drewN j) rfl rfl) hbk
      obtain ⟨s2, r2⟩ := r1.cutR (k := S.top.r) hr (own4 _ _ _ _ r1 rfl rfl) hbr
      exact ⟨_, _, s2, r2⟩
    · obtain ⟨s1, r1⟩ := (hr1.drewN j).cutR (k := S.top.r) hr (own4 _ _ _ _ (hr1.drewN j) rfl rfl) hbr
      obtain ⟨s2, r2⟩ := r1.cutK (k := S.top.k) hk (own3 _ _ _ _ r1 rfl rfl) hbk
      exact ⟨_, _, s2, r2⟩
  · rw [run_slice_h W 63 _ _ _ undSg .i64 _ (by omega) (by omega), sizeSg]
    simp only [Result.andThen, Int.toNat_natCast]
    rw [← hsl2, hkv2]
  · rw [run_slice_h W 23 _ _ _ undW .i64 _ (by omega) (by omega), sizeW]
    simp only [Result.andThen, Int.toNat_natCast]
    rw [← hsl3, hrv2]
end Go.Proofs.YtknbgpgefeahlaaGreatDoor
/- A call tells its word: the walks. -/
namespace Go.Proofs.YtknbgpgefeahlaaGreatDoor
open Go.RowKit

set_option maxRecDepth 100000 in
set_option maxHeartbeats 1000000 in
theorem tell_end_walk {B cc c2 : Nat} {ca a2 : Option Addr} {x y : Int} {w : World} {Q1 Q : World → Prop}
    (HF : Hid (∀ W k, W = w.drewN k → Calls Tryz.prog 77 #[ptr B] W fun e w' => e = .returned (.tuple #[]) ∧ Q1 w'))
    (hs : ∀ W, (Instr.slice 62 (.slice ca 1 cc) none (some (.int .i64 0)) none).run Tryz.prog W = .ok (.slice a2 0 c2) W)
    (H1 : Hid (∀ w1, Q1 w1 → w1.cell? ⟨B, 4, none⟩ = some (.slice ca 1 cc) ∧ w1.frozen? ⟨B, 4, none⟩ = false ∧ w1.cell? ⟨B, 10, none⟩ = some (.int .u64 y) ∧ w1.frozen? ⟨B, 10, none⟩ = false ∧ ∀ j, Calls Tryz.prog 40 #[ptr B, .int .u8 1] (((w1.drewN j).setCell ⟨B, 4, none⟩ (.slice a2 0 c2)).setCell ⟨B, 10, none⟩ (.int .u64 x)) fun e w' => e = .returned (.bool false) ∧ Q w')) :
    Calls Tryz.prog 52 #[ptr B, .int .u64 x] w fun e w' => e = .returned (.bool false) ∧ Q w' := by
  go_enter Tryz.func52, Tryz.ntmps52
  go_wp2_with (go_at_call 77; refine Calls.mono (HF.out _ 0 rfl) ?_; rintro e w1 ⟨rfl, hq⟩; obtain ⟨d4, f4, d10, f10, hst0⟩ := H1.out w1 hq; have HS : Hid _ := hst0; clear hst0)
  go_region
  all_goals (
    go_wp2_with (go_at_call 40; refine Calls.mono (HS.out 1) ?_; rintro e w2 ⟨rfl, hq2⟩)
    go_ret
    exact ⟨rfl, hq2⟩)
set_option maxRecDepth 100000 in
set_option maxHeartbeats 2000000 in
theorem tell_on_walk {B cb m cc c2 d tg tb nx pg po n qc bg bo bn bc ig io il ic : Nat} {ca a2 : Option Addr} {x : Int} {w : World} {Q1 Q2 Q : World → Prop}
    (HF : Hid (∀ W k, W = w.drewN k → Calls Tryz.prog 77 #[ptr B] W fun e w' => e = .returned (.tuple #[]) ∧ Q1 w'))
    (hs : ∀ W, (Instr.slice 62 (.slice ca (m + 1 + 1) cc) none (some (.int .i64 ((m : Int) + 1))) none).run Tryz.prog W = .ok (.slice a2 (m + 1) c2) W)
    (H1 : Hid (∀ w1, Q1 w1 → w1.cell? ⟨B, 4, none⟩ = some (.slice ca (m + 1 + 1) cc) ∧ w1.frozen? ⟨B, 4, none⟩ = false ∧ ∀ j, Q2 ((w1.setCell ⟨B, 4, none⟩ (.slice a2 (m + 1) c2)).drewN j)))
    (hmb : (m : Int) + 1 + 1 ≤ 140737488355328)
    (H2 : Hid (∀ w2, Q2 w2 → (∀ W k, W = w2.drewN k → Calls Tryz.prog 25 #[ptr B] W fun e w' => e = .returned (.pointer (some ⟨cb, m * 5, none⟩)) ∧ ∃ k, w' = W.drewN k) ∧ w2.cell? ⟨B, 4, none⟩ = some (.slice a2 (m + 1) c2) ∧ w2.cell? ⟨B, 0, none⟩ = some (.slice (some ⟨pg, po, none⟩) n qc) ∧ w2.cell? ⟨cb, m * 5, none⟩ = some (.int .i64 (tg : Int)) ∧ w2.cell? ⟨cb, m * 5 + 1, none⟩ = some (.int .i64 (tb : Int)) ∧ w2.cell? ⟨cb, m * 5 + 2, none⟩ = some (.int .i64 ((nx : Int) + 1)) ∧
      w2.cell? ⟨pg, po + tg * 6 + 5, none⟩ = some (.slice (some ⟨bg, bo, none⟩) bn bc) ∧ w2.cell? ⟨bg, bo + tb * 6, none⟩ = some (.slice (some ⟨ig, io, none⟩) il ic) ∧ w2.cell? ⟨ig, io + nx * 6 + 2, none⟩ = some (.int .i64 (d : Int)) ∧
      ∀ W k, W = w2.drewN k → Calls Tryz.prog 42 #[ptr B, .int .i64 (d : Int), .int .u64 x] W fun e w' => e = .returned (.tuple #[]) ∧ Q w'))
    (htg : (tg : Int) < n) (htb : (tb : Int) < bn) (hnx : (nx : Int) < il) (hnb : (nx : Int) ≤ 140737488355328) :
    Calls Tryz.prog 52 #[ptr B, .int .u64 x] w fun e w' => e = .returned (.bool true) ∧ Q w' := by
  have hmz : ((m : Int) + 1 == 0) = false := by simpa using (by omega : ¬ ((m : Int) + 1 = 0))
  go_enter Tryz.func52, Tryz.ntmps52
  go_wp2_with (go_at_call 77; refine Calls.mono (HF.out _ 0 rfl) ?_; rintro e w1 ⟨rfl, hq⟩; obtain ⟨d4, f4, hst0⟩ := H1.out w1 hq; have HS : Hid _ := hst0; clear hst0)
  go_region
  go_wp2_with (go_at_call 25; go_loud (have hq2 : Q2 ((w1.setCell ⟨B, 4, none⟩ (.slice a2 (m + 1) c2)).drew) := HS.out 1; generalize (w1.setCell ⟨B, 4, none⟩ (.slice a2 (m + 1) c2)).drew = w2 at *; obtain ⟨hnw0, g4, g0, t0, t1, t2, p5, q0, i2, hset0⟩ := H2.out w2 hq2; have HN : Hid _ := hnw0; have HT : Hid _ := hset0; clear hnw0 hset0 hq2 HS H1 H2 hq d4 f4; refine Calls.mono (HN.out _ 0 rfl) ?_; rintro e w3 ⟨rfl, kq, rfl⟩))
  refine wp_region_last 28 _ rfl rfl (by kernel_rfl) (by kernel_rfl) (by kernel_rfl) (by kernel_rfl) (by kernel_rfl) (by kernel_rfl) ?_
  simp only [List.take_succ_cons, List.take_zero]
  repeat (go_big_quiet_step (fail))
  refine wpQuiet_nil ?_
  intro _ hw'
  obtain ⟨nq, hw''⟩ := hw'
  subst hw''
  intro K hK
  go_simp
  refine Calls.mono (HT.out _ _ rfl) ?_
  rintro e w4 ⟨rfl, hq4⟩
  refine hK _ _ ?_
  clear hK K
  go_wp2
  go_ret
  exact ⟨rfl, hq4⟩
end Go.Proofs.YtknbgpgefeahlaaGreatDoor
