/- What a call has set is given up. -/
import Derived.Test.YtdgpdmohfnealaaGreatDoorUForg2M
import Derived.Test.YtdgpdmohfnealaaGreatDoorUOrdM
namespace Go.Proofs.YtdgpdmohfnealaaGreatDoor
open Go.RowKit

theorem sizeSg : ∀ W : World, (sizeOf (Tryz.prog.elem 62)).run Tryz.prog W = .ok 3 W := fun W => by kernel_rfl
theorem undSg : Tryz.prog.underlying 62 = some (.slice (Tryz.prog.elem 62)) := by kernel_rfl
theorem sizeW : ∀ W : World, (sizeOf (Tryz.prog.elem 33)).run Tryz.prog W = .ok 1 W := fun W => by kernel_rfl
theorem undW : Tryz.prog.underlying 33 = some (.slice (Tryz.prog.elem 33)) := by kernel_rfl
theorem St.anew_row {S : St} {g : Nat} {l l' : List Int} (hg : S.nw[g]? = some (some l)) : (S.anew g l').nw[g]? = some (some l') := by
  have hgl : g < S.nw.length := (List.getElem?_eq_some_iff.1 hg).1
  show (S.nw.set g (some l'))[g]? = _
  rw [List.getElem?_set, if_pos rfl, if_pos hgl]
theorem St.anew_anew {S : St} {g : Nat} {l l' : List Int} : (S.anew g l).anew g l' = S.anew g l' := by
  unfold St.anew
  simp
theorem St.anew_self {S : St} {g : Nat} {l : List Int} (hg : S.nw[g]? = some (some l)) : S.anew g l = S := by
  unfold St.anew
  have : S.nw.set g (some l) = S.nw := by
    apply List.ext_getElem?
    intro i
    rw [List.getElem?_set]
    split
    · rename_i e; subst e
      rw [if_pos (List.getElem?_eq_some_iff.1 hg).1, hg]
    · rfl
  rw [this]
theorem forget_any {E : Env} {w : World} {V : Vals} {ss : List Slot} {S : St} (h : Rn E w V ss S) {m : Nat} {l : List Int} (ha : Asks E S m l) (hk : S.top.k ≤ S.kept.length) (hr : S.top.r ≤ S.rows.length) (hkl : S.kept.length ≤ 1000000000) (hc : ∀ s ∈ S.kept.drop S.top.k, s.cell < l.length) :
    Calls Tryz.prog 60 #[ptr E.B] w fun e w' => e = .returned (.tuple #[]) ∧ ∃ kv' rv' ss', Rn E w' { V with kv := kv', rv := rv' } ss' S.forget := by
  obtain ⟨b0, b1, b2, b3, b4, b5, b6, b7, b8, b9, b10, b11, b12, b13⟩ := h.box
  obtain ⟨cb, cc, hcv, hcap1, hcap2, hcb, t0, t1, t2, t3, t4⟩ := h.last ha.hm
  obtain ⟨a, N, hgl, hcl, k0, k1, kc, kf, hs7, _⟩ := h.new ha.hg
  obtain ⟨af, kcap, kv2, a2, c2, hkv, hkc, hkv2, hsl2, hok, hbk⟩ := own_ends (h.heap.own 3 _ h.s3) hk
  obtain ⟨a3, rcap, rv2, a3', c3, hrv, hrc, hrv2, hsl3, hor, hbr⟩ := own_ends (h.heap.own 4 _ h.s4) hr
  dsimp only at hkv hrv hok hor hbk hbr hsl2 hsl3
  rw [hcv] at b4
  have ea3 : a3' = a3 := by
    rw [hrv2] at hsl3
    unfold sliced at hsl3
    injection hsl3 with e1 _ _
    rw [e1]
    split
    · rfl
    · cases a3 <;> simp [Addr.add]
  subst ea3
  obtain ⟨at', ct, hfrom⟩ : ∃ at' ct, sliced af S.top.k S.kept.length kcap 3 = .slice at' (S.kept.length - S.top.k) ct := ⟨_, _, rfl⟩
  refine forget_walk (B := E.B) (C := E.C) (N := N) (cb := cb) (m := m) (n := S.kept.length) (k := S.top.k) (r := S.top.r) (tg := S.top.g) (pl := E.P.length) (ll := l.length) (ct := ct) (af := af) (at' := at') (a2 := a2) (a3 := a3') (kc := kcap) (rc := rcap) (c2 := c2) (c3 := c3) (nr := S.rows.length)
    (R := fun i wq => ∃ ssq, Rn E wq V ssq (S.anew S.top.g (unset l ((S.kept.drop S.top.k).take i)))) b3 (by rw [← hkv]; exact b5) t0 t3 (by omega) k1 (fun W j hW => now_at E.B cb m cc W (by rw [hW]; exact b4) ha.hmb) (fun W => ?_) (fun j => ?_) (fun i wq hi hq => ?_) (by show _ ≤ _; omega) (fun wq hq => ?_) (fun W => ?_) (fun W => ?_)
  · rw [run_slice_l W 62 _ _ _ undSg .i64 _ (by omega) (by omega), sizeSg]
    simp only [Result.andThen, Int.toNat_natCast]
    rw [hfrom]
  · refine ⟨ss, ?_⟩
    have e : S.anew S.top.g (unset l ((S.kept.drop S.top.k).take 0)) = S := by rw [List.take_zero]; exact St.anew_self ha.hg
    rw [e]
    exact h.drewN j
  · obtain ⟨ssq, hr1⟩ := hq
    have hlt : S.top.k + i < S.kept.length := by omega
    have hdl : (S.kept.drop S.top.k).length = S.kept.length - S.top.k := by rw [List.length_drop]
    obtain ⟨kb, kc', hkv', hkc', _, hkb, s0, s1, s2, _⟩ := hr1.setting (i := S.top.k + i) hlt
    have hsg : (S.anew S.top.g (unset l ((S.kept.drop S.top.k).take i))).kept = S.kept := rfl
    rw [hsg] at hkv' hkc' s0 s1 s2
    have hmem : S.kept.getD (S.top.k + i) default ∈ S.kept.drop S.top.k := by
      rw [List.getD, List.getElem?_eq_getElem hlt, Option.getD_some, List.mem_iff_getElem]
      exact ⟨i, by omega, by rw [List.getElem_drop]⟩
    have hcell := hc _ hmem
    have hge : (S.kept.drop S.top.k).getD i default = S.kept.getD (S.top.k + i) default := by rw [List.getD, List.getD, List.getElem?_drop]
    have hg1 := St.anew_row (l' := unset l ((S.kept.drop S.top.k).take i)) ha.hg
    have hul : (unset l ((S.kept.drop S.top.k).take i)).length = l.length := unset_len _ _
    obtain ⟨a', N', hgl', hcl', _, _, kc2, kf2, hs72, _⟩ := hr1.new hg1
    rw [hul] at hcl' kc2
    rw [hcl] at hcl'
    cases hcl'
    have eat : at' = some ⟨kb, S.top.k * 3, none⟩ := by
      rw [hkv] at hkv'
      injection hkv' with e1 _ e3
      unfold sliced at hfrom
      injection hfrom with e4 _ _
      rw [← e4, e1, if_neg (by omega), Option.map_some, Addr.add_lit, Nat.zero_add]
    refine ⟨kb, S.top.k * 3, (S.kept.getD (S.top.k + i) default).cell, (S.kept.getD (S.top.k + i) default).old, (S.kept.getD (S.top.k + i) default).word, _, eat, hkb, (hr1.heap.lt hs72).2, ?_, ?_, ?_, by omega, kc2 _ hcell, kf2 _, ?_⟩
    · rw [← Nat.add_mul]; exact s0
    · rw [← Nat.add_mul]; exact s1
    · rw [← Nat.add_mul]; exact s2
    · obtain ⟨ss2, hr2⟩ := hr1.anew (c := (S.kept.getD (S.top.k + i) default).cell) hg1 (by rw [hul]; exact hcl) ((S.kept.getD (S.top.k + i) default).old : Int)
      rw [St.anew_anew, ← hge, ← unset_take l (S.kept.drop S.top.k) i (by omega), hge] at hr2
      exact ⟨ss2, hr2.alloc _⟩
  · obtain ⟨ssq, hr1⟩ := hq
    rw [List.take_of_length_le (by rw [List.length_drop]; omega)] at hr1
    obtain ⟨q0, q1, q2, q3, q4, q5, q6, q7, q8, q9, q10, q11, q12, q13⟩ := hr1.box
    obtain ⟨cb', cc', hcv', _, _, _, u0, u1, u2, u3, u4⟩ := hr1.last (m := m) ha.hm
    rw [hcv] at hcv'
    cases hcv'
    refine ⟨by rw [← hkv]; exact q5, by rw [← hrv]; exact q6, hr1.fz 5, hr1.fz 6, u3, u4, fun j => ?_⟩
    have own3 : ∀ (W : World) (V' : Vals) (ssW : List Slot) (S' : St), Rn E W V' ssW S' → V'.kv = V.kv → S'.kept = S.kept → W.ownsRow E.w0.heap.size 113 3 (.slice a2 S.top.k c2) S.top.k ((flat sgCells S'.kept).take (S.top.k * 3)) := fun W V' ssW S' hR hv hkk => by
      have h3 := hR.heap.own 3 _ hR.s3
      obtain ⟨x1, x2, x3, x4, x5, y1, _, y3, y4, y5, _⟩ := own_ends h3 (k := S.top.k) (by show _ ≤ S'.kept.length; rw [hkk]; exact hk)
      dsimp only at y1 y4 y5
      rw [hv, hkv, hkk] at y1
      injection y1 with z1 _ z3
      subst z1
      subst z3
      rw [y4, ← hsl2, hkv2] at y5
      exact y5
    have own4 : ∀ (W : World) (V' : Vals) (ssW : List Slot) (S' : St), Rn E W V' ssW S' → V'.rv = V.rv → S'.rows = S.rows → W.ownsRow E.w0.heap.size 24 1 (.slice a3' S.top.r c3) S.top.r ((S'.rows.map wordV).take (S.top.r * 1)) := fun W V' ssW S' hR hv hkk => by
      have h3 := hR.heap.own 4 _ hR.s4
      obtain ⟨x1, x2, x3, x4, x5, y1, _, y3, y4, y5, _⟩ := own_ends h3 (k := S.top.r) (by show _ ≤ S'.rows.length; rw [hkk]; exact hr)
      dsimp only at y1 y4 y5
      rw [hv, hrv, hkk] at y1
      injection y1 with z1 _ z3
      subst z1
      subst z3
      rw [y4, ← hsl3, hrv2] at y5
      exact y5
    have eF : S.forget = ((S.anew S.top.g (unset l (S.kept.drop S.top.k))).cutK S.top.k).cutR S.top.r := by unfold St.forget; rw [row_eq ha.hg]
    rw [hkv2] at hbk
    rw [hrv2] at hbr
    rw [eF]
    constructor
    · obtain ⟨s1, r1⟩ := (hr1.drewN j).cutK (k := S.top.k) hk (own3 _ _ _ _ (hr1.drewN j) rfl rfl) hbk
      obtain ⟨s2, r2⟩ := r1.cutR (k := S.top.r) hr (own4 _ _ _ _ r1 rfl rfl) hbr
      exact ⟨_, _, s2, r2⟩
    · obtain ⟨s1, r1⟩ := (hr1.drewN j).cutR (k := S.top.r) hr (own4 _ _ _ _ (hr1.drewN j) rfl rfl) hbr
      obtain ⟨s2, r2⟩ := r1.cutK (k := S.top.k) hk (own3 _ _ _ _ r1 rfl rfl) hbk
      exact ⟨_, _, s2, r2⟩
  · rw [run_slice_h W 62 _ _ _ undSg .i64 _ (by omega) (by omega), sizeSg]
    simp only [Result.andThen, Int.toNat_natCast]
    rw [← hsl2, hkv2]
  · rw [run_slice_h W 33 _ _ _ undW .i64 _ (by omega) (by omega), sizeW]
    simp only [Result.andThen, Int.toNat_natCast]
    rw [← hsl3, hrv2]
end Go.Proofs.YtdgpdmohfnealaaGreatDoor
/- A call tells its word: the walks. -/
namespace Go.Proofs.YtdgpdmohfnealaaGreatDoor
open Go.RowKit

set_option maxRecDepth 100000 in
set_option maxHeartbeats 1000000 in
theorem tell_end_walk {B cc c2 : Nat} {ca a2 : Option Addr} {x y : Int} {w : World} {Q1 Q : World → Prop}
    (HF : Hid (∀ W k, W = w.drewN k → Calls Tryz.prog 60 #[ptr B] W fun e w' => e = .returned (.tuple #[]) ∧ Q1 w'))
    (hs : ∀ W, (Instr.slice 61 (.slice ca 1 cc) none (some (.int .i64 0)) none).run Tryz.prog W = .ok (.slice a2 0 c2) W)
    (H1 : Hid (∀ w1, Q1 w1 → w1.cell? ⟨B, 4, none⟩ = some (.slice ca 1 cc) ∧ w1.frozen? ⟨B, 4, none⟩ = false ∧ w1.cell? ⟨B, 10, none⟩ = some (.int .u64 y) ∧ w1.frozen? ⟨B, 10, none⟩ = false ∧ ∀ j, Calls Tryz.prog 29 #[ptr B, .int .u8 1] (((w1.drewN j).setCell ⟨B, 4, none⟩ (.slice a2 0 c2)).setCell ⟨B, 10, none⟩ (.int .u64 x)) fun e w' => e = .returned (.bool false) ∧ Q w')) :
    Calls Tryz.prog 41 #[ptr B, .int .u64 x] w fun e w' => e = .returned (.bool false) ∧ Q w' := by
  go_enter Tryz.func41, Tryz.ntmps41
  go_wp2_with (go_at_call 60; refine Calls.mono (HF.out _ 0 rfl) ?_; rintro e w1 ⟨rfl, hq⟩; obtain ⟨d4, f4, d10, f10, hst0⟩ := H1.out w1 hq; have HS : Hid _ := hst0; clear hst0)
  go_region
  all_goals (
    go_wp2_with (go_at_call 29; refine Calls.mono (HS.out 1) ?_; rintro e w2 ⟨rfl, hq2⟩)
    go_ret
    exact ⟨rfl, hq2⟩)
set_option maxRecDepth 100000 in
set_option maxHeartbeats 2000000 in
theorem tell_on_walk {B cb m cc c2 d tg tb nx pg po n qc bg bo bn bc ig io il ic : Nat} {ca a2 : Option Addr} {x : Int} {w : World} {Q1 Q2 Q : World → Prop}
    (HF : Hid (∀ W k, W = w.drewN k → Calls Tryz.prog 60 #[ptr B] W fun e w' => e = .returned (.tuple #[]) ∧ Q1 w'))
    (hs : ∀ W, (Instr.slice 61 (.slice ca (m + 1 + 1) cc) none (some (.int .i64 ((m : Int) + 1))) none).run Tryz.prog W = .ok (.slice a2 (m + 1) c2) W)
    (H1 : Hid (∀ w1, Q1 w1 → w1.cell? ⟨B, 4, none⟩ = some (.slice ca (m + 1 + 1) cc) ∧ w1.frozen? ⟨B, 4, none⟩ = false ∧ ∀ j, Q2 ((w1.setCell ⟨B, 4, none⟩ (.slice a2 (m + 1) c2)).drewN j)))
    (hmb : (m : Int) + 1 + 1 ≤ 140737488355328)
    (H2 : Hid (∀ w2, Q2 w2 → (∀ W k, W = w2.drewN k → Calls Tryz.prog 17 #[ptr B] W fun e w' => e = .returned (.pointer (some ⟨cb, m * 5, none⟩)) ∧ ∃ k, w' = W.drewN k) ∧ w2.cell? ⟨B, 4, none⟩ = some (.slice a2 (m + 1) c2) ∧ w2.cell? ⟨B, 0, none⟩ = some (.slice (some ⟨pg, po, none⟩) n qc) ∧ w2.cell? ⟨cb, m * 5, none⟩ = some (.int .i64 (tg : Int)) ∧ w2.cell? ⟨cb, m * 5 + 1, none⟩ = some (.int .i64 (tb : Int)) ∧ w2.cell? ⟨cb, m * 5 + 2, none⟩ = some (.int .i64 ((nx : Int) + 1)) ∧
      w2.cell? ⟨pg, po + tg * 6 + 5, none⟩ = some (.slice (some ⟨bg, bo, none⟩) bn bc) ∧ w2.cell? ⟨bg, bo + tb * 6, none⟩ = some (.slice (some ⟨ig, io, none⟩) il ic) ∧ w2.cell? ⟨ig, io + nx * 6 + 2, none⟩ = some (.int .i64 (d : Int)) ∧
      ∀ W k, W = w2.drewN k → Calls Tryz.prog 31 #[ptr B, .int .i64 (d : Int), .int .u64 x] W fun e w' => e = .returned (.tuple #[]) ∧ Q w'))
    (htg : (tg : Int) < n) (htb : (tb : Int) < bn) (hnx : (nx : Int) < il) (hnb : (nx : Int) ≤ 140737488355328) :
    Calls Tryz.prog 41 #[ptr B, .int .u64 x] w fun e w' => e = .returned (.bool true) ∧ Q w' := by
  have hmz : ((m : Int) + 1 == 0) = false := by simpa using (by omega : ¬ ((m : Int) + 1 = 0))
  go_enter Tryz.func41, Tryz.ntmps41
  go_wp2_with (go_at_call 60; refine Calls.mono (HF.out _ 0 rfl) ?_; rintro e w1 ⟨rfl, hq⟩; obtain ⟨d4, f4, hst0⟩ := H1.out w1 hq; have HS : Hid _ := hst0; clear hst0)
  go_region
  go_wp2_with (go_at_call 17; go_loud (have hq2 : Q2 ((w1.setCell ⟨B, 4, none⟩ (.slice a2 (m + 1) c2)).drew) := HS.out 1; generalize (w1.setCell ⟨B, 4, none⟩ (.slice a2 (m + 1) c2)).drew = w2 at *; obtain ⟨hnw0, g4, g0, t0, t1, t2, p5, q0, i2, hset0⟩ := H2.out w2 hq2; have HN : Hid _ := hnw0; have HT : Hid _ := hset0; clear hnw0 hset0 hq2 HS H1 H2 hq d4 f4; refine Calls.mono (HN.out _ 0 rfl) ?_; rintro e w3 ⟨rfl, kq, rfl⟩))
  refine wp_region_last 28 _ rfl rfl (by kernel_rfl) (by kernel_rfl) (by kernel_rfl) (by kernel_rfl) (by kernel_rfl) (by kernel_rfl) ?_
  simp only [List.take_succ_cons, List.take_zero]
  repeat (go_big_quiet_step (fail))
  refine wpQuiet_nil ?_
  intro _ hw'
  obtain ⟨nq, hw''⟩ := hw'
  subst hw''
  intro K hK
  go_simp
  refine Calls.mono (HT.out _ _ rfl) ?_
  rintro e w4 ⟨rfl, hq4⟩
  refine hK _ _ ?_
  clear hK K
  go_wp2
  go_ret
  exact ⟨rfl, hq4⟩
end Go.Proofs.YtdgpdmohfnealaaGreatDoor
/- A call tells its word. -/
namespace Go.Proofs.YtdgpdmohfnealaaGreatDoor
open Go.RowKit

def St.popC (S : St) (k : Nat) : St := { S with calls := S.calls.take k }
theorem Rn.cutC {E : Env} {w : World} {V : Vals} {ss : List Slot} {S : St} (h : Rn E w V ss S) {k : Nat} (hk : k ≤ S.calls.length) {v2 : Value} (ho : w.ownsRow E.w0.heap.size 76 5 v2 k ((flat clCells S.calls).take (k * 5))) (hb : v2.ownBlock = V.cv.ownBlock) :
    ∃ ss', Rn E (w.setCell ⟨E.B, 4, Option.none⟩ v2) { V with cv := v2 } ss' (S.popC k) := by
  have ho' : (⟨v2, 76, 5, k, (flat clCells S.calls).take (k * 5)⟩ : Slot).At w E.w0.heap.size := ho
  have H1 := h.heap.turn h.s2 (fun _ _ _ => rfl) ho' (fun g hg => .inl (by rw [← hb]; exact hg))
  have z1 : (ss.set 2 ⟨v2, 76, 5, k, (flat clCells S.calls).take (k * 5)⟩)[0]? = _ := set_other h.s0 (by omega)
  have H2 := H1.store z1 4 v2
  have L2 := below_set h.low (H1.lt z1).1 4 v2
  refine ⟨_, L2, h.prog, H2, set_self z1, set_other (set_other h.s1 (by omega)) (by omega), ?_, set_other (set_other h.s3 (by omega)) (by omega), set_other (set_other h.s4 (by omega)) (by omega), ?_, set_other (set_other h.s6 (by omega)) (by omega), h.cll, h.nwl, ?_, ?_⟩
  · have e1 : (flat clCells S.calls).take (k * 5) = flat clCells (S.popC k).calls := flat_take clCells_len S.calls k
    have e2 : k = (S.popC k).calls.length := by show k = (S.calls.take k).length; rw [List.length_take]; omega
    have := set_other (b := (⟨.slice (some ⟨E.B, 0, Option.none⟩) 1 1, 64, 14, 1, (rnCells E V S).set 4 v2⟩ : Slot)) (set_self (b := (⟨v2, 76, 5, k, (flat clCells S.calls).take (k * 5)⟩ : Slot)) h.s2) (i := 0) (by omega)
    rw [this, e1, ← e2]
  · obtain ⟨ws, hw⟩ := h.s5
    exact ⟨ws, set_other (set_other hw (by omega)) (by omega)⟩
  · intro i q hq
    obtain ⟨a2, N2, h1, h2, h3⟩ := h.news i q hq
    exact ⟨a2, N2, h1, set_other (set_other h2 (by omega)) (by omega), (h3.set (by omega) _).set (by omega) _⟩
  · intro i hi
    obtain ⟨h1, h2⟩ := h.none i hi
    exact ⟨h1, set_other (set_other h2 (by omega)) (by omega)⟩
theorem sizeCl : ∀ W : World, (sizeOf (Tryz.prog.elem 61)).run Tryz.prog W = .ok 5 W := fun W => by kernel_rfl
theorem undCl : Tryz.prog.underlying 61 = some (.slice (Tryz.prog.elem 61)) := by kernel_rfl
def St.valued (S : St) (x : Int) : St := { S with val := x }
/-- The last call of all. -/
theorem tell_end {E : Env} {w : World} {V : Vals} {ss : List Slot} {S : St} (h : Rn E w V ss S) {l : List Int} (ha : Asks E S 0 l) (hk : S.top.k ≤ S.kept.length) (hr : S.top.r ≤ S.rows.length) (hkl : S.kept.length ≤ 1000000000) (hc : ∀ s ∈ S.kept.drop S.top.k, s.cell < l.length) (x : Int) :
    Calls Tryz.prog 41 #[ptr E.B, .int .u64 x] w fun e w' => e = .returned (.bool false) ∧ ∃ cv' kv' rv' ss', Rn E w' { V with cv := cv', kv := kv', rv := rv' } ss' (((S.forget.popC 0).valued x).stop 1) := by
  have hm1 : S.calls.length = 1 := ha.hm
  obtain ⟨ca, cc, v2, a2, c2, hcv, hcc, hv2, hsl, _, _⟩ := own_ends (h.heap.own 2 _ h.s2) (Nat.zero_le _)
  dsimp only at hcv hsl
  rw [hm1] at hcv
  refine tell_end_walk (cc := cc) (c2 := c2) (ca := ca) (a2 := a2) (y := S.val) (Q1 := fun w1 => ∃ kv' rv' ss', Rn E w1 { V with kv := kv', rv := rv' } ss' S.forget) (fun W k hW => by subst hW; exact forget_any (h.drewN k) ha hk hr hkl hc) (fun W => ?_) (fun w1 hq => ?_)
  · rw [run_slice_h W 61 _ _ _ undCl .i64 0 (by omega) (by omega), sizeCl]
    show Result.ok (sliced ca 0 0 cc 5) W = _
    rw [← hsl, hv2]
  · obtain ⟨kv', rv', ss', hR⟩ := hq
    have h4 := hR.box.2.2.2.2.1
    have h10 := hR.box.2.2.2.2.2.2.2.2.2.2.1
    refine ⟨by rw [← hcv]; exact h4, hR.fz 4, h10, hR.fz 10, fun j => ?_⟩
    obtain ⟨x1, x2, x3, x4, x5, y1, _, y3, y4, y5, y6⟩ := own_ends ((hR.drewN j).heap.own 2 _ hR.s2) (Nat.zero_le _)
    dsimp only at y1 y4 y5 y6
    have hcl : S.forget.calls = S.calls := rfl
    rw [hcl, hm1, hcv] at y1
    injection y1 with z1 _ z3
    subst z1
    subst z3
    rw [y4, ← hsl, hv2] at y5 y6
    obtain ⟨s1, r1⟩ := (hR.drewN j).cutC (k := 0) (Nat.zero_le _) y5 y6
    obtain ⟨s2, r2⟩ := r1.num (S' := (S.forget.popC 0).valued x) 10 (wordV x) rfl rfl rfl rfl rfl rfl
    refine (stop_any r2 1).mono ?_
    rintro e w' ⟨he, s3, r3⟩
    exact ⟨he, _, kv', rv', s3, r3⟩
/-- A call that another one has made. -/
theorem tell_on {E : Env} {w : World} {V : Vals} {ss : List Slot} {S : St} (h : Rn E w V ss S) {m : Nat} {l : List Int} (ha : Asks E S (m + 1) l) (hk : S.top.k ≤ S.kept.length) (hr : S.top.r ≤ S.rows.length) (hkl : S.kept.length ≤ 1000000000) (hc : ∀ s ∈ S.kept.drop S.top.k, s.cell < l.length) (x : Int)
    {S1 : St} (hS1 : S1 = S.forget.popC (m + 1)) {l1 : List Int} (ha1 : Asks E S1 m l1) (hkl1 : S1.kept.length ≤ 1000000000) (htg : S1.top.g < E.P.length) (htb : S1.top.b < (E.P.getD S1.top.g default).blocks.length) {nx : Nat} (hnx : S1.top.nx = nx + 1) (hnl : nx < ((E.P.getD S1.top.g default).blocks.getD S1.top.b default).ins.length)
    {d : Nat} (hd : (((E.P.getD S1.top.g default).blocks.getD S1.top.b default).ins.getD nx default).dst = (d : Int)) (hdl : d < l1.length) :
    Calls Tryz.prog 41 #[ptr E.B, .int .u64 x] w fun e w' => e = .returned (.bool true) ∧ ∃ cv' kv' rv' ss', Rn E w' { V with cv := cv', kv := kv', rv := rv' } ss' (S1.set d x) := by
  have hm1 : S.calls.length = m + 1 + 1 := ha.hm
  obtain ⟨ca, cc, v2, a2, c2, hcv, hcc, hv2, hsl, _, _⟩ := own_ends (h.heap.own 2 _ h.s2) (k := m + 1) (by show _ ≤ S.calls.length; omega)
  dsimp only at hcv hsl
  rw [hm1] at hcv
  have hp := h.prog
  obtain ⟨qa, qc, hq, _⟩ := hp.form
  rw [hq] at hp
  obtain ⟨pg, po, pv, vv, av, bv, rfl, hlt, c0, c1, c2', c3, c4, c5, hG⟩ := hp.get htg
  obtain ⟨_, _, _, _, _, _, ba, bc, _, _, _, hbv, _, _, _, _⟩ := hG.openF
  have hbs := hG.bs
  rw [hbv] at hbs c5
  obtain ⟨bg, bo, iv, rfl, hbg, d0, _, _, _, _, _, hins⟩ := hbs.get htb
  obtain ⟨ia, ic, hiv, hil⟩ := hins.form
  rw [hiv] at hins d0
  obtain ⟨ig, io, xav, rfl, hig, _, _, i2, _, _, _, _⟩ := hins.get hnl
  rw [hd] at i2
  have hcl : S.forget.calls = S.calls := rfl
  obtain ⟨cb, ecb⟩ : ∃ cb, a2 = some ⟨cb, 0, none⟩ ∧ v2 = .slice (some ⟨cb, 0, none⟩) (m + 1) c2 := by
    have h3 := own_ends (h.heap.own 2 _ h.s2) (k := m + 1) (by show _ ≤ S.calls.length; omega)
    obtain ⟨x1, x2, x3, x4, x5, y1, _, y3, y4, y5, y6⟩ := h3
    dsimp only at y1 y4 y5 y6
    rw [hm1, hcv] at y1
    injection y1 with z1 _ z3
    subst z1
    subst z3
    rw [y4, ← hsl, hv2] at y5
    rcases own_shape y5 with ⟨_, e⟩ | ⟨g, c, e, _⟩
    · omega
    · injection e with e1 _ e3
      exact ⟨g, e1, by rw [hv2, e1]⟩
  obtain ⟨ea2, ev2⟩ := ecb
  refine tell_on_walk (B := E.B) (cb := cb) (m := m) (cc := cc) (c2 := c2) (d := d) (tg := S1.top.g) (tb := S1.top.b) (nx := nx) (pg := pg) (po := po) (n := E.P.length) (qc := qc) (bg := bg) (bo := bo) (bn := (E.P.getD S1.top.g default).blocks.length) (bc := bc) (ig := ig) (io := io) (il := ((E.P.getD S1.top.g default).blocks.getD S1.top.b default).ins.length) (ic := ic) (ca := ca) (a2 := a2)
    (Q1 := fun w1 => ∃ kv' rv' ss', Rn E w1 { V with kv := kv', rv := rv' } ss' S.forget) (Q2 := fun w2 => ∃ kv' rv' ss', Rn E w2 { V with cv := v2, kv := kv', rv := rv' } ss' S1) (fun W k hW => by subst hW; exact forget_any (h.drewN k) ha hk hr hkl hc) (fun W => ?_) (fun w1 hq1 => ?_) (by have := ha.hmb; omega) (fun w2 hq2 => ?_) (by omega) (by omega) (by omega) (by omega)
  · have e : ((m : Int) + 1) = ((m + 1 : Nat) : Int) := by omega
    rw [e, run_slice_h W 61 _ _ _ undCl .i64 _ (by omega) (by omega), sizeCl]
    simp only [Result.andThen, Int.toNat_natCast]
    rw [← hsl, hv2]
  · obtain ⟨kv', rv', ss', hR⟩ := hq1
    have h4 := hR.box.2.2.2.2.1
    refine ⟨by rw [← hcv]; exact h4, hR.fz 4, fun j => ?_⟩
    obtain ⟨x1, x2, x3, x4, x5, y1, _, y3, y4, y5, y6⟩ := own_ends (hR.heap.own 2 _ hR.s2) (k := m + 1) (by show _ ≤ S.calls.length; omega)
    dsimp only at y1 y4 y5 y6
    rw [hcl, hm1, hcv] at y1
    injection y1 with z1 _ z3
    subst z1
    subst z3
    rw [y4, ← hsl] at y5 y6
    obtain ⟨s1, r1⟩ := hR.cutC (k := m + 1) (by show _ ≤ S.calls.length; omega) y5 y6
    rw [hv2, ← hS1] at r1
    rw [hv2]
    exact ⟨kv', rv', s1, r1.drewN j⟩
  · obtain ⟨kv', rv', ss', hR⟩ := hq2
    have hbx := hR.box
    obtain ⟨cb', cc', hcv', _, _, _, t0, t1, t2, t3, t4⟩ := hR.last ha1.hm
    dsimp only at hcv'
    rw [ev2] at hcv'
    cases hcv'
    rw [hnx] at t2
    have low : ∀ g j, g < E.w0.heap.size → w2.cell? ⟨g, j, none⟩ = E.w0.cell? ⟨g, j, none⟩ := fun g j hg => hR.low.cell (p := ⟨g, j, none⟩) hg
    have b4 := hbx.2.2.2.2.1
    dsimp only at b4
    refine ⟨fun W k hW => now_at E.B cb m c2 W (by rw [hW]; show w2.cell? _ = _; rw [b4, ev2]) ha1.hmb, by rw [b4, hv2], by rw [← hq]; exact hbx.1, t0, t1, by rw [t2]; simp, (low _ _ hlt).trans c5, (low _ _ hbg).trans d0, (low _ _ hig).trans i2, fun W k hW => ?_⟩
    subst hW
    refine (set_any (hR.drewN k) ha1 d hdl x hkl1).mono ?_
    rintro e w' ⟨he, kv2, s2, r2⟩
    exact ⟨he, v2, kv2, rv', s2, r2⟩
end Go.Proofs.YtdgpdmohfnealaaGreatDoor
