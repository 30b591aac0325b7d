/- A step, an end. -/
import Derived.Test.YtdgpdmohfnealaaGreatDoorUGetM
import Derived.Test.YtdgpdmohfnealaaGreatDoorGBoxM
import Derived.Deep.RegionLaw
namespace Go.Proofs.YtdgpdmohfnealaaGreatDoor
open Go.RowKit

theorem set_other {α : Type} {l : List α} {i j : Nat} {a b : α} (h : l[j]? = some a) (hij : i ≠ j) : (l.set i b)[j]? = some a := by rw [List.getElem?_set, if_neg hij]; exact h
theorem set_self {α : Type} {l : List α} {i : Nat} {a b : α} (h : l[i]? = some a) : (l.set i b)[i]? = some b := by
  have hi := (List.getElem?_eq_some_iff.1 h).1
  rw [List.getElem?_set, if_pos rfl, if_pos hi]
theorem AhIn.set {ss : List Slot} {i0 : Nat} {v : Value} {rows : List (List Int)} (h : AhIn ss i0 v rows) {i : Nat} (hi : i < i0) (s : Slot) : AhIn (ss.set i s) i0 v rows := by
  obtain ⟨j, kvs, g, hj, hv, h1, h2, h3⟩ := h
  exact ⟨j, kvs, g, hj, hv, set_other h1 (by omega), h2, fun b r kv hr hk => set_other (h3 b r kv hr hk) (by omega)⟩
/-- One of the runner's numbers is another one now. -/
theorem Rn.num {E : Env} {w : World} {V : Vals} {ss : List Slot} {S S' : St} (h : Rn E w V ss S) (j : Nat) (u : Value) (hc : (rnCells E V S).set j u = rnCells E V S') (e1 : S'.nw = S.nw) (e2 : S'.calls = S.calls) (e3 : S'.kept = S.kept) (e4 : S'.rows = S.rows) (e5 : S'.shows = S.shows) :
    ∃ ss', Rn E (w.setCell ⟨E.B, j, Option.none⟩ u) V ss' S' := by
  have hB := (h.heap.lt h.s0).1
  have hh := h.heap.store h.s0 j u
  rw [hc] at hh
  refine ⟨_, below_set h.low hB j u, h.prog, hh, set_self h.s0, set_other h.s1 (by omega), by rw [e2]; exact set_other h.s2 (by omega), by rw [e3]; exact set_other h.s3 (by omega), by rw [e4]; exact set_other h.s4 (by omega), ?_, by rw [e5]; exact set_other h.s6 (by omega), h.cll, by rw [e1]; exact h.nwl, ?_, ?_⟩
  · obtain ⟨ws, hw⟩ := h.s5
    exact ⟨ws, set_other hw (by omega)⟩
  · intro i l hl
    rw [e1] at hl
    obtain ⟨a, N, h1, h2, h3⟩ := h.news i l hl
    exact ⟨a, N, h1, set_other h2 (by omega), h3.set (by omega) _⟩
  · intro i hi
    rw [e1] at hi
    obtain ⟨h1, h2⟩ := h.none i hi
    exact ⟨h1, set_other h2 (by omega)⟩
theorem Rn.fz {E : Env} {w : World} {V : Vals} {ss : List Slot} {S : St} (h : Rn E w V ss S) (j : Nat) : w.frozen? ⟨E.B, j, Option.none⟩ = false := h.heap.fz h.s0 j
theorem stop_any {E : Env} {w : World} {V : Vals} {ss : List Slot} {S : St} (h : Rn E w V ss S) (x : Int) : Calls Tryz.prog 29 #[ptr E.B, .int .u8 x] w fun e w' => e = .returned (.bool false) ∧ ∃ ss', Rn E w' V ss' (S.stop x) := by
  obtain ⟨b0, b1, b2, b3, b4, b5, b6, b7, b8, b9, b10, b11, b12, b13⟩ := h.box
  refine (stop_at E.B x S.fin w b9 (h.fz 9)).mono fun e w' ⟨he, hw⟩ => ⟨he, ?_⟩
  subst hw
  exact h.num 9 _ rfl rfl rfl rfl rfl rfl
set_option maxRecDepth 100000 in
set_option maxHeartbeats 1000000 in
theorem step_any {E : Env} {w : World} {V : Vals} {ss : List Slot} {S : St} (h : Rn E w V ss S) (hb : S.steps ≤ 1000000000000) : Calls Tryz.prog 32 #[ptr E.B] w fun e w' => e = .returned (.bool (S.step E.lim).2) ∧ ∃ ss', Rn E w' V ss' (S.step E.lim).1 := by
  obtain ⟨b0, b1, b2, b3, b4, b5, b6, b7, b8, b9, b10, b11, b12, b13⟩ := h.box
  have f12 := h.fz 12
  by_cases hle : E.lim ≤ S.steps
  · have HS : Hid (∀ W k, W = w.drewN k → Calls Tryz.prog 29 #[ptr E.B, .int .u8 3] W fun e w' => e = .returned (.bool false) ∧ ∃ ss', Rn E w' V ss' (S.stop 3)) := fun W k hW => by subst hW; exact stop_any (h.drewN k) 3
    have he : S.step E.lim = (S.stop 3, false) := by unfold St.step; rw [if_pos hle]
    rw [he]
    dsimp only
    have hle' : (E.lim : Int) ≤ S.steps := by omega
    clear h he b0 b2 b3 b4 b5 b6 b7 b8 b9 b10 b11 b13 f12
    obtain ⟨Q, hQ⟩ : ∃ Q : World → Prop, Q = fun w' => ∃ ss', Rn E w' V ss' (S.stop 3) := ⟨_, rfl⟩
    have HS2 : Hid (∀ W k, W = w.drewN k → Calls Tryz.prog 29 #[ptr E.B, .int .u8 3] W fun e w' => e = .returned (.bool false) ∧ Q w') := by rw [hQ]; exact HS.out
    have e1 : (fun (e : Ending) w' => e = Ending.returned (.bool false) ∧ ∃ ss', Rn E w' V ss' (S.stop 3)) = fun e w' => e = Ending.returned (.bool false) ∧ Q w' := by rw [hQ]
    rw [e1]
    clear HS hQ e1
    generalize E.B = B at *
    generalize E.lim = lm at *
    generalize S.steps = st at *
    go_enter Tryz.func32, Tryz.ntmps32
    go_wp2
    go_quiet (fail)
    go_wp2_with (go_at_call 29; refine Calls.mono (HS2.out _ _ rfl) ?_; rintro e w1 ⟨rfl, hq⟩)
    go_ret
    exact ⟨rfl, hq⟩
  · have he : S.step E.lim = ({ S with steps := S.steps + 1 }, true) := by unfold St.step; rw [if_neg hle]
    rw [he]
    dsimp only
    have hle' : (S.steps : Int) < E.lim := by omega
    have HR : Hid (∀ k, ∃ ss', Rn E ((w.drewN k).setCell ⟨E.B, 12, none⟩ (.int .i64 ((S.steps : Int) + 1))) V ss' { S with steps := S.steps + 1 }) := fun k => (h.drewN k).num 12 _ (by
      unfold rnCells
      simp) rfl rfl rfl rfl rfl
    clear h he b0 b2 b3 b4 b5 b6 b7 b8 b9 b10 b11 b13
    have hb' : (S.steps : Int) ≤ 1000000000000 := by omega
    obtain ⟨Q, hQ⟩ : ∃ Q : World → Prop, Q = fun w' => ∃ ss', Rn E w' V ss' { S with steps := S.steps + 1 } := ⟨_, rfl⟩
    have HS2 : Hid (∀ k, Q ((w.drewN k).setCell ⟨E.B, 12, none⟩ (.int .i64 ((S.steps : Int) + 1)))) := by rw [hQ]; exact HR.out
    have e1 : (fun (e : Ending) w' => e = Ending.returned (.bool true) ∧ ∃ ss', Rn E w' V ss' { S with steps := S.steps + 1 }) = fun e w' => e = Ending.returned (.bool true) ∧ Q w' := by rw [hQ]
    rw [e1]
    clear HR hQ e1
    generalize E.B = B at *
    generalize E.lim = lm at *
    generalize S.steps = st at *
    go_enter Tryz.func32, Tryz.ntmps32
    go_wp2
    go_quiet (fail)
    go_wp2
    go_ret
    exact ⟨rfl, HS2.out _⟩
end Go.Proofs.YtdgpdmohfnealaaGreatDoor
/- append onto a row of one's own, as one step of a region that draws. -/
namespace Go.Proofs.YtdgpdmohfnealaaGreatDoor
open Go.RowKit

theorem step_append_own {P : Program} {ops : Array Oper} {o : Oper} {a : Act} {w : World} {K : Act → World → Prop} {Q : Exit → Act → World → Prop} {E : Prop}
    (hg : o.guard = none) (s x : Operand) (t : TypeId) (hop : o.op = Op.call { callee := Callee.builtin Builtin.append, args := #[s, x], argTypes := #[t, t] })
    (base : Nat) (e : TypeId) (i : TypeInfo) (z : Value) (size bytes : Nat) (h1 : P.underlying t = some (.slice e)) (h2 : P.info? e = some i) (h3 : i.zero = some z) (h4 : i.size = size) (h5 : i.bytes = bytes) (h6 : z.cells.size = size) (h7 : 0 < size)
    (v : Value) (n : Nat) (xs : List Value) (hs : a.eval s = v) (hown : w.ownsRow base e size v n xs)
    (ad : Addr) (m c : Nat) (news : List Value) (hx : a.eval x = .slice (some ad) m c) (hn : news.length = m * size) (hc : ∀ j u, news[j]? = some u → w.cell? (ad.add j) = some u) (h1c : ∀ u ∈ news, u.oneCell' = true)
    (b1 : n + m ≤ maxLen) (b2 : (n + m) * bytes ≤ 140737488355328) (hbase : base ≤ w.heap.size)
    (hK : ∀ v' w', w'.ownsRow base e size v' (n + m) (xs ++ news) → w.grownBy w' v.ownBlock → (v'.ownBlock = v.ownBlock ∨ v'.ownBlock = some w.heap.size) → K (a.put o.dst v') w') :
    if Region.wanted o (yielded ops a.tmps) = true then Oper.wp P o a w K Q else E := by
  have hw : Region.wanted o (yielded ops a.tmps) = true := by simp [Region.wanted, hg]
  rw [if_pos hw]
  obtain ⟨v', w', hrun, r1, r2, _, r3⟩ := run_append_own_at (P := P) w base t o.type e i z size bytes h1 h2 h3 h4 h5 h6 h7 v n xs hown ad m c news hn hc h1c b1 b2 hbase
  unfold Oper.wp
  simp [execOp, hop, resolve, invoke, builtin, hs, hx, hrun, Result.andThen]
  exact hK v' w' r1 r2 r3
end Go.Proofs.YtdgpdmohfnealaaGreatDoor
/- A cell is set. -/
namespace Go.Proofs.YtdgpdmohfnealaaGreatDoor
open Go.RowKit

theorem row_eq {S : St} {g : Nat} {l : List Int} (hg : S.nw[g]? = some (some l)) : S.row g = l := by unfold St.row; rw [List.getD, hg]; rfl
theorem set_same {α : Type} {l : List α} {i j : Nat} {b : α} (hij : i ≠ j) : (l.set i b)[j]? = l[j]? := by rw [List.getElem?_set, if_neg hij]
/-- A word that is kept is another one now. -/
theorem Rn.keep {E : Env} {w : World} {V : Vals} {ss : List Slot} {S : St} (h : Rn E w V ss S) {i kb kc : Nat} (hi : i < S.kept.length) (hkv : V.kv = .slice (some ⟨kb, 0, Option.none⟩) S.kept.length kc) (x : Int) :
    ∃ ss', Rn E (w.setCell ⟨kb, i * 3 + 2, Option.none⟩ (wordV x)) V ss' { S with kept := S.kept.set i { S.kept.getD i default with word := x } } ∧ ss'[5]? = ss[5]? := by
  have h3 := h.s3
  rw [hkv] at h3
  have hB := (h.heap.lt h3).1
  have e1 : S.kept[i]? = some (S.kept.getD i default) := by rw [List.getD, List.getElem?_eq_getElem hi]; rfl
  have hh := h.heap.store h3 (i * 3 + 2) (wordV x)
  rw [flat_set sgCells_len S.kept i 2 _ { S.kept.getD i default with word := x } (wordV x) e1 (by omega) rfl] at hh
  refine ⟨_, ⟨below_set h.low hB _ _, h.prog, hh, set_other h.s0 (by omega), set_other h.s1 (by omega), set_other h.s2 (by omega), ?_, set_other h.s4 (by omega), ?_, set_other h.s6 (by omega), h.cll, h.nwl, ?_, ?_⟩, set_same (by omega)⟩
  · have := set_self (b := (⟨.slice (some ⟨kb, 0, Option.none⟩) S.kept.length kc, 113, 3, S.kept.length, flat sgCells (S.kept.set i { S.kept.getD i default with word := x })⟩ : Slot)) h3
    rw [hkv, List.length_set]
    exact this
  · obtain ⟨ws, hw⟩ := h.s5
    exact ⟨ws, set_other hw (by omega)⟩
  · intro j l hl
    obtain ⟨a, N, h1, h2, h3⟩ := h.news j l hl
    exact ⟨a, N, h1, set_other h2 (by omega), h3.set (by omega) _⟩
  · intro j hj
    obtain ⟨h1, h2⟩ := h.none j hj
    exact ⟨h1, set_other h2 (by omega)⟩
/-- A setting more. -/
theorem Rn.push {E : Env} {W w2 : World} {V : Vals} {ss : List Slot} {S : St} (h : Rn E W V ss S) {kv' : Value} {l : List Int} {c N : Nat} {a : Value} {x : Int} {old : Nat} (hg : S.nw[S.top.g]? = some (some l)) (hN : V.cl[S.top.g]? = some (a, .slice (some ⟨N, 0, Option.none⟩) l.length l.length))
    (ho : w2.ownsRow E.w0.heap.size 113 3 kv' (S.kept.length + 1) (flat sgCells S.kept ++ sgCells ⟨c, old, x⟩)) (hgr : W.grownBy w2 V.kv.ownBlock) (hat : kv'.ownBlock = V.kv.ownBlock ∨ kv'.ownBlock = some W.heap.size) :
    ∃ ss', Rn E ((w2.setCell ⟨E.B, 5, Option.none⟩ kv').setCell ⟨N, c, Option.none⟩ (intV ((S.kept.length : Int) + 1))) { V with kv := kv' } ss' { S with kept := S.kept ++ [⟨c, old, x⟩], nw := S.nw.set S.top.g (some (l.set c ((S.kept.length : Int) + 1))) } ∧ ss'[5]? = ss[5]? := by
  have hgl : S.top.g < S.nw.length := (List.getElem?_eq_some_iff.1 hg).1
  have hgp : S.top.g < E.P.length := by rw [← h.nwl]; exact hgl
  obtain ⟨a', N', hN', hs7, hah⟩ := h.news _ l hg
  rw [hN] at hN'
  cases hN'
  have ho' : (⟨kv', 113, 3, S.kept.length + 1, flat sgCells S.kept ++ sgCells ⟨c, old, x⟩⟩ : Slot).At w2 E.w0.heap.size := ho
  have H1 := h.heap.grow h.s3 ho' hgr hat
  have L1 : Below E.w0.heap.size E.w0 w2 := below_grown h.low hgr (fun g hg => ((h.heap.own 3 _ h.s3).lt g hg).1)
  have z1 : (ss.set 3 ⟨kv', 113, 3, S.kept.length + 1, flat sgCells S.kept ++ sgCells ⟨c, old, x⟩⟩)[0]? = _ := set_other h.s0 (by omega)
  have H2 := H1.store z1 5 kv'
  have L2 := below_set L1 (H1.lt z1).1 5 kv'
  have z7 : ((ss.set 3 ⟨kv', 113, 3, S.kept.length + 1, flat sgCells S.kept ++ sgCells ⟨c, old, x⟩⟩).set 0 ⟨.slice (some ⟨E.B, 0, Option.none⟩) 1 1, 64, 14, 1, (rnCells E V S).set 5 kv'⟩)[7 + S.top.g]? = _ := set_other (set_other hs7 (by omega)) (by omega)
  have H3 := H2.store z7 c (intV ((S.kept.length : Int) + 1))
  have L3 := below_set L2 (H2.lt z7).1 c (intV ((S.kept.length : Int) + 1))
  refine ⟨_, ⟨L3, h.prog, H3, ?_, ?_, ?_, ?_, ?_, ?_, ?_, h.cll, by simpa using h.nwl, ?_, ?_⟩, (set_same (by omega)).trans ((set_same (by omega)).trans (set_same (by omega)))⟩
  · exact set_other (set_self z1) (by omega)
  · exact set_other (set_other (set_other h.s1 (by omega)) (by omega)) (by omega)
  · exact set_other (set_other (set_other h.s2 (by omega)) (by omega)) (by omega)
  · have e1 : flat sgCells S.kept ++ sgCells ⟨c, old, x⟩ = flat sgCells (S.kept ++ [⟨c, old, x⟩]) := (flat_snoc _ _ _).symm
    have e2 : S.kept.length + 1 = (S.kept ++ [(⟨c, old, x⟩ : Sg)]).length := by simp
    have := set_other (b := (⟨.slice (some ⟨N, 0, Option.none⟩) l.length l.length, 3, 1, l.length, (l.map intV).set c (intV ((S.kept.length : Int) + 1))⟩ : Slot)) (set_other (b := (⟨.slice (some ⟨E.B, 0, Option.none⟩) 1 1, 64, 14, 1, (rnCells E V S).set 5 kv'⟩ : Slot)) (set_self (b := (⟨kv', 113, 3, S.kept.length + 1, flat sgCells S.kept ++ sgCells ⟨c, old, x⟩⟩ : Slot)) h.s3) (i := 0) (by omega)) (i := 7 + S.top.g) (by omega)
    rw [this]
    rw [e1, e2]
  · exact set_other (set_other (set_other h.s4 (by omega)) (by omega)) (by omega)
  · obtain ⟨ws, hw⟩ := h.s5
    exact ⟨ws, set_other (set_other (set_other hw (by omega)) (by omega)) (by omega)⟩
  · exact set_other (set_other (set_other h.s6 (by omega)) (by omega)) (by omega)
  · intro i q hq
    dsimp only at hq ⊢
    by_cases hi : S.top.g = i
    · subst hi
      rw [List.getElem?_set, if_pos rfl, if_pos hgl] at hq
      cases hq
      refine ⟨a, N, ?_, ?_, ?_⟩
      · rw [List.length_set]; exact hN
      · have e3 : (l.map intV).set c (intV ((S.kept.length : Int) + 1)) = (l.set c ((S.kept.length : Int) + 1)).map intV := by rw [List.map_set]
        rw [List.length_set, ← e3]
        exact set_self z7
      · exact ((hah.set (by omega) _).set (by omega) _).set (by omega) _
    · rw [List.getElem?_set, if_neg hi] at hq
      obtain ⟨a2, N2, h1, h2, h3⟩ := h.news i q hq
      exact ⟨a2, N2, h1, set_other (set_other (set_other h2 (by omega)) (by omega)) (by omega), ((h3.set (by omega) _).set (by omega) _).set (by omega) _⟩
  · intro i hi
    dsimp only at hi ⊢
    by_cases hgi : S.top.g = i
    · subst hgi
      rw [List.getElem?_set, if_pos rfl, if_pos hgl] at hi
      cases hi
    · rw [List.getElem?_set, if_neg hgi] at hi
      obtain ⟨h1, h2⟩ := h.none i hi
      exact ⟨h1, set_other (set_other (set_other h2 (by omega)) (by omega)) (by omega)⟩
end Go.Proofs.YtdgpdmohfnealaaGreatDoor
/- A cell is set: the walk. -/
namespace Go.Proofs.YtdgpdmohfnealaaGreatDoor
open Go.RowKit

theorem infoSg : (Tryz.prog.info? 113).map (fun i => (i.zero, i.size, i.bytes)) = some (some (.agg #[.int .i64 0, .int .i64 0, .int .u64 0]), 3, 24) := by kernel_rfl
theorem cells3_new {w : World} {B : Nat} (hB : B = w.heap.size) (x0 x1 x2 : Value) (t : TypeId) : ∀ j u, [x0, x1, x2][j]? = some u → (w.alloc (.cells #[x0, x1, x2] t)).cell? ((⟨B, 0, none⟩ : Addr).add j) = some u := by
  subst hB
  intro j u hu
  have h := (Box.new w [x0, x1, x2] t).cell j u hu
  rw [Addr.add_lit, Nat.zero_add]
  exact h
set_option maxRecDepth 100000 in
set_option maxHeartbeats 2000000 in
theorem set_anyW {E : Env} {w : World} {V : Vals} {ss : List Slot} {S : St} (h : Rn E w V ss S) {m : Nat} {l : List Int} (ha : Asks E S m l) (c : Nat) (hc : c < l.length) (x : Int) (hkl : S.kept.length ≤ 1000000000) :
    Calls Tryz.prog 31 #[ptr E.B, .int .i64 (c : Int), .int .u64 x] w fun e w' => e = .returned (.tuple #[]) ∧ ∃ kv' ss', Rn E w' { V with kv := kv' } ss' (S.set c x) ∧ ss'[5]? = ss[5]? := by
  have HF : Hid (∀ W k, W = w.drewN k → Calls Tryz.prog 51 #[ptr E.B, .int .i64 (c : Int)] W fun e w' => e = .returned (.int .i64 (S.find c : Int)) ∧ ∃ k, w' = W.drewN k) := fun W k hW => by subst hW; exact find_any (h.drewN k) ha.hm ha.hmb ha.hg c hc (ha.nn c).1
  obtain ⟨b0, b1, b2, b3, b4, b5, b6, b7, b8, b9, b10, b11, b12, b13⟩ := h.box
  have hle := ha.find_le c
  obtain ⟨Q, hQ⟩ : ∃ Q : World → Prop, Q = fun w' => ∃ kv' ss', Rn E w' { V with kv := kv' } ss' (S.set c x) ∧ ss'[5]? = ss[5]? := ⟨_, rfl⟩
  have e1 : (fun (e : Ending) w' => e = Ending.returned (.tuple #[]) ∧ ∃ kv' ss', Rn E w' { V with kv := kv' } ss' (S.set c x) ∧ ss'[5]? = ss[5]?) = fun e w' => e = Ending.returned (.tuple #[]) ∧ Q w' := by rw [hQ]
  rw [e1]
  clear e1
  by_cases h0 : S.find c = 0
  · obtain ⟨cb, cc, hcv, hcap1, hcap2, hcb, t0, t1, t2, t3, t4⟩ := h.last ha.hm
    obtain ⟨a, N, hgl, hcl, k0, k1, kc, kf, hs7, _⟩ := h.new ha.hg
    rw [hcv] at b4
    rw [h0] at HF
    have HNW : Hid (∀ W k, W = w.drewN k → Calls Tryz.prog 17 #[ptr E.B] W fun e w' => e = .returned (.pointer (some ⟨cb, m * 5, none⟩)) ∧ ∃ k, w' = W.drewN k) := fun W k hW => now_at E.B cb m cc W (by rw [hW]; exact b4) ha.hmb
    have kcc := kc c hc
    have kfc := kf c
    have f5 := h.fz 5
    have hnn := (ha.nn c).1
    obtain ⟨q, hq⟩ : ∃ q : Nat, l.getD c 0 = (q : Int) := Int.eq_ofNat_of_zero_le hnn
    rw [hq] at kcc
    have hset : S.set c x = { S with kept := S.kept ++ [⟨c, q, x⟩], nw := S.nw.set S.top.g (some (l.set c ((S.kept.length : Int) + 1))) } := by
      unfold St.set
      rw [if_pos h0, row_eq ha.hg, hq]
      rfl
    have HP : Hid (∀ W w2 kv', Below w.heap.size w W → w2.ownsRow E.w0.heap.size 113 3 kv' (S.kept.length + 1) (flat sgCells S.kept ++ sgCells ⟨c, q, x⟩) → W.grownBy w2 V.kv.ownBlock → (kv'.ownBlock = V.kv.ownBlock ∨ kv'.ownBlock = some W.heap.size) → Q ((w2.setCell ⟨E.B, 5, none⟩ kv').setCell ⟨N, c, none⟩ (intV ((S.kept.length : Int) + 1)))) := fun W w2 kv' hb ho hg hat => by
      rw [hQ, hset]
      obtain ⟨ss', hr⟩ := (h.below hb).push ha.hg hcl ho hg hat
      exact ⟨kv', ss', hr⟩
    have HO : Hid (w.ownsRow E.w0.heap.size 113 3 V.kv S.kept.length (flat sgCells S.kept)) := h.heap.own 3 _ h.s3
    have HB : Hid (E.w0.heap.size ≤ w.heap.size ∧ E.B < w.heap.size ∧ N < w.heap.size) := ⟨h.low.size, (h.heap.lt h.s0).2, (h.heap.lt hs7).2⟩
    have HNE : Hid (∀ g, V.kv.ownBlock = some g → g ≠ E.B ∧ g ≠ N) := fun g hg => ⟨fun e => h.heap.apart 3 0 _ _ g (by omega) h.s3 h.s0 hg (by rw [e]; rfl), fun e => h.heap.apart 3 (7 + S.top.g) _ _ g (by omega) h.s3 hs7 hg (by rw [e]; rfl)⟩
    obtain ⟨i0, hi0, hz0, hz1, hz2⟩ := info_parts infoSg
    have hNB : N ≠ E.B := fun e => h.heap.apart (7 + S.top.g) 0 _ _ N (by omega) hs7 h.s0 rfl (by rw [e]; rfl)
    clear hQ hset h ha hcv hcap1 hcap2 hcl kc kf hs7 hq hnn b0 b1 b2 b6 b7 b8 b9 b10 b11 b12 b13 t1 t2 t4 k0 hle h0 t3
    generalize E.P.length = n at *
    generalize E.B = B at *
    generalize E.C = C at *
    generalize S.top.g = tg at *
    generalize S.kept.length = kl at *
    generalize V.kv = kv at *
    generalize E.w0.heap.size = bs at *
    have hgl' : (tg : Int) < n := by omega
    have hc' : (c : Int) < l.length := by omega
    generalize l.length = ll at *
    generalize flat sgCells S.kept = fl at *
    have hb5 : Hid (kl ≤ 1000000000) := hkl
    have hBl : B < w.heap.size := HB.out.2.1
    have hNl : N < w.heap.size := HB.out.2.2
    have HCQ : Hid (∀ W w2 : World, Below w.heap.size w W → W.grownBy w2 kv.ownBlock → w2.cell? ⟨B, 5, none⟩ = some kv ∧ w2.frozen? ⟨B, 5, none⟩ = false ∧ w2.cell? ⟨N, c, none⟩ = some (intV (q : Int)) ∧ w2.frozen? ⟨N, c, none⟩ = false) := fun W w2 hb hg => by
      have hBW : w2.heap[B]? = w.heap[B]? := (hg.block B (Nat.lt_of_lt_of_le HB.out.2.1 hb.size) (fun e => (HNE.out B e.symm).1 rfl)).trans (hb.block B HB.out.2.1)
      have hNW : w2.heap[N]? = w.heap[N]? := (hg.block N (Nat.lt_of_lt_of_le HB.out.2.2 hb.size) (fun e => (HNE.out N e.symm).2 rfl)).trans (hb.block N HB.out.2.2)
      exact ⟨(World.cell?_of_block (w := w) (a := ⟨B, 5, none⟩) hBW).trans b5, (World.frozen?_of_block (w := w) (a := ⟨B, 5, none⟩) hBW).trans f5, (World.cell?_of_block (w := w) (a := ⟨N, c, none⟩) hNW).trans kcc, (World.frozen?_of_block (w := w) (a := ⟨N, c, none⟩) hNW).trans kfc⟩
    go_enter Tryz.func31, Tryz.ntmps31
    go_wp2_with (go_at_call 51; refine Calls.mono (HF.out _ 0 rfl) ?_; rintro e w1 ⟨rfl, kq, rfl⟩)
    go_quiet ((go_at_call 17; exact quiet_add2 (HNW.out _ _ rfl)))
    go_wp2
    obtain ⟨w1, hw1⟩ : ∃ w1, w1 = (w.drewN kq).drewN nq := ⟨_, rfl⟩
    have c5 : w1.cell? ⟨B, 5, none⟩ = some kv := by rw [hw1]; exact b5
    have g5 : w1.frozen? ⟨B, 5, none⟩ = false := by rw [hw1]; exact f5
    have cN : w1.cell? ⟨N, c, none⟩ = some (intV (q : Int)) := by rw [hw1]; exact kcc
    have gN : w1.frozen? ⟨N, c, none⟩ = false := by rw [hw1]; exact kfc
    have HO1 : Hid (w1.ownsRow bs 113 3 kv kl fl) := by show _; rw [hw1]; exact HO.out
    have HB1 : Hid (Below w.heap.size w w1) := by show _; rw [hw1]; exact below_drewN (below_drewN (Below.refl _ _) _) _
    rw [← hw1]
    have hBl1 : B < w1.heap.size := by rw [hw1]; exact hBl
    have hNl1 : N < w1.heap.size := by rw [hw1]; exact hNl
    clear hw1 b5 f5 kcc kfc b3 b4 t0 k1 hBl hNl
    go_region_law (refine step_append_own rfl (.tmp 38) (.tmp 46) 62 rfl bs 113 i0 (.agg #[.int .i64 0, .int .i64 0, .int .u64 0]) 3 24 Tryz.underlying62 hi0 hz0 hz1 hz2 rfl (by decide) kv kl fl ?e1 ?e2 ⟨w1.heap.size, 0, none⟩ 1 1 [.int .i64 (c : Int), .int .i64 (q : Int), .int .u64 x] ?e3 rfl ?e4 ?e5 ?e6 ?e7 ?e8 ?_; (case e1 => simp [Act.eval]); (case e2 => exact HO1.out.alloc _); (case e3 => simp [Act.eval]); (case e4 => exact cells3_new rfl _ _ _ _); (case e5 => intro u hu; simp at hu; rcases hu with rfl | rfl | rfl <;> rfl); (case e6 => have := hb5.out; unfold maxLen; omega); (case e7 => have := hb5.out; omega); (case e8 => have := HB.out.1; have := HB1.out.size; simp; omega); intro v2 w2 ho hg2 hat; obtain ⟨g2, cc2, rfl, _, _, _, _⟩ := own_form ho; obtain ⟨q1, q2, q3, q4⟩ := HCQ.out _ w2 (by repeat (first | exact HB1.out | refine below_drew ?_ | refine below_alloc ?_ _ | refine below_drewN ?_ _)) hg2; have HX : Hid _ := HP.out _ w2 _ (by repeat (first | exact HB1.out | refine below_drew ?_ | refine below_alloc ?_ _ | refine below_drewN ?_ _)) ho hg2 hat; clear ho hg2 hat)
    all_goals (try go_wp2)
    all_goals go_end0
    all_goals exact ⟨rfl, HX.out⟩
  · obtain ⟨i, hi⟩ : ∃ i, S.find c = i + 1 := ⟨S.find c - 1, by omega⟩
    rw [hi] at HF hle
    obtain ⟨kb, kc, hkv, hk1, hk2, hkb, _, _, k2, kf⟩ := h.setting (i := i) (by omega)
    have hset : S.set c x = { S with kept := S.kept.set i { S.kept.getD i default with word := x } } := by
      unfold St.set
      rw [if_neg h0, hi]
      rfl
    have HP : Hid (∀ k, Q ((w.drewN k).setCell ⟨kb, i * 3 + 2, none⟩ (wordV x))) := fun k => by
      rw [hQ, hset]
      obtain ⟨ss', hr⟩ := (h.drewN k).keep (i := i) (by omega) hkv x
      exact ⟨V.kv, ss', hr⟩
    rw [hkv] at b5
    have kf2 := kf (i * 3 + 2)
    have hil : (i : Int) < S.kept.length := by omega
    have hi0 : ((i + 1 : Nat) : Int) = (i : Int) + 1 := by omega
    rw [hi0] at HF
    have hib : (i : Int) ≤ 1000000000 := by omega
    clear hQ hset h ha hkv hk1 hk2 hle h0 hi b0 b1 b2 b3 b4 b6 b7 b8 b9 b10 b11 b12 b13 hi0 kf
    generalize E.B = B at *
    generalize S.kept.length = kl at *
    generalize (S.kept.getD i default).word = y at *
    go_enter Tryz.func31, Tryz.ntmps31
    go_wp2_with (go_at_call 51; refine Calls.mono (HF.out _ 0 rfl) ?_; rintro e w1 ⟨rfl, kq, rfl⟩)
    refine bodyPost_ret (results_none rfl _ _ _) rfl ?_
    exact ⟨rfl, HP.out _⟩
theorem set_any {E : Env} {w : World} {V : Vals} {ss : List Slot} {S : St} (h : Rn E w V ss S) {m : Nat} {l : List Int} (ha : Asks E S m l) (c : Nat) (hc : c < l.length) (x : Int) (hkl : S.kept.length ≤ 1000000000) :
    Calls Tryz.prog 31 #[ptr E.B, .int .i64 (c : Int), .int .u64 x] w fun e w' => e = .returned (.tuple #[]) ∧ ∃ kv' ss', Rn E w' { V with kv := kv' } ss' (S.set c x) :=
  (set_anyW h ha c hc x hkl).mono fun _ _ ⟨he, kv', ss', hr, _⟩ => ⟨he, kv', ss', hr⟩
end Go.Proofs.YtdgpdmohfnealaaGreatDoor
