/- Where each block stands in the new order. -/
import Derived.Test.YtabpnjakfoofpaaGreatDoorGRepM
import Derived.Test.YtabpnjakfoofpaaGreatDoorGLaidM
namespace Go.Proofs.YtabpnjakfoofpaaGreatDoor
open Go.RowKit

def placesL (O : List Int) (n : Nat) : List Int := (List.range n).map fun b => placeOf O ((b : Nat) : Int)
theorem places_len (O : List Int) (n : Nat) : (placesL O n).length = n := by unfold placesL; simp
theorem places_nil (n : Nat) : placesL [] n = List.replicate n (-1) := by
  unfold placesL
  rw [List.eq_replicate_iff]
  refine ⟨by simp, fun b hb => ?_⟩
  obtain ⟨i, _, rfl⟩ := List.mem_map.1 hb
  exact place_out (by simp)
theorem places_get {O : List Int} {n k : Nat} (h : k < n) : (placesL O n).getD k 0 = placeOf O (k : Int) := by
  unfold placesL
  rw [List.getD_eq_getElem?_getD, List.getElem?_map, List.getElem?_range h]; rfl
theorem places_at {O : List Int} {n j : Nat} (h : j < (placesL O n).length) : (placesL O n)[j] = placeOf O (j : Int) := by
  simp [placesL]
theorem place_snoc {l : List Int} {x y : Int} (h : (l ++ [x]).Nodup) : placeOf (l ++ [x]) y = if y = x then (l.length : Int) else placeOf l y := by
  by_cases e : y = x
  · subst e
    rw [if_pos rfl]
    exact place_at h (by rw [List.getElem?_append_right (Nat.le_refl _), Nat.sub_self]; rfl)
  · rw [if_neg e]
    by_cases hm : y ∈ l
    · obtain ⟨p1, p2, p3⟩ := place_in hm
      rw [p1]
      exact place_at h (by rw [List.getElem?_append_left p2]; exact p3)
    · rw [place_out hm, place_out (by simp [hm, e])]
theorem places_set {O : List Int} {n i k : Nat} (hn : O.Nodup) (hi : i < O.length) (hk : O.getD i 0 = (k : Int)) : (placesL (O.take i) n).set k (i : Int) = placesL (O.take (i + 1)) n := by
  have e : O.take (i + 1) = O.take i ++ [(k : Int)] := by
    rw [List.take_add_one, List.getElem?_eq_getElem hi, ← hk, List.getD_eq_getElem?_getD, List.getElem?_eq_getElem hi]; rfl
  have hnd : (O.take i ++ [(k : Int)]).Nodup := by rw [← e]; exact hn.sublist (List.take_sublist _ _)
  apply List.ext_getElem
  · simp [places_len]
  · intro j h1 h2
    have hj : j < n := by rw [places_len] at h2; exact h2
    rw [List.getElem_set]
    rw [places_at, places_at, e, place_snoc hnd]
    have hl : (O.take i).length = i := by rw [List.length_take]; omega
    by_cases q : k = j
    · subst q; rw [if_pos rfl, if_pos rfl, hl]
    · rw [if_neg q, if_neg (by omega)]
set_option maxRecDepth 100000 in
set_option maxHeartbeats 2000000 in
theorem places_any (O : List Int) (n : Nat) (ov : Value) (w : World) (h : IntsAt w ov O) (h1 : 1 ≤ n) (hn : n ≤ 100000) (hnd : O.Nodup) (hin : ∀ x ∈ O, ∃ k : Nat, x = (k : Int) ∧ k < n) :
    Calls Tryz.prog 37 #[ov, .int .i64 (n : Int)] w fun e w' => ∃ v', e = .returned v' ∧ OwnI w' w.heap.size v' (placesL O n) ∧ Below w.heap.size w w' := by
  obtain ⟨oa, oc, rfl, hol⟩ := h.form
  have HO : Hid (∀ i, i < O.length → _) := fun i hi => h.get (i := i) hi
  have HK : Hid (∀ i, i < O.length → ∃ k : Nat, O.getD i 0 = (k : Int) ∧ k < n ∧ (placesL (O.take i) n).set k (i : Int) = placesL (O.take (i + 1)) n) := fun i hi => by
    obtain ⟨k, hk, hkn⟩ := hin (O.getD i 0) (by rw [List.getD_eq_getElem?_getD, List.getElem?_eq_getElem hi]; exact List.getElem_mem hi)
    exact ⟨k, hk, hkn, places_set hnd hi hk⟩
  have HF : Hid (placesL (O.take O.length) n = placesL O n) := by show _ = _; rw [List.take_length]
  have HPL : Hid (∀ i, (placesL (O.take i) n).length = n) := fun i => places_len _ _
  have HP0 : Hid (List.replicate n (-1) = placesL (O.take 0) n) := by show _ = _; rw [List.take_zero, places_nil]
  have HRP : Hid (∀ W : World, W.cell? ⟨w.heap.size, 0, none⟩ = some (.int .i64 (-1)) → w.heap.size < W.heap.size → Calls Tryz.prog 52 #[.slice (some ⟨w.heap.size, 0, none⟩) 1 1, .int .i64 (n : Int)] W fun e w' => e = .returned (.slice (some ⟨W.heap.size, 0, none⟩) n n) ∧ OwnI w' W.heap.size (.slice (some ⟨W.heap.size, 0, none⟩) n n) (List.replicate n (-1)) ∧ Below W.heap.size W w') := fun W hc hl => repeat_any (-1) n w.heap.size h1 (by omega) W hc hl
  have HC1 : Hid ((w.alloc (.cells #[.int .i64 (-1)] 3)).cell? ⟨w.heap.size, 0, none⟩ = some (.int .i64 (-1))) := by show _ = _; have := cell_one_new w (.int .i64 (-1)) 3 0 (.int .i64 (-1)) rfl; rw [Addr.add_lit] at this; exact this
  have HS1 : Hid ((w.alloc (.cells #[.int .i64 (-1)] 3)).heap.size = w.heap.size + 1) := by show _ = _; simp
  have HB1 : Hid (Below w.heap.size w (w.alloc (.cells #[.int .i64 (-1)] 3))) := below_alloc (Below.refl _ _) _
  clear h hnd hin
  generalize hm : O.length = m at *
  clear hm
  go_enter Tryz.func37, Tryz.ntmps37
  go_wp2_with (go_at_call 52; go_loud (refine Calls.mono (by exact HRP.out _ HC1.out (by have := HS1.out; omega)) ?_; rintro e w1 ⟨rfl, ho1, hb1⟩; have HO1 : Hid (OwnI w1 w.heap.size (.slice (some ⟨w.heap.size + 1, 0, none⟩) n n) (placesL (O.take 0) n) ∧ Below w.heap.size w w1) := (by rw [HS1.out] at ho1; rw [← HP0.out]; exact ⟨own_mono ho1 (by omega), below_trans HB1.out hb1⟩); clear ho1 hb1))
  go_loopw [13] (fun vi wr => ∃ (i : Nat), vi = .int .i64 i ∧ i ≤ m ∧ Hid (Below w.heap.size w wr ∧ OwnI wr w.heap.size (.slice (some ⟨w.heap.size + 1, 0, none⟩) n n) (placesL (O.take i) n))) (fun vi _ => m - (intOf vi).toNat)
  case atStart => exact ⟨0, rfl, by omega, HO1.out.2, HO1.out.1⟩
  case round =>
    obtain ⟨i, rfl, hi, hr⟩ := hrel
    clear HO1
    generalize wr = wo at *
    by_cases hinn : i < m
    · obtain ⟨g, o, rfl, hg, c0⟩ := HO.out i hinn
      obtain ⟨k, hk, hkn, hset⟩ := HK.out i hinn
      rw [hk] at c0
      have c0' : wo.cell? ⟨g, o + i, none⟩ = _ := (hr.out.1.cell (p := ⟨g, o + i, none⟩) hg).trans c0
      have hin' : (i : Int) < m := by omega
      have hkn' : (k : Int) < n := by omega
      have hrw : wo.ownsRow w.heap.size 3 1 (.slice (some ⟨w.heap.size + 1, 0, none⟩) n n) n ((placesL (O.take i) n).map intV) := by have h9 := hr.out.2; unfold OwnI at h9; rw [HPL.out] at h9; exact h9
      have hfz := hrw.frozenAt k
      have hcl : wo.cell? ⟨w.heap.size + 1, k, none⟩ = some (.int .i64 ((placesL (O.take i) n).getD k 0)) := by
        rw [hrw.cellAt k (by omega), List.getElem?_map, getD_some (by rw [HPL.out]; exact hkn)]; rfl
      have HN : Hid (Below w.heap.size w (wo.setCell ⟨w.heap.size + 1, k, none⟩ (.int .i64 (i : Int))) ∧ OwnI (wo.setCell ⟨w.heap.size + 1, k, none⟩ (.int .i64 (i : Int))) w.heap.size (.slice (some ⟨w.heap.size + 1, 0, none⟩) n n) (placesL (O.take (i + 1)) n)) := by
        refine ⟨hr.out.1.setCell (p := ⟨w.heap.size + 1, k, none⟩) (Nat.le_succ _) _, ?_⟩
        have h9 := (World.ownsRow.stored hrw k (.int .i64 (i : Int))).1
        show World.ownsRow _ _ _ _ _ _ _
        rw [HPL.out, ← hset, List.map_set]
        exact h9
      clear hr hrw hset hk HO HK c0
      go_wp2
      go_roundw
      case rel => exact ⟨i + 1, by first | rfl | (congr 1; omega), by omega, HN.out⟩
      case measure => simp [intOf]; omega
    · obtain rfl : i = m := by omega
      have HRR : Hid _ := hr.out
      clear hr HO HK
      go_wp2
      go_ret
      exact ⟨_, rfl, by rw [← HF.out]; exact HRR.out.2, HRR.out.1⟩
end Go.Proofs.YtabpnjakfoofpaaGreatDoor
/- Cells of instructions and blocks; rows of one's own: what copies want. -/
namespace Go.Proofs.YtabpnjakfoofpaaGreatDoor
open Go.RowKit

theorem own_shape {w : World} {base : Nat} {e : TypeId} {sz : Nat} {v : Value} {n : Nat} {cs : List Value} (h : w.ownsRow base e sz v n cs) : (v = .slice none 0 0 ∧ n = 0) ∨ ∃ g c, v = .slice (some ⟨g, 0, none⟩) n c ∧ n ≤ c ∧ c ≤ maxLen ∧ base ≤ g ∧ g < w.heap.size := by
  rcases h.2 with h0 | ⟨g, cap, cur, hv, h1, hh, h2, h3, _⟩
  · exact .inl h0
  · exact .inr ⟨g, cap, hv, h2, h3, h1, (Array.getElem?_eq_some_iff.1 hh).1⟩
theorem insCells_len : ∀ {l : List In} {avs : List Value}, avs.length = l.length → (insCells l avs).length = l.length * 6
  | [], _, _ => by simp [insCells]
  | x :: l, [], h => by simp at h
  | x :: l, a :: avs, h => by
    have := insCells_len (l := l) (avs := avs) (by simpa using h)
    unfold insCells
    rw [List.length_append, this, List.length_cons, Nat.add_mul]
    simp [inCells]; omega
theorem blsCells_len : ∀ {l : List Bl} {avs : List Value}, avs.length = l.length → (blsCells l avs).length = l.length * 6
  | [], _, _ => by simp [blsCells]
  | x :: l, [], h => by simp at h
  | x :: l, a :: avs, h => by
    have := blsCells_len (l := l) (avs := avs) (by simpa using h)
    unfold blsCells
    rw [List.length_append, this, List.length_cons, Nat.add_mul]
    simp [blCells]; omega
theorem insCells_cons (x : In) (l : List In) (a : Value) (avs : List Value) : insCells (x :: l) (a :: avs) = inCells x a ++ insCells l avs := rfl
theorem blsCells_cons (x : Bl) (l : List Bl) (a : Value) (avs : List Value) : blsCells (x :: l) (a :: avs) = blCells x a ++ blsCells l avs := rfl
theorem set_six {p l : List Value} (hp : p.length = 6) (i q : Nat) (u : Value) : (p ++ l).set ((i + 1) * 6 + q) u = p ++ l.set (i * 6 + q) u := by
  rw [List.set_append_right _ _ (by rw [hp, Nat.add_mul]; omega), hp, show (i + 1) * 6 + q - 6 = i * 6 + q by omega]
theorem set_six0 {p l : List Value} (hp : p.length = 6) (i : Nat) (u : Value) : (p ++ l).set ((i + 1) * 6) u = p ++ l.set (i * 6) u := set_six hp i 0 u
theorem infoBl : (Tryz.prog.info? 40).map (fun i => (i.zero, i.size, i.bytes)) = some (some (.agg #[.slice none 0 0, .int .u8 0, .int .i64 0, .int .i64 0, .int .i64 0, .int .u8 0]), 6, 64) := by kernel_rfl
theorem infoIn : (Tryz.prog.info? 58).map (fun i => (i.zero, i.size, i.bytes)) = some (some (.agg #[.int .u8 0, .int .u8 0, .int .i64 0, .slice none 0 0, .int .u64 0, .int .i64 0]), 6, 56) := by kernel_rfl
theorem getD_somL {α : Type} [Inhabited α] {l : List α} {i : Nat} (h : i < l.length) : l[i]? = some (l.getD i default) := by simp [List.getElem?_eq_getElem h]
theorem row_of_own {w : World} {base g n c : Nat} {e : TypeId} {sz : Nat} {cs : List Value} (h : w.ownsRow base e sz (.slice (some ⟨g, 0, none⟩) n c) n cs) (hn : n ≤ 1000000) (hc : n ≤ c) : RowAt w (.slice (some ⟨g, 0, none⟩) n c) n cs :=
  ⟨_, _, rfl, ⟨hc, by omega⟩, .inr ⟨g, 0, rfl, (h.lt g rfl).2, fun j u hj => by
    have hl : j < n * sz := by have := (List.getElem?_eq_some_iff.1 hj).1; rw [h.1] at this; exact this
    rw [Nat.zero_add, h.cellAt j hl]; exact hj⟩⟩
theorem own_six {w : World} {base g n c i : Nat} {e : TypeId} {cs : List Value} (h : w.ownsRow base e 6 (.slice (some ⟨g, 0, none⟩) n c) n cs) (u0 u1 u2 u3 u4 u5 : Value) :
    ((((((w.setCell ⟨g, i * 6, none⟩ u0).setCell ⟨g, i * 6 + 1, none⟩ u1).setCell ⟨g, i * 6 + 2, none⟩ u2).setCell ⟨g, i * 6 + 3, none⟩ u3).setCell ⟨g, i * 6 + 4, none⟩ u4).setCell ⟨g, i * 6 + 5, none⟩ u5).ownsRow base e 6 (.slice (some ⟨g, 0, none⟩) n c) n ((((((cs.set (i * 6) u0).set (i * 6 + 1) u1).set (i * 6 + 2) u2).set (i * 6 + 3) u3).set (i * 6 + 4) u4).set (i * 6 + 5) u5) :=
  ((((((h.stored _ u0).1).stored _ u1).1.stored _ u2).1.stored _ u3).1.stored _ u4).1.stored _ u5 |>.1
theorem hsc {w : World} {g i : Nat} {cs : Array Value} {t : TypeId} (hg : w.heap[g]? = some (.cells cs t (0, 0))) (v : Value) : (w.setCell ⟨g, i, none⟩ v).heap[g]? = some (.cells (cs.setIfInBounds i v) t (0, 0)) := heap_setCell_same w g i cs t v hg
theorem bl_one : ∀ {l : List Bl} {avs : List Value}, (∀ a ∈ avs, a.oneCell' = true) → ∀ u ∈ blsCells l avs, u.oneCell' = true
  | [], _, _, u, hu => by simp [blsCells] at hu
  | _ :: _, [], _, u, hu => by simp [blsCells] at hu
  | x :: l, a :: avs, h, u, hu => by
    rw [blsCells_cons, List.mem_append] at hu
    rcases hu with hu | hu
    · simp [blCells] at hu
      rcases hu with rfl | rfl | rfl | rfl | rfl | rfl
      · exact h _ (by simp)
      all_goals rfl
    · exact bl_one (fun b hb => h b (by simp [hb])) u hu
theorem in_one : ∀ {l : List In} {avs : List Value}, (∀ a ∈ avs, a.oneCell' = true) → ∀ u ∈ insCells l avs, u.oneCell' = true
  | [], _, _, u, hu => by simp [insCells] at hu
  | _ :: _, [], _, u, hu => by simp [insCells] at hu
  | x :: l, a :: avs, h, u, hu => by
    rw [insCells_cons, List.mem_append] at hu
    rcases hu with hu | hu
    · simp [inCells] at hu
      rcases hu with rfl | rfl | rfl | rfl | rfl | rfl
      any_goals rfl
      exact h _ (by simp)
    · exact in_one (fun b hb => h b (by simp [hb])) u hu
theorem slices_one {avs : List Value} (h : ∀ (i : Nat) (a : Value), avs[i]? = some a → ∃ x m c, a = Value.slice x m c) : ∀ a ∈ avs, a.oneCell' = true := fun a ha => by
  obtain ⟨i, hi, e⟩ := List.mem_iff_getElem.1 ha
  obtain ⟨x, m, c, e2⟩ := h i a (by rw [List.getElem?_eq_getElem hi, e])
  rw [e2]; rfl
theorem own_blk {w : World} {base base' : Nat} {e : TypeId} {sz : Nat} {v : Value} {n : Nat} {cs : List Value} (hb : base' ≤ base) (h : w.ownsRow base e sz v n cs) : ∃ a c, v = .slice a n c ∧ ∃ g, base' ≤ g ∧ (n = 0 ∨ (a = some ⟨g, 0, none⟩ ∧ n ≤ c)) := by
  rcases own_shape h with ⟨e1, e2⟩ | ⟨g, c, e1, e2, _, e3, _⟩
  · exact ⟨none, 0, by rw [e1, e2], base', Nat.le_refl _, .inl e2⟩
  · exact ⟨_, _, e1, g, Nat.le_trans hb e3, .inr ⟨rfl, e2⟩⟩
theorem getD_memI {L : List In} {i : Nat} (h : i < L.length) : L.getD i default ∈ L := by
  have e : L.getD i default = L[i] := by simp [List.getD, List.getElem?_eq_getElem h]
  rw [e]; exact List.getElem_mem h
end Go.Proofs.YtabpnjakfoofpaaGreatDoor
