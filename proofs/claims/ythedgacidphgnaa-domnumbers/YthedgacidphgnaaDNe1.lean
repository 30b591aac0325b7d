/- What nearest holds when it begins. -/
import Derived.Test.YthedgacidphgnaaDNe0
namespace Go.Proofs.Ythedgacidphgnaa
open Go.RowKit Lt

theorem Heap.nil (w : World) (base : Nat) : Heap w base [] := ⟨fun i s h => by simp at h, fun i j a b g _ h => by simp at h⟩
theorem Heap.cons {w : World} {base : Nat} {ss : List Slot} {s : Slot} (hs : s.At w base) (hf : ∀ t ∈ ss, ∀ g, s.v.ownBlock = some g → t.v.ownBlock ≠ some g) (h : Heap w base ss) : Heap w base (s :: ss) := by
  refine ⟨fun i t ht => ?_, fun i j a b g hij ha hb hga hgb => ?_⟩
  · rcases i with _ | i
    · cases ht; exact hs
    · exact h.own i t (by simpa using ht)
  · rcases i with _ | i
    · cases ha
      rcases j with _ | j
      · exact hij rfl
      · exact hf b (List.mem_of_getElem? (by simpa using hb)) g hga hgb
    · rcases j with _ | j
      · cases hb
        exact hf a (List.mem_of_getElem? (by simpa using ha)) g hgb hga
      · exact h.apart i j a b g (by omega) (by simpa using ha) (by simpa using hb) hga hgb
theorem Heap.nils {w : World} {base : Nat} {ss : List Slot} (h : Heap w base ss) : ∀ k, Heap w base (List.replicate k (rowS nilV []) ++ ss)
  | 0 => by simpa using h
  | k + 1 => by
    rw [List.replicate_succ, List.cons_append]
    exact Heap.cons (World.ownsRow_nil _ _ _ _) (fun t _ g hg => by simp [Value.ownBlock] at hg) (Heap.nils h k)
theorem zip_mem {kvs : List Value} {rows : List (List Int)} {t : Slot} (h : t ∈ List.zipWith rowS kvs rows) : ∃ (i : Nat) (kv : Value) (r : List Int), kvs[i]? = some kv ∧ rows[i]? = some r ∧ t = rowS kv r := by
  obtain ⟨i, hi⟩ := List.getElem?_of_mem h
  rw [List.getElem?_zipWith] at hi
  rcases h1 : kvs[i]? with _ | kv
  · rw [h1] at hi; simp at hi
  · rcases h2 : rows[i]? with _ | r
    · rw [h1, h2] at hi; simp at hi
    · rw [h1, h2] at hi
      exact ⟨i, kv, r, h1, h2, by cases hi; rfl⟩
theorem RowsIn.heap {w : World} {base G n : Nat} {kvs : List Value} {rows : List (List Int)} (h : RowsIn w base G n kvs rows) : Heap w base (outS G n kvs :: List.zipWith rowS kvs rows) := by
  refine Heap.cons h.own (fun t ht g hg => ?_) ⟨fun i s hs => ?_, fun i j a b g hij ha hb hga hgb => ?_⟩
  · obtain ⟨i, kv, r, h1, h2, rfl⟩ := zip_mem ht
    have : G = g := by simpa [Value.ownBlock] using hg
    subst this
    exact (h.kid i r kv h2 h1).2
  · rw [List.getElem?_zipWith] at hs
    rcases h1 : kvs[i]? with _ | kv
    · rw [h1] at hs; simp at hs
    · rcases h2 : rows[i]? with _ | r
      · rw [h1, h2] at hs; simp at hs
      · rw [h1, h2] at hs
        cases hs
        exact (h.kid i r kv h2 h1).1
  · rw [List.getElem?_zipWith] at ha hb
    rcases h1 : kvs[i]? with _ | kv
    · rw [h1] at ha; simp at ha
    · rcases h2 : rows[i]? with _ | r
      · rw [h1, h2] at ha; simp at ha
      · rcases h3 : kvs[j]? with _ | kv2
        · rw [h3] at hb; simp at hb
        · rcases h4 : rows[j]? with _ | r2
          · rw [h3, h4] at hb; simp at hb
          · rw [h1, h2] at ha
            rw [h3, h4] at hb
            cases ha; cases hb
            exact h.apart i j kv kv2 g hij h1 h3 hga hgb
theorem Heap.mono {w : World} {b1 b2 : Nat} {ss : List Slot} (h : Heap w b2 ss) (hb : b1 ≤ b2) : Heap w b1 ss := ⟨fun i s hs => own_mono (h.own i s hs) hb, h.apart⟩
theorem Heap.mem_lt {w : World} {base : Nat} {ss : List Slot} (h : Heap w base ss) {t : Slot} (ht : t ∈ ss) {g : Nat} (hg : t.v.ownBlock = some g) : base ≤ g := by
  obtain ⟨i, hi⟩ := List.getElem?_of_mem ht
  exact ((h.own i t hi).lt g hg).1
theorem zip_rep (m : Nat) : List.zipWith rowS (List.replicate m nilV) (List.replicate m []) = List.replicate m (rowS nilV []) := by
  apply List.ext_getElem?
  intro i
  rw [List.getElem?_zipWith, List.getElem?_replicate, List.getElem?_replicate, List.getElem?_replicate]
  by_cases h : i < m
  · rw [if_pos h, if_pos h, if_pos h]
  · rw [if_neg h, if_neg h, if_neg h]
theorem nat_init {W1 w2 w3 w4 w5 w6 : World} {m g1 g2 g3 : Nat} {akv : List Value} {rows : List (List Int)} {cs : Array Value} (hm : m ≤ 2000000) (hba : BareAt W1 w2 m (slV g1 m) (slV g2 m) (slV g3 m)) (hw3 : w3 = w2.alloc (.cells #[slV g1 m, slV g2 m, slV g3 m, nilV] 52))
    (ho4 : w4.ownsRow w3.heap.size 3 1 (slV w3.heap.size m) m ((cntL m).map intV)) (hb4 : Below w3.heap.size w3 w4) (hw5 : w5 = w4.alloc (.cells (madeCells #[.slice none 0 0] m) 25)) (hr : RowsIn w6 (w5.heap.size + 1) (w5.heap.size + 1) m akv rows) (hb6 : Below (w5.heap.size + 1) (w5.alloc (.cells cs 40)) w6) :
    NAt w6 W1.heap.size ⟨w2.heap.size, g1, g2, g3, w3.heap.size, w4.heap.size, w5.heap.size + 1, m, akv, rows⟩ ⟨List.replicate m (-1), cntL m, cntL m, [], cntL m, nilV, List.replicate m nilV, List.replicate m []⟩ := by
  have s3 : w3.heap.size = w2.heap.size + 1 := by rw [hw3]; simp
  have s5 : w5.heap.size = w4.heap.size + 1 := by rw [hw5]; simp
  have hs4 := hb4.size
  have l4 : w3.heap.size < w4.heap.size := (ho4.lt _ rfl).2
  have B23 : Below w2.heap.size w2 w3 := by rw [hw3]; exact below_alloc (Below.refl _ _) _
  have B24 : Below w2.heap.size w2 w4 := below_trans B23 hb4
  have B45 : Below w4.heap.size w4 w5 := by rw [hw5]; exact below_alloc (Below.refl _ _) _
  have B56 : Below w5.heap.size w5 w6 := by
    have h1 := below_alloc (Below.refl _ w5) (.cells cs 40)
    exact h1.trans (hb6.mono (by omega))
  have B46 : Below w4.heap.size w4 w6 := below_trans B45 B56
  have B26 : Below w2.heap.size w2 w6 := below_trans B24 B46
  have B36 : Below w3.heap.size w3 w6 := below_trans hb4 B46
  have k1 := (hba.o1.lt g1 rfl)
  have k2 := (hba.o2.lt g2 rfl)
  have k3 := (hba.o3.lt g3 rfl)
  have n12 : g1 ≠ g2 := fun e => hba.a12 g1 rfl (by simp [Value.ownBlock, e])
  have n13 : g1 ≠ g3 := fun e => hba.a13 g1 rfl (by simp [Value.ownBlock, e])
  have n23 : g2 ≠ g3 := fun e => hba.a23 g2 rfl (by simp [Value.ownBlock, e])
  have hW := hba.bel.size
  have hA : Heap w6 W1.heap.size (outS (w5.heap.size + 1) m akv :: List.zipWith rowS akv rows) := (RowsIn.heap hr).mono (by omega)
  have hA0 : ∀ t ∈ (outS (w5.heap.size + 1) m akv :: List.zipWith rowS akv rows), ∀ g, t.v.ownBlock = some g → w5.heap.size + 1 ≤ g := fun t ht g hg => (RowsIn.heap hr).mem_lt ht hg
  have hK : Heap w6 W1.heap.size (List.zipWith rowS (List.replicate m nilV) (List.replicate m []) ++ (outS (w5.heap.size + 1) m akv :: List.zipWith rowS akv rows)) := by rw [zip_rep]; exact hA.nils m
  have hK0 : ∀ t ∈ (List.zipWith rowS (List.replicate m nilV) (List.replicate m []) ++ (outS (w5.heap.size + 1) m akv :: List.zipWith rowS akv rows)), ∀ g, t.v.ownBlock = some g → w5.heap.size + 1 ≤ g := fun t ht g hg => by
    rcases List.mem_append.1 ht with h | h
    · rw [zip_rep] at h
      rw [List.eq_of_mem_replicate h] at hg
      simp [Value.ownBlock] at hg
    · exact hA0 t h g hg
  have ob : ∀ {g n : Nat} {e : TypeId} {sz k : Nat} {cs : List Value} {q : Nat}, (⟨slV g n, e, sz, k, cs⟩ : Slot).v.ownBlock = some q → g = q := fun h => by simpa [Value.ownBlock] using h
  have oW : w6.ownsRow W1.heap.size 25 1 (slV w4.heap.size m) m (List.replicate m nilV) := by
    have h9 := World.ownsRow_lit (base := W1.heap.size) (e := 25) (size := 1) w4 (madeCells #[.slice none 0 0] m) m (by omega) (by unfold maxLen; omega) (by simp [size_madeCells])
    rw [toList_madeCells_one] at h9
    rw [← hw5] at h9
    exact owns_below h9 B56
  have oB : w6.ownsRow W1.heap.size 52 4 (.slice (some ⟨w2.heap.size, 0, none⟩) 1 1) 1 [slV g1 m, slV g2 m, slV g3 m, nilV] := by
    have h9 := World.ownsRow_lit (base := W1.heap.size) (e := 52) (size := 4) w2 #[slV g1 m, slV g2 m, slV g3 m, nilV] 1 (by omega) (by unfold maxLen; omega) (by simp)
    rw [← hw3] at h9
    exact owns_below h9 B36
  have H6 := Heap.cons (s := outS w4.heap.size m (List.replicate m nilV)) oW (fun t ht g hg e => by have := hK0 t ht g e; have := ob hg; omega) hK
  have H5 := Heap.cons (s := rowM w3.heap.size m (cntL m)) (own_mono (owns_below ho4 B46) (by omega)) (fun t ht g hg e => by
    have h1 := ob hg
    rcases List.mem_cons.1 ht with rfl | ht
    · have := ob e; omega
    · have := hK0 t ht g e; omega) H6
  have H4 := Heap.cons (s := rowS nilV []) (World.ownsRow_nil _ _ _ _) (fun t _ g hg => by simp [Value.ownBlock] at hg) H5
  have tail : ∀ t ∈ (rowS nilV [] :: rowM w3.heap.size m (cntL m) :: outS w4.heap.size m (List.replicate m nilV) :: (List.zipWith rowS (List.replicate m nilV) (List.replicate m []) ++ (outS (w5.heap.size + 1) m akv :: List.zipWith rowS akv rows))), ∀ g, t.v.ownBlock = some g → w3.heap.size ≤ g := fun t ht g e => by
    rcases List.mem_cons.1 ht with rfl | ht
    · simp [Value.ownBlock] at e
    · rcases List.mem_cons.1 ht with rfl | ht
      · have := ob e; omega
      · rcases List.mem_cons.1 ht with rfl | ht
        · have := ob e; omega
        · have := hK0 t ht g e; omega
  have H3 := Heap.cons (s := rowM g3 m (cntL m)) (owns_below hba.o3 B26) (fun t ht g hg e => by have := tail t ht g e; have := ob hg; omega) H4
  have H2 := Heap.cons (s := rowM g2 m (cntL m)) (owns_below hba.o2 B26) (fun t ht g hg e => by
    have h1 := ob hg
    rcases List.mem_cons.1 ht with rfl | ht
    · have := ob e; omega
    · have := tail t ht g e; omega) H3
  have H1 := Heap.cons (s := rowM g1 m (List.replicate m (-1))) (owns_below hba.o1 B26) (fun t ht g hg e => by
    have h1 := ob hg
    rcases List.mem_cons.1 ht with rfl | ht
    · have := ob e; omega
    · rcases List.mem_cons.1 ht with rfl | ht
      · have := ob e; omega
      · have := tail t ht g e; omega) H2
  have H0 := Heap.cons (s := boxS w2.heap.size [slV g1 m, slV g2 m, slV g3 m, nilV]) oB (fun t ht g hg e => by
    have h1 : w2.heap.size = g := by simpa [Value.ownBlock] using hg
    rcases List.mem_cons.1 ht with rfl | ht
    · have := ob e; omega
    · rcases List.mem_cons.1 ht with rfl | ht
      · have := ob e; omega
      · rcases List.mem_cons.1 ht with rfl | ht
        · have := ob e; omega
        · have := tail t ht g e; omega) H1
  exact ⟨H0, by have := B26.size; omega, by simp, by simp, hr.klen, hr.rlen⟩
end Go.Proofs.Ythedgacidphgnaa
