/- A long row of nodes, each leading on and back to the entry: its tree. And what lies in memory of it. -/
import Derived.Test.YthedgacidphgnaaDMem
import Derived.Test.YthedgacidphgnaaDPlain
namespace Go.Proofs.Ythedgacidphgnaa
open Go.RowKit

/-- Of n nodes, those ahead of i lead on and back to the entry. -/
def rowK (n i : Nat) : List (List Int) := (List.range n).map fun j => if j < i then [(j : Int) + 1, 0] else []
theorem rowK_len (n i : Nat) : (rowK n i).length = n := by simp [rowK]
theorem rowK_get? {n i j : Nat} (hj : j < n) : (rowK n i)[j]? = some (if j < i then [(j : Int) + 1, 0] else []) := by
  simp [rowK, hj]
theorem rowK_get {n i j : Nat} (hj : j < n) : (rowK n i).getD j [] = if j < i then [(j : Int) + 1, 0] else [] := by
  rw [List.getD, rowK_get? hj]; rfl
theorem rowK_zero (n : Nat) : List.replicate n [] = rowK n 0 := by
  apply List.ext_getElem?
  intro j
  rw [List.getElem?_replicate]
  split
  · rename_i h; rw [rowK_get? h]; simp
  · rename_i h; rw [List.getElem?_eq_none (by rw [rowK_len]; omega)]
theorem rowK_succ {n i : Nat} (hi : i < n) : (rowK n i).set i [(i : Int) + 1, 0] = rowK n (i + 1) := by
  apply List.ext_getElem?
  intro j
  rcases Nat.lt_or_ge j n with h | h
  · rw [rowK_get? h, List.getElem?_set, rowK_len, rowK_get? h]
    by_cases e : i = j
    · subst e; simp [hi]
    · rw [if_neg e]
      have : j < i ↔ j < i + 1 := by omega
      simp only [this]
  · rw [List.getElem?_eq_none (by simp [rowK_len]; omega), List.getElem?_eq_none (by rw [rowK_len]; omega)]
theorem rowK_small {n i : Nat} : ∀ r ∈ rowK n i, r.length ≤ 2 := by
  intro r hr
  obtain ⟨j, hj, e⟩ := List.getElem_of_mem hr
  rw [rowK_len] at hj
  have := rowK_get? (i := i) hj
  rw [List.getElem?_eq_getElem (by rw [rowK_len]; exact hj), e] at this
  cases this
  split <;> simp
theorem rowK_edge {n a b : Nat} : (b : Int) ∈ (rowK n (n - 1)).getD a [] → a + 1 < n ∧ (b = a + 1 ∨ b = 0) := by
  intro h
  rcases Nat.lt_or_ge a n with ha | ha
  · rw [rowK_get ha] at h
    split at h
    · simp at h; omega
    · simp at h
  · rw [List.getD, List.getElem?_eq_none (by rw [rowK_len]; exact ha)] at h
    simp at h
theorem rowK_on {n a : Nat} (ha : a + 1 < n) : ((a + 1 : Nat) : Int) ∈ (rowK n (n - 1)).getD a [] := by
  rw [rowK_get (by omega), if_pos (by omega)]
  simp
theorem rowK_may {n : Nat} (hn : 0 < n) : May (rowK n (n - 1)) := by
  refine ⟨by rw [rowK_len]; exact hn, fun r hr x hx => ?_⟩
  obtain ⟨j, hj, e⟩ := List.getElem_of_mem hr
  rw [rowK_len] at hj
  have := rowK_get? (i := n - 1) hj
  rw [List.getElem?_eq_getElem (by rw [rowK_len]; exact hj), e] at this
  cases this
  rw [rowK_len]
  split at hx
  · simp at hx; omega
  · simp at hx
theorem rowK_rch {n : Nat} : ∀ b, b < n → Rch (rowK n (n - 1)) noneS b
  | 0, _ => .entry
  | b + 1, h => .step (rowK_rch b (by omega)) (fun h => h) (rowK_on h)
theorem rowK_bar {n a b : Nat} (h : Rch (rowK n (n - 1)) (· = a) b) : b ≤ a := by
  induction h with
  | entry => omega
  | step _ hs he ih => have := rowK_edge he; have : ¬ _ = a := hs; omega
theorem rowK_ov {n a b : Nat} (hb : b < n) : Ov (rowK n (n - 1)) a b ↔ a ≤ b := by
  have hd : ∀ {a b}, a ≤ b → b < n → Ov (rowK n (n - 1)) a b := fun {a b} h hb => ⟨rowK_rch a (by omega), rowK_rch b hb, (Nat.eq_or_lt_of_le h).imp id fun h2 h3 => by have := rowK_bar h3; omega⟩
  refine ⟨fun h => ?_, fun h => hd h hb⟩
  rcases Nat.lt_or_ge b a with h2 | h2
  · have ha : a < n := by have := h.1.lt (rowK_may (by omega)); rwa [rowK_len] at this
    have := h.anti (hd (a := b) (b := a) (by omega) ha)
    omega
  · exact h2
def rowT (n : Nat) : List Int := (List.range n).map fun b : Nat => (b : Int) - 1
theorem rowT_len (n : Nat) : (rowT n).length = n := by simp [rowT]
theorem rowT_get {n b : Nat} (hb : b < n) : (rowT n).getD b 0 = (b : Int) - 1 := by simp [rowT, List.getD, hb]
theorem rowK_tree {n : Nat} (hn : 0 < n) : treeL (rowK n (n - 1)) = rowT n := by
  refine (treeL_uniq (rowK_may hn) (by rw [rowT_len, rowK_len]) fun b hb => ?_).symm
  rw [rowK_len] at hb
  rw [rowT_get hb]
  rcases b with _ | b
  · exact near_entry _
  · refine .inl ⟨b, by omega, by omega, (rowK_ov hb).2 (by omega), fun c hc ho => (rowK_ov (by omega)).2 ?_⟩
    have := (rowK_ov hb).1 ho
    omega
theorem rowT_over {n a b : Nat} (ha : a < n) (hb : b < n) : overL (rowT n) (a : Int) (b : Int) = decide (a ≤ b) := by
  have h := overL_is (rowK_may (n := n) (by omega)) (a := a) (b := b) (by rw [rowK_len]; exact ha) (rowK_rch b hb)
  rw [rowK_tree (by omega)] at h
  rw [h]
  by_cases hab : a ≤ b
  · rw [dec_true ((rowK_ov hb).2 hab), decide_eq_true hab]
  · rw [dec_false (fun h => hab ((rowK_ov hb).1 h)), decide_eq_false hab]
/-- A row is laid anew. -/
theorem RowsIn.lit {w : World} {base G n : Nat} {kvs : List Value} {rows : List (List Int)} (h : RowsIn w base G n kvs rows) {t : Nat} (ht : t < n) (L : List Int) (hL : L.length ≤ 1000) :
    RowsIn ((w.alloc (.cells (L.map intV).toArray 3)).setCell ⟨G, t, none⟩ (.slice (some ⟨w.heap.size, 0, none⟩) L.length L.length)) base G n (kvs.set t (.slice (some ⟨w.heap.size, 0, none⟩) L.length L.length)) (rows.set t L) := by
  have hG := h.ltG
  have h' := h.below (below_alloc (Below.refl _ _) (.cells (L.map intV).toArray 3))
  have hO : OwnI (w.alloc (.cells (L.map intV).toArray 3)) base (.slice (some ⟨w.heap.size, 0, none⟩) L.length L.length) L := by
    have := World.ownsRow_lit (base := base) (e := 3) (size := 1) w (L.map intV).toArray L.length (by omega) (by unfold maxLen; omega) (by simp)
    simpa using this
  have hvG : (Value.slice (some ⟨w.heap.size, 0, none⟩) L.length L.length).ownBlock ≠ some G := by simp [Value.ownBlock]; omega
  refine ⟨by simp [h.klen], by simp [h.rlen], (World.ownsRow.stored h'.own t _).1, ?_, ?_⟩
  · intro i q u hq hu
    rw [List.getElem?_set] at hq hu
    by_cases e : t = i
    · subst e
      rw [if_pos rfl, if_pos (by rw [h.klen]; exact ht)] at hu
      rw [if_pos rfl, if_pos (by rw [h.rlen]; exact ht)] at hq
      cases hu; cases hq
      exact ⟨owns_other hO (by simpa using hvG) _, hvG⟩
    · rw [if_neg e] at hu hq
      obtain ⟨k1, k2⟩ := h'.kid i q u hq hu
      exact ⟨owns_other k1 (by simpa using k2) _, k2⟩
  · have old : ∀ (j : Nat) (b : Value), kvs[j]? = some b → b.ownBlock ≠ some w.heap.size := fun j b hb hbg => by
      have hj : j < rows.length := by have := (List.getElem?_eq_some_iff.1 hb).1; rw [h.klen] at this; rw [h.rlen]; exact this
      have := ((h.kid j _ b (List.getElem?_eq_getElem hj) hb).1.lt _ hbg).2
      omega
    intro i j a b g hij ha hb hag hbg
    rw [List.getElem?_set] at ha hb
    by_cases e1 : t = i
    · subst e1
      rw [if_pos rfl, if_pos (by rw [h.klen]; exact ht)] at ha
      cases ha
      rw [if_neg hij] at hb
      have : w.heap.size = g := by simpa [Value.ownBlock] using hag
      subst this
      exact old j b hb hbg
    · rw [if_neg e1] at ha
      by_cases e2 : t = j
      · subst e2
        rw [if_pos rfl, if_pos (by rw [h.klen]; exact ht)] at hb
        cases hb
        have : w.heap.size = g := by simpa [Value.ownBlock] using hbg
        subst this
        exact old i a ha hag
      · rw [if_neg e2] at hb
        exact h.apart i j a b g hij ha hb hag hbg
end Go.Proofs.Ythedgacidphgnaa
