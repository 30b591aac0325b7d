/- What stands ahead of a block: rising, just those with an edge to it, as many in all as there are edges. Plain. -/
import Derived.Test.YtkgjcjakadofpaaDoorGPlain
namespace Go.Proofs.YtkgjcjakadofpaaDoor

theorem putA_get {i : Int} {rows : List (List Int)} {to : Int} {j : Nat} (hj : j < rows.length) : (putA i rows to).getD j [] = rows.getD j [] ++ (if (j : Int) = to then [i] else []) := by
  unfold putA
  by_cases hb : inB to rows.length = true
  · rw [if_pos hb]
    rw [inB_iff] at hb
    simp only [List.getD, List.getElem?_modify, List.getElem?_eq_getElem hj]
    by_cases e : (j : Int) = to
    · have : to.toNat = j := by omega
      simp [e, this]
    · have : to.toNat ≠ j := by omega
      simp [e, this]
  · rw [if_neg hb]
    have e : ¬ (j : Int) = to := by
      rw [inB_iff] at hb
      omega
    simp [e]
theorem putsA_get {i : Int} {j : Nat} : ∀ {l : List Int} {rows : List (List Int)}, l.Nodup → j < rows.length → (putsA i rows l).getD j [] = rows.getD j [] ++ (if (j : Int) ∈ l then [i] else [])
  | [], rows, _, _ => by simp [putsA]
  | a :: l, rows, hn, hj => by
    unfold putsA
    rw [List.foldl_cons]
    have := putsA_get (i := i) (l := l) (rows := putA i rows a) (List.nodup_cons.1 hn).2 (by rw [putA_len]; exact hj)
    unfold putsA at this
    rw [this, putA_get hj]
    have hna := (List.nodup_cons.1 hn).1
    by_cases e : (j : Int) = a
    · subst e
      simp [hna]
    · simp [e]
def rowF (j : Nat) : List Tm → Nat → List Int
  | [], _ => []
  | t :: ts, i => (if (j : Int) ∈ nextT t then [(i : Int)] else []) ++ rowF j ts (i + 1)
theorem aheadF_get {j : Nat} : ∀ {ts : List Tm} {i : Nat} {rows : List (List Int)}, j < rows.length → (aheadF ts i rows).getD j [] = rows.getD j [] ++ rowF j ts i
  | [], _, _, _ => by simp [aheadF, rowF]
  | t :: ts, i, rows, hj => by
    unfold aheadF rowF
    rw [aheadF_get (by rw [putsA_len]; exact hj), putsA_get (next_nodup t) hj, List.append_assoc]
theorem aheadT_get {ts : List Tm} {j : Nat} (hj : j < ts.length) : (aheadT ts).getD j [] = rowF j ts 0 := by
  unfold aheadT
  rw [aheadF_get (by simpa using hj)]
  simp [List.getD, hj]
theorem rowF_mem {j : Nat} : ∀ {ts : List Tm} {i : Nat} {x : Int}, x ∈ rowF j ts i ↔ ∃ k : Nat, x = ((i + k : Nat) : Int) ∧ k < ts.length ∧ (j : Int) ∈ nextT (ts.getD k default)
  | [], _, _ => by simp [rowF]
  | t :: ts, i, x => by
    unfold rowF
    rw [List.mem_append, rowF_mem]
    constructor
    · rintro (h | ⟨k, rfl, hk, hm⟩)
      · split at h
        · simp only [List.mem_singleton] at h
          exact ⟨0, by simpa using h, by simp, by simpa using by assumption⟩
        · simp at h
      · exact ⟨k + 1, by omega, by simpa using hk, by simpa using hm⟩
    · rintro ⟨k, rfl, hk, hm⟩
      match k, hk, hm with
      | 0, _, hm =>
        left
        have : (j : Int) ∈ nextT t := by simpa using hm
        rw [if_pos this]; simp
      | k + 1, hk, hm => exact .inr ⟨k, by omega, by simpa using hk, by simpa using hm⟩
theorem rowF_lt {j : Nat} : ∀ {ts : List Tm} {i : Nat}, (rowF j ts i).Pairwise (· < ·)
  | [], _ => by simp [rowF]
  | t :: ts, i => by
    unfold rowF
    split
    · rw [List.cons_append, List.nil_append, List.pairwise_cons]
      refine ⟨fun x hx => ?_, rowF_lt⟩
      obtain ⟨k, rfl, _⟩ := rowF_mem.1 hx
      omega
    · simpa using rowF_lt
theorem mem_ahead {ts : List Tm} {j : Nat} (hj : j < ts.length) {x : Int} : x ∈ (aheadT ts).getD j [] ↔ ∃ k : Nat, x = (k : Int) ∧ k < ts.length ∧ (j : Int) ∈ nextT (ts.getD k default) := by
  rw [aheadT_get hj, rowF_mem]
  simp
theorem ahead_lt {ts : List Tm} {j : Nat} (hj : j < ts.length) : ((aheadT ts).getD j []).Pairwise (· < ·) := by rw [aheadT_get hj]; exact rowF_lt
/-- All edges. -/
def lensA (rows : List (List Int)) : Nat := (rows.map List.length).sum
def edgesT (n : Nat) (l : List Int) : Nat := l.countP (inB · n)
theorem lens_modify : ∀ (rows : List (List Int)) (k : Nat) (i : Int), k < rows.length → lensA (rows.modify k (· ++ [i])) = lensA rows + 1
  | [], k, _, h => by simp at h
  | r :: rows, 0, i, _ => by simp [lensA, List.modify]; omega
  | r :: rows, k + 1, i, h => by
    have := lens_modify rows k i (by simpa using h)
    simp [lensA, List.modify] at this ⊢
    omega
theorem lens_putA (i : Int) (rows : List (List Int)) (to : Int) : lensA (putA i rows to) = lensA rows + (if inB to rows.length then 1 else 0) := by
  unfold putA
  split
  · rename_i h
    rw [lens_modify _ _ _ (by rw [inB_iff] at h; omega)]
  · rfl
theorem lens_putsA (i : Int) : ∀ (l : List Int) (rows : List (List Int)), lensA (putsA i rows l) = lensA rows + edgesT rows.length l
  | [], rows => by simp [putsA, edgesT]
  | a :: l, rows => by
    have := lens_putsA i l (putA i rows a)
    unfold putsA at this ⊢
    rw [List.foldl_cons, this, lens_putA, putA_len]
    unfold edgesT
    rw [List.countP_cons]
    omega
def edgesF (n : Nat) (ts : List Tm) : Nat := (ts.map fun t => edgesT n (nextT t)).sum
theorem lens_aheadF : ∀ (ts : List Tm) (i : Nat) (rows : List (List Int)), lensA (aheadF ts i rows) = lensA rows + edgesF rows.length ts
  | [], _, rows => by simp [aheadF, edgesF]
  | t :: ts, i, rows => by
    unfold aheadF
    rw [lens_aheadF ts, lens_putsA, putsA_len]
    simp [edgesF]
    omega
theorem lens_rep : ∀ n, lensA (List.replicate n []) = 0
  | 0 => rfl
  | n + 1 => by
    have := lens_rep n
    simp [lensA, List.replicate_succ] at this ⊢
theorem lens_ahead (ts : List Tm) : lensA (aheadT ts) = edgesF ts.length ts := by
  unfold aheadT
  rw [lens_aheadF, lens_rep]
  simp
theorem next_len (t : Tm) : (nextT t).length ≤ 2 := by
  unfold nextT
  repeat' split
  all_goals simp
theorem edgesT_le (n : Nat) (t : Tm) : edgesT n (nextT t) ≤ 2 := Nat.le_trans List.countP_le_length (next_len t)
theorem edgesF_le (n : Nat) : ∀ ts : List Tm, edgesF n ts ≤ 2 * ts.length
  | [] => by simp [edgesF]
  | t :: ts => by
    have := edgesF_le n ts
    have := edgesT_le n t
    simp [edgesF] at *
    omega
end Go.Proofs.YtkgjcjakadofpaaDoor
