/- A queue of numbers in memory of one's own: taken from at its head, put to at its end. -/
import Derived.Test.YthedgacidphgnaaDRe2
import Derived.ArgAppend
namespace Go.Proofs.Ythedgacidphgnaa
open Go.RowKit

def OwnQ (w : World) (base : Nat) (v : Value) (xs : List Int) : Prop :=
  ∃ g o cap cur, v = .slice (some ⟨g, o, none⟩) xs.length cap ∧ base ≤ g ∧ w.heap[g]? = some (.cells cur 3 (0, 0)) ∧ xs.length ≤ cap ∧ o + cap ≤ cur.size ∧ ∀ j x, xs[j]? = some x → cur[o + j]? = some (intV x)
theorem OwnQ.form {w : World} {base : Nat} {v : Value} {xs : List Int} (h : OwnQ w base v xs) : ∃ g o cap, v = .slice (some ⟨g, o, none⟩) xs.length cap ∧ base ≤ g ∧ g < w.heap.size ∧ xs.length ≤ cap := by
  obtain ⟨g, o, cap, cur, h1, h2, h3, h4, h5, h6⟩ := h
  exact ⟨g, o, cap, h1, h2, (Array.getElem?_eq_some_iff.1 h3).1, h4⟩
theorem OwnQ.same {w w' : World} {base : Nat} {v : Value} {xs : List Int} (h : OwnQ w base v xs) (he : ∀ g, v.ownBlock = some g → w'.heap[g]? = w.heap[g]?) : OwnQ w' base v xs := by
  obtain ⟨g, o, cap, cur, h1, h2, h3, h4, h5, h6⟩ := h
  exact ⟨g, o, cap, cur, h1, h2, (he g (by rw [h1]; rfl)).trans h3, h4, h5, h6⟩
theorem OwnQ.below {w w' : World} {base : Nat} {v : Value} {xs : List Int} (h : OwnQ w base v xs) (hb : Below w.heap.size w w') : OwnQ w' base v xs := by
  refine h.same fun g hg => hb.block g ?_
  obtain ⟨g', o, cap, e, _, h3, _⟩ := h.form
  rw [e] at hg
  have : g' = g := by simpa [Value.ownBlock] using hg
  rw [← this]; exact h3
theorem OwnQ.cell {w : World} {base g o n cap : Nat} {xs : List Int} (h : OwnQ w base (.slice (some ⟨g, o, none⟩) n cap) xs) {j : Nat} {x : Int} (hx : xs[j]? = some x) : w.cell? ⟨g, o + j, none⟩ = some (intV x) := by
  obtain ⟨g', o', cap', cur, h1, h2, h3, h4, h5, h6⟩ := h
  cases h1
  simp only [World.cell?, h3]
  exact h6 j x hx
theorem OwnQ.of {w : World} {base : Nat} {v : Value} {n : Nat} {xs : List Int} (h : w.ownsRow base 3 1 v (n + 1) (xs.map intV)) : OwnQ w base v xs := by
  have hl : xs.length = n + 1 := by have := h.1; simpa using this
  rcases h.2 with ⟨_, h0⟩ | ⟨g, cap, cur, hv, h1, hh, h2, h3, h4, h5⟩
  · omega
  · refine ⟨g, 0, cap, cur, by rw [hv, hl], h1, hh, by omega, by omega, fun j x hx => ?_⟩
    have hj : j < n + 1 := by have := (List.getElem?_eq_some_iff.1 hx).1; omega
    have h6 := congrArg (fun l : List Value => l[j]?) h5
    simp only [List.getElem?_take, List.getElem?_map, hx, Nat.mul_one, if_pos hj, Array.getElem?_toList] at h6
    rw [Nat.zero_add]
    exact h6
/-- What is left behind its head. -/
theorem OwnQ.tail {w : World} {base g o n cap : Nat} {x : Int} {xs : List Int} (h : OwnQ w base (.slice (some ⟨g, o, none⟩) n cap) (x :: xs)) : n = xs.length + 1 ∧ OwnQ w base (sliced (some ⟨g, o, none⟩) 1 n cap 1) xs := by
  obtain ⟨g', o', cap', cur, h1, h2, h3, h4, h5, h6⟩ := h
  cases h1
  refine ⟨by simp, ?_⟩
  simp only [List.length_cons] at h4 ⊢
  unfold sliced
  by_cases hc : cap = 1
  · have hx : xs = [] := List.eq_nil_of_length_eq_zero (by omega)
    subst hx
    rw [if_pos hc]
    exact ⟨g, o, cap - 1, cur, rfl, h2, h3, by simp, by omega, fun j x hx => by simp at hx⟩
  · rw [if_neg hc]
    refine ⟨g, o + 1, cap - 1, cur, ?_, h2, h3, by omega, by omega, fun j y hy => ?_⟩
    · simp [Addr.add]
    · have := h6 (j + 1) y (by simpa using hy)
      rw [show o + 1 + j = o + (j + 1) by omega]
      exact this
/-- One more at its end, where there is room. -/
theorem OwnQ.room {w : World} {base g o n cap : Nat} {xs : List Int} {y : Int} (h : OwnQ w base (.slice (some ⟨g, o, none⟩) n cap) xs) (hn : n + 1 ≤ cap) : OwnQ (w.setCells g (o + n * 1) [intV y]) base (.slice (some ⟨g, o, none⟩) (n + 1) cap) (xs ++ [y]) ∧ (∀ k, k ≠ g → (w.setCells g (o + n * 1) [intV y]).heap[k]? = w.heap[k]?) ∧ (w.cell? ⟨g, o + n * 1, none⟩).isSome = true ∧ w.frozen? ⟨g, o + n * 1, none⟩ = false := by
  obtain ⟨g', o', cap', cur, h1, h2, h3, h4, h5, h6⟩ := h
  cases h1
  have hg : g < w.heap.size := (Array.getElem?_eq_some_iff.1 h3).1
  have hset : (w.setCells g (o + xs.length * 1) [intV y]) = w.setCell ⟨g, o + xs.length * 1, none⟩ (intV y) := by
    simp [World.setCells]
  rw [hset]
  have hb : (w.setCell ⟨g, o + xs.length * 1, none⟩ (intV y)).heap[g]? = some (.cells (cur.setIfInBounds (o + xs.length) (intV y)) 3 (0, 0)) := by
    simp only [World.setCell, Nat.mul_one]
    rw [Array.getElem?_modify, if_pos rfl, h3]
    rfl
  refine ⟨⟨g, o, cap, _, by simp, h2, hb, by simpa using hn, by simpa using h5, fun j x hx => ?_⟩, fun k hk => Below.heap_setCell _ _ _ _ (by simpa using hk), ?_, ?_⟩
  · rw [Array.getElem?_setIfInBounds]
    by_cases e : j = xs.length
    · subst e
      rw [if_pos rfl, if_pos (by omega)]
      rw [List.getElem?_append_right (Nat.le_refl _)] at hx
      simp at hx
      rw [hx]
    · have hj : j < xs.length := by
        have := (List.getElem?_eq_some_iff.1 hx).1
        simp at this
        omega
      rw [if_neg (by omega)]
      rw [List.getElem?_append_left hj] at hx
      exact h6 j x hx
  · simp only [World.cell?, h3, Nat.mul_one]
    rw [Array.getElem?_eq_getElem (by omega)]
    rfl
  · simp only [World.frozen?, h3]
    rfl
end Go.Proofs.Ythedgacidphgnaa
