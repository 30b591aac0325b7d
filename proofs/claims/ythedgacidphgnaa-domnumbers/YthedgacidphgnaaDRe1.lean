/- Going through a net: what lies in memory. -/
import Derived.Test.YthedgacidphgnaaDMay
namespace Go.Proofs.Ythedgacidphgnaa
open Go.RowKit

/-- Truths in a row of one's own, n of them, at a block. -/
abbrev OwnB (w : World) (base b n : Nat) (l : List Bool) : Prop := w.ownsRow base 4 1 (.slice (some ⟨b, 0, none⟩) n n) n (l.map Value.bool)
theorem OwnB.len {w : World} {base b n : Nat} {l : List Bool} (h : OwnB w base b n l) : l.length = n := by have := h.1; simpa using this
theorem OwnB.at' {w : World} {base b n : Nat} {l : List Bool} (h : OwnB w base b n l) {k : Nat} (hk : k < n) (d : Bool) : w.cell? ⟨b, k, none⟩ = some (.bool (l.getD k d)) := by
  rw [h.cellAt k (by omega), List.getElem?_map, List.getElem?_eq_getElem (by rw [h.len]; exact hk), getD_of (by rw [h.len]; exact hk)]
  rfl
theorem OwnB.lt' {w : World} {base b n : Nat} {l : List Bool} (h : OwnB w base b n l) : base ≤ b ∧ b < w.heap.size := h.lt b rfl
theorem OwnB.set' {w : World} {base b n : Nat} {l : List Bool} (h : OwnB w base b n l) (k : Nat) (u : Bool) : OwnB (w.setCell ⟨b, k, none⟩ (.bool u)) base b n (l.set k u) := by
  have := (World.ownsRow.stored h k (.bool u)).1
  show World.ownsRow _ _ _ _ _ _ _
  rw [List.map_set]
  exact this
theorem OwnB.made (w : World) (base n : Nat) (hb : base ≤ w.heap.size) (hn : n ≤ 1000000) : OwnB (w.alloc (.cells (madeCells #[.bool false] n) 4)) base w.heap.size n (List.replicate n false) := by
  have r1 := World.ownsRow_lit (base := base) (e := 4) (size := 1) w (madeCells #[.bool false] n) n hb (by unfold maxLen; omega) (by simp [size_madeCells])
  rw [made_bools] at r1
  exact r1
theorem alloc_set0 (w : World) (cs : Array Value) (t : TypeId) (j : Nat) (u : Value) : (w.alloc (.cells cs t)).setCell ⟨w.heap.size, j, none⟩ u = w.alloc (.cells (cs.setIfInBounds j u) t) := World.setCell_alloc_at (w := w) cs t _ j u rfl
structure GoS (w : World) (n : Nat) (wr : World) (vw : Value) (met : List Bool) (wait : List Int) : Prop where
  bel : Below w.heap.size w wr
  mrow : OwnB wr w.heap.size w.heap.size n met
  wrow : OwnI wr (w.heap.size + 1) vw wait
theorem GoS.below {w wr wr' : World} {n : Nat} {vw : Value} {met : List Bool} {wait : List Int} (h : GoS w n wr vw met wait) (hb : Below wr.heap.size wr wr') : GoS w n wr' vw met wait :=
  ⟨below_trans h.bel hb, owns_below h.mrow hb, owns_below h.wrow hb⟩
theorem GoS.mark {w wr : World} {n : Nat} {vw : Value} {met : List Bool} {wait : List Int} (h : GoS w n wr vw met wait) (k : Nat) : GoS w n (wr.setCell ⟨w.heap.size, k, none⟩ (.bool true)) vw (met.set k true) wait :=
  ⟨below_set h.bel (Nat.le_refl _) _ _, h.mrow.set' k true, owns_other h.wrow (fun e => by have := (h.wrow.lt _ e).1; simp at this; omega) _⟩
theorem GoS.push {w wr w2 : World} {n : Nat} {vw v2 : Value} {met : List Bool} {wait : List Int} {x : Int} (h : GoS w n wr vw met wait) (ho : w2.ownsRow (w.heap.size + 1) 3 1 v2 (wait.length + 1) (wait.map intV ++ [intV x])) (hg : wr.grownBy w2 vw.ownBlock) : GoS w n w2 v2 met (wait ++ [x]) := by
  have hne : ∀ q, vw.ownBlock = some q → w.heap.size + 1 ≤ q := fun q hq => (h.wrow.lt q hq).1
  refine ⟨below_grown h.bel hg fun q hq => Nat.le_trans (Nat.le_succ _) (hne q hq), owns_same h.mrow fun q hq => ?_, ?_⟩
  · have e : w.heap.size = q := by simpa [Value.ownBlock] using hq
    subst e
    exact hg.block _ h.mrow.lt'.2 (fun e => by have := hne _ e.symm; omega)
  · show World.ownsRow _ _ _ _ _ _ _
    simpa using ho
theorem GoS.pop {w wr : World} {n g m c : Nat} {met : List Bool} {wait : List Int} {x : Int} (hm : m = wait.length + 1) (h : GoS w n wr (.slice (some ⟨g, 0, none⟩) m c) met (wait ++ [x])) : GoS w n wr (.slice (some ⟨g, 0, none⟩) wait.length c) met wait :=
  ⟨h.bel, h.mrow, own_cut hm h.wrow⟩
end Go.Proofs.Ythedgacidphgnaa
