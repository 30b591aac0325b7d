/- Which stand over which, row by row: what lies in memory. -/
import Derived.Test.YthedgacidphgnaaDRe2
import Derived.BigRegion
namespace Go.Proofs.Ythedgacidphgnaa
open Go.RowKit

noncomputable def ovRow (nx : List (List Int)) (a : Nat) : List Bool := (List.range nx.length).map fun b => dec (Ov nx a b)
noncomputable def ovRows (nx : List (List Int)) : List (List Bool) := (List.range nx.length).map (ovRow nx)
theorem ovRow_get {nx : List (List Int)} {a b : Nat} (hb : b < nx.length) (d : Bool) : (ovRow nx a).getD b d = dec (Ov nx a b) := by
  simp [ovRow, List.getD, List.getElem?_map, List.getElem?_range hb]
theorem ovRow_len (nx : List (List Int)) (a : Nat) : (ovRow nx a).length = nx.length := by simp [ovRow]
theorem ovRows_get {nx : List (List Int)} {a : Nat} (ha : a < nx.length) : (ovRows nx).getD a [] = ovRow nx a := by
  simp [ovRows, List.getD, List.getElem?_map, List.getElem?_range ha]
theorem ovRow_of {nx : List (List Int)} {a : Nat} {l : List Bool} (hl : l.length = nx.length) (h : ∀ j, j < nx.length → l.getD j false = dec (Ov nx a j)) : l = ovRow nx a := by
  apply List.ext_getElem
  · rw [hl, ovRow_len]
  · intro i h1 h2
    rw [← getD_of h1 false, ← getD_of h2 false, ovRow_get (by omega)]
    exact h i (by omega)
theorem ovRow_none {nx : List (List Int)} {a : Nat} (h : ¬ Rch nx noneS a) : List.replicate nx.length false = ovRow nx a := by
  refine ovRow_of (by simp) fun j hj => ?_
  rw [dec_false fun ho => h ho.1]
  simp [List.getD, hj]
/-- Rows of truths, the first a of them there. -/
structure OvS (w : World) (n Bo : Nat) (wr : World) (kvs : List Value) (rows : List (List Bool)) (a : Nat) : Prop where
  bel : Below w.heap.size w wr
  klen : kvs.length = n
  own : wr.ownsRow w.heap.size 46 1 (.slice (some ⟨Bo, 0, none⟩) n n) n kvs
  kid : ∀ i, i < a → ∃ g, kvs[i]? = some (.slice (some ⟨g, 0, none⟩) n n) ∧ OwnB wr w.heap.size g n (rows.getD i []) ∧ g ≠ Bo
theorem OvS.below {w wr wr' : World} {n Bo a : Nat} {kvs : List Value} {rows : List (List Bool)} (h : OvS w n Bo wr kvs rows a) (hb : Below wr.heap.size wr wr') : OvS w n Bo wr' kvs rows a :=
  ⟨below_trans h.bel hb, h.klen, owns_below h.own hb, fun i hi => by
    obtain ⟨g, h1, h2, h3⟩ := h.kid i hi
    exact ⟨g, h1, owns_below h2 hb, h3⟩⟩
theorem OvS.ltB {w wr : World} {n Bo a : Nat} {kvs : List Value} {rows : List (List Bool)} (h : OvS w n Bo wr kvs rows a) : w.heap.size ≤ Bo ∧ Bo < wr.heap.size := h.own.lt Bo rfl
/-- A new row is laid in its place; it is not there yet. -/
theorem OvS.put {w wr : World} {n Bo a : Nat} {kvs : List Value} {rows : List (List Bool)} (h : OvS w n Bo wr kvs rows a) (t : Nat) (hat : a ≤ t) (v : Value) : OvS w n Bo (wr.setCell ⟨Bo, t, none⟩ v) (kvs.set t v) rows a := by
  refine ⟨below_set h.bel h.ltB.1 _ _, by simp [h.klen], (World.ownsRow.stored h.own t v).1, fun i hi => ?_⟩
  obtain ⟨g, h1, h2, h3⟩ := h.kid i hi
  refine ⟨g, ?_, owns_other h2 (fun e => h3 (by simpa [Value.ownBlock] using e)) _, h3⟩
  rw [List.getElem?_set, if_neg (by omega)]
  exact h1
/-- One of the current row's cells is set. -/
theorem OvS.cell {w wr : World} {n Bo a g : Nat} {kvs : List Value} {rows : List (List Bool)} (h : OvS w n Bo wr kvs rows a) (hg0 : w.heap.size ≤ g) (hgB : g ≠ Bo) (hgi : ∀ i, i < a → kvs[i]? ≠ some (.slice (some ⟨g, 0, none⟩) n n)) (j : Nat) (u : Value) : OvS w n Bo (wr.setCell ⟨g, j, none⟩ u) kvs rows a := by
  refine ⟨below_set h.bel hg0 _ _, h.klen, owns_other h.own (fun e => hgB (by simpa [Value.ownBlock] using e.symm)) _, fun i hi => ?_⟩
  obtain ⟨g', h1, h2, h3⟩ := h.kid i hi
  refine ⟨g', h1, owns_other h2 (fun e => hgi i hi ?_) _, h3⟩
  have : g' = g := by simpa [Value.ownBlock] using e
  rw [← this]; exact h1
/-- The current row is whole. -/
theorem OvS.more {w wr : World} {n Bo a g : Nat} {kvs : List Value} {rows : List (List Bool)} (h : OvS w n Bo wr kvs rows a) (hk : kvs[a]? = some (.slice (some ⟨g, 0, none⟩) n n)) (hg : OwnB wr w.heap.size g n (rows.getD a [])) (hgB : g ≠ Bo) : OvS w n Bo wr kvs rows (a + 1) := by
  refine ⟨h.bel, h.klen, h.own, fun i hi => ?_⟩
  rcases Nat.lt_or_ge i a with h1 | h1
  · exact h.kid i h1
  · have : i = a := by omega
    subst this; exact ⟨g, hk, hg, hgB⟩
theorem OvS.cellB {w wr : World} {n Bo a : Nat} {kvs : List Value} {rows : List (List Bool)} (h : OvS w n Bo wr kvs rows a) {t : Nat} {kv : Value} (hk : kvs[t]? = some kv) : wr.cell? ⟨Bo, t, none⟩ = some kv := by
  have ht : t < n := by have := (List.getElem?_eq_some_iff.1 hk).1; rw [h.klen] at this; exact this
  rw [h.own.cellAt t (by omega)]
  exact hk
theorem infoSB : (Try.prog.info? 46).map (fun i => (i.zero, i.size, i.bytes)) = some (some (.slice none 0 0), 1, 24) := by kernel_rfl
theorem OvS.new (w w1 : World) (n : Nat) (rows : List (List Bool)) (hb : Below w.heap.size w w1) (hn : n ≤ 1000000) : OvS w n w1.heap.size (w1.alloc (.cells (madeCells #[.slice none 0 0] n) 46)) (List.replicate n (.slice none 0 0)) rows 0 := by
  have r1 := World.ownsRow_lit (base := w.heap.size) (e := 46) (size := 1) w1 (madeCells #[.slice none 0 0] n) n hb.size (by unfold maxLen; omega) (by simp [size_madeCells])
  rw [toList_madeCells_one] at r1
  exact ⟨below_alloc hb _, by simp, r1, fun i hi => by omega⟩
end Go.Proofs.Ythedgacidphgnaa
