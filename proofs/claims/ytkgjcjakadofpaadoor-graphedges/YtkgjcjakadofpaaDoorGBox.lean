/- Variables in memory; rows of one's own. -/
import Derived.Test.YtkgjcjakadofpaaDoorGSmall
namespace Go.Proofs.YtkgjcjakadofpaaDoor
open Go.RowKit

abbrev ptr (b : Nat) : Value := .pointer (some ⟨b, 0, none⟩)
/-- A variable at block b, cell by cell. -/
structure Box (w : World) (b : Nat) (cs : List Value) : Prop where
  lt : b < w.heap.size
  cell : ∀ (j : Nat) (u : Value), cs[j]? = some u → w.cell? ⟨b, j, none⟩ = some u
  fz : ∀ j, w.frozen? ⟨b, j, none⟩ = false
theorem Box.same {w w' : World} {b : Nat} {cs : List Value} (h : Box w b cs) (he : w'.heap[b]? = w.heap[b]?) : Box w' b cs := by
  refine ⟨?_, fun j u hj => (World.cell?_of_block (w := w) (a := ⟨b, j, none⟩) he).trans (h.cell j u hj), fun j => (World.frozen?_of_block (w := w) (a := ⟨b, j, none⟩) he).trans (h.fz j)⟩
  rcases Nat.lt_or_ge b w'.heap.size with h1 | h1
  · exact h1
  · rw [Array.getElem?_eq_none h1, Array.getElem?_eq_getElem h.lt] at he
    cases he
theorem Box.below {w w' : World} {b : Nat} {cs : List Value} (h : Box w b cs) (hk : Below w.heap.size w w') : Box w' b cs := h.same (hk.block b h.lt)
theorem Box.other {w : World} {b : Nat} {cs : List Value} (h : Box w b cs) {a : Addr} (ha : b ≠ a.block) (u : Value) : Box (w.setCell a u) b cs := h.same (Below.heap_setCell _ _ _ _ ha)
theorem Box.set {w : World} {b : Nat} {cs : List Value} (h : Box w b cs) {j : Nat} (hj : j < cs.length) (u : Value) : Box (w.setCell ⟨b, j, none⟩ u) b (cs.set j u) := by
  refine ⟨by simpa [World.setCell] using h.lt, fun i x hi => ?_, fun i => by rw [World.frozen?_setCell]; exact h.fz i⟩
  rw [List.getElem?_set] at hi
  by_cases hij : j = i
  · subst hij
    rw [if_pos rfl, if_pos hj] at hi
    cases hi
    exact World.cell?_setCell_same _ _ _ (h.cell j _ (List.getElem?_eq_getElem hj))
  · rw [if_neg hij] at hi
    rw [World.cell?_setCell_other _ _ _ _ (by intro hh; simp at hh <;> omega)]
    exact h.cell i x hi
theorem Box.new (w : World) (cs : List Value) (t : TypeId) : Box (w.alloc (.cells cs.toArray t)) w.heap.size cs := by
  have hh := heap_alloc_new w (.cells cs.toArray t)
  refine ⟨by simp, fun j u hj => ?_, fun j => ?_⟩
  · simp only [World.cell?, hh]; simpa using hj
  · simp only [World.frozen?, hh]; rfl
theorem owns_other {w : World} {base : Nat} {e : TypeId} {sz : Nat} {v : Value} {n : Nat} {xs : List Value} (h : w.ownsRow base e sz v n xs) {a : Addr} (ha : v.ownBlock ≠ some a.block) (u : Value) : (w.setCell a u).ownsRow base e sz v n xs := by
  refine ⟨h.1, ?_⟩
  rcases h.2 with h0 | ⟨g, cap, cur, hv, h1, hh, h2⟩
  · exact .inl h0
  · refine .inr ⟨g, cap, cur, hv, h1, (Below.heap_setCell _ _ _ _ ?_).trans hh, h2⟩
    intro hc
    rw [hv] at ha
    exact ha (by simp [Value.ownBlock, hc])
theorem owns_same {w w' : World} {base : Nat} {e : TypeId} {sz : Nat} {v : Value} {n : Nat} {xs : List Value} (h : w.ownsRow base e sz v n xs) (he : ∀ g, v.ownBlock = some g → w'.heap[g]? = w.heap[g]?) : w'.ownsRow base e sz v n xs := by
  refine ⟨h.1, ?_⟩
  rcases h.2 with h0 | ⟨g, cap, cur, hv, h1, hh, h2⟩
  · exact .inl h0
  · exact .inr ⟨g, cap, cur, hv, h1, (he g (by rw [hv]; rfl)).trans hh, h2⟩
theorem owns_below {w w' : World} {base : Nat} {e : TypeId} {sz : Nat} {v : Value} {n : Nat} {xs : List Value} (h : w.ownsRow base e sz v n xs) (hb : Below w.heap.size w w') : w'.ownsRow base e sz v n xs :=
  owns_same h fun g hg => hb.block g (h.lt g hg).2
theorem own_mono {w : World} {base base' : Nat} {e : TypeId} {size : Nat} {v : Value} {n : Nat} {xs : List Value} (h : w.ownsRow base e size v n xs) (hb : base' ≤ base) : w.ownsRow base' e size v n xs := by
  refine ⟨h.1, ?_⟩
  rcases h.2 with h0 | ⟨g, cap, cur, hv, h1, h2⟩
  · exact .inl h0
  · exact .inr ⟨g, cap, cur, hv, Nat.le_trans hb h1, h2⟩
theorem own_form {w : World} {base : Nat} {e : TypeId} {sz : Nat} {v : Value} {n : Nat} {xs : List Value} (h : w.ownsRow base e sz v (n + 1) xs) : ∃ g cap, v = .slice (some ⟨g, 0, none⟩) (n + 1) cap ∧ base ≤ g ∧ g < w.heap.size ∧ n + 1 ≤ cap ∧ cap ≤ maxLen := by
  rcases h.2 with ⟨_, h0⟩ | ⟨g, cap, cur, hv, h1, hh, h2, h3, _⟩
  · omega
  · exact ⟨g, cap, hv, h1, (Array.getElem?_eq_some_iff.1 hh).1, h2, h3⟩
theorem own_snoc {w : World} {base : Nat} {v : Value} {l : List Int} {x : Int} (h : OwnI w base v (l ++ [x])) : w.ownsRow base 3 1 v (l.length + 1) (l.map intV ++ [intV x]) := by
  have h2 : w.ownsRow base 3 1 v (l ++ [x]).length ((l ++ [x]).map intV) := h
  simpa using h2
/-- A row without its last element. -/
theorem own_cut {w : World} {base g c : Nat} {l : List Int} {x : Int} {n : Nat} (hn : n = l.length + 1) (h : OwnI w base (.slice (some ⟨g, 0, none⟩) n c) (l ++ [x])) : OwnI w base (.slice (some ⟨g, 0, none⟩) l.length c) l := by
  subst hn
  refine ⟨by simp, ?_⟩
  rcases h.2 with ⟨h0, _⟩ | ⟨g', cap, cur, hv, h1, hh, h2, h3, h4, h5⟩
  · cases h0
  · injection hv with e1 e2 e3
    cases e1
    subst e3
    refine .inr ⟨g, c, cur, rfl, h1, hh, by simp at h2; omega, h3, h4, ?_⟩
    have h6 := congrArg (List.take l.length) h5
    rw [List.take_take] at h6
    simpa using h6
theorem slice_cut {g m c f : Nat} (hm : m ≤ c) (hf : f ≤ m) : ∀ W, (Instr.slice 28 (.slice (some ⟨g, 0, none⟩) m c) none (some (.int .i64 (f : Int))) none).run Tryd.prog W = .ok (.slice (some ⟨g, 0, none⟩) f c) W := fun W => by
  have hs : ∀ W : World, (sizeOf (Tryd.prog.elem 28)).run Tryd.prog W = .ok 1 W := fun W => by kernel_rfl
  have hu : Tryd.prog.underlying 28 = some (.slice (Tryd.prog.elem 28)) := by kernel_rfl
  rw [run_slice_h W 28 _ m c hu .i64 f (by omega) (by omega), hs]
  simp [Result.andThen, sliced, Addr.add]
theorem infoI : (Tryd.prog.info? 3).map (fun i => (i.zero, i.size, i.bytes)) = some (some (.int .i64 0), 1, 8) := by kernel_rfl
end Go.Proofs.YtkgjcjakadofpaaDoor
