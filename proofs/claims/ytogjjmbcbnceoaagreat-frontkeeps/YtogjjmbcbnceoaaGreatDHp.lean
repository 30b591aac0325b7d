/- Rows of one's own, many at once: which stay as they are when one of them changes. -/
import Derived.Test.YtogjjmbcbnceoaaGreatDMem
namespace Go.Proofs.YtogjjmbcbnceoaaGreat
open Go.RowKit

/-- A row of one's own: its value, the type and size of its elements, how many, their cells. -/
structure Slot where
  v : Value
  e : TypeId
  sz : Nat
  n : Nat
  cs : List Value
def Slot.At (w : World) (base : Nat) (s : Slot) : Prop := w.ownsRow base s.e s.sz s.v s.n s.cs
/-- Rows that lie apart: no two in one block. -/
structure Heap (w : World) (base : Nat) (ss : List Slot) : Prop where
  own : ∀ (i : Nat) (s : Slot), ss[i]? = some s → s.At w base
  apart : ∀ (i j : Nat) (a b : Slot) (g : Nat), i ≠ j → ss[i]? = some a → ss[j]? = some b → a.v.ownBlock = some g → b.v.ownBlock ≠ some g
theorem Slot.At.same {w w' : World} {base : Nat} {s : Slot} (h : s.At w base) (he : ∀ g, s.v.ownBlock = some g → w'.heap[g]? = w.heap[g]?) : s.At w' base := owns_same h he
theorem Heap.same {w w' : World} {base : Nat} {ss : List Slot} (h : Heap w base ss) (hw : w'.heap = w.heap) : Heap w' base ss :=
  ⟨fun i s hs => (h.own i s hs).same fun g _ => by rw [hw], h.apart⟩
theorem Heap.below {w w' : World} {base : Nat} {ss : List Slot} (h : Heap w base ss) (hb : Below w.heap.size w w') : Heap w' base ss :=
  ⟨fun i s hs => (h.own i s hs).same fun g hg => hb.block g ((h.own i s hs).lt g hg).2, h.apart⟩
/-- One row is another one now; nothing else has turned but what is new. -/
theorem Heap.turn {w w' : World} {base : Nat} {ss : List Slot} (h : Heap w base ss) {i : Nat} {s s' : Slot} (hs : ss[i]? = some s) (hg : ∀ k, k < w.heap.size → s.v.ownBlock ≠ some k → w'.heap[k]? = w.heap[k]?)
    (hn : s'.At w' base) (hat : ∀ g, s'.v.ownBlock = some g → s.v.ownBlock = some g ∨ w.heap.size ≤ g) : Heap w' base (ss.set i s') := by
  have hi : i < ss.length := (List.getElem?_eq_some_iff.1 hs).1
  have other : ∀ (j : Nat) (t : Slot), j ≠ i → ss[j]? = some t → t.At w' base := fun j t hj ht =>
    (h.own j t ht).same fun g hgt => hg g ((h.own j t ht).lt g hgt).2 (fun hc => h.apart i j s t g (Ne.symm hj) hs ht hc hgt)
  have far : ∀ (j : Nat) (t : Slot) (g : Nat), j ≠ i → ss[j]? = some t → s'.v.ownBlock = some g → t.v.ownBlock ≠ some g := fun j t g hj ht hs' hc => by
    rcases hat g hs' with h1 | h1
    · exact h.apart i j s t g (Ne.symm hj) hs ht h1 hc
    · have := ((h.own j t ht).lt g hc).2
      omega
  refine ⟨fun j t ht => ?_, fun j k a b g hjk ha hb hga hgb => ?_⟩
  · rw [List.getElem?_set] at ht
    by_cases e : i = j
    · rw [if_pos e, if_pos hi] at ht
      cases ht
      exact hn
    · rw [if_neg e] at ht
      exact other j t (Ne.symm e) ht
  · rw [List.getElem?_set] at ha hb
    by_cases e1 : i = j
    · rw [if_pos e1, if_pos hi] at ha
      cases ha
      have e2 : i ≠ k := fun e => hjk (e1.symm.trans e)
      rw [if_neg e2] at hb
      exact far k b g (Ne.symm e2) hb hga hgb
    · rw [if_neg e1] at ha
      by_cases e2 : i = k
      · rw [if_pos e2, if_pos hi] at hb
        cases hb
        exact far j a g (Ne.symm e1) ha hgb hga
      · rw [if_neg e2] at hb
        exact h.apart j k a b g hjk ha hb hga hgb
/-- A row more, all of it new. -/
theorem Heap.more {w w' : World} {base : Nat} {ss : List Slot} (h : Heap w base ss) (hb : Below w.heap.size w w') {s : Slot} (hs : s.At w' base) (hat : ∀ g, s.v.ownBlock = some g → w.heap.size ≤ g) : Heap w' base (ss ++ [s]) := by
  have h' := h.below hb
  have far : ∀ (j : Nat) (t : Slot) (g : Nat), ss[j]? = some t → s.v.ownBlock = some g → t.v.ownBlock ≠ some g := fun j t g ht hs' hc => by
    have := ((h.own j t ht).lt g hc).2
    have := hat g hs'
    omega
  refine ⟨fun j t ht => ?_, fun j k a b g hjk ha hb' hga hgb => ?_⟩
  · rw [List.getElem?_append] at ht
    split at ht
    · exact h'.own j t ht
    · have e : t = s := by
        have h0 : j - ss.length = 0 := by
          have := (List.getElem?_eq_some_iff.1 ht).1
          simpa using this
        rw [h0] at ht
        simpa using ht.symm
      rw [e]
      exact hs
  · rw [List.getElem?_append] at ha hb'
    split at ha
    · split at hb'
      · exact h'.apart j k a b g hjk ha hb' hga hgb
      · have h0 : k - ss.length = 0 := by have := (List.getElem?_eq_some_iff.1 hb').1; simpa using this
        rw [h0] at hb'
        have e : b = s := by simpa using hb'.symm
        rw [e] at hgb
        exact far j a g ha hgb hga
    · have h0 : j - ss.length = 0 := by have := (List.getElem?_eq_some_iff.1 ha).1; simpa using this
      rw [h0] at ha
      have e : a = s := by simpa using ha.symm
      rw [e] at hga
      split at hb'
      · exact far k b g hb' hga hgb
      · have h1 : k - ss.length = 0 := by have := (List.getElem?_eq_some_iff.1 hb').1; simpa using this
        omega
/- Cells of a row that lies in one block. -/
theorem Heap.cell {w : World} {base : Nat} {ss : List Slot} (h : Heap w base ss) {i g n c : Nat} {e : TypeId} {sz : Nat} {cs : List Value} (hs : ss[i]? = some ⟨.slice (some ⟨g, 0, none⟩) n c, e, sz, n, cs⟩) {j : Nat} {u : Value} (hj : cs[j]? = some u) : w.cell? ⟨g, j, none⟩ = some u := by
  have h1 : w.ownsRow base e sz (.slice (some ⟨g, 0, none⟩) n c) n cs := h.own i _ hs
  have hl : j < n * sz := by have := (List.getElem?_eq_some_iff.1 hj).1; rw [h1.1] at this; exact this
  rw [h1.cellAt j hl]
  exact hj
theorem Heap.fz {w : World} {base : Nat} {ss : List Slot} (h : Heap w base ss) {i g n c : Nat} {e : TypeId} {sz : Nat} {cs : List Value} (hs : ss[i]? = some ⟨.slice (some ⟨g, 0, none⟩) n c, e, sz, n, cs⟩) (j : Nat) : w.frozen? ⟨g, j, none⟩ = false := by
  have h1 : w.ownsRow base e sz (.slice (some ⟨g, 0, none⟩) n c) n cs := h.own i _ hs
  exact h1.frozenAt j
theorem Heap.lt {w : World} {base : Nat} {ss : List Slot} (h : Heap w base ss) {i g n c : Nat} {e : TypeId} {sz : Nat} {cs : List Value} (hs : ss[i]? = some ⟨.slice (some ⟨g, 0, none⟩) n c, e, sz, n, cs⟩) : base ≤ g ∧ g < w.heap.size := (h.own i _ hs).lt g rfl
/-- A cell of a row is set. -/
theorem Heap.store {w : World} {base : Nat} {ss : List Slot} (h : Heap w base ss) {i g n c : Nat} {e : TypeId} {sz : Nat} {cs : List Value} (hs : ss[i]? = some ⟨.slice (some ⟨g, 0, none⟩) n c, e, sz, n, cs⟩) (j : Nat) (u : Value) :
    Heap (w.setCell ⟨g, j, none⟩ u) base (ss.set i ⟨.slice (some ⟨g, 0, none⟩) n c, e, sz, n, cs.set j u⟩) := by
  have h1 : w.ownsRow base e sz (.slice (some ⟨g, 0, none⟩) n c) n cs := h.own i _ hs
  obtain ⟨h2, h3⟩ := h1.stored j u
  exact h.turn hs (fun k hk hne => h3.block k hk (fun e => hne (by cases e; rfl))) h2 (fun _ hk => .inl hk)
/-- A row is longer, by append. -/
theorem Heap.grow {w w' : World} {base : Nat} {ss : List Slot} (h : Heap w base ss) {i : Nat} {s s' : Slot} (hs : ss[i]? = some s) (hn : s'.At w' base) (hg : w.grownBy w' s.v.ownBlock) (hat : s'.v.ownBlock = s.v.ownBlock ∨ s'.v.ownBlock = some w.heap.size) : Heap w' base (ss.set i s') :=
  h.turn hs (fun k hk hne => hg.block k hk (fun e => hne e.symm)) hn (fun g hg' => by
    rcases hat with e | e
    · exact .inl (e ▸ hg')
    · rw [e] at hg'
      cases hg'
      exact .inr (Nat.le_refl _))
/-- A row is cut short. -/
theorem own_take {w : World} {base : Nat} {e : TypeId} {sz g n c m : Nat} {cs : List Value} (h : w.ownsRow base e sz (.slice (some ⟨g, 0, none⟩) n c) n cs) (hm : m ≤ n) : w.ownsRow base e sz (.slice (some ⟨g, 0, none⟩) m c) m (cs.take (m * sz)) := by
  have hle : m * sz ≤ n * sz := Nat.mul_le_mul_right _ hm
  refine ⟨by rw [List.length_take, h.1]; omega, ?_⟩
  rcases h.2 with ⟨h0, _⟩ | ⟨g', cap, cur, hv, h1, hh, h2, h3, h4, h5⟩
  · cases h0
  · injection hv with e1 e2 e3
    cases e1
    subst e3
    refine .inr ⟨g, c, cur, rfl, h1, hh, by omega, h3, h4, ?_⟩
    rw [← h5, List.take_take]
    congr 1
    omega
theorem Heap.cut {w : World} {base : Nat} {ss : List Slot} (h : Heap w base ss) {i g n c : Nat} {e : TypeId} {sz : Nat} {cs : List Value} (hs : ss[i]? = some ⟨.slice (some ⟨g, 0, none⟩) n c, e, sz, n, cs⟩) {m : Nat} (hm : m ≤ n) :
    Heap w base (ss.set i ⟨.slice (some ⟨g, 0, none⟩) m c, e, sz, m, cs.take (m * sz)⟩) :=
  h.turn hs (fun _ _ _ => rfl) (own_take (h.own i _ hs) hm) (fun _ hk => .inl hk)
/-- What a row of one's own looks like: it lies nowhere, or in a block. -/
theorem own_shape {w : World} {base : Nat} {e : TypeId} {sz : Nat} {v : Value} {n : Nat} {cs : List Value} (h : w.ownsRow base e sz v n cs) : (v = .slice none 0 0 ∧ n = 0) ∨ ∃ g c, v = .slice (some ⟨g, 0, none⟩) n c ∧ n ≤ c ∧ c ≤ maxLen ∧ base ≤ g ∧ g < w.heap.size := by
  rcases h.2 with h0 | ⟨g, cap, cur, hv, h1, hh, h2, h3, _⟩
  · exact .inl h0
  · exact .inr ⟨g, cap, hv, h2, h3, h1, (Array.getElem?_eq_some_iff.1 hh).1⟩
/-- Elements of n cells each, one behind the other. -/
def flat {α : Type} (f : α → List Value) (l : List α) : List Value := l.flatMap f
theorem flat_len {α : Type} {f : α → List Value} {k : Nat} (hf : ∀ a, (f a).length = k) : ∀ l : List α, (flat f l).length = l.length * k
  | [] => by simp [flat]
  | a :: l => by
    have := flat_len hf l
    unfold flat at this ⊢
    rw [List.flatMap_cons, List.length_append, this, hf, List.length_cons, Nat.add_mul]
    omega
theorem flat_at {α : Type} {f : α → List Value} {k : Nat} (hf : ∀ a, (f a).length = k) : ∀ (l : List α) (i j : Nat) (a : α) (u : Value), l[i]? = some a → (f a)[j]? = some u → (flat f l)[i * k + j]? = some u
  | x :: l, 0, j, a, u, ha, hu => by
    simp at ha
    subst ha
    unfold flat
    rw [List.flatMap_cons, Nat.zero_mul, Nat.zero_add, List.getElem?_append_left ((List.getElem?_eq_some_iff.1 hu).1)]
    exact hu
  | x :: l, i + 1, j, a, u, ha, hu => by
    have := flat_at hf l i j a u (by simpa using ha) hu
    unfold flat at this ⊢
    have hx := hf x
    rw [List.flatMap_cons, List.getElem?_append_right (by rw [hx, Nat.add_mul]; omega), hx, show (i + 1) * k + j - k = i * k + j by rw [Nat.add_mul]; omega]
    exact this
  | [], _, _, _, _, ha, _ => by simp at ha
theorem flat_snoc {α : Type} (f : α → List Value) (l : List α) (a : α) : flat f (l ++ [a]) = flat f l ++ f a := by simp [flat]
theorem flat_take {α : Type} {f : α → List Value} {k : Nat} (hf : ∀ a, (f a).length = k) : ∀ (l : List α) (m : Nat), (flat f l).take (m * k) = flat f (l.take m)
  | _, 0 => by simp [flat]
  | [], m + 1 => by simp [flat]
  | x :: l, m + 1 => by
    have := flat_take hf l m
    have hx := hf x
    unfold flat at this ⊢
    rw [List.flatMap_cons, List.take_succ_cons, List.flatMap_cons, List.take_append, hx, show (m + 1) * k - k = m * k by rw [Nat.add_mul]; omega, this, List.take_of_length_le (by rw [hx, Nat.add_mul]; omega)]
theorem flat_set {α : Type} {f : α → List Value} {k : Nat} (hf : ∀ a, (f a).length = k) : ∀ (l : List α) (i j : Nat) (a b : α) (u : Value), l[i]? = some a → j < k → f b = (f a).set j u → (flat f l).set (i * k + j) u = flat f (l.set i b)
  | x :: l, 0, j, a, b, u, ha, hj, hb => by
    simp at ha
    subst ha
    unfold flat
    rw [List.flatMap_cons, Nat.zero_mul, Nat.zero_add, List.set_append_left _ _ (by rw [hf]; exact hj), List.set_cons_zero, List.flatMap_cons, hb]
  | x :: l, i + 1, j, a, b, u, ha, hj, hb => by
    have := flat_set hf l i j a b u (by simpa using ha) hj hb
    have hx := hf x
    unfold flat at this ⊢
    rw [List.flatMap_cons, List.set_append_right _ _ (by rw [hx, Nat.add_mul]; omega), hx, show (i + 1) * k + j - k = i * k + j by rw [Nat.add_mul]; omega, this, List.set_cons_succ, List.flatMap_cons]
  | [], _, _, _, _, _, ha, _, _ => by simp at ha
end Go.Proofs.YtogjjmbcbnceoaaGreat
