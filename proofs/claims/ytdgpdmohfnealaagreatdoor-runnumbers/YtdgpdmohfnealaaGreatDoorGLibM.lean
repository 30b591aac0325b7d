/- Rows of one's own, many at once: which stay as they are when one of them changes. -/
import Derived.Test.YtdgpdmohfnealaaGreatDoorGBoxM
import Derived.Test.YtdgpdmohfnealaaGreatDoorGMemM
import Derived.Test.YtdgpdmohfnealaaGreatDoorShelf
import Derived.Sort.OwnSortedInts
namespace Go.Proofs.YtdgpdmohfnealaaGreatDoor
open Go.RowKit

/-- A row of one's own: its value, the type and size of its elements, how many, their cells. -/
structure Slot where
  v : Value
  e : TypeId
  sz : Nat
  n : Nat
  cs : List Value
def Slot.At (w : World) (base : Nat) (s : Slot) : Prop := w.ownsRow base s.e s.sz s.v s.n s.cs
/-- Rows that lie apart: no two in one block. -/
structure Heap (w : World) (base : Nat) (ss : List Slot) : Prop where
  own : ∀ (i : Nat) (s : Slot), ss[i]? = some s → s.At w base
  apart : ∀ (i j : Nat) (a b : Slot) (g : Nat), i ≠ j → ss[i]? = some a → ss[j]? = some b → a.v.ownBlock = some g → b.v.ownBlock ≠ some g
theorem Slot.At.same {w w' : World} {base : Nat} {s : Slot} (h : s.At w base) (he : ∀ g, s.v.ownBlock = some g → w'.heap[g]? = w.heap[g]?) : s.At w' base := owns_same h he
theorem Heap.same {w w' : World} {base : Nat} {ss : List Slot} (h : Heap w base ss) (hw : w'.heap = w.heap) : Heap w' base ss :=
  ⟨fun i s hs => (h.own i s hs).same fun g _ => by rw [hw], h.apart⟩
theorem Heap.below {w w' : World} {base : Nat} {ss : List Slot} (h : Heap w base ss) (hb : Below w.heap.size w w') : Heap w' base ss :=
  ⟨fun i s hs => (h.own i s hs).same fun g hg => hb.block g ((h.own i s hs).lt g hg).2, h.apart⟩
/-- One row is another one now; nothing else has turned but what is new. -/
theorem Heap.turn {w w' : World} {base : Nat} {ss : List Slot} (h : Heap w base ss) {i : Nat} {s s' : Slot} (hs : ss[i]? = some s) (hg : ∀ k, k < w.heap.size → s.v.ownBlock ≠ some k → w'.heap[k]? = w.heap[k]?)
    (hn : s'.At w' base) (hat : ∀ g, s'.v.ownBlock = some g → s.v.ownBlock = some g ∨ w.heap.size ≤ g) : Heap w' base (ss.set i s') := by
  have hi : i < ss.length := (List.getElem?_eq_some_iff.1 hs).1
  have other : ∀ (j : Nat) (t : Slot), j ≠ i → ss[j]? = some t → t.At w' base := fun j t hj ht =>
    (h.own j t ht).same fun g hgt => hg g ((h.own j t ht).lt g hgt).2 (fun hc => h.apart i j s t g (Ne.symm hj) hs ht hc hgt)
  have far : ∀ (j : Nat) (t : Slot) (g : Nat), j ≠ i → ss[j]? = some t → s'.v.ownBlock = some g → t.v.ownBlock ≠ some g := fun j t g hj ht hs' hc => by
    rcases hat g hs' with h1 | h1
    · exact h.apart i j s t g (Ne.symm hj) hs ht h1 hc
    · have := ((h.own j t ht).lt g hc).2
      omega
  refine ⟨fun j t ht => ?_, fun j k a b g hjk ha hb hga hgb => ?_⟩
  · rw [List.getElem?_set] at ht
    by_cases e : i = j
    · rw [if_pos e, if_pos hi] at ht
      cases ht
      exact hn
    · rw [if_neg e] at ht
      exact other j t (Ne.symm e) ht
  · rw [List.getElem?_set] at ha hb
    by_cases e1 : i = j
    · rw [if_pos e1, if_pos hi] at ha
      cases ha
      have e2 : i ≠ k := fun e => hjk (e1.symm.trans e)
      rw [if_neg e2] at hb
      exact far k b g (Ne.symm e2) hb hga hgb
    · rw [if_neg e1] at ha
      by_cases e2 : i = k
      · rw [if_pos e2, if_pos hi] at hb
        cases hb
        exact far j a g (Ne.symm e1) ha hgb hga
      · rw [if_neg e2] at hb
        exact h.apart j k a b g hjk ha hb hga hgb
/-- A row more, all of it new. -/
theorem Heap.more {w w' : World} {base : Nat} {ss : List Slot} (h : Heap w base ss) (hb : Below w.heap.size w w') {s : Slot} (hs : s.At w' base) (hat : ∀ g, s.v.ownBlock = some g → w.heap.size ≤ g) : Heap w' base (ss ++ [s]) := by
  have h' := h.below hb
  have far : ∀ (j : Nat) (t : Slot) (g : Nat), ss[j]? = some t → s.v.ownBlock = some g → t.v.ownBlock ≠ some g := fun j t g ht hs' hc => by
    have := ((h.own j t ht).lt g hc).2
    have := hat g hs'
    omega
  refine ⟨fun j t ht => ?_, fun j k a b g hjk ha hb' hga hgb => ?_⟩
  · rw [List.getElem?_append] at ht
    split at ht
    · exact h'.own j t ht
    · have e : t = s := by
        have h0 : j - ss.length = 0 := by
          have := (List.getElem?_eq_some_iff.1 ht).1
          simpa using this
        rw [h0] at ht
        simpa using ht.symm
      rw [e]
      exact hs
  · rw [List.getElem?_append] at ha hb'
    split at ha
    · split at hb'
      · exact h'.apart j k a b g hjk ha hb' hga hgb
      · have h0 : k - ss.length = 0 := by have := (List.getElem?_eq_some_iff.1 hb').1; simpa using this
        rw [h0] at hb'
        have e : b = s := by simpa using hb'.symm
        rw [e] at hgb
        exact far j a g ha hgb hga
    · have h0 : j - ss.length = 0 := by have := (List.getElem?_eq_some_iff.1 ha).1; simpa using this
      rw [h0] at ha
      have e : a = s := by simpa using ha.symm
      rw [e] at hga
      split at hb'
      · exact far k b g hb' hga hgb
      · have h1 : k - ss.length = 0 := by have := (List.getElem?_eq_some_iff.1 hb').1; simpa using this
        omega
/- Cells of a row that lies in one block. -/
theorem Heap.cell {w : World} {base : Nat} {ss : List Slot} (h : Heap w base ss) {i g n c : Nat} {e : TypeId} {sz : Nat} {cs : List Value} (hs : ss[i]? = some ⟨.slice (some ⟨g, 0, none⟩) n c, e, sz, n, cs⟩) {j : Nat} {u : Value} (hj : cs[j]? = some u) : w.cell? ⟨g, j, none⟩ = some u := by
  have h1 : w.ownsRow base e sz (.slice (some ⟨g, 0, none⟩) n c) n cs := h.own i _ hs
  have hl : j < n * sz := by have := (List.getElem?_eq_some_iff.1 hj).1; rw [h1.1] at this; exact this
  rw [h1.cellAt j hl]
  exact hj
theorem Heap.fz {w : World} {base : Nat} {ss : List Slot} (h : Heap w base ss) {i g n c : Nat} {e : TypeId} {sz : Nat} {cs : List Value} (hs : ss[i]? = some ⟨.slice (some ⟨g, 0, none⟩) n c, e, sz, n, cs⟩) (j : Nat) : w.frozen? ⟨g, j, none⟩ = false := by
  have h1 : w.ownsRow base e sz (.slice (some ⟨g, 0, none⟩) n c) n cs := h.own i _ hs
  exact h1.frozenAt j
theorem Heap.lt {w : World} {base : Nat} {ss : List Slot} (h : Heap w base ss) {i g n c : Nat} {e : TypeId} {sz : Nat} {cs : List Value} (hs : ss[i]? = some ⟨.slice (some ⟨g, 0, none⟩) n c, e, sz, n, cs⟩) : base ≤ g ∧ g < w.heap.size := (h.own i _ hs).lt g rfl
/-- A cell of a row is set. -/
theorem Heap.store {w : World} {base : Nat} {ss : List Slot} (h : Heap w base ss) {i g n c : Nat} {e : TypeId} {sz : Nat} {cs : List Value} (hs : ss[i]? = some ⟨.slice (some ⟨g, 0, none⟩) n c, e, sz, n, cs⟩) (j : Nat) (u : Value) :
    Heap (w.setCell ⟨g, j, none⟩ u) base (ss.set i ⟨.slice (some ⟨g, 0, none⟩) n c, e, sz, n, cs.set j u⟩) := by
  have h1 : w.ownsRow base e sz (.slice (some ⟨g, 0, none⟩) n c) n cs := h.own i _ hs
  obtain ⟨h2, h3⟩ := h1.stored j u
  exact h.turn hs (fun k hk hne => h3.block k hk (fun e => hne (by cases e; rfl))) h2 (fun _ hk => .inl hk)
/-- A row is longer, by append. -/
theorem Heap.grow {w w' : World} {base : Nat} {ss : List Slot} (h : Heap w base ss) {i : Nat} {s s' : Slot} (hs : ss[i]? = some s) (hn : s'.At w' base) (hg : w.grownBy w' s.v.ownBlock) (hat : s'.v.ownBlock = s.v.ownBlock ∨ s'.v.ownBlock = some w.heap.size) : Heap w' base (ss.set i s') :=
  h.turn hs (fun k hk hne => hg.block k hk (fun e => hne e.symm)) hn (fun g hg' => by
    rcases hat with e | e
    · exact .inl (e ▸ hg')
    · rw [e] at hg'
      cases hg'
      exact .inr (Nat.le_refl _))
/-- A row is cut short. -/
theorem own_take {w : World} {base : Nat} {e : TypeId} {sz g n c m : Nat} {cs : List Value} (h : w.ownsRow base e sz (.slice (some ⟨g, 0, none⟩) n c) n cs) (hm : m ≤ n) : w.ownsRow base e sz (.slice (some ⟨g, 0, none⟩) m c) m (cs.take (m * sz)) := by
  have hle : m * sz ≤ n * sz := Nat.mul_le_mul_right _ hm
  refine ⟨by rw [List.length_take, h.1]; omega, ?_⟩
  rcases h.2 with ⟨h0, _⟩ | ⟨g', cap, cur, hv, h1, hh, h2, h3, h4, h5⟩
  · cases h0
  · injection hv with e1 e2 e3
    cases e1
    subst e3
    refine .inr ⟨g, c, cur, rfl, h1, hh, by omega, h3, h4, ?_⟩
    rw [← h5, List.take_take]
    congr 1
    omega
theorem Heap.cut {w : World} {base : Nat} {ss : List Slot} (h : Heap w base ss) {i g n c : Nat} {e : TypeId} {sz : Nat} {cs : List Value} (hs : ss[i]? = some ⟨.slice (some ⟨g, 0, none⟩) n c, e, sz, n, cs⟩) {m : Nat} (hm : m ≤ n) :
    Heap w base (ss.set i ⟨.slice (some ⟨g, 0, none⟩) m c, e, sz, m, cs.take (m * sz)⟩) :=
  h.turn hs (fun _ _ _ => rfl) (own_take (h.own i _ hs) hm) (fun _ hk => .inl hk)
/-- What a row of one's own looks like: it lies nowhere, or in a block. -/
theorem own_shape {w : World} {base : Nat} {e : TypeId} {sz : Nat} {v : Value} {n : Nat} {cs : List Value} (h : w.ownsRow base e sz v n cs) : (v = .slice none 0 0 ∧ n = 0) ∨ ∃ g c, v = .slice (some ⟨g, 0, none⟩) n c ∧ n ≤ c ∧ c ≤ maxLen ∧ base ≤ g ∧ g < w.heap.size := by
  rcases h.2 with h0 | ⟨g, cap, cur, hv, h1, hh, h2, h3, _⟩
  · exact .inl h0
  · exact .inr ⟨g, cap, hv, h2, h3, h1, (Array.getElem?_eq_some_iff.1 hh).1⟩
/-- Elements of n cells each, one behind the other. -/
def flat {α : Type} (f : α → List Value) (l : List α) : List Value := l.flatMap f
theorem flat_len {α : Type} {f : α → List Value} {k : Nat} (hf : ∀ a, (f a).length = k) : ∀ l : List α, (flat f l).length = l.length * k
  | [] => by simp [flat]
  | a :: l => by
    have := flat_len hf l
    unfold flat at this ⊢
    rw [List.flatMap_cons, List.length_append, this, hf, List.length_cons, Nat.add_mul]
    omega
theorem flat_at {α : Type} {f : α → List Value} {k : Nat} (hf : ∀ a, (f a).length = k) : ∀ (l : List α) (i j : Nat) (a : α) (u : Value), l[i]? = some a → (f a)[j]? = some u → (flat f l)[i * k + j]? = some u
  | x :: l, 0, j, a, u, ha, hu => by
    simp at ha
    subst ha
    unfold flat
    rw [List.flatMap_cons, Nat.zero_mul, Nat.zero_add, List.getElem?_append_left ((List.getElem?_eq_some_iff.1 hu).1)]
    exact hu
  | x :: l, i + 1, j, a, u, ha, hu => by
    have := flat_at hf l i j a u (by simpa using ha) hu
    unfold flat at this ⊢
    have hx := hf x
    rw [List.flatMap_cons, List.getElem?_append_right (by rw [hx, Nat.add_mul]; omega), hx, show (i + 1) * k + j - k = i * k + j by rw [Nat.add_mul]; omega]
    exact this
  | [], _, _, _, _, ha, _ => by simp at ha
theorem flat_snoc {α : Type} (f : α → List Value) (l : List α) (a : α) : flat f (l ++ [a]) = flat f l ++ f a := by simp [flat]
theorem flat_take {α : Type} {f : α → List Value} {k : Nat} (hf : ∀ a, (f a).length = k) : ∀ (l : List α) (m : Nat), (flat f l).take (m * k) = flat f (l.take m)
  | _, 0 => by simp [flat]
  | [], m + 1 => by simp [flat]
  | x :: l, m + 1 => by
    have := flat_take hf l m
    have hx := hf x
    unfold flat at this ⊢
    rw [List.flatMap_cons, List.take_succ_cons, List.flatMap_cons, List.take_append, hx, show (m + 1) * k - k = m * k by rw [Nat.add_mul]; omega, this, List.take_of_length_le (by rw [hx, Nat.add_mul]; omega)]
theorem flat_set {α : Type} {f : α → List Value} {k : Nat} (hf : ∀ a, (f a).length = k) : ∀ (l : List α) (i j : Nat) (a b : α) (u : Value), l[i]? = some a → j < k → f b = (f a).set j u → (flat f l).set (i * k + j) u = flat f (l.set i b)
  | x :: l, 0, j, a, b, u, ha, hj, hb => by
    simp at ha
    subst ha
    unfold flat
    rw [List.flatMap_cons, Nat.zero_mul, Nat.zero_add, List.set_append_left _ _ (by rw [hf]; exact hj), List.set_cons_zero, List.flatMap_cons, hb]
  | x :: l, i + 1, j, a, b, u, ha, hj, hb => by
    have := flat_set hf l i j a b u (by simpa using ha) hj hb
    have hx := hf x
    unfold flat at this ⊢
    rw [List.flatMap_cons, List.set_append_right _ _ (by rw [hx, Nat.add_mul]; omega), hx, show (i + 1) * k + j - k = i * k + j by rw [Nat.add_mul]; omega, this, List.set_cons_succ, List.flatMap_cons]
  | [], _, _, _, _, _, ha, _, _ => by simp at ha
end Go.Proofs.YtdgpdmohfnealaaGreatDoor
/- A run as plain data: what the runner keeps. -/
namespace Go.Proofs.YtdgpdmohfnealaaGreatDoor

/-- A call that lives: its graph, block, next instruction; how many settings and elements there were ahead of it. -/
structure Cl where
  g : Nat
  b : Nat
  nx : Nat
  k : Nat
  r : Nat
  deriving DecidableEq, Inhabited
/-- A setting of a cell: the older one's number, the word. -/
structure Sg where
  cell : Nat
  old : Nat
  word : Int
  deriving DecidableEq, Inhabited
structure St where
  nw : List (Option (List Int))
  calls : List Cl
  kept : List Sg
  rows : List Int
  shows : List (Int × Int)
  fin : Int
  val : Int
  trap : Int
  steps : Nat
  deep : Nat
def St.top (S : St) : Cl := S.calls.getLastD default
def St.row (S : St) (g : Nat) : List Int := (S.nw.getD g none).getD []
/-- The number of the setting of a cell by the last call; 0: none. -/
def St.find (S : St) (c : Nat) : Nat := if (S.top.k : Int) < (S.row S.top.g).getD c 0 then ((S.row S.top.g).getD c 0).toNat else 0
def St.get (S : St) (c : Nat) : Int := if S.find c = 0 then 0 else (S.kept.getD (S.find c - 1) default).word
def St.set (S : St) (c : Nat) (x : Int) : St :=
  if S.find c = 0 then { S with kept := S.kept ++ [⟨c, ((S.row S.top.g).getD c 0).toNat, x⟩], nw := S.nw.set S.top.g (some ((S.row S.top.g).set c ((S.kept.length : Int) + 1))) }
  else { S with kept := S.kept.set (S.find c - 1) { S.kept.getD (S.find c - 1) default with word := x } }
def cellsOf (G : Gr) : Nat := G.vars.length + G.arrs.length
/-- Steps: one is made, or the run has ended. -/
def St.stop (S : St) (e : Int) : St := { S with fin := e }
def St.step (lim : Nat) (S : St) : St × Bool := if lim ≤ S.steps then (S.stop 3, false) else ({ S with steps := S.steps + 1 }, true)
end Go.Proofs.YtdgpdmohfnealaaGreatDoor
/- The library's sorting, compacting and turning round, of a row of one's own; what follows a block. -/
namespace Go.Proofs.YtdgpdmohfnealaaGreatDoor
open Go.RowKit Go.Sort

theorem grow_none (w : World) : grow w #[] = w := by simp [grow]
theorem grownBy_refl (w : World) (r : Option Nat) : w.grownBy w r := ⟨rfl, rfl, rfl, Nat.le_refl _, fun _ _ _ => rfl⟩
theorem sort_own {w : World} {base : Nat} {v : Value} {l : List Int} (h : OwnI w base v l) (hl : l.length ≤ 1000000000) :
    Calls Tryz.prog 68 #[v] w fun e w' => e = .returned (.tuple #[]) ∧ OwnI w' base v (l.mergeSort fun x y => decide (x ≤ y)) ∧ w.grownBy w' v.ownBlock := by
  rcases h.2 with ⟨rfl, h0⟩ | ⟨g, cap, cur, rfl, h1, hh, h2, h3, h4, h5⟩
  · have hn : l = [] := List.eq_nil_of_length_eq_zero h0
    subst hn
    refine (Tryz.slices_Sort_int_none none 0 w).mono ?_
    rintro e w' ⟨rfl, rfl⟩
    exact ⟨rfl, by simpa using h, grownBy_refl _ _⟩
  · have hH := holds_of_blockI hh (by simpa using h5)
    refine (Tryz.slices_Sort_int g 0 cap l w hH (Array.getElem?_eq_some_iff.1 hh).1 (by omega)).mono ?_
    rintro e w' ⟨rfl, n, os, rfl⟩
    refine ⟨rfl, ?_, grownBy_sortedI _⟩
    have := ownsRow_sortedI (ts := l.mergeSort fun x y => decide (x ≤ y)) (n := n) (os := os) (by simp) h1 hh h2 h3 h4
    show World.ownsRow _ _ _ _ _ _ _
    rw [List.length_mergeSort]
    exact this
theorem compact_own {w : World} {base : Nat} {v : Value} {l : List Int} (h : OwnI w base v l) (hl : l.length ≤ 1000000000) :
    Calls Tryz.prog 69 #[v] w fun e w' => ∃ v', e = .returned v' ∧ OwnI w' base v' (Lib.compact l) ∧ w.grownBy w' v.ownBlock ∧ v'.ownBlock = v.ownBlock := by
  rcases h.2 with ⟨rfl, h0⟩ | ⟨g, cap, cur, rfl, h1, hh, h2, h3, h4, h5⟩
  · have hn : l = [] := List.eq_nil_of_length_eq_zero h0
    subst hn
    refine (Tryz.slices_Compact_int_empty none 0 w).mono ?_
    rintro e w' ⟨rfl, rfl⟩
    exact ⟨_, rfl, by simpa [Lib.compact, Lib.compactUpTo] using h, grownBy_refl _ _, rfl⟩
  · have hH := holds_of_blockI hh (by simpa using h5)
    refine (Tryz.slices_Compact_int g 0 cap l w hH (by omega) h2).mono ?_
    rintro e w' ⟨rfl, n, rfl⟩
    rw [← grow_none (putRow _ _ _ _ _)]
    have hle := Lib.compact_length_le l
    refine ⟨_, rfl, ?_, grownBy_sortedI _, rfl⟩
    have := ownsRow_sortedI (ts := Lib.compact l ++ List.replicate (l.length - (Lib.compact l).length) 0) (n := n) (os := #[]) (by simp; omega) h1 hh h2 h3 h4
    show World.ownsRow _ _ _ _ _ _ _
    refine ⟨by simp, ?_⟩
    rcases this.2 with ⟨hx, _⟩ | ⟨g', cap', cur', hv, k1, kk, k2, k3, k4, k5⟩
    · cases hx
    · injection hv with e1 e2 e3
      cases e1
      subst e3
      refine .inr ⟨g, cap, cur', rfl, k1, kk, by omega, k3, k4, ?_⟩
      have h6 := congrArg (List.take (Lib.compact l).length) k5
      rw [List.take_take, Nat.min_eq_left (by omega), List.map_append] at h6
      rw [Nat.mul_one, h6, List.take_left' (by simp)]
theorem compact_sort (t : Tm) : Lib.compact ((namedT t).mergeSort fun x y => decide (x ≤ y)) = nextT t := by
  unfold namedT nextT
  have c0 : Lib.compact ([] : List Int) = [] := rfl
  have c1 : ∀ x : Int, Lib.compact [x] = [x] := fun x => by simp [Lib.compact, Lib.compactUpTo, List.range_succ, Lib.keeps]
  have c2 : ∀ x y : Int, Lib.compact [x, y] = if x = y then [x] else [x, y] := fun x y => by
    by_cases h : x = y
    · subst h; simp [Lib.compact, Lib.compactUpTo, List.range_succ, Lib.keeps]
    · have h' : ¬ y = x := fun e => h e.symm
      simp [Lib.compact, Lib.compactUpTo, List.range_succ, Lib.keeps, h, h']
  have s2 : ∀ x y : Int, [x, y].mergeSort (fun a b => decide (a ≤ b)) = if x ≤ y then [x, y] else [y, x] := fun x y => by
    by_cases h : x ≤ y <;> simp [List.mergeSort, List.MergeSort.Internal.splitInTwo, h]
  by_cases h1 : t.kind = 1
  · simp only [h1, if_true, List.mergeSort_singleton, c1]
  · by_cases h2 : t.kind = 2
    · simp only [h2, if_true, show ¬ ((2 : Int) = 1) by omega, if_false, s2]
      by_cases e : t.t0 = t.t1
      · simp [e, c2]
      · by_cases l : t.t0 ≤ t.t1
        · have : t.t0 < t.t1 := by omega
          simp [e, l, c2, this]
        · have : ¬ t.t0 < t.t1 := by omega
          have e' : ¬ t.t1 = t.t0 := fun x => e x.symm
          simp [e, l, c2, this, e']
    · simp only [h1, h2, if_false, List.mergeSort_nil, c0]
abbrev blArr (iv : Value) (t : Tm) : Array Value := #[iv, .int .u8 t.kind, .int .i64 t.arg, .int .i64 t.t0, .int .i64 t.t1, .int .u8 t.trap]
theorem named_len (t : Tm) : (namedT t).length ≤ 2 := by
  unfold namedT
  repeat' split
  all_goals simp
theorem below_grown {w w1 w2 : World} {row : Option Nat} (h : Below w.heap.size w w1) (hg : w1.grownBy w2 row) (hr : ∀ g, row = some g → w.heap.size ≤ g) : Below w.heap.size w w2 :=
  ⟨hg.os.trans h.os, hg.tape.trans h.tape, hg.output.trans h.output, Nat.le_trans h.size hg.size, fun k hk => (hg.block k (Nat.lt_of_lt_of_le hk h.size) (fun e => by have := hr k e.symm; omega)).trans (h.block k hk)⟩
theorem next_any (iv : Value) (t : Tm) (w : World) : Calls Tryz.prog 50 #[.agg (blArr iv t)] w fun e w' => ∃ v, e = .returned v ∧ OwnI w' w.heap.size v (nextT t) ∧ Below w.heap.size w w' := by
  have hN := fun W => named_any t W
  have hS : Hid (∀ (W : World) (v : Value), OwnI W w.heap.size v (namedT t) → _) := fun W v h => sort_own h (by have := named_len t; omega)
  have hC : Hid (∀ (W : World) (v : Value), OwnI W w.heap.size v ((namedT t).mergeSort fun x y => decide (x ≤ y)) → _) := fun W v h => compact_own h (by have := named_len t; simp; omega)
  have hX := compact_sort t
  rw [← hX]
  clear hX
  generalize (namedT t).mergeSort (fun x y => decide (x ≤ y)) = l2 at *
  generalize namedT t = l1 at *
  generalize Lib.compact l2 = l3 at *
  obtain ⟨k, a, x, y, z⟩ := t
  have HN : Hid (∀ W, Calls Tryz.prog 67 #[.agg #[.int .u8 k, .int .i64 a, .int .i64 x, .int .i64 y, .int .u8 z]] W fun e w' => ∃ v, e = .returned v ∧ OwnI w' W.heap.size v l1 ∧ Below W.heap.size W w') := hN
  show Calls _ _ #[.agg #[iv, .int .u8 k, .int .i64 a, .int .i64 x, .int .i64 y, .int .u8 z]] _ _
  have HB : Hid (Below w.heap.size w (w.alloc (.cells #[iv, .int .u8 k, .int .i64 a, .int .i64 x, .int .i64 y, .int .u8 z] 48))) := below_alloc (Below.refl _ _) _
  clear hN
  go_enter Tryz.func50, Tryz.ntmps50
  go_wp2_with (first
    | (go_at_call 67; refine Calls.mono (HN.out _) ?_; rintro e w1 ⟨v, rfl, ho1, hb1⟩; have HO1 : Hid (OwnI w1 w.heap.size v l1) := own_mono ho1 HB.out.size; have HB1 : Hid (Below w.heap.size w w1) := below_trans HB.out hb1; clear ho1 hb1)
    | (go_at_call 68; refine (hS.out _ _ HO1.out).mono ?_; rintro e w2 ⟨rfl, ho2, hg2⟩; have HO2 : Hid _ := ho2; have HG2 : Hid _ := hg2; clear ho2 hg2)
    | (go_at_call 69; refine (hC.out _ _ HO2.out).mono ?_; rintro e w3 ⟨v3, rfl, ho3, hg3, hb3⟩; have HO3 : Hid _ := ho3; have HG3 : Hid _ := hg3; clear ho3 hg3 hb3))
  go_ret
  refine ⟨v3, rfl, HO3.out, ?_⟩
  have hr : ∀ g, v.ownBlock = some g → w.heap.size ≤ g := fun g hg => (HO1.out.lt g hg).1
  exact below_grown (below_grown HB1.out HG2.out hr) HG3.out hr
end Go.Proofs.YtdgpdmohfnealaaGreatDoor
