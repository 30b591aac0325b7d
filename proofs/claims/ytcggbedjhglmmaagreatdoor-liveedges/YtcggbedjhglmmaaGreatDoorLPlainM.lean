/- An instruction has the parts of its kind, and nothing else. -/
import Derived.Test.YtcggbedjhglmmaaGreatDoorGChk4
import Derived.Test.YtcggbedjhglmmaaGreatDoorGBoxM
namespace Go.Proofs.YtcggbedjhglmmaaGreatDoor
open Go.RowKit

/-- What an instruction of a kind has. -/
structure Has where
  op : Bool
  dst : Bool
  bits : Bool
  ref : Bool
  least : Int
  most : Int
def hasL : List Has := [⟨false, false, false, false, 0, 0⟩, ⟨false, true, false, false, 0, 9223372036854775807⟩, ⟨false, true, true, false, 0, 0⟩, ⟨false, true, false, false, 1, 1⟩, ⟨true, true, false, false, 1, 2⟩, ⟨false, true, false, false, 1, 1⟩, ⟨false, true, false, true, 1, 1⟩, ⟨false, false, false, true, 2, 2⟩, ⟨false, false, false, true, 0, 0⟩, ⟨false, true, false, true, 0, 9223372036854775807⟩, ⟨false, false, false, false, 1, 1⟩]
/-- The table, where the program lays it. -/
def PartsAt (w : World) : Prop := 1 < w.heap.size ∧ ∀ (k : Nat) (h : Has), hasL[k]? = some h → w.cell? ⟨1, k * 6, none⟩ = some (.bool h.op) ∧ w.cell? ⟨1, k * 6 + 1, none⟩ = some (.bool h.dst) ∧ w.cell? ⟨1, k * 6 + 2, none⟩ = some (.bool h.bits) ∧ w.cell? ⟨1, k * 6 + 3, none⟩ = some (.bool h.ref) ∧ w.cell? ⟨1, k * 6 + 4, none⟩ = some (.int .i64 h.least) ∧ w.cell? ⟨1, k * 6 + 5, none⟩ = some (.int .i64 h.most)
theorem PartsAt.below {w w' : World} (h : PartsAt w) (hb : Below w.heap.size w w') : PartsAt w' := by
  refine ⟨Nat.lt_of_lt_of_le h.1 hb.size, fun k x hk => ?_⟩
  have hc : ∀ j, w'.cell? ⟨1, j, none⟩ = w.cell? ⟨1, j, none⟩ := fun j => hb.cell (p := ⟨1, j, none⟩) h.1
  rw [hc, hc, hc, hc, hc, hc]
  exact h.2 k x hk
def hasB (h : Has) (n : Nat) (x : In) : Bool := (h.op || x.op == 0) && (h.bits || x.bits == 0) && (h.ref || x.ref == 0) && (if h.dst then inB x.dst n else x.dst == 0) && (x.args.all (inB · n) && (decide (h.least ≤ (x.args.length : Int)) && decide ((x.args.length : Int) ≤ h.most)))
def partsB (n : Nat) (x : In) : Bool := decide (1 ≤ x.kind) && decide (x.kind ≤ 10) && hasB (hasL.getD x.kind.toNat ⟨false, false, false, false, 0, 0⟩) n x
abbrev inV (x : In) (av : Value) : Value := .agg #[.int .u8 x.kind, .int .u8 x.op, .int .i64 x.dst, av, .int .u64 x.bits, .int .i64 x.ref]
end Go.Proofs.YtcggbedjhglmmaaGreatDoor
/- Rows of one's own, many at once: which stay as they are when one of them changes. -/
namespace Go.Proofs.YtcggbedjhglmmaaGreatDoor
open Go.RowKit

/-- A row of one's own: its value, the type and size of its elements, how many, their cells. -/
structure Slot where
  v : Value
  e : TypeId
  sz : Nat
  n : Nat
  cs : List Value
def Slot.At (w : World) (base : Nat) (s : Slot) : Prop := w.ownsRow base s.e s.sz s.v s.n s.cs
/-- Rows that lie apart: no two in one block. -/
structure Heap (w : World) (base : Nat) (ss : List Slot) : Prop where
  own : ∀ (i : Nat) (s : Slot), ss[i]? = some s → s.At w base
  apart : ∀ (i j : Nat) (a b : Slot) (g : Nat), i ≠ j → ss[i]? = some a → ss[j]? = some b → a.v.ownBlock = some g → b.v.ownBlock ≠ some g
theorem Slot.At.same {w w' : World} {base : Nat} {s : Slot} (h : s.At w base) (he : ∀ g, s.v.ownBlock = some g → w'.heap[g]? = w.heap[g]?) : s.At w' base := owns_same h he
theorem Heap.same {w w' : World} {base : Nat} {ss : List Slot} (h : Heap w base ss) (hw : w'.heap = w.heap) : Heap w' base ss :=
  ⟨fun i s hs => (h.own i s hs).same fun g _ => by rw [hw], h.apart⟩
theorem Heap.below {w w' : World} {base : Nat} {ss : List Slot} (h : Heap w base ss) (hb : Below w.heap.size w w') : Heap w' base ss :=
  ⟨fun i s hs => (h.own i s hs).same fun g hg => hb.block g ((h.own i s hs).lt g hg).2, h.apart⟩
/-- One row is another one now; nothing else has turned but what is new. -/
theorem Heap.turn {w w' : World} {base : Nat} {ss : List Slot} (h : Heap w base ss) {i : Nat} {s s' : Slot} (hs : ss[i]? = some s) (hg : ∀ k, k < w.heap.size → s.v.ownBlock ≠ some k → w'.heap[k]? = w.heap[k]?)
    (hn : s'.At w' base) (hat : ∀ g, s'.v.ownBlock = some g → s.v.ownBlock = some g ∨ w.heap.size ≤ g) : Heap w' base (ss.set i s') := by
  have hi : i < ss.length := (List.getElem?_eq_some_iff.1 hs).1
  have other : ∀ (j : Nat) (t : Slot), j ≠ i → ss[j]? = some t → t.At w' base := fun j t hj ht =>
    (h.own j t ht).same fun g hgt => hg g ((h.own j t ht).lt g hgt).2 (fun hc => h.apart i j s t g (Ne.symm hj) hs ht hc hgt)
  have far : ∀ (j : Nat) (t : Slot) (g : Nat), j ≠ i → ss[j]? = some t → s'.v.ownBlock = some g → t.v.ownBlock ≠ some g := fun j t g hj ht hs' hc => by
    rcases hat g hs' with h1 | h1
    · exact h.apart i j s t g (Ne.symm hj) hs ht h1 hc
    · have := ((h.own j t ht).lt g hc).2
      omega
  refine ⟨fun j t ht => ?_, fun j k a b g hjk ha hb hga hgb => ?_⟩
  · rw [List.getElem?_set] at ht
    by_cases e : i = j
    · rw [if_pos e, if_pos hi] at ht
      cases ht
      exact hn
    · rw [if_neg e] at ht
      exact other j t (Ne.symm e) ht
  · rw [List.getElem?_set] at ha hb
    by_cases e1 : i = j
    · rw [if_pos e1, if_pos hi] at ha
      cases ha
      have e2 : i ≠ k := fun e => hjk (e1.symm.trans e)
      rw [if_neg e2] at hb
      exact far k b g (Ne.symm e2) hb hga hgb
    · rw [if_neg e1] at ha
      by_cases e2 : i = k
      · rw [if_pos e2, if_pos hi] at hb
        cases hb
        exact far j a g (Ne.symm e1) ha hgb hga
      · rw [if_neg e2] at hb
        exact h.apart j k a b g hjk ha hb hga hgb
/-- A row more, all of it new. -/
theorem Heap.more {w w' : World} {base : Nat} {ss : List Slot} (h : Heap w base ss) (hb : Below w.heap.size w w') {s : Slot} (hs : s.At w' base) (hat : ∀ g, s.v.ownBlock = some g → w.heap.size ≤ g) : Heap w' base (ss ++ [s]) := by
  have h' := h.below hb
  have far : ∀ (j : Nat) (t : Slot) (g : Nat), ss[j]? = some t → s.v.ownBlock = some g → t.v.ownBlock ≠ some g := fun j t g ht hs' hc => by
    have := ((h.own j t ht).lt g hc).2
    have := hat g hs'
    omega
  refine ⟨fun j t ht => ?_, fun j k a b g hjk ha hb' hga hgb => ?_⟩
  · rw [List.getElem?_append] at ht
    split at ht
    · exact h'.own j t ht
    · have e : t = s := by
        have h0 : j - ss.length = 0 := by
          have := (List.getElem?_eq_some_iff.1 ht).1
          simpa using this
        rw [h0] at ht
        simpa using ht.symm
      rw [e]
      exact hs
  · rw [List.getElem?_append] at ha hb'
    split at ha
    · split at hb'
      · exact h'.apart j k a b g hjk ha hb' hga hgb
      · have h0 : k - ss.length = 0 := by have := (List.getElem?_eq_some_iff.1 hb').1; simpa using this
        rw [h0] at hb'
        have e : b = s := by simpa using hb'.symm
        rw [e] at hgb
        exact far j a g ha hgb hga
    · have h0 : j - ss.length = 0 := by have := (List.getElem?_eq_some_iff.1 ha).1; simpa using this
      rw [h0] at ha
      have e : a = s := by simpa using ha.symm
      rw [e] at hga
      split at hb'
      · exact far k b g hb' hga hgb
      · have h1 : k - ss.length = 0 := by have := (List.getElem?_eq_some_iff.1 hb').1; simpa using this
        omega
/- Cells of a row that lies in one block. -/
theorem Heap.cell {w : World} {base : Nat} {ss : List Slot} (h : Heap w base ss) {i g n c : Nat} {e : TypeId} {sz : Nat} {cs : List Value} (hs : ss[i]? = some ⟨.slice (some ⟨g, 0, none⟩) n c, e, sz, n, cs⟩) {j : Nat} {u : Value} (hj : cs[j]? = some u) : w.cell? ⟨g, j, none⟩ = some u := by
  have h1 : w.ownsRow base e sz (.slice (some ⟨g, 0, none⟩) n c) n cs := h.own i _ hs
  have hl : j < n * sz := by have := (List.getElem?_eq_some_iff.1 hj).1; rw [h1.1] at this; exact this
  rw [h1.cellAt j hl]
  exact hj
theorem Heap.fz {w : World} {base : Nat} {ss : List Slot} (h : Heap w base ss) {i g n c : Nat} {e : TypeId} {sz : Nat} {cs : List Value} (hs : ss[i]? = some ⟨.slice (some ⟨g, 0, none⟩) n c, e, sz, n, cs⟩) (j : Nat) : w.frozen? ⟨g, j, none⟩ = false := by
  have h1 : w.ownsRow base e sz (.slice (some ⟨g, 0, none⟩) n c) n cs := h.own i _ hs
  exact h1.frozenAt j
theorem Heap.lt {w : World} {base : Nat} {ss : List Slot} (h : Heap w base ss) {i g n c : Nat} {e : TypeId} {sz : Nat} {cs : List Value} (hs : ss[i]? = some ⟨.slice (some ⟨g, 0, none⟩) n c, e, sz, n, cs⟩) : base ≤ g ∧ g < w.heap.size := (h.own i _ hs).lt g rfl
/-- A cell of a row is set. -/
theorem Heap.store {w : World} {base : Nat} {ss : List Slot} (h : Heap w base ss) {i g n c : Nat} {e : TypeId} {sz : Nat} {cs : List Value} (hs : ss[i]? = some ⟨.slice (some ⟨g, 0, none⟩) n c, e, sz, n, cs⟩) (j : Nat) (u : Value) :
    Heap (w.setCell ⟨g, j, none⟩ u) base (ss.set i ⟨.slice (some ⟨g, 0, none⟩) n c, e, sz, n, cs.set j u⟩) := by
  have h1 : w.ownsRow base e sz (.slice (some ⟨g, 0, none⟩) n c) n cs := h.own i _ hs
  obtain ⟨h2, h3⟩ := h1.stored j u
  exact h.turn hs (fun k hk hne => h3.block k hk (fun e => hne (by cases e; rfl))) h2 (fun _ hk => .inl hk)
/-- A row is longer, by append. -/
theorem Heap.grow {w w' : World} {base : Nat} {ss : List Slot} (h : Heap w base ss) {i : Nat} {s s' : Slot} (hs : ss[i]? = some s) (hn : s'.At w' base) (hg : w.grownBy w' s.v.ownBlock) (hat : s'.v.ownBlock = s.v.ownBlock ∨ s'.v.ownBlock = some w.heap.size) : Heap w' base (ss.set i s') :=
  h.turn hs (fun k hk hne => hg.block k hk (fun e => hne e.symm)) hn (fun g hg' => by
    rcases hat with e | e
    · exact .inl (e ▸ hg')
    · rw [e] at hg'
      cases hg'
      exact .inr (Nat.le_refl _))
/-- A row is cut short. -/
theorem own_take {w : World} {base : Nat} {e : TypeId} {sz g n c m : Nat} {cs : List Value} (h : w.ownsRow base e sz (.slice (some ⟨g, 0, none⟩) n c) n cs) (hm : m ≤ n) : w.ownsRow base e sz (.slice (some ⟨g, 0, none⟩) m c) m (cs.take (m * sz)) := by
  have hle : m * sz ≤ n * sz := Nat.mul_le_mul_right _ hm
  refine ⟨by rw [List.length_take, h.1]; omega, ?_⟩
  rcases h.2 with ⟨h0, _⟩ | ⟨g', cap, cur, hv, h1, hh, h2, h3, h4, h5⟩
  · cases h0
  · injection hv with e1 e2 e3
    cases e1
    subst e3
    refine .inr ⟨g, c, cur, rfl, h1, hh, by omega, h3, h4, ?_⟩
    rw [← h5, List.take_take]
    congr 1
    omega
theorem Heap.cut {w : World} {base : Nat} {ss : List Slot} (h : Heap w base ss) {i g n c : Nat} {e : TypeId} {sz : Nat} {cs : List Value} (hs : ss[i]? = some ⟨.slice (some ⟨g, 0, none⟩) n c, e, sz, n, cs⟩) {m : Nat} (hm : m ≤ n) :
    Heap w base (ss.set i ⟨.slice (some ⟨g, 0, none⟩) m c, e, sz, m, cs.take (m * sz)⟩) :=
  h.turn hs (fun _ _ _ => rfl) (own_take (h.own i _ hs) hm) (fun _ hk => .inl hk)
/-- What a row of one's own looks like: it lies nowhere, or in a block. -/
theorem own_shape {w : World} {base : Nat} {e : TypeId} {sz : Nat} {v : Value} {n : Nat} {cs : List Value} (h : w.ownsRow base e sz v n cs) : (v = .slice none 0 0 ∧ n = 0) ∨ ∃ g c, v = .slice (some ⟨g, 0, none⟩) n c ∧ n ≤ c ∧ c ≤ maxLen ∧ base ≤ g ∧ g < w.heap.size := by
  rcases h.2 with h0 | ⟨g, cap, cur, hv, h1, hh, h2, h3, _⟩
  · exact .inl h0
  · exact .inr ⟨g, cap, hv, h2, h3, h1, (Array.getElem?_eq_some_iff.1 hh).1⟩
/-- Elements of n cells each, one behind the other. -/
def flat {α : Type} (f : α → List Value) (l : List α) : List Value := l.flatMap f
theorem flat_len {α : Type} {f : α → List Value} {k : Nat} (hf : ∀ a, (f a).length = k) : ∀ l : List α, (flat f l).length = l.length * k
  | [] => by simp [flat]
  | a :: l => by
    have := flat_len hf l
    unfold flat at this ⊢
    rw [List.flatMap_cons, List.length_append, this, hf, List.length_cons, Nat.add_mul]
    omega
theorem flat_at {α : Type} {f : α → List Value} {k : Nat} (hf : ∀ a, (f a).length = k) : ∀ (l : List α) (i j : Nat) (a : α) (u : Value), l[i]? = some a → (f a)[j]? = some u → (flat f l)[i * k + j]? = some u
  | x :: l, 0, j, a, u, ha, hu => by
    simp at ha
    subst ha
    unfold flat
    rw [List.flatMap_cons, Nat.zero_mul, Nat.zero_add, List.getElem?_append_left ((List.getElem?_eq_some_iff.1 hu).1)]
    exact hu
  | x :: l, i + 1, j, a, u, ha, hu => by
    have := flat_at hf l i j a u (by simpa using ha) hu
    unfold flat at this ⊢
    have hx := hf x
    rw [List.flatMap_cons, List.getElem?_append_right (by rw [hx, Nat.add_mul]; omega), hx, show (i + 1) * k + j - k = i * k + j by rw [Nat.add_mul]; omega]
    exact this
  | [], _, _, _, _, ha, _ => by simp at ha
theorem flat_snoc {α : Type} (f : α → List Value) (l : List α) (a : α) : flat f (l ++ [a]) = flat f l ++ f a := by simp [flat]
theorem flat_take {α : Type} {f : α → List Value} {k : Nat} (hf : ∀ a, (f a).length = k) : ∀ (l : List α) (m : Nat), (flat f l).take (m * k) = flat f (l.take m)
  | _, 0 => by simp [flat]
  | [], m + 1 => by simp [flat]
  | x :: l, m + 1 => by
    have := flat_take hf l m
    have hx := hf x
    unfold flat at this ⊢
    rw [List.flatMap_cons, List.take_succ_cons, List.flatMap_cons, List.take_append, hx, show (m + 1) * k - k = m * k by rw [Nat.add_mul]; omega, this, List.take_of_length_le (by rw [hx, Nat.add_mul]; omega)]
theorem flat_set {α : Type} {f : α → List Value} {k : Nat} (hf : ∀ a, (f a).length = k) : ∀ (l : List α) (i j : Nat) (a b : α) (u : Value), l[i]? = some a → j < k → f b = (f a).set j u → (flat f l).set (i * k + j) u = flat f (l.set i b)
  | x :: l, 0, j, a, b, u, ha, hj, hb => by
    simp at ha
    subst ha
    unfold flat
    rw [List.flatMap_cons, Nat.zero_mul, Nat.zero_add, List.set_append_left _ _ (by rw [hf]; exact hj), List.set_cons_zero, List.flatMap_cons, hb]
  | x :: l, i + 1, j, a, b, u, ha, hj, hb => by
    have := flat_set hf l i j a b u (by simpa using ha) hj hb
    have hx := hf x
    unfold flat at this ⊢
    rw [List.flatMap_cons, List.set_append_right _ _ (by rw [hx, Nat.add_mul]; omega), hx, show (i + 1) * k + j - k = i * k + j by rw [Nat.add_mul]; omega, this, List.set_cons_succ, List.flatMap_cons]
  | [], _, _, _, _, _, ha, _, _ => by simp at ha
end Go.Proofs.YtcggbedjhglmmaaGreatDoor
/- Live variables, plain: one variable over a net of blocks. Lin: the least set; rounds that go on till nothing changes come to it, and each change makes less to do. No program. -/
namespace Go.Proofs.YtcggbedjhglmmaaGreatDoor

inductive Lin (nx : Nat → List Nat) (A T P : Nat → Prop) : Nat → Prop
  | ask {i : Nat} : A i → Lin nx A T P i
  | phi {i : Nat} : T i → P i → Lin nx A T P i
  | on {i j : Nat} : T i → j ∈ nx i → Lin nx A T P j → Lin nx A T P i
def Lout (nx : Nat → List Nat) (A T P : Nat → Prop) (i : Nat) : Prop := P i ∨ ∃ j ∈ nx i, Lin nx A T P j
/-- live into a block: it asks it first, or lets it pass and it is live out of it -/
theorem lin_iff {nx : Nat → List Nat} {A T P : Nat → Prop} {i : Nat} : Lin nx A T P i ↔ A i ∨ T i ∧ Lout nx A T P i := by
  constructor
  · intro h
    cases h with
    | ask h => exact .inl h
    | phi t p => exact .inr ⟨t, .inl p⟩
    | on t m h => exact .inr ⟨t, .inr ⟨_, m, h⟩⟩
  · rintro (h | ⟨t, p | ⟨j, m, h⟩⟩)
    · exact .ask h
    · exact .phi t p
    · exact .on t m h

abbrev onB (a : List Bool) (i : Nat) : Prop := a.getD i false = true
def offs (a : List Bool) : Nat := a.count false
theorem offs_set {a : List Bool} {i : Nat} {p : Bool} (hi : i < a.length) (h : onB a i → p = true) : offs (a.set i p) ≤ offs a ∧ (a.getD i false ≠ p → offs (a.set i p) < offs a) := by
  unfold offs onB at *
  induction a generalizing i with
  | nil => simp at hi
  | cons x a ih =>
    cases i with
    | zero =>
      simp only [List.getD_cons_zero] at h
      simp only [List.set_cons_zero, List.count_cons, List.getD_cons_zero]
      cases x <;> cases p <;> simp_all
    | succ i =>
      have hi' : i < a.length := by simpa using hi
      simp only [List.getD_cons_succ] at h
      have k := ih hi' h
      simp only [List.set_cons_succ, List.count_cons, List.getD_cons_succ]
      refine ⟨by omega, fun hn => ?_⟩
      have := k.2 hn; omega
theorem onB_set {a : List Bool} {i j : Nat} {p : Bool} (hi : i < a.length) : onB (a.set i p) j ↔ (if j = i then p = true else onB a j) := by
  unfold onB
  by_cases h : j = i
  · subst h; simp [hi]
  · rw [if_neg h]; simp [Ne.symm h]

/-- what holds of the two rows as the rounds go on -/
structure LI (n : Nat) (nx : Nat → List Nat) (A T P : Nat → Prop) (a b : List Bool) : Prop where
  la : a.length = n
  lb : b.length = n
  sa : ∀ i, onB a i → Lin nx A T P i
  sb : ∀ i, onB b i → Lout nx A T P i
  ma : ∀ i, onB a i → A i ∨ T i ∧ (P i ∨ ∃ j ∈ nx i, onB a j)
  mb : ∀ i, onB b i → P i ∨ ∃ j ∈ nx i, onB a j

theorem LI.start (n : Nat) (nx : Nat → List Nat) (A T P : Nat → Prop) : LI n nx A T P (List.replicate n false) (List.replicate n false) := by
  have h : ∀ i, ¬ onB (List.replicate n false) i := by
    intro i hi; unfold onB at hi
    rw [List.getD_eq_getElem?_getD, List.getElem?_replicate] at hi
    split at hi <;> simp at hi
  exact ⟨by simp, by simp, fun i q => absurd q (h i), fun i q => absurd q (h i), fun i q => absurd q (h i), fun i q => absurd q (h i)⟩


theorem LI.up {n : Nat} {nx : Nat → List Nat} {A T P : Nat → Prop} {a b : List Bool} (H : LI n nx A T P a b) {i : Nat} {p q : Bool}
    (hq : q = true ↔ P i ∨ ∃ j ∈ nx i, onB a j) (hp : p = true ↔ A i ∨ T i ∧ q = true) : (onB a i → p = true) ∧ (onB b i → q = true) := by
  refine ⟨fun h => hp.2 ?_, fun h => hq.2 (H.mb i h)⟩
  rcases H.ma i h with h | ⟨t, h⟩
  · exact .inl h
  · exact .inr ⟨t, hq.2 h⟩
theorem LI.step {n : Nat} {nx : Nat → List Nat} {A T P : Nat → Prop} {a b : List Bool} (H : LI n nx A T P a b) {i : Nat} (hi : i < n) {p q : Bool}
    (hq : q = true ↔ P i ∨ ∃ j ∈ nx i, onB a j) (hp : p = true ↔ A i ∨ T i ∧ q = true) : LI n nx A T P (a.set i p) (b.set i q) := by
  have up := H.up hq hp
  have ia : i < a.length := by rw [H.la]; exact hi
  have ib : i < b.length := by rw [H.lb]; exact hi
  have grow : ∀ j, onB a j → onB (a.set i p) j := by
    intro j hj; rw [onB_set ia]; split
    · rename_i e; subst e; exact up.1 hj
    · exact hj
  have gr : ∀ k, (P k ∨ ∃ j ∈ nx k, onB a j) → (P k ∨ ∃ j ∈ nx k, onB (a.set i p) j) := by
    rintro k (h | ⟨j, m, h⟩)
    · exact .inl h
    · exact .inr ⟨j, m, grow j h⟩
  have so : (P i ∨ ∃ j ∈ nx i, onB a j) → Lout nx A T P i := by
    rintro (h | ⟨j, m, h⟩)
    · exact .inl h
    · exact .inr ⟨j, m, H.sa j h⟩
  refine ⟨by simp [H.la], by simp [H.lb], ?_, ?_, ?_, ?_⟩
  · intro k hk; rw [onB_set ia] at hk; split at hk
    · rename_i e; subst e
      rcases hp.1 hk with h | ⟨t, h⟩
      · exact .ask h
      · exact lin_iff.2 (.inr ⟨t, so (hq.1 h)⟩)
    · exact H.sa k hk
  · intro k hk; rw [onB_set ib] at hk; split at hk
    · rename_i e; subst e; exact so (hq.1 hk)
    · exact H.sb k hk
  · intro k hk; rw [onB_set ia] at hk; split at hk
    · rename_i e; subst e
      rcases hp.1 hk with h | ⟨t, h⟩
      · exact .inl h
      · exact .inr ⟨t, gr _ (hq.1 h)⟩
    · rcases H.ma k hk with h | ⟨t, h⟩
      · exact .inl h
      · exact .inr ⟨t, gr _ h⟩
  · intro k hk; rw [onB_set ib] at hk; split at hk
    · rename_i e; subst e; exact gr _ (hq.1 hk)
    · exact gr _ (H.mb k hk)
/-- a change makes less to do -/
theorem LI.less {n : Nat} {nx : Nat → List Nat} {A T P : Nat → Prop} {a b : List Bool} (H : LI n nx A T P a b) {i : Nat} (hi : i < n) {p q : Bool}
    (hq : q = true ↔ P i ∨ ∃ j ∈ nx i, onB a j) (hp : p = true ↔ A i ∨ T i ∧ q = true) (hne : p ≠ a.getD i false ∨ q ≠ b.getD i false) :
    offs (a.set i p) + offs (b.set i q) < offs a + offs b := by
  have up := H.up hq hp
  have ka := offs_set (by rw [H.la]; exact hi) up.1
  have kb := offs_set (by rw [H.lb]; exact hi) up.2
  rcases hne with h | h
  · have := ka.2 (Ne.symm h); omega
  · have := kb.2 (Ne.symm h); omega
/-- a round in which nothing has changed: both rows are the least sets -/
theorem LI.done {n : Nat} {nx : Nat → List Nat} {A T P : Nat → Prop} {a b : List Bool} (H : LI n nx A T P a b) (hnx : ∀ i, i < n → ∀ j ∈ nx i, j < n)
    (hb : ∀ i, i < n → (onB b i ↔ P i ∨ ∃ j ∈ nx i, onB a j)) (ha : ∀ i, i < n → (onB a i ↔ A i ∨ T i ∧ onB b i)) :
    ∀ i, i < n → (onB a i ↔ Lin nx A T P i) ∧ (onB b i ↔ Lout nx A T P i) := by
  have k : ∀ i, Lin nx A T P i → i < n → onB a i := by
    intro i h
    induction h with
    | ask h => intro hi; exact (ha _ hi).2 (.inl h)
    | phi t p => intro hi; exact (ha _ hi).2 (.inr ⟨t, (hb _ hi).2 (.inl p)⟩)
    | on t m _ ih => intro hi; exact (ha _ hi).2 (.inr ⟨t, (hb _ hi).2 (.inr ⟨_, m, ih (hnx _ hi _ m)⟩)⟩)
  intro i hi
  refine ⟨⟨H.sa i, fun h => k i h hi⟩, ⟨H.sb i, ?_⟩⟩
  rintro (h | ⟨j, m, h⟩)
  · exact (hb i hi).2 (.inl h)
  · exact (hb i hi).2 (.inr ⟨j, m, k j h (hnx i hi j m)⟩)
/-- what is asked nowhere is live nowhere -/
theorem lin_none {nx : Nat → List Nat} {A T P : Nat → Prop} (ha : ∀ i, ¬ A i) (hp : ∀ i, ¬ P i) {i : Nat} : ¬ Lin nx A T P i := by
  intro h
  induction h with
  | ask h => exact ha _ h
  | phi _ p => exact hp _ p
  | on _ _ _ ih => exact ih
end Go.Proofs.YtcggbedjhglmmaaGreatDoor
