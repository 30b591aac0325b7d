/- The flow of one strip, plain: words by blocks; what holds of them as variables are handed on; when nothing waits they are the least sets. No program. -/
import Derived.Test.YtcggbedjhglmmaaGreatDoorLPlainM
namespace Go.Proofs.YtcggbedjhglmmaaGreatDoor

theorem lin_congr {nx : Nat → List Nat} {A A' T T' P P' : Nat → Prop} (hA : ∀ i, A i ↔ A' i) (hT : ∀ i, ¬ A i → (T i ↔ T' i)) (hP : ∀ i, P i ↔ P' i) {i : Nat} : Lin nx A T P i ↔ Lin nx A' T' P' i := by
  constructor
  · intro h
    induction h with
    | ask h => exact .ask ((hA _).1 h)
    | @phi i t p => by_cases ha : A i
                    · exact .ask ((hA _).1 ha)
                    · exact .phi ((hT _ ha).1 t) ((hP _).1 p)
    | @on i j t m _ ih => by_cases ha : A i
                          · exact .ask ((hA _).1 ha)
                          · exact .on ((hT _ ha).1 t) m ih
  · intro h
    induction h with
    | ask h => exact .ask ((hA _).2 h)
    | @phi i t p => by_cases ha : A i
                    · exact .ask ha
                    · exact .phi ((hT _ ha).2 t) ((hP _).2 p)
    | @on i j t m _ ih => by_cases ha : A i
                          · exact .ask ha
                          · exact .on ((hT _ ha).2 t) m ih
theorem lout_congr {nx : Nat → List Nat} {A A' T T' P P' : Nat → Prop} (hA : ∀ i, A i ↔ A' i) (hT : ∀ i, ¬ A i → (T i ↔ T' i)) (hP : ∀ i, P i ↔ P' i) {i : Nat} : Lout nx A T P i ↔ Lout nx A' T' P' i := by
  unfold Lout
  rw [hP]
  constructor
  · rintro (h | ⟨j, m, h⟩)
    · exact .inl h
    · exact .inr ⟨j, m, (lin_congr hA hT hP).1 h⟩
  · rintro (h | ⟨j, m, h⟩)
    · exact .inl h
    · exact .inr ⟨j, m, (lin_congr hA hT hP).2 h⟩

/-- words without others -/
def andN (x y : Nat) : Nat := x &&& (18446744073709551615 - y)
theorem andN_bit {x y b : Nat} (hx : x < 2 ^ 64) (hy : y < 2 ^ 64) : (andN x y).testBit b = (x.testBit b && !y.testBit b) := by
  unfold andN
  rw [Nat.testBit_and]
  have e : 18446744073709551615 - y = 2 ^ 64 - (y + 1) := by omega
  rw [e, Nat.testBit_two_pow_sub_succ hy]
  by_cases hb : b < 64
  · simp [hb]
  · have : x.testBit b = false := Nat.testBit_lt_two_pow (Nat.lt_of_lt_of_le hx (Nat.pow_le_pow_right (by omega) (by omega)))
    simp [this]
theorem andN_lt {x y : Nat} (hx : x < 2 ^ 64) : andN x y < 2 ^ 64 := Nat.lt_of_le_of_lt Nat.and_le_left hx
theorem bit_hi {x b : Nat} (hx : x < 2 ^ 64) (h : x.testBit b = true) : b < 64 := by
  refine Classical.byContradiction fun hb => ?_
  rw [Nat.testBit_lt_two_pow (Nat.lt_of_lt_of_le hx (Nat.pow_le_pow_right (by omega) (by omega)))] at h
  cases h
theorem word_ne {x : Nat} : x ≠ 0 ↔ ∃ b, x.testBit b = true := by
  constructor
  · intro h; exact Nat.exists_testBit_of_ne_zero h
  · rintro ⟨b, h⟩ e; subst e; simp at h

theorem not_f {b : Bool} (h : (!b) = false) : b = true := by cases b <;> simp_all
theorem not_t {b : Bool} (h : (!b) = true) : b = false := by cases b <;> simp_all
abbrev wAt (l : List Nat) (i : Nat) : Nat := l.getD i 0
abbrev tb (l : List Nat) (i b : Nat) : Prop := (wAt l i).testBit b = true
theorem wAt_set {l : List Nat} {i : Nat} (hi : i < l.length) (x j : Nat) : wAt (l.set i x) j = if j = i then x else wAt l j := by
  unfold wAt
  by_cases h : j = i
  · subst h; simp [hi]
  · rw [if_neg h]; simp [Ne.symm h]
def Words (n : Nat) (l : List Nat) : Prop := l.length = n ∧ ∀ i, wAt l i < 2 ^ 64
theorem Words.rep (n : Nat) : Words n (List.replicate n 0) := by
  refine ⟨by simp, fun i => ?_⟩
  unfold wAt
  rw [List.getD_eq_getElem?_getD, List.getElem?_replicate]
  split <;> simp
theorem Words.set {n : Nat} {l : List Nat} (h : Words n l) {i x : Nat} (hx : x < 2 ^ 64) : Words n (l.set i x) := by
  refine ⟨by simpa using h.1, fun j => ?_⟩
  by_cases hi : i < l.length
  · rw [wAt_set hi]; split
    · exact hx
    · exact h.2 j
  · rw [List.set_eq_of_length_le (by omega)]; exact h.2 j
theorem wAt_out {n : Nat} {l : List Nat} (h : Words n l) {i : Nat} (hi : n ≤ i) : wAt l i = 0 := by
  unfold wAt
  rw [List.getD_eq_getElem?_getD, List.getElem?_eq_none (by rw [h.1]; exact hi)]; rfl

structure Fl where
  sets : List Nat
  into : List Nat
  out : List Nat
  news : List Nat
  wt : List Nat
  met : List Nat
def Fl.meet (f : Fl) (i : Nat) : Fl := if wAt f.into i ||| wAt f.out i = 0 then { f with met := f.met ++ [i] } else f
def Fl.more (f : Fl) (i v : Nat) : Fl := { f with wt := if wAt f.news i = 0 then f.wt ++ [i] else f.wt, news := f.news.set i (wAt f.news i ||| v), into := f.into.set i (wAt f.into i ||| v) }
def Fl.enter (f : Fl) (i w : Nat) : Fl := if andN w (wAt f.into i) = 0 then f else (f.meet i).more i (andN w (wAt f.into i))
def Fl.outs (f : Fl) (i w : Nat) : Fl := { f with out := f.out.set i (wAt f.out i ||| w) }
def Fl.leave (f : Fl) (i w : Nat) : Fl := ((f.meet i).outs i w).enter i (andN w (wAt f.sets i))

/-- what holds of the words: nx: the blocks next to one; A: asked first; S: set; P: asked by a phi at the end; X: edges over which something is not yet handed on -/
structure FI (n : Nat) (nx : Nat → List Nat) (A S P : Nat → Nat → Prop) (X : Nat → Nat → Nat → Prop) (f : Fl) : Prop where
  ls : Words n f.sets
  li : Words n f.into
  lo : Words n f.out
  ln : Words n f.news
  set : ∀ i b, i < n → (tb f.sets i b ↔ S b i)
  si : ∀ i b, tb f.into i b → Lin nx (A b) (fun i => ¬ S b i) (P b) i
  so : ∀ i b, tb f.out i b → Lout nx (A b) (fun i => ¬ S b i) (P b) i
  pass : ∀ i b, tb f.out i b → ¬ S b i → tb f.into i b
  nw : ∀ i b, tb f.news i b → tb f.into i b
  sp : ∀ i j b, j ∈ nx i → tb f.into j b → tb f.out i b ∨ tb f.news j b ∨ X i j b
  wt : ∀ i, i ∈ f.wt ↔ wAt f.news i ≠ 0
  nd : f.wt.Nodup
  met : ∀ i, i ∈ f.met ↔ wAt f.into i ≠ 0 ∨ wAt f.out i ≠ 0
  nm : f.met.Nodup
theorem or_ne {x y : Nat} : x ||| y = 0 ↔ x = 0 ∧ y = 0 := by
  constructor
  · intro h
    have k : ∀ b, x.testBit b = false ∧ y.testBit b = false := fun b => by
      have := congrArg (·.testBit b) h
      simpa [Nat.testBit_or] using this
    exact ⟨Nat.eq_of_testBit_eq fun b => by rw [(k b).1]; simp, Nat.eq_of_testBit_eq fun b => by rw [(k b).2]; simp⟩
  · rintro ⟨rfl, rfl⟩; rfl
theorem nodup_snocN {l : List Nat} {x : Nat} (h : l.Nodup) (hx : x ∉ l) : (l ++ [x]).Nodup := by
  rw [List.nodup_append]
  refine ⟨h, by simp, fun a ha b hb e => ?_⟩
  simp at hb; subst hb; subst e; exact hx ha
theorem or_lt64 {x y : Nat} (hx : x < 2 ^ 64) (hy : y < 2 ^ 64) : x ||| y < 2 ^ 64 := Nat.or_lt_two_pow hx hy
/-- the fields that meet leaves -/
theorem meet_f (f : Fl) (i : Nat) : (f.meet i).sets = f.sets ∧ (f.meet i).into = f.into ∧ (f.meet i).out = f.out ∧ (f.meet i).news = f.news ∧ (f.meet i).wt = f.wt := by
  unfold Fl.meet; split <;> exact ⟨rfl, rfl, rfl, rfl, rfl⟩
theorem meet_mem (f : Fl) (i : Nat) (hm : ∀ i, i ∈ f.met ↔ wAt f.into i ≠ 0 ∨ wAt f.out i ≠ 0) (nm : f.met.Nodup) : (∀ j, j ∈ (f.meet i).met ↔ j = i ∨ wAt f.into j ≠ 0 ∨ wAt f.out j ≠ 0) ∧ (f.meet i).met.Nodup := by
  unfold Fl.meet
  by_cases h : wAt f.into i ||| wAt f.out i = 0
  · rw [if_pos h]
    have h' := or_ne.1 h
    refine ⟨fun j => ?_, nodup_snocN nm fun hc => ?_⟩
    · rw [List.mem_append, hm]; simp only [List.mem_singleton]
      constructor
      · rintro (h | h)
        · exact .inr h
        · exact .inl h
      · rintro (h | h)
        · exact .inr h
        · exact .inl h
    · rcases (hm i).1 hc with h1 | h1
      · exact h1 h'.1
      · exact h1 h'.2
  · rw [if_neg h]
    refine ⟨fun j => ?_, nm⟩
    rw [hm]
    constructor
    · exact .inr
    · rintro (rfl | h1)
      · refine Classical.byContradiction fun hc => h (or_ne.2 ?_)
        exact ⟨Classical.byContradiction fun e => hc (.inl e), Classical.byContradiction fun e => hc (.inr e)⟩
      · exact h1
/-- more is live into a block -/
theorem FI.enter {n : Nat} {nx : Nat → List Nat} {A S P : Nat → Nat → Prop} {X : Nat → Nat → Nat → Prop} {f : Fl} (h : FI n nx A S P X f) {i w : Nat} (hi : i < n) (hw : w < 2 ^ 64)
    (hl : ∀ b, w.testBit b = true → Lin nx (A b) (fun i => ¬ S b i) (P b) i) :
    FI n nx A S P X (f.enter i w) ∧ (∀ b, w.testBit b = true → tb (f.enter i w).into i b) ∧ (f.enter i w).out = f.out ∧ (∀ j b, tb f.into j b → tb (f.enter i w).into j b) := by
  unfold Fl.enter
  have hbit := fun b => andN_bit (b := b) hw (h.li.2 i)
  by_cases h0 : andN w (wAt f.into i) = 0
  · rw [if_pos h0]
    refine ⟨h, fun b hb => ?_, rfl, fun _ _ k => k⟩
    have := hbit b
    rw [h0, hb, Nat.zero_testBit, Bool.true_and] at this
    exact not_f this.symm
  · rw [if_neg h0]
    generalize hv : andN w (wAt f.into i) = v at *
    have hvl : v < 2 ^ 64 := hv ▸ andN_lt hw
    have hvw : ∀ b, v.testBit b = true → w.testBit b = true := fun b hb => by have := hbit b; rw [hb] at this; simp at this; exact this.1
    obtain ⟨m1, m2, m3, m4, m5⟩ := meet_f f i
    obtain ⟨k1, k2⟩ := meet_mem f i h.met h.nm
    have e1 : ((f.meet i).more i v).sets = f.sets := m1
    have e2 : ((f.meet i).more i v).into = f.into.set i (wAt f.into i ||| v) := by show (f.meet i).into.set i (wAt (f.meet i).into i ||| v) = _; rw [m2]
    have e3 : ((f.meet i).more i v).out = f.out := m3
    have e4 : ((f.meet i).more i v).news = f.news.set i (wAt f.news i ||| v) := by show (f.meet i).news.set i (wAt (f.meet i).news i ||| v) = _; rw [m4]
    have e5 : ((f.meet i).more i v).wt = if wAt f.news i = 0 then f.wt ++ [i] else f.wt := by show (if wAt (f.meet i).news i = 0 then (f.meet i).wt ++ [i] else (f.meet i).wt) = _; rw [m4, m5]
    have e6 : ((f.meet i).more i v).met = (f.meet i).met := rfl
    have wi : ∀ j, wAt (f.into.set i (wAt f.into i ||| v)) j = if j = i then wAt f.into i ||| v else wAt f.into j := fun j => wAt_set (by rw [h.li.1]; exact hi) _ _
    have wn : ∀ j, wAt (f.news.set i (wAt f.news i ||| v)) j = if j = i then wAt f.news i ||| v else wAt f.news j := fun j => wAt_set (by rw [h.ln.1]; exact hi) _ _
    have ti : ∀ j b, tb (f.into.set i (wAt f.into i ||| v)) j b ↔ tb f.into j b ∨ (j = i ∧ v.testBit b = true) := fun j b => by
      unfold tb; rw [wi]
      by_cases e : j = i
      · subst e; rw [if_pos rfl, Nat.testBit_or]; simp
      · rw [if_neg e]; simp [e]
    have tn : ∀ j b, tb (f.news.set i (wAt f.news i ||| v)) j b ↔ tb f.news j b ∨ (j = i ∧ v.testBit b = true) := fun j b => by
      unfold tb; rw [wn]
      by_cases e : j = i
      · subst e; rw [if_pos rfl, Nat.testBit_or]; simp
      · rw [if_neg e]; simp [e]
    refine ⟨⟨by rw [e1]; exact h.ls, by rw [e2]; exact h.li.set (or_lt64 (h.li.2 i) hvl), by rw [e3]; exact h.lo, by rw [e4]; exact h.ln.set (or_lt64 (h.ln.2 i) hvl), by rw [e1]; exact h.set, ?_, by rw [e3]; exact h.so, ?_, ?_, ?_, ?_, ?_, ?_, ?_⟩, ?_, e3, ?_⟩
    · intro j b hb; rw [e2, ti] at hb
      rcases hb with hb | ⟨rfl, hb⟩
      · exact h.si j b hb
      · exact hl b (hvw b hb)
    · intro j b hb hs; rw [e3] at hb; rw [e2, ti]; exact .inl (h.pass j b hb hs)
    · intro j b hb; rw [e4, tn] at hb; rw [e2, ti]
      rcases hb with hb | hb
      · exact .inl (h.nw j b hb)
      · exact .inr hb
    · intro k j b hk hb; rw [e2, ti] at hb; rw [e3, e4, tn]
      rcases hb with hb | hb
      · rcases h.sp k j b hk hb with q | q | q
        · exact .inl q
        · exact .inr (.inl (.inl q))
        · exact .inr (.inr q)
      · exact .inr (.inl (.inr hb))
    · intro j
      rw [e5, e4, wn]
      have hvi : wAt f.news i ||| v ≠ 0 := fun e => h0 (or_ne.1 e).2
      by_cases e : j = i
      · subst e; rw [if_pos rfl]
        refine ⟨fun _ => hvi, fun _ => ?_⟩
        split
        · simp
        · rename_i e; exact (h.wt j).2 e
      · rw [if_neg e, ← h.wt j]
        split
        · simp [e]
        · rfl
    · rw [e5]; split
      · rename_i e; exact nodup_snocN h.nd fun hc => (h.wt i).1 hc e
      · exact h.nd
    · intro j; rw [e6, k1, e2, e3, wi]
      by_cases e : j = i
      · subst e; rw [if_pos rfl]
        exact ⟨fun _ => .inl fun e => h0 (or_ne.1 e).2, fun _ => .inl rfl⟩
      · rw [if_neg e]; simp [e]
    · rw [e6]; exact k2
    · intro b hb; rw [e2, ti]
      have := hbit b
      rw [hb] at this
      by_cases q : tb f.into i b
      · exact .inl q
      · unfold tb at q
        rw [Bool.not_eq_true] at q
        rw [q] at this
        exact .inr ⟨rfl, by simpa using this⟩
    · intro j b hb; rw [e2, ti]; exact .inl hb
/-- more is live out of a block -/
theorem FI.leave {n : Nat} {nx : Nat → List Nat} {A S P : Nat → Nat → Prop} {X : Nat → Nat → Nat → Prop} {f : Fl} (h : FI n nx A S P X f) {i w : Nat} (hi : i < n) (hw : w < 2 ^ 64) (hw0 : w ≠ 0)
    (hl : ∀ b, w.testBit b = true → Lout nx (A b) (fun i => ¬ S b i) (P b) i) :
    FI n nx A S P (fun k j b => X k j b ∧ ¬ (k = i ∧ w.testBit b = true)) (f.leave i w) ∧ (∀ b, w.testBit b = true → tb (f.leave i w).out i b) ∧ (∀ j b, tb f.out j b → tb (f.leave i w).out j b) ∧ (∀ j b, tb f.into j b → tb (f.leave i w).into j b) := by
  obtain ⟨m1, m2, m3, m4, m5⟩ := meet_f f i
  obtain ⟨k1, k2⟩ := meet_mem f i h.met h.nm
  generalize hg : (f.meet i).outs i w = g
  have e1 : g.sets = f.sets := by rw [← hg]; exact m1
  have e2 : g.into = f.into := by rw [← hg]; exact m2
  have e3 : g.out = f.out.set i (wAt f.out i ||| w) := by rw [← hg]; show (f.meet i).out.set i (wAt (f.meet i).out i ||| w) = _; rw [m3]
  have e4 : g.news = f.news := by rw [← hg]; exact m4
  have e5 : g.wt = f.wt := by rw [← hg]; exact m5
  have e6 : g.met = (f.meet i).met := by rw [← hg]; rfl
  have wo : ∀ j, wAt (f.out.set i (wAt f.out i ||| w)) j = if j = i then wAt f.out i ||| w else wAt f.out j := fun j => wAt_set (by rw [h.lo.1]; exact hi) _ _
  have to : ∀ j b, tb (f.out.set i (wAt f.out i ||| w)) j b ↔ tb f.out j b ∨ (j = i ∧ w.testBit b = true) := fun j b => by
    unfold tb; rw [wo]
    by_cases e : j = i
    · subst e; rw [if_pos rfl, Nat.testBit_or]; simp
    · rw [if_neg e]; simp [e]
  have hsb := fun b => andN_bit (b := b) hw (h.ls.2 i)
  have hlin : ∀ b, (andN w (wAt f.sets i)).testBit b = true → Lin nx (A b) (fun i => ¬ S b i) (P b) i := fun b hb => by
    rw [hsb] at hb
    simp only [Bool.and_eq_true, Bool.not_eq_true'] at hb
    refine lin_iff.2 (.inr ⟨fun hs => ?_, hl b hb.1⟩)
    have := (h.set i b hi).2 hs
    unfold tb at this
    rw [hb.2] at this
    cases this
  have hu : f.leave i w = g.enter i (andN w (wAt f.sets i)) := by
    unfold Fl.leave; rw [hg]
  rw [hu]
  -- enter by its own: into, news, waiting, met
  unfold Fl.enter
  rw [e2]
  have hbit := fun b => andN_bit (x := andN w (wAt f.sets i)) (b := b) (andN_lt hw) (h.li.2 i)
  have passed : ∀ b, w.testBit b = true → ¬ S b i → (andN w (wAt f.sets i)).testBit b = true := fun b hb hs => by
    rw [hsb, hb, Bool.true_and, Bool.not_eq_true']
    rw [← Bool.not_eq_true]
    exact fun hc => hs ((h.set i b hi).1 hc)
  have metg : ∀ j, j ∈ g.met ↔ wAt f.into j ≠ 0 ∨ wAt (f.out.set i (wAt f.out i ||| w)) j ≠ 0 := fun j => by
    rw [e6, k1, wo]
    by_cases e : j = i
    · subst e; rw [if_pos rfl]
      exact ⟨fun _ => .inr fun e => hw0 (or_ne.1 e).2, fun _ => .inl rfl⟩
    · rw [if_neg e]; simp [e]
  by_cases h0 : andN (andN w (wAt f.sets i)) (wAt f.into i) = 0
  · rw [if_pos h0]
    have inn : ∀ b, (andN w (wAt f.sets i)).testBit b = true → tb f.into i b := fun b hb => by
      have := hbit b
      rw [h0, hb, Nat.zero_testBit, Bool.true_and] at this
      exact not_f this.symm
    refine ⟨⟨by rw [e1]; exact h.ls, by rw [e2]; exact h.li, by rw [e3]; exact h.lo.set (or_lt64 (h.lo.2 i) hw), by rw [e4]; exact h.ln, by rw [e1]; exact h.set, by rw [e2]; exact h.si, ?_, ?_, by rw [e4, e2]; exact h.nw, ?_, by rw [e5, e4]; exact h.wt, by rw [e5]; exact h.nd, by rw [e2, e3]; exact metg, by rw [e6]; exact k2⟩, ?_, ?_, by rw [e2]; exact fun _ _ k => k⟩
    · intro j b hb; rw [e3, to] at hb
      rcases hb with hb | ⟨rfl, hb⟩
      · exact h.so j b hb
      · exact hl b hb
    · intro j b hb hs; rw [e3, to] at hb; rw [e2]
      rcases hb with hb | ⟨rfl, hb⟩
      · exact h.pass j b hb hs
      · exact inn b (passed b hb hs)
    · intro k j b hk hb; rw [e2] at hb; rw [e3, e4, to]
      rcases h.sp k j b hk hb with q | q | q
      · exact .inl (.inl q)
      · exact .inr (.inl q)
      · by_cases q2 : k = i ∧ w.testBit b = true
        · exact .inl (.inr q2)
        · exact .inr (.inr ⟨q, q2⟩)
    · intro b hb; rw [e3, to]; exact .inr ⟨rfl, hb⟩
    · intro j b hb; rw [e3, to]; exact .inl hb
  · rw [if_neg h0]
    generalize hv : andN (andN w (wAt f.sets i)) (wAt f.into i) = v at *
    have hvl : v < 2 ^ 64 := hv ▸ andN_lt (andN_lt hw)
    have hvw : ∀ b, v.testBit b = true → (andN w (wAt f.sets i)).testBit b = true := fun b hb => by have := hbit b; rw [hb] at this; simp at this; exact this.1
    have hne : ¬ (wAt g.into i ||| wAt g.out i = 0) := by
      rw [e3, wo, if_pos rfl]
      exact fun e => hw0 (or_ne.1 (or_ne.1 e).2).2
    have hmg : g.meet i = g := by unfold Fl.meet; rw [if_neg hne]
    rw [hmg]
    have f1 : (g.more i v).sets = f.sets := e1
    have f2 : (g.more i v).into = f.into.set i (wAt f.into i ||| v) := by show g.into.set i (wAt g.into i ||| v) = _; rw [e2]
    have f3 : (g.more i v).out = f.out.set i (wAt f.out i ||| w) := e3
    have f4 : (g.more i v).news = f.news.set i (wAt f.news i ||| v) := by show g.news.set i (wAt g.news i ||| v) = _; rw [e4]
    have f5 : (g.more i v).wt = if wAt f.news i = 0 then f.wt ++ [i] else f.wt := by show (if wAt g.news i = 0 then g.wt ++ [i] else g.wt) = _; rw [e4, e5]
    have f6 : (g.more i v).met = g.met := rfl
    have wi : ∀ j, wAt (f.into.set i (wAt f.into i ||| v)) j = if j = i then wAt f.into i ||| v else wAt f.into j := fun j => wAt_set (by rw [h.li.1]; exact hi) _ _
    have wn : ∀ j, wAt (f.news.set i (wAt f.news i ||| v)) j = if j = i then wAt f.news i ||| v else wAt f.news j := fun j => wAt_set (by rw [h.ln.1]; exact hi) _ _
    have ti : ∀ j b, tb (f.into.set i (wAt f.into i ||| v)) j b ↔ tb f.into j b ∨ (j = i ∧ v.testBit b = true) := fun j b => by
      unfold tb; rw [wi]
      by_cases e : j = i
      · subst e; rw [if_pos rfl, Nat.testBit_or]; simp
      · rw [if_neg e]; simp [e]
    have tn : ∀ j b, tb (f.news.set i (wAt f.news i ||| v)) j b ↔ tb f.news j b ∨ (j = i ∧ v.testBit b = true) := fun j b => by
      unfold tb; rw [wn]
      by_cases e : j = i
      · subst e; rw [if_pos rfl, Nat.testBit_or]; simp
      · rw [if_neg e]; simp [e]
    have inn : ∀ b, (andN w (wAt f.sets i)).testBit b = true → tb f.into i b ∨ v.testBit b = true := fun b hb => by
      have := hbit b
      rw [hb] at this
      by_cases q : tb f.into i b
      · exact .inl q
      · unfold tb at q
        rw [Bool.not_eq_true] at q
        rw [q] at this
        exact .inr (by simpa using this)
    refine ⟨⟨by rw [f1]; exact h.ls, by rw [f2]; exact h.li.set (or_lt64 (h.li.2 i) hvl), by rw [f3]; exact h.lo.set (or_lt64 (h.lo.2 i) hw), by rw [f4]; exact h.ln.set (or_lt64 (h.ln.2 i) hvl), by rw [f1]; exact h.set, ?_, ?_, ?_, ?_, ?_, ?_, ?_, ?_, by rw [f6, e6]; exact k2⟩, ?_, ?_, ?_⟩
    · intro j b hb; rw [f2, ti] at hb
      rcases hb with hb | ⟨rfl, hb⟩
      · exact h.si j b hb
      · exact hlin b (hvw b hb)
    · intro j b hb; rw [f3, to] at hb
      rcases hb with hb | ⟨rfl, hb⟩
      · exact h.so j b hb
      · exact hl b hb
    · intro j b hb hs; rw [f3, to] at hb; rw [f2, ti]
      rcases hb with hb | ⟨rfl, hb⟩
      · exact .inl (h.pass j b hb hs)
      · rcases inn b (passed b hb hs) with q | q
        · exact .inl q
        · exact .inr ⟨rfl, q⟩
    · intro j b hb; rw [f4, tn] at hb; rw [f2, ti]
      rcases hb with hb | hb
      · exact .inl (h.nw j b hb)
      · exact .inr hb
    · intro k j b hk hb; rw [f2, ti] at hb; rw [f3, f4, tn, to]
      rcases hb with hb | hb
      · rcases h.sp k j b hk hb with q | q | q
        · exact .inl (.inl q)
        · exact .inr (.inl (.inl q))
        · by_cases q2 : k = i ∧ w.testBit b = true
          · exact .inl (.inr q2)
          · exact .inr (.inr ⟨q, q2⟩)
      · exact .inr (.inl (.inr hb))
    · intro j
      rw [f5, f4, wn]
      have hvi : wAt f.news i ||| v ≠ 0 := fun e => h0 (or_ne.1 e).2
      by_cases e : j = i
      · subst e; rw [if_pos rfl]
        refine ⟨fun _ => hvi, fun _ => ?_⟩
        split
        · simp
        · rename_i e; exact (h.wt j).2 e
      · rw [if_neg e, ← h.wt j]
        split
        · simp [e]
        · rfl
    · rw [f5]; split
      · rename_i e; exact nodup_snocN h.nd fun hc => (h.wt i).1 hc e
      · exact h.nd
    · intro j; rw [f6, metg, f2, f3, wi]
      by_cases e : j = i
      · subst e; rw [if_pos rfl]
        constructor
        · rintro (q | q)
          · exact .inl fun e => q (or_ne.1 e).1
          · exact .inr q
        · intro _; right; rw [wo, if_pos rfl]; exact fun e => hw0 (or_ne.1 e).2
      · rw [if_neg e]
    · intro b hb; rw [f3, to]; exact .inr ⟨rfl, hb⟩
    · intro j b hb; rw [f3, to]; exact .inl hb
    · intro j b hb; rw [f2, ti]; exact .inl hb
/-- the last one that waits is taken -/
theorem FI.take {n : Nat} {nx : Nat → List Nat} {A S P : Nat → Nat → Prop} {f : Fl} {l : List Nat} {j0 : Nat} (h : FI n nx A S P (fun _ _ _ => False) f) (hwt : f.wt = l ++ [j0]) (hj : j0 < n) :
    FI n nx A S P (fun i j b => j = j0 ∧ (wAt f.news j0).testBit b = true ∧ j0 ∈ nx i) { f with wt := l, news := f.news.set j0 0 } := by
  have hnd := h.nd
  rw [hwt, List.nodup_append] at hnd
  have hjl : j0 ∉ l := fun hc => hnd.2.2 j0 hc j0 (by simp) rfl
  have wn : ∀ j, wAt (f.news.set j0 0) j = if j = j0 then 0 else wAt f.news j := fun j => wAt_set (by rw [h.ln.1]; exact hj) _ _
  refine ⟨h.ls, h.li, h.lo, h.ln.set (by omega), h.set, h.si, h.so, h.pass, ?_, ?_, ?_, hnd.1, h.met, h.nm⟩
  · intro i b hb
    unfold tb at hb; dsimp only at hb; rw [wn] at hb
    split at hb
    · simp at hb
    · exact h.nw i b hb
  · intro i j b hk hb
    rcases h.sp i j b hk hb with q | q | q
    · exact .inl q
    · by_cases e : j = j0
      · subst e; exact .inr (.inr ⟨rfl, q, hk⟩)
      · refine .inr (.inl ?_)
        unfold tb; dsimp only; rw [wn, if_neg e]; exact q
    · exact q.elim
  · intro i
    dsimp only
    rw [wn]
    by_cases e : i = j0
    · subst e; rw [if_pos rfl]; simp [hjl]
    · rw [if_neg e, ← h.wt i, hwt, List.mem_append]; simp [e]
theorem FI.mono {n : Nat} {nx : Nat → List Nat} {A S P : Nat → Nat → Prop} {X Y : Nat → Nat → Nat → Prop} {f : Fl} (h : FI n nx A S P X f) (hx : ∀ i j b, j ∈ nx i → X i j b → Y i j b) : FI n nx A S P Y f :=
  ⟨h.ls, h.li, h.lo, h.ln, h.set, h.si, h.so, h.pass, h.nw, fun i j b hk hb => by
    rcases h.sp i j b hk hb with q | q | q
    · exact .inl q
    · exact .inr (.inl q)
    · exact .inr (.inr (hx i j b hk q)), h.wt, h.nd, h.met, h.nm⟩
/-- nothing waits: the least sets -/
theorem FI.done {n : Nat} {nx : Nat → List Nat} {A S P : Nat → Nat → Prop} {f : Fl} (h : FI n nx A S P (fun _ _ _ => False) f) (hwt : f.wt = []) (hA : ∀ i b, i < n → A b i → tb f.into i b) (hP : ∀ i b, i < n → P b i → tb f.out i b) (hnx : ∀ i, i < n → ∀ j ∈ nx i, j < n) :
    (∀ i b, i < n → (tb f.into i b ↔ Lin nx (A b) (fun i => ¬ S b i) (P b) i)) ∧ (∀ i b, i < n → (tb f.out i b ↔ Lout nx (A b) (fun i => ¬ S b i) (P b) i)) ∧ ∀ i, wAt f.news i = 0 := by
  have nn : ∀ i, wAt f.news i = 0 := fun i => Classical.byContradiction fun hc => by have := (h.wt i).2 hc; rw [hwt] at this; simp at this
  have up : ∀ i j b, j ∈ nx i → tb f.into j b → tb f.out i b := fun i j b hk hb => by
    rcases h.sp i j b hk hb with q | q | q
    · exact q
    · unfold tb at q; rw [nn] at q; simp at q
    · exact q.elim
  have k : ∀ b i, Lin nx (A b) (fun i => ¬ S b i) (P b) i → i < n → tb f.into i b := by
    intro b i hl
    induction hl with
    | ask h1 => intro hi; exact hA _ b hi h1
    | phi t p => intro hi; exact h.pass _ b (hP _ b hi p) t
    | on t m _ ih => intro hi; exact h.pass _ b (up _ _ b m (ih (hnx _ hi _ m))) t
  refine ⟨fun i b hi => ⟨h.si i b, fun q => k b i q hi⟩, fun i b hi => ⟨h.so i b, ?_⟩, nn⟩
  rintro (p | ⟨j, m, q⟩)
  · exact hP i b hi p
  · exact up i j b m (k b j q (hnx i hi j m))
/- How much there is to do. -/
def offW (x : Nat) : Nat := (List.range 64).countP fun b => !x.testBit b
theorem offW_less {x y : Nat} (h : ∀ b, x.testBit b = true → y.testBit b = true) : offW y ≤ offW x ∧ (∀ b, b < 64 → y.testBit b = true → x.testBit b = false → offW y < offW x) := by
  unfold offW
  have gen : ∀ l : List Nat, l.countP (fun b => !y.testBit b) ≤ l.countP (fun b => !x.testBit b) ∧ (∀ b ∈ l, y.testBit b = true → x.testBit b = false → l.countP (fun b => !y.testBit b) < l.countP (fun b => !x.testBit b)) := by
    intro l
    induction l with
    | nil => simp
    | cons c l ih =>
      simp only [List.countP_cons]
      have hc := h c
      refine ⟨?_, fun b hb h1 h2 => ?_⟩
      · have := ih.1
        cases hx : x.testBit c <;> cases hy : y.testBit c <;> simp_all <;> omega
      · rcases List.mem_cons.1 hb with rfl | hb
        · have := ih.1
          simp [h1, h2]; omega
        · have := ih.2 b hb h1 h2
          cases hx : x.testBit c <;> cases hy : y.testBit c <;> simp_all <;> omega
  exact ⟨(gen _).1, fun b hb h1 h2 => (gen _).2 b (List.mem_range.2 hb) h1 h2⟩
def offA (l : List Nat) : Nat := (l.map offW).sum
theorem offA_set : ∀ {l : List Nat} {i : Nat} (x : Nat), i < l.length → offA (l.set i x) + offW (wAt l i) = offA l + offW x
  | a :: l, 0, x, _ => by simp [offA, wAt]; omega
  | a :: l, i + 1, x, h => by
    have := offA_set (l := l) (i := i) x (by simpa using h)
    simp only [offA, wAt, List.set_cons_succ, List.map_cons, List.sum_cons, List.getD_cons_succ] at this ⊢
    omega
def Fl.left (f : Fl) : Nat := 2 * offA f.into + f.wt.length
theorem left_more {f : Fl} {n i v : Nat} (hl : Words n f.into) (hi : i < n) (hv : v ≠ 0) (hv64 : v < 2 ^ 64) (hnew : ∀ b, v.testBit b = true → (wAt f.into i).testBit b = false) : (f.more i v).left < f.left := by
  obtain ⟨b, hb⟩ := word_ne.1 hv
  have h1 := (offW_less (x := wAt f.into i) (y := wAt f.into i ||| v) (fun b h => by rw [Nat.testBit_or, h]; rfl)).2 b (bit_hi hv64 hb) (by rw [Nat.testBit_or, hb, Bool.or_true]) (hnew b hb)
  have h2 := offA_set (l := f.into) (i := i) (wAt f.into i ||| v) (by rw [hl.1]; exact hi)
  unfold Fl.left Fl.more
  dsimp only
  split
  · rw [List.length_append]; simp only [List.length_singleton]; omega
  · omega
theorem left_enter {f : Fl} {n i w : Nat} (hl : Words n f.into) (hi : i < n) (hw : w < 2 ^ 64) : (f.enter i w).left ≤ f.left := by
  unfold Fl.enter
  split
  · exact Nat.le_refl _
  · rename_i h0
    obtain ⟨m1, m2, m3, m4, m5⟩ := meet_f f i
    have e : (f.meet i).left = f.left := by unfold Fl.left; rw [m2, m5]
    rw [← e]
    refine Nat.le_of_lt (left_more (by rw [m2]; exact hl) hi h0 (andN_lt hw) fun b hb => ?_)
    rw [andN_bit hw (hl.2 i)] at hb
    rw [m2]
    exact not_t (Bool.and_eq_true_iff.1 hb).2
theorem left_leave {f : Fl} {n i w : Nat} (hl : Words n f.into) (hi : i < n) (hw : w < 2 ^ 64) : (f.leave i w).left ≤ f.left := by
  obtain ⟨m1, m2, m3, m4, m5⟩ := meet_f f i
  have e : ((f.meet i).outs i w).left = f.left := by unfold Fl.left Fl.outs; dsimp only; rw [m2, m5]
  have := left_enter (f := (f.meet i).outs i w) (n := n) (i := i) (w := andN w (wAt f.sets i)) (by show Words n (f.meet i).into; rw [m2]; exact hl) hi (andN_lt hw)
  rw [e] at this
  exact this
end Go.Proofs.YtcggbedjhglmmaaGreatDoor
