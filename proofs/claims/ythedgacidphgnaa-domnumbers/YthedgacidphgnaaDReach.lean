/- Going through a net by nodes that wait: what is met is what is reached. No program. -/
import Derived.Test.YthedgacidphgnaaDPlain
namespace Go.Proofs.Ythedgacidphgnaa

def cntF (met : List Bool) : Nat := met.count false
theorem cntF_set {met : List Bool} {k : Nat} (h : met.getD k true = false) : cntF (met.set k true) + 1 = cntF met := by
  unfold cntF
  have hk : k < met.length := by
    rcases Nat.lt_or_ge k met.length with h1 | h1
    · exact h1
    · simp [List.getD, List.getElem?_eq_none h1] at h
  have he : met[k] = false := by simpa [List.getD, List.getElem?_eq_getElem hk] using h
  rw [List.count_set hk, he]
  have : 0 < met.count false := List.count_pos_iff.2 (he ▸ List.getElem_mem hk)
  simp; omega
theorem getD_setB {met : List Bool} {k i : Nat} {b : Bool} (hk : k < met.length) : (met.set k true).getD i b = if k = i then true else met.getD i b := by
  simp only [List.getD, List.getElem?_set]
  by_cases e : k = i
  · subst e; simp [hk]
  · simp [e]
theorem getD_of {α : Type} {l : List α} {i : Nat} (h : i < l.length) (d : α) : l.getD i d = l[i] := by
  unfold List.getD
  rw [List.getElem?_eq_getElem h]
  rfl
theorem getD_at {l : List Int} {q : Nat} (hq : q < l.length) : l.getD q 0 = l[q] := by
  unfold List.getD
  rw [List.getElem?_eq_getElem hq]
  rfl
theorem getD_mem {l : List Int} {q : Nat} (hq : q < l.length) : l.getD q 0 ∈ l := by
  rw [getD_at hq]
  exact List.getElem_mem hq
/-- What is reached, as a row. -/
noncomputable def reachL (nx : List (List Int)) (S : Nat → Prop) : List Bool := (List.range nx.length).map fun j => dec (Rch nx S j)
theorem reachL_len (nx : List (List Int)) (S : Nat → Prop) : (reachL nx S).length = nx.length := by simp [reachL]
theorem reachL_get {nx : List (List Int)} {S : Nat → Prop} {j : Nat} (hj : j < nx.length) (b : Bool) : (reachL nx S).getD j b = dec (Rch nx S j) := by
  simp [reachL, List.getD, List.getElem?_map, List.getElem?_range hj]
theorem reachL_of {nx : List (List Int)} {S : Nat → Prop} {met : List Bool} (hl : met.length = nx.length) (h : ∀ j, j < nx.length → (met.getD j false = true ↔ Rch nx S j)) : met = reachL nx S := by
  apply List.ext_getElem
  · rw [hl, reachL_len]
  · intro i h1 h2
    have e1 : met.getD i false = met[i] := by simp [List.getD, List.getElem?_eq_getElem h1]
    have e2 : (reachL nx S).getD i false = (reachL nx S)[i] := by simp [List.getD, List.getElem?_eq_getElem h2]
    rw [← e1, ← e2, reachL_get (by omega)]
    have := h i (by omega)
    rcases hm : met.getD i false with _ | _
    · rw [dec_false (fun hr => by rw [this.2 hr] at hm; cases hm)]
    · rw [dec_true (this.1 hm)]
/-- Ahead of a node that waits. -/
structure RI (nx : List (List Int)) (S : Nat → Prop) (met : List Bool) (wait : List Int) : Prop where
  len : met.length = nx.length
  ent : met.getD 0 false = true
  snd : ∀ j, met.getD j false = true → Rch nx S j
  wt : ∀ x ∈ wait, ∃ i : Nat, x = (i : Int) ∧ i < nx.length ∧ met.getD i false = true
  cls : ∀ i, met.getD i false = true → (i : Int) ∈ wait ∨ S i ∨ ∀ x ∈ nx.getD i [], met.getD x.toNat false = true
  cnt : cntF met + wait.length ≤ nx.length
/-- Within a node's row, k of which have been gone through. -/
structure RJ (nx : List (List Int)) (S : Nat → Prop) (i : Nat) (k : Nat) (met : List Bool) (wait : List Int) : Prop where
  len : met.length = nx.length
  ent : met.getD 0 false = true
  snd : ∀ j, met.getD j false = true → Rch nx S j
  wt : ∀ x ∈ wait, ∃ i : Nat, x = (i : Int) ∧ i < nx.length ∧ met.getD i false = true
  cls : ∀ j, j ≠ i → met.getD j false = true → (j : Int) ∈ wait ∨ S j ∨ ∀ x ∈ nx.getD j [], met.getD x.toNat false = true
  cnt : cntF met + wait.length < nx.length
  lt : i < nx.length
  met_ : met.getD i false = true
  no : ¬ S i
  row : ∀ j, j < k → met.getD ((nx.getD i []).getD j 0).toNat false = true
theorem RI.start {nx : List (List Int)} {S : Nat → Prop} (h : May nx) : RI nx S ((List.replicate nx.length false).set 0 true) [0] := by
  have hl : 0 < (List.replicate nx.length false).length := by simpa using h.1
  have h1 : ∀ j, ((List.replicate nx.length false).set 0 true).getD j false = true → j = 0 := by
    intro j hj
    rw [getD_setB hl] at hj
    by_cases e : 0 = j
    · exact e.symm
    · rw [if_neg e] at hj
      simp [List.getD, List.getElem?_replicate] at hj
      split at hj <;> simp at hj
  refine ⟨by simp, by rw [getD_setB hl, if_pos rfl], fun j hj => by rw [h1 j hj]; exact .entry, ?_, fun i hi => .inl (by rw [h1 i hi]; simp), ?_⟩
  · intro x hx
    simp at hx
    exact ⟨0, by simpa using hx, h.1, by rw [getD_setB hl, if_pos rfl]⟩
  · have := cntF_set (met := List.replicate nx.length false) (k := 0) (by simp [List.getD, h.1])
    have e : cntF (List.replicate nx.length false) = nx.length := by simp [cntF]
    simp only [List.length_cons, List.length_nil]
    omega
theorem RI.done {nx : List (List Int)} {S : Nat → Prop} (hm : May nx) {met : List Bool} (h : RI nx S met []) : met = reachL nx S := by
  refine reachL_of h.len fun j _ => ⟨h.snd j, fun hr => ?_⟩
  induction hr with
  | entry => exact h.ent
  | @step i j hi hs he ih =>
    rcases h.cls i (ih (hm.lt he).1) with h1 | h1 | h1
    · simp at h1
    · exact absurd h1 hs
    · simpa using h1 _ he
/-- A node is taken out of those that wait, from wherever it stands. -/
theorem RI.skip {nx : List (List Int)} {S : Nat → Prop} {met : List Bool} {wait wait' : List Int} {i : Nat} (h : RI nx S met wait) (hp : ∀ x, x ∈ wait ↔ x = (i : Int) ∨ x ∈ wait') (hl : wait.length = wait'.length + 1) (hs : S i) : RI nx S met wait' := by
  refine ⟨h.len, h.ent, h.snd, fun x hx => h.wt x ((hp x).2 (.inr hx)), fun j hj => ?_, by have := h.cnt; omega⟩
  rcases h.cls j hj with h1 | h1
  · rcases (hp _).1 h1 with h2 | h2
    · have : j = i := by omega
      subst this; exact .inr (.inl hs)
    · exact .inl h2
  · exact .inr h1
theorem RI.take {nx : List (List Int)} {S : Nat → Prop} {met : List Bool} {wait wait' : List Int} {i : Nat} (h : RI nx S met wait) (hp : ∀ x, x ∈ wait ↔ x = (i : Int) ∨ x ∈ wait') (hl : wait.length = wait'.length + 1) (hs : ¬ S i) : RJ nx S i 0 met wait' := by
  obtain ⟨i', e, hi, hm⟩ := h.wt i ((hp _).2 (.inl rfl))
  have : i = i' := by omega
  subst this
  refine ⟨h.len, h.ent, h.snd, fun x hx => h.wt x ((hp x).2 (.inr hx)), fun j hj hmj => ?_, by have := h.cnt; omega, hi, hm, hs, fun j hj => by omega⟩
  rcases h.cls j hmj with h1 | h1
  · rcases (hp _).1 h1 with h2 | h2
    · exact absurd (by omega) hj
    · exact .inl h2
  · exact .inr h1
theorem RJ.old {nx : List (List Int)} {S : Nat → Prop} {met : List Bool} {wait : List Int} {i k : Nat} (h : RJ nx S i k met wait) (hm : met.getD ((nx.getD i []).getD k 0).toNat false = true) : RJ nx S i (k + 1) met wait :=
  ⟨h.len, h.ent, h.snd, h.wt, h.cls, h.cnt, h.lt, h.met_, h.no, fun j hj => by
    rcases Nat.lt_or_ge j k with h1 | h1
    · exact h.row j h1
    · have : j = k := by omega
      subst this; exact hm⟩
theorem RJ.new {nx : List (List Int)} {S : Nat → Prop} (hM : May nx) {met : List Bool} {wait : List Int} {i k : Nat} (h : RJ nx S i k met wait) (hk : k < (nx.getD i []).length) {t : Nat} (ht : (nx.getD i []).getD k 0 = (t : Int)) (hm : met.getD t true = false) : RJ nx S i (k + 1) (met.set t true) (wait ++ [(t : Int)]) := by
  have hmem : (t : Int) ∈ nx.getD i [] := by
    rw [← ht]
    exact getD_mem hk
  have htn := (hM.lt hmem).2
  have hg : ∀ j b, (met.set t true).getD j b = if t = j then true else met.getD j b := fun j b => getD_setB (by rw [h.len]; exact htn)
  have up : ∀ j, met.getD j false = true → (met.set t true).getD j false = true := fun j hj => by rw [hg]; split; rfl; exact hj
  refine ⟨by simp [h.len], up 0 h.ent, fun j hj => ?_, fun x hx => ?_, fun j hji hj => ?_, ?_, h.lt, up i h.met_, h.no, fun j hj => ?_⟩
  · rw [hg] at hj
    by_cases e : t = j
    · subst e; exact .step (h.snd i h.met_) h.no hmem
    · rw [if_neg e] at hj; exact h.snd j hj
  · rcases List.mem_append.1 hx with hx | hx
    · obtain ⟨j, e, h1, h2⟩ := h.wt x hx
      exact ⟨j, e, h1, up j h2⟩
    · simp at hx
      exact ⟨t, hx, htn, by rw [hg, if_pos rfl]⟩
  · rw [hg] at hj
    by_cases e : t = j
    · subst e; exact .inl (by simp)
    · rw [if_neg e] at hj
      rcases h.cls j hji hj with h1 | h1 | h1
      · exact .inl (by simp [h1])
      · exact .inr (.inl h1)
      · exact .inr (.inr fun x hx => up _ (h1 x hx))
  · have := cntF_set hm
    have := h.cnt
    simp only [List.length_append, List.length_singleton]
    omega
  · rcases Nat.lt_or_ge j k with h1 | h1
    · exact up _ (h.row j h1)
    · have : j = k := by omega
      subst this
      rw [ht, Int.toNat_natCast, hg, if_pos rfl]
theorem RJ.done {nx : List (List Int)} {S : Nat → Prop} {met : List Bool} {wait : List Int} {i k : Nat} (h : RJ nx S i k met wait) (hk : (nx.getD i []).length ≤ k) : RI nx S met wait := by
  refine ⟨h.len, h.ent, h.snd, h.wt, fun j hj => ?_, by have := h.cnt; omega⟩
  by_cases e : j = i
  · subst e
    refine .inr (.inr fun x hx => ?_)
    obtain ⟨q, hq, rfl⟩ := List.mem_iff_getElem.1 hx
    have := h.row q (by omega)
    rw [getD_at hq] at this
    exact this
  · exact h.cls j e hj
end Go.Proofs.Ythedgacidphgnaa
