/- The law with late operations, where they wait by way of others. -/
import Derived.Test.YtogjjmbcbnceoaaGreatDLate
namespace Go.Proofs.YtogjjmbcbnceoaaGreat
open Go.RowKit

def ClL (ops : Array Oper) (l : Array Bool) : Prop := ∀ (j : Nat) (o : Oper), ops[j]? = some o → l[j]? = some true → ∀ e ∈ o.after, Region.binds .any e = true → l[e.on]? = some true
def clB (ops : Array Oper) (l : Array Bool) : Bool := (List.range ops.size).all fun j => !l.getD j false || match ops[j]? with
  | some o => o.after.all (fun e => !Region.binds .any e || l.getD e.on false)
  | none => true
theorem clB_spec {ops : Array Oper} {l : Array Bool} (h : clB ops l = true) : ClL ops l := by
  intro j o ho hl e he hb
  unfold clB at h
  rw [List.all_eq_true] at h
  have h1 := h j (by simpa using (Array.getElem?_eq_some_iff.1 ho).1)
  rw [ho, getD_t.2 hl] at h1
  simp only [Bool.not_true, Bool.false_or, Array.all_eq_true_iff_forall_mem, Bool.or_eq_true, Bool.not_eq_true'] at h1
  rcases h1 e he with h2 | h2
  · rw [hb] at h2; cases h2
  · exact getD_t.1 h2
theorem ClL.add {ops : Array Oper} {l : Array Bool} (h : ClL ops l) {i : Nat} (hi : i ∈ Region.ready .any ops l) : ClL ops (l.setIfInBounds i true) := by
  intro j o ho hl e he hb
  obtain ⟨_, oi, hoi, hall⟩ := mem_ready.1 hi
  have up : ∀ k, l[k]? = some true → (l.setIfInBounds i true)[k]? = some true := fun k hk => getD_t.1 (getD_set_true (getD_t.2 hk))
  by_cases e1 : i = j
  · subst e1
    rw [hoi] at ho
    cases ho
    exact up _ (getD_t.1 (hall e he hb))
  · rw [Array.getElem?_setIfInBounds, if_neg e1] at hl
    exact up _ (h j o ho hl e he hb)
def rchB (ops : Array Oper) : Nat → Nat → Nat → Bool
  | 0, _, _ => false
  | f + 1, j, i => depB .any ops j i || (List.range ops.size).any fun k => depB .any ops j k && rchB ops f k i
theorem rchB_spec {ops : Array Oper} {l : Array Bool} (hc : ClL ops l) : ∀ (f j i : Nat) (o : Oper), ops[j]? = some o → (∀ e ∈ o.after, Region.binds .any e = true → l[e.on]? = some true) → rchB ops f j i = true → l[i]? = some true
  | 0, _, _, _, _, _, h => by simp [rchB] at h
  | f + 1, j, i, o, ho, hd, h => by
    unfold rchB at h
    rw [Bool.or_eq_true] at h
    have dep : ∀ k, depB .any ops j k = true → l[k]? = some true := fun k hk => by
      obtain ⟨o', ho', e, he, hb, hon⟩ := depB_spec hk
      rw [ho] at ho'
      cases ho'
      rw [← hon]
      exact hd e he hb
    rcases h with h | h
    · exact dep i h
    · rw [List.any_eq_true] at h
      obtain ⟨k, hk, h1⟩ := h
      rw [Bool.and_eq_true] at h1
      have hlk := dep k h1.1
      have hks : k < ops.size := by simpa using hk
      exact rchB_spec hc f k i ops[k] (Array.getElem?_eq_getElem hks) (hc k _ (Array.getElem?_eq_getElem hks) hlk) h1.2
def lateR (ops : Array Oper) (late : Nat → Bool) (i : Nat) : Bool := (List.range ops.size).all fun j => !late j || rchB ops 5 j i
theorem wpAnyL_first2 {P : Program} {ops : Array Oper} {Q : Exit → Act → World → Prop} {S : World → Prop} {late : Nat → Bool} {i : Nat} {oi : Oper} {v : Value} (hi : ops[i]? = some oi) (hs : Region.noSelect ops = true) (hQ : ∀ c a w, Q (.panic c) (a.put oi.dst v) w → Q (.panic c) a w) (hl : lateR ops late i = true) :
    ∀ (n : Nat) (l : Array Bool) (a : Act) (w : World), ClL ops l → (∀ j oj, ops[j]? = some oj → j ≠ i → l.getD j true = false → (∀ e ∈ oj.after, Region.binds .any e = true → e.on ≠ i) → oi.apart ops oj = true) →
      i ∈ Region.ready .any ops l → YieldsIf P ops S oi v a → S w → wpAnyL P ops Q S late n (l.setIfInBounds i true) (a.put oi.dst v) w → wpAnyL P ops Q S late (n + 1) l a w := by
  intro n
  induction n with
  | zero =>
    intro l a w _ _ hr hy hS H
    refine ⟨fun h => (by rw [h] at hr; cases hr), fun j hj => ?_⟩
    by_cases hji : j = i
    · subst hji; exact hy.wpOp hi hS ⟨fun _ => hS, H⟩
    · have := ready_mono hj hji
      rw [H.1] at this
      cases this
  | succ n ih =>
    intro l a w hc hfree hr hy hS H
    refine ⟨fun h => (by rw [h] at hr; cases hr), fun j hj => ?_⟩
    by_cases hji : j = i
    · subst hji; exact hy.wpOp hi hS ⟨fun _ => hS, H⟩
    · obtain ⟨hun, oj, hoj, hall⟩ := mem_ready.1 hj
      have hi0 := getD_f.1 (mem_ready.1 hr).1
      have hnot : ∀ e ∈ oj.after, Region.binds .any e = true → e.on ≠ i := fun e he hb heq => by
        have h1 := getD_t.1 (hall e he hb)
        rw [heq, hi0] at h1
        cases h1
      have hnl : late j = false := by
        cases hlj : late j with
        | false => rfl
        | true =>
          unfold lateR at hl
          rw [List.all_eq_true] at hl
          have h1 := hl j (by simpa using (Array.getElem?_eq_some_iff.1 hoj).1)
          rw [hlj] at h1
          have h2 := rchB_spec hc 5 j i oj hoj (fun e he hb => getD_t.1 (hall e he hb)) (by simpa using h1)
          rw [hi0] at h2
          cases h2
      have h2 := wpOp_putIf hoj (hfree j oj hoj hji hun hnot) (fun cs b => Region.noSelect_spec hs i oi cs b hi) (fun cs b => Region.noSelect_spec hs j oj cs b hoj) hQ hy (H.2 j (ready_mono hj hji))
      refine wpOp_mono (fun a' w' h3 => ⟨h3.2.1, ih (l.setIfInBounds j true) a' w' (hc.add hj) (fun k ok hk hki hu hno => hfree k ok hk hki ?_ hno) (ready_mono hr (Ne.symm hji)) h3.1 (h3.2.1 hnl) ?_⟩) h2
      · by_cases hjk : j = k
        · subst hjk; exact hun
        · rw [getD_set_ne true hjk] at hu; exact hu
      · rw [Array.setIfInBounds_comm _ _ hji]
        exact h3.2.2
theorem wpAnyL_take2 {P : Program} {ops : Array Oper} {Q : Exit → Act → World → Prop} {S : World → Prop} {late : Nat → Bool} {n : Nat} {l : Array Bool} {a : Act} {w : World} (i : Nat) {oi : Oper} {v : Value} (hi : ops[i]? = some oi) (hs : Region.noSelect ops = true) (hf : Region.free .any ops l i = true) (hr : (Region.ready .any ops l).contains i = true) (hl : lateR ops late i = true) (hc : clB ops l = true)
    (hQ : ∀ c a w, Q (.panic c) (a.put oi.dst v) w → Q (.panic c) a w) (hS : S w) (hy : YieldsIf P ops S oi v a) (h : wpAnyL P ops Q S late n (l.setIfInBounds i true) (a.put oi.dst v) w) : wpAnyL P ops Q S late (n + 1) l a w :=
  wpAnyL_first2 hi hs hQ hl n l a w (clB_spec hc) (Region.free_spec hi hf) (by simpa using hr) hy hS h
theorem wpAnyL_ready {P : Program} {ops : Array Oper} {Q : Exit → Act → World → Prop} {S : World → Prop} {late : Nat → Bool} {n : Nat} {l : Array Bool} {a : Act} {w : World} (rs : List Nat) (hr : Region.ready .any ops l = rs) (hne : rs ≠ []) (h : ∀ i ∈ rs, wpOp P ops Q i (fun a' w' => (late i = false → S w') ∧ wpAnyL P ops Q S late n (l.setIfInBounds i true) a' w') a w) : wpAnyL P ops Q S late (n + 1) l a w :=
  ⟨fun h0 => absurd (hr ▸ h0) hne, hr ▸ h⟩
theorem all_cons {p : Nat → Prop} {i : Nat} {rs : List Nat} (h1 : p i) (h2 : ∀ j ∈ rs, p j) : ∀ j ∈ i :: rs, p j := fun j hj => by
  rcases List.mem_cons.1 hj with rfl | hj
  · exact h1
  · exact h2 j hj
theorem all_nil {p : Nat → Prop} : ∀ j ∈ ([] : List Nat), p j := fun _ h => by cases h
end Go.Proofs.YtogjjmbcbnceoaaGreat
