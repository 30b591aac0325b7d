/- What is cut off at a place hangs on the bytes from there to its end, and on what stands behind. -/
import Derived.Test.YtcinlpiidgbnaaaToks
namespace Go.Proofs.Ytcinlpiidgbnaaa
open Go.RowKit

theorem digit_ld {c : UInt8} (h : digitB c = true) : ldB c = true := by simp [ldB, h]
theorem get_take {l : List UInt8} {q i : Nat} (h : i < q) : (l.take q)[i]? = l[i]? := by rw [List.getElem?_take, if_pos h]
theorem get_loc {l l' : List UInt8} {q i : Nat} (h : l.take q = l'.take q) (hi : i < q) : l[i]? = l'[i]? := by rw [← get_take hi, h, get_take hi]
theorem has_loc {l l' : List UInt8} {q i : Nat} (h : l.take q = l'.take q) (hi : i < q) (c : UInt8) : hasL l i c = hasL l' i c := by unfold hasL; rw [get_loc h hi]
/-- No letter and no digit stands at q. -/
def Bare (l : List UInt8) (q : Nat) : Prop := ∀ c, l[q]? = some c → ldB c = false
theorem row_get {p : UInt8 → Bool} {l : List UInt8} {k : Nat} : rowL p (l.drop k) = match l[k]? with | none => 0 | some c => if p c then rowL p (l.drop (k + 1)) + 1 else 0 := by
  match hc : l[k]? with
  | none => rw [List.drop_eq_nil_of_le (List.getElem?_eq_none_iff.1 hc)]; rfl
  | some c =>
    obtain ⟨h, e⟩ := List.getElem?_eq_some_iff.1 hc
    rw [List.drop_eq_getElem_cons h, e]
    cases hp : p c
    · rw [rowL_no _ hp]; simp [hp]
    · rw [rowL_yes _ hp]; simp [hp]
theorem row_loc {p : UInt8 → Bool} (hp : ∀ c, p c = true → ldB c = true) {l l' : List UInt8} {q : Nat} (h : l.take q = l'.take q) (hl : Bare l q) (hl' : Bare l' q) : ∀ (d k : Nat), k + d = q → rowL p (l.drop k) = rowL p (l'.drop k) ∧ rowL p (l.drop k) ≤ d
  | 0, k, hk => by
    have hkq : k = q := by omega
    subst hkq
    rw [row_get (l := l), row_get (l := l')]
    have a : ∀ (x : List UInt8), Bare x k → (match x[k]? with | none => 0 | some c => if p c then rowL p (x.drop (k + 1)) + 1 else 0) = 0 := by
      intro x hx
      match hc : x[k]? with
      | none => rfl
      | some c =>
        have := hx c hc
        have h2 : p c = false := by
          cases h3 : p c
          · rfl
          · rw [hp c h3] at this; cases this
        simp [h2]
    rw [a l hl, a l' hl']; exact ⟨rfl, Nat.le_refl _⟩
  | d + 1, k, hk => by
    rw [row_get (l := l), row_get (l := l'), ← get_loc h (by omega : k < q)]
    have ih := row_loc hp h hl hl' d (k + 1) (by omega)
    match l[k]? with
    | none => exact ⟨rfl, Nat.zero_le _⟩
    | some c =>
      simp only
      cases p c
      · exact ⟨rfl, Nat.zero_le _⟩
      · simp only [if_true]; omega
theorem row_at {p : UInt8 → Bool} (hp : ∀ c, p c = true → ldB c = true) {l l' : List UInt8} {q k : Nat} (h : l.take q = l'.take q) (hl : Bare l q) (hl' : Bare l' q) (hk : k ≤ q) : rowL p (l.drop k) = rowL p (l'.drop k) ∧ k + rowL p (l.drop k) ≤ q := by
  have := row_loc hp h hl hl' (q - k) k (by omega)
  exact ⟨this.1, by omega⟩
theorem ld_self : ∀ c, ldB c = true → ldB c = true := fun _ h => h
theorem dig_ld : ∀ c, digitB c = true → ldB c = true := fun _ h => digit_ld h
theorem bare_row {l : List UInt8} {q : Nat} (h : Bare l q) : rowL ldB (l.drop q) = 0 := by
  have := (row_at (l' := l) ld_self rfl h h (Nat.le_refl q)).2
  omega
/-- Where the answer stands: its end, or its place. -/
def posOf : Except Nat (Nat × Nat) → Nat
  | .error p => p
  | .ok (_, e) => e
theorem fin_pos {l : List UInt8} {e : Nat} : posOf (finL true l e) = e := by unfold finL; split <;> rfl
theorem fin_kd {l : List UInt8} {e kd n : Nat} (h : finL true l e = .ok (kd, n)) : kd = 5 := (finL_ok h).1
theorem fin_loc {l l' : List UInt8} {q e : Nat} (h : l.take q = l'.take q) (hl : Bare l q) (hl' : Bare l' q) (h46 : hasL l q 46 = hasL l' q 46) (he : e ≤ q) : finL true l' e = finL true l e := by
  have hr := (row_at ld_self h hl hl' he).1
  have hh : hasL l e 46 = hasL l' e 46 := by
    by_cases hq : e < q
    · exact has_loc h hq 46
    · have : e = q := by omega
      subst this; exact h46
  unfold finL endB
  simp only [if_true]
  rw [hr, hh]
theorem pow_loc {l l' : List UInt8} {q p : Nat} (h : l.take q = l'.take q) (hl : Bare l q) (hl' : Bare l' q) (h46 : hasL l q 46 = hasL l' q 46) (hp : p ≤ q) : powL true l' p = powL true l p := by
  have hr := row_at dig_ld h hl hl' hp
  unfold powL
  rw [← hr.1, fin_loc h hl hl' h46 hr.2]
theorem bare_e {l : List UInt8} {q : Nat} (h : Bare l q) : hasL l q 101 = false := by
  unfold hasL
  match hc : l[q]? with
  | none => rfl
  | some c =>
    have := h c hc
    by_cases e : c = 101
    · subst e; revert this; decide
    · simpa using e
theorem pow_pos {l : List UInt8} {p : Nat} : p ≤ posOf (powL true l p) := by
  unfold powL
  split
  · exact Nat.le_refl _
  · rw [fin_pos]; omega
theorem pow_after {l : List UInt8} {p kd n : Nat} (h : powL true l p = .ok (kd, n)) : p < n := (powL_ok h).1
/-- Either the byte at q is asked alike, or a token ends at q. -/
def Same (l l' : List UInt8) (q : Nat) (r : Except Nat (Nat × Nat)) : Prop := (∀ c, hasL l q c = hasL l' q c) ∨ ∃ kd, r = .ok (kd, q)
theorem frc_loc {l l' : List UInt8} {q e : Nat} (h : l.take q = l'.take q) (hl : Bare l q) (hl' : Bare l' q) (h46 : hasL l q 46 = hasL l' q 46) (he : e ≤ q) (hpos : posOf (frcL true l e) ≤ q) (hS : Same l l' q (frcL true l e)) : frcL true l' e = frcL true l e := by
  by_cases hq : e < q
  · have h1 := has_loc h hq 101
    unfold frcL at hpos hS ⊢
    rw [← h1]
    cases h101 : hasL l e 101
    · simp only [Bool.false_eq_true, if_false]; exact fin_loc h hl hl' h46 he
    · rw [h101] at hpos hS
      simp only [if_true] at hpos hS ⊢
      have hx : expL l' e = expL l e ∧ expL l e ≤ q := by
        have hle : expL l e ≤ q := Nat.le_trans pow_pos hpos
        refine ⟨?_, hle⟩
        by_cases hq2 : e + 1 < q
        · unfold expL; rw [has_loc h hq2 43, has_loc h hq2 45]
        · have hq3 : e + 1 = q := by omega
          rcases hS with hS | ⟨kd, hS⟩
          · unfold expL; rw [hq3, hS 43, hS 45]
          · have := pow_after hS
            have hx : e + 1 ≤ expL l e := by unfold expL; split <;> omega
            omega
      rw [hx.1]
      exact pow_loc h hl hl' h46 hx.2
  · have hq2 : e = q := by omega
    subst hq2
    unfold frcL
    rw [bare_e hl, bare_e hl']
    simp only [Bool.false_eq_true, if_false]
    exact fin_loc h hl hl' h46 he
theorem frc_pos {l : List UInt8} {e : Nat} : e ≤ posOf (frcL true l e) := by
  unfold frcL
  split
  · have hx : e + 1 ≤ expL l e := by unfold expL; split <;> omega
    exact Nat.le_trans (by omega) pow_pos
  · rw [fin_pos]; exact Nat.le_refl _
theorem flt_loc {l l' : List UInt8} {q f : Nat} (h : l.take q = l'.take q) (hl : Bare l q) (hl' : Bare l' q) (h46 : hasL l q 46 = hasL l' q 46) (hf : f ≤ q) (hpos : posOf (fltL true l f) ≤ q) (hS : Same l l' q (fltL true l f)) : fltL true l' f = fltL true l f := by
  have hr := row_at dig_ld h hl hl' hf
  unfold fltL at hpos hS ⊢
  rw [← hr.1]
  by_cases h0 : rowL digitB (l.drop f) = 0
  · rw [if_pos h0, if_pos h0]
  · rw [if_neg h0] at hpos hS ⊢
    rw [if_neg h0]
    exact frc_loc h hl hl' h46 hr.2 hpos hS
theorem flt_pos {l : List UInt8} {f : Nat} : f ≤ posOf (fltL true l f) := by
  unfold fltL
  split
  · exact Nat.le_refl _
  · exact Nat.le_trans (by omega) frc_pos
theorem pow_kd {l : List UInt8} {p kd n : Nat} (h : powL true l p = .ok (kd, n)) : kd = 5 := by
  unfold powL at h
  split at h
  · cases h
  · exact fin_kd h
theorem flt_kd {l : List UInt8} {f kd n : Nat} (h : fltL true l f = .ok (kd, n)) : kd = 5 := by
  unfold fltL frcL at h
  split at h
  · cases h
  · split at h
    · exact pow_kd h
    · exact fin_kd h
theorem int_loc {l l' : List UInt8} {q n : Nat} (h : l.take q = l'.take q) (hl : Bare l q) (hl' : Bare l' q) (hn : n ≤ q) : intL l' n = intL l n := by
  have hr := row_at ld_self h hl hl' hn
  have ht : (l'.drop n).take (rowL ldB (l.drop n)) = (l.drop n).take (rowL ldB (l.drop n)) := by
    have a : ∀ x : List UInt8, (x.drop n).take (rowL ldB (l.drop n)) = ((x.take q).drop n).take (rowL ldB (l.drop n)) := by
      intro x
      rw [List.drop_take, List.take_take, Nat.min_eq_left (by omega)]
    rw [a l, a l', h]
  unfold intL
  rw [← hr.1, ht]
theorem lit_loc {l l' : List UInt8} {q : Nat} (h : l.take q = l'.take q) (hl : Bare l q) (hl' : Bare l' q) (h46 : hasL l q 46 = hasL l' q 46 ∨ (hasL l' q 46 = false ∧ ∃ e, litL true l = .ok (4, e))) (hpos : posOf (litL true l) ≤ q) (hS : Same l l' q (litL true l)) : litL true l' = litL true l := by
  have hr := row_at (k := 0) dig_ld h hl hl' (Nat.zero_le _)
  simp only [List.drop_zero, Nat.zero_add] at hr
  have hh : hasL l (rowL digitB l) 46 = hasL l' (rowL digitB l) 46 := by
    by_cases hq : rowL digitB l < q
    · exact has_loc h hq 46
    · have hq2 : rowL digitB l = q := by omega
      rw [hq2]
      rcases h46 with h46 | ⟨h1, e, h2⟩
      · exact h46
      · rw [h1]
        cases hc : hasL l q 46
        · rfl
        · unfold litL at h2
          rw [hq2, hc] at h2
          have := flt_kd h2
          omega
  unfold litL at hpos hS h46 ⊢
  rw [← hr.1, ← hh]
  cases hc : hasL l (rowL digitB l) 46
  · simp only [Bool.false_eq_true, if_false]
    exact int_loc h hl hl' hr.2
  · rw [hc] at hpos hS h46
    simp only [if_true] at hpos hS h46 ⊢
    refine flt_loc h hl hl' ?_ ?_ hpos hS
    · rcases h46 with h46 | ⟨_, e, h2⟩
      · exact h46
      · have := flt_kd h2; omega
    · exact Nat.le_trans flt_pos hpos
theorem name_loc {l l' : List UInt8} {q : Nat} (h : l.take q = l'.take q) (hl : Bare l q) (hl' : Bare l' q) : nameL l' = nameL l := by
  have hr := row_at (k := 0) ld_self h hl hl' (Nat.zero_le _)
  simp only [List.drop_zero, Nat.zero_add] at hr
  have ht : l'.take (rowL ldB l) = l.take (rowL ldB l) := by
    have a : ∀ x : List UInt8, x.take (rowL ldB l) = (x.take q).take (rowL ldB l) := by
      intro x; rw [List.take_take, Nat.min_eq_left hr.2]
    rw [a l, a l', h]
  unfold nameL
  rw [← hr.1, ht]

theorem bare_behind (l : List UInt8) (k : Nat) : Bare l (k + rowL ldB (l.drop k)) := row_behind ldB l k
theorem fin_bare {l : List UInt8} {e kd n : Nat} (h : finL true l e = .ok (kd, n)) : Bare l n ∧ hasL l n 46 = false := by
  have he := (finL_ok h).2
  subst he
  unfold finL endB at h
  simp only [if_true, Bool.true_and] at h
  split at h
  · cases h
  · rename_i hn
    simp only [Bool.or_eq_true, decide_eq_true_eq, not_or] at hn
    refine ⟨?_, by simpa using hn.2⟩
    intro c hc
    have hr := row_get (p := ldB) (l := l) (k := n)
    rw [hc] at hr
    simp only at hr
    cases hl : ldB c
    · rfl
    · rw [hl] at hr; simp only [if_true] at hr; omega
theorem lit_bare {l : List UInt8} {kd e : Nat} (h : litL true l = .ok (kd, e)) : Bare l e ∧ (kd = 4 ∨ hasL l e 46 = false) := by
  unfold litL at h
  split at h
  · have : Bare l e ∧ hasL l e 46 = false := by
      unfold fltL frcL powL at h
      split at h
      · cases h
      · split at h
        · split at h
          · cases h
          · exact fin_bare h
        · exact fin_bare h
    exact ⟨this.1, .inr this.2⟩
  · unfold intL at h
    split at h
    · simp at h
      obtain ⟨h1, h2⟩ := h
      subst h1 h2
      exact ⟨bare_behind l _, .inl rfl⟩
    · cases h
/-- Nothing stands at q, or a blank. -/
def Quiet (l : List UInt8) (q : Nat) : Prop := ∀ c, l[q]? = some c → c = 32
theorem quiet_bare {l : List UInt8} {q : Nat} (h : Quiet l q) : Bare l q := by
  intro c hc; rw [h c hc]; decide
theorem quiet_has {l : List UInt8} {q : Nat} (h : Quiet l q) : hasL l q 46 = false := by
  unfold hasL
  match hc : l[q]? with
  | none => rfl
  | some c => rw [h c hc]; decide
theorem two_len {l : List UInt8} (h : twoB (l.take 2) = true) : ∃ a b t, l = a :: b :: t ∧ b ≠ 32 := by
  unfold twoB at h
  rw [List.contains_eq_mem] at h
  simp only [decide_eq_true_eq, twosL, List.mem_cons, List.not_mem_nil, or_false] at h
  match l, h with
  | [], h => simp at h
  | [a], h => simp at h
  | a :: b :: t, h =>
    refine ⟨a, b, t, rfl, ?_⟩
    simp at h
    rintro rfl
    revert h
    simp
/-- What is cut off is cut off with nothing, or a blank, behind it. -/
theorem cut_loc {l l' : List UInt8} {kd e : Nat} (hc : cutL true l = .ok (kd, e)) (h : l.take e = l'.take e) (hq : Quiet l' e) : cutL true l' = .ok (kd, e) := by
  have hb := cutL_ok hc
  match l, hc, h, hb with
  | [], hc, _, _ => cases hc
  | c :: t, hc, h, hb =>
    have hg := get_loc h (i := 0) hb.1
    match l', h, hg, hq with
    | [], _, hg, _ => cases hg
    | d :: t', h, hg, hq =>
      have hcd : c = d := by simpa using hg
      subst hcd
      simp only [cutL] at hc ⊢
      split at hc
      · rename_i hl
        rw [if_pos hl]
        have e1 : e = rowL ldB (c :: t) := by
          unfold nameL at hc; split at hc
          · cases hc
          · simp at hc; exact hc.2.symm
        have hB : Bare (c :: t) e := by rw [e1]; have := bare_behind (c :: t) 0; simpa using this
        rw [name_loc h hB (quiet_bare hq)]; exact hc
      · rename_i hl
        rw [if_neg hl]
        split at hc
        · rename_i hd
          rw [if_pos hd]
          have hB := lit_bare hc
          rw [lit_loc h hB.1 (quiet_bare hq) ?_ ?_ ?_]
          · exact hc
          · rw [quiet_has hq]
            rcases hB.2 with h4 | h5
            · right; exact ⟨rfl, e, by rw [hc, h4]⟩
            · left; exact h5
          · rw [hc]; exact Nat.le_refl _
          · right; exact ⟨kd, hc⟩
        · rename_i hd
          rw [if_neg hd]
          split at hc
          · rename_i hm
            rw [if_pos hm]
            simp only [Except.ok.injEq, Prod.mk.injEq] at hc
            obtain ⟨h1, h2⟩ := hc
            subst h1
            congr 2
            unfold signL at h2 ⊢
            cases ht : twoB ((c :: t).take 2)
            · rw [ht] at h2
              simp only [Bool.false_eq_true, if_false] at h2
              subst h2
              cases ht' : twoB ((c :: t').take 2)
              · simp
              · obtain ⟨a, b, u, hu, h32⟩ := two_len ht'
                have : (c :: t')[1]? = some b := by rw [hu]; rfl
                exact absurd (hq b this) h32
            · rw [ht] at h2
              simp only [if_true] at h2
              subst h2
              rw [← h, ht]; rfl
          · cases hc
theorem take_of {l l' : List UInt8} {m n : Nat} (h : l.take n = l'.take n) (hm : m ≤ n) : l.take m = l'.take m := by
  have a : ∀ x : List UInt8, x.take m = (x.take n).take m := by intro x; rw [List.take_take, Nat.min_eq_left hm]
  rw [a l, a l', h]
/-- What is cut off is cut off as long as the byte behind it is the same. -/
theorem cut_same {l l' : List UInt8} {kd e : Nat} (hc : cutL true l = .ok (kd, e)) (h : l.take (e + 1) = l'.take (e + 1)) : cutL true l' = .ok (kd, e) := by
  have hb := cutL_ok hc
  have h0 := take_of h (Nat.le_succ e)
  have hge : l[e]? = l'[e]? := get_loc h (Nat.lt_succ_self e)
  match l, hc, h, hb, h0, hge with
  | [], hc, _, _, _, _ => cases hc
  | c :: t, hc, h, hb, h0, hge =>
    have hg := get_loc h0 (i := 0) hb.1
    match l', h, hg, h0, hge with
    | [], _, hg, _, _ => cases hg
    | d :: t', h, hg, h0, hge =>
      have hcd : c = d := by simpa using hg
      subst hcd
      have bare' : Bare (c :: t) e → Bare (c :: t') e := by intro hB x hx; exact hB x (by rw [hge]; exact hx)
      simp only [cutL] at hc ⊢
      split at hc
      · rename_i hl
        rw [if_pos hl]
        have e1 : e = rowL ldB (c :: t) := by
          unfold nameL at hc; split at hc
          · cases hc
          · simp at hc; exact hc.2.symm
        have hB : Bare (c :: t) e := by rw [e1]; have := bare_behind (c :: t) 0; simpa using this
        rw [name_loc h0 hB (bare' hB)]; exact hc
      · rename_i hl
        rw [if_neg hl]
        split at hc
        · rename_i hd
          rw [if_pos hd]
          have hB := lit_bare hc
          rw [lit_loc h0 hB.1 (bare' hB.1) ?_ ?_ ?_]
          · exact hc
          · left; unfold hasL; rw [hge]
          · rw [hc]; exact Nat.le_refl _
          · right; exact ⟨kd, hc⟩
        · rename_i hd
          rw [if_neg hd]
          split at hc
          · rename_i hm
            rw [if_pos hm]
            simp only [Except.ok.injEq, Prod.mk.injEq] at hc
            obtain ⟨h1, h2⟩ := hc
            subst h1
            congr 2
            have : (c :: t).take 2 = (c :: t').take 2 := take_of h (by omega)
            unfold signL at h2 ⊢
            rw [← this]; exact h2
          · cases hc
/-- What is refused at a byte that is no letter and no digit is refused there with anything behind that byte. -/
theorem cut_stop {l l' : List UInt8} {q : Nat} (hc : cutL true l = .error q) (h : l.take (q + 1) = l'.take (q + 1)) (hlt : q < l.length) (hB : Bare l q) : cutL true l' = .error q := by
  have h0 := take_of h (Nat.le_succ q)
  have hge : l[q]? = l'[q]? := get_loc h (Nat.lt_succ_self q)
  have hB' : Bare l' q := by intro x hx; exact hB x (by rw [hge]; exact hx)
  match l, hc, h, hlt, h0, hge, hB with
  | [], hc, _, hlt, _, _, _ => simp at hlt
  | c :: t, hc, h, hlt, h0, hge, hB =>
    have hg : (c :: t)[0]? = l'[0]? := get_loc h (Nat.succ_pos q)
    match l', h, hg, h0, hge, hB' with
    | [], _, hg, _, _, _ => cases hg
    | d :: t', h, hg, h0, hge, hB' =>
      have hcd : c = d := by simpa using hg
      subst hcd
      simp only [cutL] at hc ⊢
      split at hc
      · rename_i hl
        rw [if_pos hl, name_loc h0 hB hB']; exact hc
      · rename_i hl
        rw [if_neg hl]
        split at hc
        · rename_i hd
          rw [if_pos hd, lit_loc h0 hB hB' ?_ ?_ ?_]
          · exact hc
          · left; unfold hasL; rw [hge]
          · rw [hc]; exact Nat.le_refl _
          · left; intro x; unfold hasL; rw [hge]
        · rename_i hd
          rw [if_neg hd]
          split at hc
          · cases hc
          · rename_i hm
            rw [if_neg hm]; exact hc
end Go.Proofs.Ytcinlpiidgbnaaa
