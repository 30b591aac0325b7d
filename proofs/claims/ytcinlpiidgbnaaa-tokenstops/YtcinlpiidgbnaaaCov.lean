/- What follows of the tokens of a source: they cover it, each stands alone, joined they are the same, and what is refused is refused there. -/
import Derived.Test.YtcinlpiidgbnaaaLoc
namespace Go.Proofs.Ytcinlpiidgbnaaa
open Go.RowKit

theorem skip_take : ∀ (x : List UInt8) (b : Bool), skipL b (x.take (skipL b x)) = skipL b x := by
  intro x
  induction x with
  | nil => intro b; cases b <;> rfl
  | cons c t ih =>
    intro b
    cases b
    · by_cases hb : blankB c = true
      · have e : skipL false (c :: t) = skipL false t + 1 := skip_blank t hb
        rw [e, List.take_succ_cons, skip_blank _ hb, ih]
      · have hb' : blankB c = false := by simpa using hb
        by_cases h47 : (c == 47 && t.head? == some 47) = true
        · have e : skipL false (c :: t) = skipL true t + 1 := by simp only [skipL, hb', h47]; simp
          rw [e, List.take_succ_cons]
          have hp : 0 < skipL true t := by
            match t, h47 with
            | [], h47 => simp at h47
            | d :: u, _ => simp only [skipL]; split <;> omega
          have h2 : (c == 47 && (t.take (skipL true t)).head? == some 47) = true := by
            rw [List.head?_take, if_neg (by omega)]; exact h47
          have e2 : skipL false (c :: t.take (skipL true t)) = skipL true (t.take (skipL true t)) + 1 := by simp only [skipL, hb', h2]; simp
          rw [e2, ih]
        · have e : skipL false (c :: t) = 0 := by
            simp only [skipL, hb', Bool.false_eq_true, if_false]; rw [if_neg h47]
          rw [e]; rfl
    · by_cases h10 : (c == 10) = true
      · have e : skipL true (c :: t) = skipL false t + 1 := by simp only [skipL, h10, if_true]
        have e2 : ∀ u, skipL true (c :: u) = skipL false u + 1 := by intro u; simp only [skipL, h10, if_true]
        rw [e, List.take_succ_cons, e2, ih]
      · have e2 : ∀ u, skipL true (c :: u) = skipL true u + 1 := by intro u; simp only [skipL]; rw [if_neg h10]
        rw [e2, List.take_succ_cons, e2, ih]
theorem skip_loc : ∀ (x x' : List UInt8) (b : Bool) (g : Nat), skipL b x = g → x.take (g + 1) = x'.take (g + 1) → (x[g]? = some 47 → x[g + 1]? = x'[g + 1]?) → g < x.length → skipL b x' = g := by
  intro x
  induction x with
  | nil => intro x' b g _ _ _ h; simp at h
  | cons c t ih =>
    intro x' b g hg ht h47 hlt
    match x', ht, h47 with
    | [], ht, _ => simp at ht
    | d :: t', ht, h47 =>
      rw [List.take_succ_cons, List.take_succ_cons] at ht
      simp only [List.cons.injEq] at ht
      obtain ⟨rfl, ht⟩ := ht
      have hrc : ∀ (b' : Bool) (m : Nat), skipL b' t = m → g = m + 1 → skipL b' t' = m := by
        intro b' m hm hgm
        subst hgm
        refine ih t' b' m hm ht ?_ (by simpa using hlt)
        simpa using h47
      cases b
      · by_cases hb : blankB c = true
        · rw [skip_blank t hb] at hg
          rw [skip_blank t' hb, hrc false _ rfl hg.symm]; exact hg
        · have hb' : blankB c = false := by simpa using hb
          by_cases h : (c == 47 && t.head? == some 47) = true
          · have e : ∀ u : List UInt8, (c == 47 && u.head? == some 47) = true → skipL false (c :: u) = skipL true u + 1 := by intro u hu; simp only [skipL, hb', hu]; simp
            rw [e t h] at hg
            have hp : 0 < g := by omega
            have hh : t'.head? = t.head? := by
              have : (t.take g).head? = (t'.take g).head? := by rw [ht]
              rw [List.head?_take, List.head?_take, if_neg (by omega), if_neg (by omega)] at this
              exact this.symm
            rw [e t' (by rw [hh]; exact h), hrc true _ rfl hg.symm]; exact hg
          · have e : ∀ u : List UInt8, ¬ (c == 47 && u.head? == some 47) = true → skipL false (c :: u) = 0 := by
              intro u hu; simp only [skipL, hb', Bool.false_eq_true, if_false]; rw [if_neg hu]
            rw [e t h] at hg
            subst hg
            refine e t' ?_
            intro hc
            simp only [Bool.and_eq_true, beq_iff_eq] at hc h
            have := h47 (by simp [hc.1])
            simp only [Nat.zero_add, List.getElem?_cons_succ] at this
            rw [← List.head?_eq_getElem?, ← List.head?_eq_getElem?] at this
            exact h ⟨hc.1, by rw [this]; exact hc.2⟩
      · by_cases h10 : (c == 10) = true
        · have e2 : ∀ u, skipL true (c :: u) = skipL false u + 1 := by intro u; simp only [skipL, h10, if_true]
          rw [e2] at hg
          rw [e2, hrc false _ rfl hg.symm]; exact hg
        · have e2 : ∀ u, skipL true (c :: u) = skipL true u + 1 := by intro u; simp only [skipL]; rw [if_neg h10]
          rw [e2] at hg
          rw [e2, hrc true _ rfl hg.symm]; exact hg

/-- Where a token begins nothing is skipped, but for a remark. -/
theorem skip_tok {y : List UInt8} {kd e : Nat} (hc : cutL true y = .ok (kd, e)) (h : y.take 2 ≠ [47, 47]) : skipL false y = 0 := by
  match y, hc, h with
  | [], hc, _ => cases hc
  | c :: t, hc, h =>
    have hb : blankB c = false := by
      cases hb : blankB c
      · rfl
      · have h2 : c = 32 ∨ c = 9 ∨ c = 10 ∨ c = 13 := by
          unfold blankB at hb
          simpa [or_assoc] using hb
        rcases h2 with rfl | rfl | rfl | rfl
        · simp [cutL, show letterB 32 = false by decide, show digitB 32 = false by decide, show markB 32 = false by decide] at hc
        · simp [cutL, show letterB 9 = false by decide, show digitB 9 = false by decide, show markB 9 = false by decide] at hc
        · simp [cutL, show letterB 10 = false by decide, show digitB 10 = false by decide, show markB 10 = false by decide] at hc
        · simp [cutL, show letterB 13 = false by decide, show digitB 13 = false by decide, show markB 13 = false by decide] at hc
    simp only [skipL, hb, Bool.false_eq_true, if_false]
    rw [if_neg]
    intro h2
    simp only [Bool.and_eq_true, beq_iff_eq] at h2
    match t, h2, h with
    | [], h2, _ => simp at h2
    | d :: u, h2, h => simp at h2; exact h (by simp [h2.1, h2.2])
/-- A token by itself. -/
theorem slash_one {t : List UInt8} {kd e : Nat} (hc : cutL true (47 :: t) = .ok (kd, e)) (h : t.head? = some 47) : e = 1 := by
  simp [cutL, show letterB 47 = false by decide, show digitB 47 = false by decide, show markB 47 = true by decide] at hc
  match t, h with
  | d :: u, h =>
    simp at h; subst h
    rw [← hc.2]
    simp [signL, twoB, twosL]
theorem scan_alone {l : List UInt8} {kd e : Nat} (hc : cutL true l = .ok (kd, e)) : scanS true (l.take e) = .ok [(kd, 0, e), (1, e, e)] := by
  have hb := cutL_ok hc
  have hlen : (l.take e).length = e := by simp; omega
  have h1 : cutL true (l.take e) = .ok (kd, e) := cut_loc hc (by rw [List.take_take, Nat.min_self]) (by intro c h; rw [List.getElem?_eq_none (by omega)] at h; cases h)
  have hs : skipL false (l.take e) = 0 := by
    refine skip_tok h1 ?_
    intro h2
    match l, hc, h2, hb with
    | [], hc, _, _ => cases hc
    | c :: t, hc, h2, hb =>
      have h3 : (c :: t).take (min 2 e) = [47, 47] := by rw [← List.take_take]; exact h2
      have h4 : min 2 e = 2 := by
        have := congrArg List.length h3
        simp at this; omega
      rw [h4] at h3
      match t, h3 with
      | [], h3 => simp at h3
      | d :: u, h3 =>
        simp at h3
        obtain ⟨rfl, rfl⟩ := h3
        have := slash_one hc rfl
        omega
  unfold scanS
  rw [hs, hlen]
  match hx : l.take e, h1 with
  | [], h1 => cases h1
  | c :: t, h1 =>
    have hd : (c :: t).drop e = [] := by rw [← hx]; exact List.drop_eq_nil_of_le (by omega)
    have hd2 : (c :: t).drop (e + 0) = [] := hd
    rw [List.drop_zero]
    simp only [scanL, h1, hd]
    rw [show skipL false [] = 0 from rfl, hd2]
    match e, hb with
    | e + 1, _ => simp [scanL, glue]
def idleP (x : List UInt8) : Prop := skipL false x = x.length
def txt (l : List UInt8) (t : Tok) : List UInt8 := (l.drop t.2.1).take (t.2.2 - t.2.1)
/-- The tokens, from a place on, cover the source. -/
def cov (l : List UInt8) : Nat → List Tok → Prop
  | _, [] => False
  | k, [t] => t = (1, l.length, l.length) ∧ k ≤ l.length ∧ idleP ((l.drop k).take (l.length - k))
  | k, t :: u :: us => k ≤ t.2.1 ∧ t.2.1 < t.2.2 ∧ t.2.2 ≤ l.length ∧ idleP ((l.drop k).take (t.2.1 - k)) ∧ scanS true (txt l t) = .ok [(t.1, 0, t.2.2 - t.2.1), (1, t.2.2 - t.2.1, t.2.2 - t.2.1)] ∧ cov l t.2.2 (u :: us)
theorem gap_idle (l : List UInt8) (k : Nat) : idleP ((l.drop k).take (skipL false (l.drop k))) := by
  unfold idleP
  rw [skip_take]
  have := skipL_le (l.drop k) false
  simp; simp at this; omega
theorem scanL_ne {f k : Nat} {l : List UInt8} {ts : List Tok} (h : scanL true f k l = .ok ts) : ts ≠ [] := by
  match f, l, h with
  | 0, _, h => cases h
  | f + 1, [], h => simp only [scanL, Except.ok.injEq] at h; rw [← h]; simp
  | f + 1, c :: t, h =>
    simp only [scanL] at h
    split at h
    · cases h
    · rename_i kd e _
      revert h
      generalize scanL true f (k + e + skipL false ((c :: t).drop e)) ((c :: t).drop (e + skipL false ((c :: t).drop e))) = r
      cases r with
      | error p => intro h; cases h
      | ok us => intro h; simp only [glue, Except.ok.injEq] at h; rw [← h]; simp
/-- One step of a scan that ends well. -/
theorem scan_cons {f k : Nat} {l : List UInt8} {ts : List Tok} (h : scanL true f k (l.drop k) = .ok ts) (hk : k ≤ l.length) :
    (k = l.length ∧ ts = [(1, k, k)]) ∨ ∃ f' kd e us, f = f' + 1 ∧ k < l.length ∧ cutL true (l.drop k) = .ok (kd, e) ∧ 0 < e ∧ k + e ≤ l.length ∧ k + e + skipL false (l.drop (k + e)) ≤ l.length ∧ ts = (kd, k, k + e) :: us ∧ scanL true f' (k + e + skipL false (l.drop (k + e))) (l.drop (k + e + skipL false (l.drop (k + e)))) = .ok us := by
  match f, h with
  | 0, h => cases h
  | f + 1, h =>
    by_cases hlt : k < l.length
    · right
      obtain ⟨c, t, hd⟩ := drop_cons hlt
      rw [hd] at h
      simp only [scanL] at h
      match hc : cutL true (c :: t), h with
      | .error p, h => cases h
      | .ok (kd, e), h =>
        simp only at h
        rw [← hd, List.drop_drop, List.drop_drop, ← Nat.add_assoc] at h
        rw [← hd] at hc
        have hb := cutL_ok hc
        rw [drop_len] at hb
        have hs := skipL_le (l.drop (k + e)) false
        rw [drop_len] at hs
        match hq : scanL true f (k + e + skipL false (l.drop (k + e))) (l.drop (k + e + skipL false (l.drop (k + e)))), h with
        | .error p, h => cases h
        | .ok us, h =>
          simp only [glue, Except.ok.injEq] at h
          exact ⟨f, kd, e, us, rfl, hlt, hc, hb.1, by omega, by omega, h.symm, hq⟩
    · left
      have hk2 : k = l.length := by omega
      rw [List.drop_eq_nil_of_le (by omega)] at h
      simp only [scanL, Except.ok.injEq] at h
      exact ⟨hk2, h.symm⟩
theorem scan_cov {l : List UInt8} : ∀ (f k at' : Nat) (ts : List Tok), scanL true f k (l.drop k) = .ok ts → at' ≤ k → k ≤ l.length → idleP ((l.drop at').take (k - at')) → cov l at' ts := by
  intro f
  induction f with
  | zero => intro k at' ts h; cases h
  | succ f ih =>
    intro k at' ts h hle hk hi
    rcases scan_cons h hk with ⟨h1, rfl⟩ | ⟨f', kd, e, us, hf, hlt, hc, he, hke, hks, rfl, hq⟩
    · subst h1
      exact ⟨rfl, hle, hi⟩
    · have hf' : f' = f := by omega
      subst hf'
      have hne := scanL_ne hq
      have hcov := ih _ (k + e) us hq (by omega) hks (by rw [Nat.add_sub_cancel_left]; exact gap_idle l (k + e))
      match us, hne, hcov with
      | u :: us, _, hcov =>
        refine ⟨hle, by simp; omega, hke, hi, ?_, hcov⟩
        have := scan_alone hc
        show scanS true ((l.drop k).take (k + e - k)) = .ok [(kd, 0, k + e - k), (1, k + e - k, k + e - k)]
        rw [Nat.add_sub_cancel_left]; exact this
theorem covers {l : List UInt8} {ts : List Tok} (h : scanS true l = .ok ts) : cov l 0 ts :=
  scan_cov _ _ 0 ts h (Nat.zero_le _) (skipL_le l false) (by rw [Nat.sub_zero, List.drop_zero]; have := gap_idle l 0; simpa using this)
end Go.Proofs.Ytcinlpiidgbnaaa
