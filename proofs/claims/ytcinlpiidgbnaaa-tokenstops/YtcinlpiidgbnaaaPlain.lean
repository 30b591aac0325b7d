/- A source as tokens, in plain functions over lists of bytes: what is skipped, what is cut off, the whole list. No program. -/
import Derived.WalkKit
namespace Go.Proofs.Ytcinlpiidgbnaaa
open Go.RowKit

def blankB (c : UInt8) : Bool := c == 32 || c == 9 || c == 10 || c == 13
def letterB (c : UInt8) : Bool := (97 ≤ c && c ≤ 122) || (65 ≤ c && c ≤ 90) || c == 95
def digitB (c : UInt8) : Bool := 48 ≤ c && c ≤ 57
def ldB (c : UInt8) : Bool := letterB c || digitB c
def lineB (c : UInt8) : Bool := c != 10
def onesL : List UInt8 := [40, 41, 123, 125, 91, 93, 44, 59, 61, 33, 60, 62, 43, 45, 42, 47, 37, 38, 124, 94]
def twosL : List (List UInt8) := [[61, 61], [33, 61], [60, 61], [62, 61], [60, 60], [62, 62], [38, 38], [124, 124]]
def sufL : List (List UInt8) := [[], [105, 54, 52], [105, 51, 50], [117, 56]]
def wordsL : List (List UInt8) := [[102, 117, 110, 99], [118, 97, 114], [105, 102], [101, 108, 115, 101], [119, 104, 105, 108, 101], [98, 114, 101, 97, 107], [99, 111, 110, 116, 105, 110, 117, 101], [114, 101, 116, 117, 114, 110], [112, 114, 105, 110, 116],
  [116, 114, 117, 101], [102, 97, 108, 115, 101], [105, 54, 52], [105, 51, 50], [117, 56], [98, 111, 111, 108], [102, 54, 52]]
def markB (c : UInt8) : Bool := onesL.contains c
def wordB (l : List UInt8) : Bool := wordsL.contains l
def twoB (l : List UInt8) : Bool := twosL.contains l
def sufB (l : List UInt8) : Bool := sufL.contains l
/-- The sort of a byte: 1 blank, 2 letter, 3 digit, 4 mark, 0 strange. -/
def sortN (c : UInt8) : Nat := if blankB c then 1 else if letterB c then 2 else if digitB c then 3 else if markB c then 4 else 0

def rowL (p : UInt8 → Bool) (l : List UInt8) : Nat := (l.takeWhile p).length
theorem rowL_nil (p : UInt8 → Bool) : rowL p [] = 0 := rfl
theorem rowL_yes {p : UInt8 → Bool} {c : UInt8} (t : List UInt8) (h : p c = true) : rowL p (c :: t) = rowL p t + 1 := by simp [rowL, h]
theorem rowL_no {p : UInt8 → Bool} {c : UInt8} (t : List UInt8) (h : p c = false) : rowL p (c :: t) = 0 := by simp [rowL, h]
theorem rowL_le (p : UInt8 → Bool) (l : List UInt8) : rowL p l ≤ l.length := by
  induction l with
  | nil => simp [rowL]
  | cons c t ih =>
    cases h : p c
    · rw [rowL_no t h]; omega
    · rw [rowL_yes t h]; simp; omega

/-- How many bytes are blanks and remarks; true: inside a remark. -/
def skipL : Bool → List UInt8 → Nat
  | _, [] => 0
  | true, c :: t => if c == 10 then skipL false t + 1 else skipL true t + 1
  | false, c :: t => if blankB c then skipL false t + 1 else if c == 47 && t.head? == some 47 then skipL true t + 1 else 0
theorem skipL_le (l : List UInt8) : ∀ b, skipL b l ≤ l.length := by
  induction l with
  | nil => intro b; cases b <;> simp [skipL]
  | cons c t ih =>
    intro b
    have h1 := ih true; have h2 := ih false
    cases b <;> simp only [skipL, List.length_cons] <;> split <;> (try split) <;> omega
theorem skip_true (l : List UInt8) : skipL true l = rowL lineB l + skipL false (l.drop (rowL lineB l)) := by
  induction l with
  | nil => rfl
  | cons c t ih =>
    by_cases h : c = 10
    · subst h
      have e : rowL lineB (10 :: t) = 0 := rowL_no t (by decide)
      rw [e]
      show (if (10 : UInt8) == 10 then skipL false t + 1 else skipL true t + 1) = 0 + skipL false (10 :: t)
      have b : blankB 10 = true := by decide
      simp [skipL, b]
    · have b : lineB c = true := by simp [lineB, h]
      rw [rowL_yes t b]
      have b2 : (c == 10) = false := by simpa using h
      simp only [skipL, b2, List.drop_succ_cons]
      rw [if_neg (by simp), ih]; omega
theorem skip_blank {c : UInt8} (t : List UInt8) (h : blankB c = true) : skipL false (c :: t) = skipL false t + 1 := by simp [skipL, h]
theorem skip_row (l : List UInt8) : skipL false l = rowL blankB l + skipL false (l.drop (rowL blankB l)) := by
  induction l with
  | nil => rfl
  | cons c t ih =>
    cases h : blankB c
    · rw [rowL_no t h]; simp
    · rw [rowL_yes t h, skip_blank t h, ih]; simp only [List.drop_succ_cons]; omega
theorem skip_remark (t : List UInt8) : skipL false (47 :: 47 :: t) = rowL lineB (47 :: 47 :: t) + skipL false ((47 :: 47 :: t).drop (rowL lineB (47 :: 47 :: t))) := by
  have b : blankB 47 = false := by decide
  have b2 : lineB 47 = true := by decide
  have e : skipL false (47 :: 47 :: t) = skipL true (47 :: t) + 1 := by simp [skipL, b]
  rw [e, skip_true, rowL_yes (47 :: t) b2]; simp only [List.drop_succ_cons]; omega
theorem skip_stop {l : List UInt8} (h1 : ∀ c, l.head? = some c → blankB c = false) (h2 : ¬ (l[0]? = some 47 ∧ l[1]? = some 47)) : skipL false l = 0 := by
  match l, h1, h2 with
  | [], _, _ => rfl
  | [c], h1, _ => have := h1 c rfl; simp [skipL, this]
  | c :: d :: t, h1, h2 =>
    have := h1 c rfl
    simp only [skipL, this]
    rw [if_neg (by simp), if_neg]
    intro h
    simp at h
    exact h2 (by simp [h.1, h.2])
theorem row_head (p : UInt8 → Bool) (l : List UInt8) : ∀ c, (l.drop (rowL p l)).head? = some c → p c = false := by
  induction l with
  | nil => intro c h; simp [rowL] at h
  | cons d t ih =>
    intro c h
    cases hd : p d
    · rw [rowL_no t hd] at h; simp at h; subst h; exact hd
    · rw [rowL_yes t hd, List.drop_succ_cons] at h; exact ih c h

def hasL (l : List UInt8) (i : Nat) (c : UInt8) : Bool := l[i]? == some c
def endB (pt : Bool) : UInt8 → Bool := if pt then ldB else letterB
def finL (pt : Bool) (l : List UInt8) (e : Nat) : Except Nat (Nat × Nat) := if 0 < rowL (endB pt) (l.drop e) || (pt && hasL l e 46) then .error e else .ok (5, e)
def expL (l : List UInt8) (e : Nat) : Nat := if hasL l (e + 1) 43 || hasL l (e + 1) 45 then e + 2 else e + 1
def powL (pt : Bool) (l : List UInt8) (p : Nat) : Except Nat (Nat × Nat) := if rowL digitB (l.drop p) = 0 then .error p else finL pt l (p + rowL digitB (l.drop p))
def frcL (pt : Bool) (l : List UInt8) (e : Nat) : Except Nat (Nat × Nat) := if hasL l e 101 then powL pt l (expL l e) else finL pt l e
def fltL (pt : Bool) (l : List UInt8) (f : Nat) : Except Nat (Nat × Nat) := if rowL digitB (l.drop f) = 0 then .error f else frcL pt l (f + rowL digitB (l.drop f))
def intL (l : List UInt8) (n : Nat) : Except Nat (Nat × Nat) := if sufB ((l.drop n).take (rowL ldB (l.drop n))) then .ok (4, n + rowL ldB (l.drop n)) else .error n
def litL (pt : Bool) (l : List UInt8) : Except Nat (Nat × Nat) := if hasL l (rowL digitB l) 46 then fltL pt l (rowL digitB l + 1) else intL l (rowL digitB l)
def nameL (l : List UInt8) : Except Nat (Nat × Nat) := if 32 < rowL ldB l then .error 0 else .ok (if wordB (l.take (rowL ldB l)) then 3 else 2, rowL ldB l)
def signL (l : List UInt8) : Nat := if twoB (l.take 2) then 2 else 1
/-- What is cut off at the head of a rest: its kind and length, or where none is. 'pt': whether a point behind a float is asked for here (the document's way) or at the next place (the program's way). -/
def cutL (pt : Bool) : List UInt8 → Except Nat (Nat × Nat)
  | [] => .error 0
  | c :: t => if letterB c then nameL (c :: t) else if digitB c then litL pt (c :: t) else if markB c then .ok (6, signL (c :: t)) else .error 0

abbrev Tok := Nat × Nat × Nat
def glue (ts : List Tok) : Except Nat (List Tok) → Except Nat (List Tok)
  | .error p => .error p
  | .ok us => .ok (ts ++ us)
theorem glue_nil (r : Except Nat (List Tok)) : glue [] r = r := by cases r <;> rfl
theorem glue_glue (a b : List Tok) (r : Except Nat (List Tok)) : glue a (glue b r) = glue (a ++ b) r := by cases r <;> simp [glue]
/-- All tokens from a place on. The first number is fuel: more than the bytes that are left. -/
def scanL (pt : Bool) : Nat → Nat → List UInt8 → Except Nat (List Tok)
  | 0, k, _ => .error k
  | _ + 1, k, [] => .ok [(1, k, k)]
  | f + 1, k, c :: t =>
    match cutL pt (c :: t) with
    | .error p => .error (k + p)
    | .ok (kd, e) => glue [(kd, k, k + e)] (scanL pt f (k + e + skipL false ((c :: t).drop e)) ((c :: t).drop (e + skipL false ((c :: t).drop e))))
def scanS (pt : Bool) (l : List UInt8) : Except Nat (List Tok) := scanL pt (l.length + 1) (skipL false l) (l.drop (skipL false l))

theorem finL_ok {pt : Bool} {l : List UInt8} {e kd n : Nat} (h : finL pt l e = .ok (kd, n)) : kd = 5 ∧ n = e := by
  unfold finL at h
  split at h
  · cases h
  · simp at h; exact ⟨h.1.symm, h.2.symm⟩
theorem drop_len (l : List UInt8) (n : Nat) : (l.drop n).length = l.length - n := by simp
theorem powL_ok {pt : Bool} {l : List UInt8} {p kd n : Nat} (h : powL pt l p = .ok (kd, n)) : p < n ∧ n ≤ l.length := by
  unfold powL at h
  split at h
  · cases h
  · rename_i hn
    have := finL_ok h
    have h2 := rowL_le digitB (l.drop p)
    rw [drop_len] at h2
    omega
theorem frcL_ok {pt : Bool} {l : List UInt8} {e kd n : Nat} (he : e ≤ l.length) (h : frcL pt l e = .ok (kd, n)) : e ≤ n ∧ n ≤ l.length := by
  unfold frcL at h
  split at h
  · have := powL_ok h
    have e1 : e + 1 ≤ expL l e := by unfold expL; split <;> omega
    omega
  · have := finL_ok h; omega
theorem fltL_ok {pt : Bool} {l : List UInt8} {f kd n : Nat} (h : fltL pt l f = .ok (kd, n)) : f < n ∧ n ≤ l.length := by
  unfold fltL at h
  split at h
  · cases h
  · rename_i hn
    have h2 := rowL_le digitB (l.drop f)
    rw [drop_len] at h2
    have := frcL_ok (by omega) h
    omega
theorem cutL_ok {pt : Bool} {l : List UInt8} {kd n : Nat} (h : cutL pt l = .ok (kd, n)) : 0 < n ∧ n ≤ l.length := by
  match l, h with
  | [], h => cases h
  | c :: t, h =>
    simp only [cutL] at h
    split at h
    · rename_i hc
      have hl := rowL_le ldB (c :: t)
      have e := rowL_yes (p := ldB) t (c := c) (by simp [ldB, hc])
      unfold nameL at h
      split at h
      · cases h
      · simp at h; omega
    · split at h
      · rename_i hd
        have hl := rowL_le digitB (c :: t)
        have e := rowL_yes (p := digitB) t (c := c) hd
        unfold litL at h
        split at h
        · have := fltL_ok h; omega
        · unfold intL at h
          split at h
          · simp at h
            have h2 := rowL_le ldB ((c :: t).drop (rowL digitB (c :: t)))
            rw [drop_len] at h2
            omega
          · cases h
      · split at h
        · simp at h
          obtain ⟨_, rfl⟩ := h
          unfold signL
          split
          · rename_i h2
            match t, h2 with
            | [], h2 => simp [twoB, twosL] at h2
            | d :: u, _ => simp
          · simp
        · cases h

theorem ld_of_letter {c : UInt8} (h : letterB c = true) : ldB c = true := by simp [ldB, h]
theorem glue_eq {ts : List Tok} {r q : Except Nat (List Tok)} (h : r = q) : glue ts r = glue ts q := by rw [h]
theorem point_strange (pt : Bool) (t : List UInt8) : cutL pt (46 :: t) = .error 0 := by
  have a : letterB 46 = false := by decide
  have b : digitB 46 = false := by decide
  have c : markB 46 = false := by decide
  simp [cutL, a, b, c]
theorem skip_point (t : List UInt8) : skipL false (46 :: t) = 0 := by
  have a : blankB 46 = false := by decide
  simp [skipL, a]
end Go.Proofs.Ytcinlpiidgbnaaa
