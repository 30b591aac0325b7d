/- A source as tokens, in plain functions over lists of bytes: what is skipped, what is cut off, the whole list. No program. -/
import Derived.WalkKit
namespace Go.Proofs.YtbejgachdhfakaaGreatDoor
open Go.RowKit

def blankB (c : UInt8) : Bool := c == 32 || c == 9 || c == 10 || c == 13
def letterB (c : UInt8) : Bool := (97 ≤ c && c ≤ 122) || (65 ≤ c && c ≤ 90) || c == 95
def digitB (c : UInt8) : Bool := 48 ≤ c && c ≤ 57
def ldB (c : UInt8) : Bool := letterB c || digitB c
def lineB (c : UInt8) : Bool := c != 10
def onesL : List UInt8 := [40, 41, 123, 125, 91, 93, 44, 59, 61, 33, 60, 62, 43, 45, 42, 47, 37, 38, 124, 94]
def twosL : List (List UInt8) := [[61, 61], [33, 61], [60, 61], [62, 61], [60, 60], [62, 62], [38, 38], [124, 124]]
def sufL : List (List UInt8) := [[], [105, 54, 52], [105, 51, 50], [117, 56]]
def wordsL : List (List UInt8) := [[102, 117, 110, 99], [118, 97, 114], [105, 102], [101, 108, 115, 101], [119, 104, 105, 108, 101], [98, 114, 101, 97, 107], [99, 111, 110, 116, 105, 110, 117, 101], [114, 101, 116, 117, 114, 110], [112, 114, 105, 110, 116],
  [116, 114, 117, 101], [102, 97, 108, 115, 101], [105, 54, 52], [105, 51, 50], [117, 56], [98, 111, 111, 108], [102, 54, 52]]
def markB (c : UInt8) : Bool := onesL.contains c
def wordB (l : List UInt8) : Bool := wordsL.contains l
def twoB (l : List UInt8) : Bool := twosL.contains l
def sufB (l : List UInt8) : Bool := sufL.contains l
/-- The sort of a byte: 1 blank, 2 letter, 3 digit, 4 mark, 0 strange. -/
def sortN (c : UInt8) : Nat := if blankB c then 1 else if letterB c then 2 else if digitB c then 3 else if markB c then 4 else 0

def rowL (p : UInt8 → Bool) (l : List UInt8) : Nat := (l.takeWhile p).length
theorem rowL_nil (p : UInt8 → Bool) : rowL p [] = 0 := rfl
theorem rowL_yes {p : UInt8 → Bool} {c : UInt8} (t : List UInt8) (h : p c = true) : rowL p (c :: t) = rowL p t + 1 := by simp [rowL, h]
theorem rowL_no {p : UInt8 → Bool} {c : UInt8} (t : List UInt8) (h : p c = false) : rowL p (c :: t) = 0 := by simp [rowL, h]
theorem rowL_le (p : UInt8 → Bool) (l : List UInt8) : rowL p l ≤ l.length := by
  induction l with
  | nil => simp [rowL]
  | cons c t ih =>
    cases h : p c
    · rw [rowL_no t h]; omega
    · rw [rowL_yes t h]; simp; omega

/-- How many bytes are blanks and remarks; true: inside a remark. -/
def skipL : Bool → List UInt8 → Nat
  | _, [] => 0
  | true, c :: t => if c == 10 then skipL false t + 1 else skipL true t + 1
  | false, c :: t => if blankB c then skipL false t + 1 else if c == 47 && t.head? == some 47 then skipL true t + 1 else 0
theorem skipL_le (l : List UInt8) : ∀ b, skipL b l ≤ l.length := by
  induction l with
  | nil => intro b; cases b <;> simp [skipL]
  | cons c t ih =>
    intro b
    have h1 := ih true; have h2 := ih false
    cases b <;> simp only [skipL, List.length_cons] <;> split <;> (try split) <;> omega
theorem skip_true (l : List UInt8) : skipL true l = rowL lineB l + skipL false (l.drop (rowL lineB l)) := by
  induction l with
  | nil => rfl
  | cons c t ih =>
    by_cases h : c = 10
    · subst h
      have e : rowL lineB (10 :: t) = 0 := rowL_no t (by decide)
      rw [e]
      show (if (10 : UInt8) == 10 then skipL false t + 1 else skipL true t + 1) = 0 + skipL false (10 :: t)
      have b : blankB 10 = true := by decide
      simp [skipL, b]
    · have b : lineB c = true := by simp [lineB, h]
      rw [rowL_yes t b]
      have b2 : (c == 10) = false := by simpa using h
      simp only [skipL, b2, List.drop_succ_cons]
      rw [if_neg (by simp), ih]; omega
theorem skip_blank {c : UInt8} (t : List UInt8) (h : blankB c = true) : skipL false (c :: t) = skipL false t + 1 := by simp [skipL, h]
theorem skip_row (l : List UInt8) : skipL false l = rowL blankB l + skipL false (l.drop (rowL blankB l)) := by
  induction l with
  | nil => rfl
  | cons c t ih =>
    cases h : blankB c
    · rw [rowL_no t h]; simp
    · rw [rowL_yes t h, skip_blank t h, ih]; simp only [List.drop_succ_cons]; omega
theorem skip_remark (t : List UInt8) : skipL false (47 :: 47 :: t) = rowL lineB (47 :: 47 :: t) + skipL false ((47 :: 47 :: t).drop (rowL lineB (47 :: 47 :: t))) := by
  have b : blankB 47 = false := by decide
  have b2 : lineB 47 = true := by decide
  have e : skipL false (47 :: 47 :: t) = skipL true (47 :: t) + 1 := by simp [skipL, b]
  rw [e, skip_true, rowL_yes (47 :: t) b2]; simp only [List.drop_succ_cons]; omega
theorem skip_stop {l : List UInt8} (h1 : ∀ c, l.head? = some c → blankB c = false) (h2 : ¬ (l[0]? = some 47 ∧ l[1]? = some 47)) : skipL false l = 0 := by
  match l, h1, h2 with
  | [], _, _ => rfl
  | [c], h1, _ => have := h1 c rfl; simp [skipL, this]
  | c :: d :: t, h1, h2 =>
    have := h1 c rfl
    simp only [skipL, this]
    rw [if_neg (by simp), if_neg]
    intro h
    simp at h
    exact h2 (by simp [h.1, h.2])
theorem row_head (p : UInt8 → Bool) (l : List UInt8) : ∀ c, (l.drop (rowL p l)).head? = some c → p c = false := by
  induction l with
  | nil => intro c h; simp [rowL] at h
  | cons d t ih =>
    intro c h
    cases hd : p d
    · rw [rowL_no t hd] at h; simp at h; subst h; exact hd
    · rw [rowL_yes t hd, List.drop_succ_cons] at h; exact ih c h

def hasL (l : List UInt8) (i : Nat) (c : UInt8) : Bool := l[i]? == some c
def endB (pt : Bool) : UInt8 → Bool := if pt then ldB else letterB
def finL (pt : Bool) (l : List UInt8) (e : Nat) : Except Nat (Nat × Nat) := if 0 < rowL (endB pt) (l.drop e) || (pt && hasL l e 46) then .error e else .ok (5, e)
def expL (l : List UInt8) (e : Nat) : Nat := if hasL l (e + 1) 43 || hasL l (e + 1) 45 then e + 2 else e + 1
def powL (pt : Bool) (l : List UInt8) (p : Nat) : Except Nat (Nat × Nat) := if rowL digitB (l.drop p) = 0 then .error p else finL pt l (p + rowL digitB (l.drop p))
def frcL (pt : Bool) (l : List UInt8) (e : Nat) : Except Nat (Nat × Nat) := if hasL l e 101 then powL pt l (expL l e) else finL pt l e
def fltL (pt : Bool) (l : List UInt8) (f : Nat) : Except Nat (Nat × Nat) := if rowL digitB (l.drop f) = 0 then .error f else frcL pt l (f + rowL digitB (l.drop f))
def intL (l : List UInt8) (n : Nat) : Except Nat (Nat × Nat) := if sufB ((l.drop n).take (rowL ldB (l.drop n))) then .ok (4, n + rowL ldB (l.drop n)) else .error n
def litL (pt : Bool) (l : List UInt8) : Except Nat (Nat × Nat) := if hasL l (rowL digitB l) 46 then fltL pt l (rowL digitB l + 1) else intL l (rowL digitB l)
def nameL (l : List UInt8) : Except Nat (Nat × Nat) := if 32 < rowL ldB l then .error 0 else .ok (if wordB (l.take (rowL ldB l)) then 3 else 2, rowL ldB l)
def signL (l : List UInt8) : Nat := if twoB (l.take 2) then 2 else 1
/-- What is cut off at the head of a rest: its kind and length, or where none is. 'pt': whether a point behind a float is asked for here (the document's way) or at the next place (the program's way). -/
def cutL (pt : Bool) : List UInt8 → Except Nat (Nat × Nat)
  | [] => .error 0
  | c :: t => if letterB c then nameL (c :: t) else if digitB c then litL pt (c :: t) else if markB c then .ok (6, signL (c :: t)) else .error 0

abbrev Tok := Nat × Nat × Nat
def glue (ts : List Tok) : Except Nat (List Tok) → Except Nat (List Tok)
  | .error p => .error p
  | .ok us => .ok (ts ++ us)
theorem glue_nil (r : Except Nat (List Tok)) : glue [] r = r := by cases r <;> rfl
theorem glue_glue (a b : List Tok) (r : Except Nat (List Tok)) : glue a (glue b r) = glue (a ++ b) r := by cases r <;> simp [glue]
/-- All tokens from a place on. The first number is fuel: more than the bytes that are left. -/
def scanL (pt : Bool) : Nat → Nat → List UInt8 → Except Nat (List Tok)
  | 0, k, _ => .error k
  | _ + 1, k, [] => .ok [(1, k, k)]
  | f + 1, k, c :: t =>
    match cutL pt (c :: t) with
    | .error p => .error (k + p)
    | .ok (kd, e) => glue [(kd, k, k + e)] (scanL pt f (k + e + skipL false ((c :: t).drop e)) ((c :: t).drop (e + skipL false ((c :: t).drop e))))
def scanS (pt : Bool) (l : List UInt8) : Except Nat (List Tok) := scanL pt (l.length + 1) (skipL false l) (l.drop (skipL false l))

theorem finL_ok {pt : Bool} {l : List UInt8} {e kd n : Nat} (h : finL pt l e = .ok (kd, n)) : kd = 5 ∧ n = e := by
  unfold finL at h
  split at h
  · cases h
  · simp at h; exact ⟨h.1.symm, h.2.symm⟩
theorem drop_len (l : List UInt8) (n : Nat) : (l.drop n).length = l.length - n := by simp
theorem powL_ok {pt : Bool} {l : List UInt8} {p kd n : Nat} (h : powL pt l p = .ok (kd, n)) : p < n ∧ n ≤ l.length := by
  unfold powL at h
  split at h
  · cases h
  · rename_i hn
    have := finL_ok h
    have h2 := rowL_le digitB (l.drop p)
    rw [drop_len] at h2
    omega
theorem frcL_ok {pt : Bool} {l : List UInt8} {e kd n : Nat} (he : e ≤ l.length) (h : frcL pt l e = .ok (kd, n)) : e ≤ n ∧ n ≤ l.length := by
  unfold frcL at h
  split at h
  · have := powL_ok h
    have e1 : e + 1 ≤ expL l e := by unfold expL; split <;> omega
    omega
  · have := finL_ok h; omega
theorem fltL_ok {pt : Bool} {l : List UInt8} {f kd n : Nat} (h : fltL pt l f = .ok (kd, n)) : f < n ∧ n ≤ l.length := by
  unfold fltL at h
  split at h
  · cases h
  · rename_i hn
    have h2 := rowL_le digitB (l.drop f)
    rw [drop_len] at h2
    have := frcL_ok (by omega) h
    omega
theorem cutL_ok {pt : Bool} {l : List UInt8} {kd n : Nat} (h : cutL pt l = .ok (kd, n)) : 0 < n ∧ n ≤ l.length := by
  match l, h with
  | [], h => cases h
  | c :: t, h =>
    simp only [cutL] at h
    split at h
    · rename_i hc
      have hl := rowL_le ldB (c :: t)
      have e := rowL_yes (p := ldB) t (c := c) (by simp [ldB, hc])
      unfold nameL at h
      split at h
      · cases h
      · simp at h; omega
    · split at h
      · rename_i hd
        have hl := rowL_le digitB (c :: t)
        have e := rowL_yes (p := digitB) t (c := c) hd
        unfold litL at h
        split at h
        · have := fltL_ok h; omega
        · unfold intL at h
          split at h
          · simp at h
            have h2 := rowL_le ldB ((c :: t).drop (rowL digitB (c :: t)))
            rw [drop_len] at h2
            omega
          · cases h
      · split at h
        · simp at h
          obtain ⟨_, rfl⟩ := h
          unfold signL
          split
          · rename_i h2
            match t, h2 with
            | [], h2 => simp [twoB, twosL] at h2
            | d :: u, _ => simp
          · simp
        · cases h

theorem ld_of_letter {c : UInt8} (h : letterB c = true) : ldB c = true := by simp [ldB, h]
theorem glue_eq {ts : List Tok} {r q : Except Nat (List Tok)} (h : r = q) : glue ts r = glue ts q := by rw [h]
theorem point_strange (pt : Bool) (t : List UInt8) : cutL pt (46 :: t) = .error 0 := by
  have a : letterB 46 = false := by decide
  have b : digitB 46 = false := by decide
  have c : markB 46 = false := by decide
  simp [cutL, a, b, c]
theorem skip_point (t : List UInt8) : skipL false (46 :: t) = 0 := by
  have a : blankB 46 = false := by decide
  simp [skipL, a]
end Go.Proofs.YtbejgachdhfakaaGreatDoor
/- A scan, round by round; what a list of tokens is in memory; both ways to ask for a point come to one. -/
namespace Go.Proofs.YtbejgachdhfakaaGreatDoor
open Go.RowKit

/-- The scan of l has cut off ts and stands at k. -/
def At (pt : Bool) (l : List UInt8) (ts : List Tok) (k : Nat) : Prop := ∃ f, l.length - k < f ∧ scanS pt l = glue ts (scanL pt f k (l.drop k))
theorem at_start (pt : Bool) (l : List UInt8) : At pt l [] (skipL false l) := ⟨l.length + 1, by omega, by rw [glue_nil]; rfl⟩
theorem drop_cons {l : List UInt8} {k : Nat} (h : k < l.length) : ∃ c t, l.drop k = c :: t := ⟨_, _, List.drop_eq_getElem_cons h⟩
theorem at_step {pt : Bool} {l : List UInt8} {ts : List Tok} {k kd e : Nat} (h : At pt l ts k) (hk : k < l.length) (hc : cutL pt (l.drop k) = .ok (kd, e)) :
    At pt l (ts ++ [(kd, k, k + e)]) (k + e + skipL false (l.drop (k + e))) ∧ 0 < e ∧ k + e ≤ l.length ∧ k + e + skipL false (l.drop (k + e)) ≤ l.length := by
  obtain ⟨f, hf, he⟩ := h
  have hb := cutL_ok hc
  rw [drop_len] at hb
  have hs := skipL_le (l.drop (k + e)) false
  rw [drop_len] at hs
  refine ⟨?_, hb.1, by omega, by omega⟩
  match f, hf, he with
  | 0, hf, _ => omega
  | f + 1, hf, he =>
    refine ⟨f, by omega, ?_⟩
    rw [he, ← glue_glue]
    congr 1
    obtain ⟨c, t, hd⟩ := drop_cons hk
    rw [hd] at hc ⊢
    simp only [scanL, hc]
    rw [← hd, List.drop_drop, List.drop_drop, ← Nat.add_assoc]
theorem at_err {pt : Bool} {l : List UInt8} {ts : List Tok} {k p : Nat} (h : At pt l ts k) (hk : k < l.length) (hc : cutL pt (l.drop k) = .error p) : scanS pt l = .error (k + p) := by
  obtain ⟨f, hf, he⟩ := h
  match f, hf, he with
  | 0, hf, _ => omega
  | f + 1, hf, he =>
    obtain ⟨c, t, hd⟩ := drop_cons hk
    rw [hd] at hc he
    rw [he]
    simp only [scanL, hc, glue]
theorem at_end {pt : Bool} {l : List UInt8} {ts : List Tok} {k : Nat} (h : At pt l ts k) (hk : l.length ≤ k) : scanS pt l = .ok (ts ++ [(1, k, k)]) := by
  obtain ⟨f, hf, he⟩ := h
  match f, hf, he with
  | 0, hf, _ => omega
  | f + 1, hf, he =>
    rw [List.drop_eq_nil_of_le hk] at he
    rw [he]; rfl

def tokCells (ts : List Tok) : List Value := ts.flatMap fun t => [.int .u8 (t.1 : Int), .int .i64 (t.2.1 : Int), .int .i64 (t.2.2 : Int)]
theorem tokCells_snoc (ts : List Tok) (a b c : Nat) : tokCells (ts ++ [(a, b, c)]) = tokCells ts ++ [.int .u8 (a : Int), .int .i64 (b : Int), .int .i64 (c : Int)] := by simp [tokCells]
theorem tokCells_length (ts : List Tok) : (tokCells ts).length = ts.length * 3 := by
  induction ts with
  | nil => rfl
  | cons t u ih => simp only [tokCells, List.flatMap_cons, List.length_append, List.length_cons, List.length_nil] at ih ⊢; omega

/-- What is told of a source: its tokens, and the fault. -/
def toksOf (l : List UInt8) : List Tok := if 65536 < l.length then [] else match scanS true l with | .ok ts => ts | .error _ => []
def errOf (l : List UInt8) : Int := if 65536 < l.length then 3 else match scanS true l with | .ok _ => 0 | .error _ => 120
def atOf (l : List UInt8) : Int := if 65536 < l.length then 0 else match scanS true l with | .ok _ => 0 | .error p => (p : Int)
theorem of_long {l : List UInt8} (h : 65536 < l.length) : toksOf l = [] ∧ errOf l = 3 ∧ atOf l = 0 := by simp [toksOf, errOf, atOf, h]
theorem of_err {l : List UInt8} {p : Nat} (h : ¬ 65536 < l.length) (he : scanS true l = .error p) : toksOf l = [] ∧ errOf l = 120 ∧ atOf l = (p : Int) := by simp [toksOf, errOf, atOf, h, he]
theorem of_ok {l : List UInt8} {ts : List Tok} (h : ¬ 65536 < l.length) (he : scanS true l = .ok ts) : toksOf l = ts ∧ errOf l = 0 ∧ atOf l = 0 := by simp [toksOf, errOf, atOf, h, he]

/-- A point behind a float is refused at its place, asked for at once or at the next place. -/
theorem fin_pt {l : List UInt8} {e : Nat} (hn : ∀ c, l[e]? = some c → digitB c = false) : (finL true l e = finL false l e) ∨ (hasL l e 46 = true ∧ finL true l e = .error e ∧ finL false l e = .ok (5, e)) := by
  unfold finL endB
  match h : l.drop e with
  | [] => left; simp [rowL, hasL, List.getElem?_eq_none (by simpa using h : l.length ≤ e)]
  | c :: t =>
    have hc : l[e]? = some c := by
      have : (l.drop e)[0]? = some c := by rw [h]; rfl
      rwa [List.getElem?_drop] at this
    have hd := hn c hc
    have e1 : ldB c = letterB c := by simp [ldB, hd]
    cases hl : letterB c
    · have r1 : rowL ldB (c :: t) = 0 := rowL_no t (by rw [e1, hl])
      have r2 : rowL letterB (c :: t) = 0 := rowL_no t hl
      by_cases h46 : c = 46
      · right
        subst h46
        simp [r1, r2, hasL, hc]
      · left
        simp [r1, r2, hasL, hc, h46]
    · left
      have r1 : 0 < rowL ldB (c :: t) := by rw [rowL_yes t (by rw [e1, hl])]; omega
      have r2 : 0 < rowL letterB (c :: t) := by rw [rowL_yes t hl]; omega
      simp [r1, r2]
theorem row_behind (p : UInt8 → Bool) (l : List UInt8) (k : Nat) : ∀ c, l[k + rowL p (l.drop k)]? = some c → p c = false := by
  intro c h
  refine row_head p (l.drop k) c ?_
  rw [List.drop_drop, List.head?_drop]; exact h
theorem lit_pt (l : List UInt8) : (litL true l = litL false l) ∨ ∃ e, hasL l e 46 = true ∧ litL true l = .error e ∧ litL false l = .ok (5, e) := by
  unfold litL
  split
  · unfold fltL
    split
    · left; rfl
    · unfold frcL
      split
      · unfold powL
        split
        · left; rfl
        · rcases fin_pt (row_behind digitB l _) with h | h
          · left; exact h
          · right; exact ⟨_, h⟩
      · rcases fin_pt (row_behind digitB l _) with h | h
        · left; exact h
        · right; exact ⟨_, h⟩
  · left; rfl
theorem cut_pt (l : List UInt8) : (cutL true l = cutL false l) ∨ ∃ e, hasL l e 46 = true ∧ cutL true l = .error e ∧ cutL false l = .ok (5, e) := by
  match l with
  | [] => left; rfl
  | c :: t =>
    simp only [cutL]
    split
    · left; rfl
    · split
      · exact lit_pt (c :: t)
      · left; rfl
theorem scanL_pt : ∀ (f k : Nat) (l : List UInt8), l.length < f → scanL true f k l = scanL false f k l
  | 0, _, l, h => by omega
  | f + 1, k, [], _ => rfl
  | f + 1, k, c :: t, h => by
    simp only [scanL]
    rcases cut_pt (c :: t) with hc | ⟨e, h46, ht, hf⟩
    · rw [hc]
      match hr : cutL false (c :: t) with
      | .error p => rfl
      | .ok (kd, e) =>
        simp only
        congr 1
        have hb := cutL_ok hr
        refine scanL_pt f _ _ ?_
        rw [drop_len]; omega
    · rw [ht, hf]
      simp only
      have e46 : (c :: t)[e]? = some 46 := by simpa [hasL] using h46
      obtain ⟨hlt, hv⟩ := List.getElem?_eq_some_iff.1 e46
      have hd : (c :: t).drop e = 46 :: (c :: t).drop (e + 1) := by rw [List.drop_eq_getElem_cons hlt, hv]
      rw [hd, skip_point, Nat.add_zero, Nat.add_zero, hd]
      match f, h with
      | 0, h => simp at h
      | f + 1, _ => simp [scanL, point_strange, glue]
theorem scanS_pt (l : List UInt8) : scanS true l = scanS false l := by
  unfold scanS
  refine scanL_pt _ _ _ ?_
  rw [drop_len]; omega
end Go.Proofs.YtbejgachdhfakaaGreatDoor
/- How many tokens there are; where they lie. -/
namespace Go.Proofs.YtbejgachdhfakaaGreatDoor
open Go.RowKit

theorem scanL_len {pt : Bool} : ∀ (f k : Nat) (l : List UInt8) (ts : List Tok), scanL pt f k l = .ok ts → ts.length ≤ l.length + 1
  | 0, _, _, _, h => by cases h
  | f + 1, k, [], ts, h => by simp only [scanL, Except.ok.injEq] at h; subst h; simp
  | f + 1, k, c :: t, ts, h => by
    simp only [scanL] at h
    match hr : cutL pt (c :: t) with
    | .error p => rw [hr] at h; cases h
    | .ok (kd, e) =>
      rw [hr] at h
      simp only at h
      have hb := cutL_ok hr
      match hq : scanL pt f (k + e + skipL false ((c :: t).drop e)) ((c :: t).drop (e + skipL false ((c :: t).drop e))) with
      | .error p => rw [hq] at h; cases h
      | .ok us =>
        rw [hq] at h
        simp only [glue, Except.ok.injEq] at h
        subst h
        have := scanL_len f _ _ us hq
        rw [drop_len] at this
        simp only [List.length_append, List.length_cons, List.length_nil] at this ⊢
        omega
theorem toks_len (l : List UInt8) : (toksOf l).length ≤ 65537 := by
  unfold toksOf
  split
  · simp
  · rename_i h
    match hs : scanS true l with
    | .error p => simp
    | .ok ts =>
      simp only
      have := scanL_len _ _ _ ts hs
      rw [drop_len] at this
      omega
end Go.Proofs.YtbejgachdhfakaaGreatDoor
/- A source's tokens as a tree, in plain functions: what the parser tells, node by node. The first number of a function is fuel. No program. -/
namespace Go.Proofs.YtbejgachdhfakaaGreatDoor
open Go.RowKit

/-- A node, plain. -/
structure Nd where
  kind : Nat
  pl : Nat
  name : ByteArray
  typ : Nat
  op : Nat
  bits : Nat
  size : Nat
  kids : List Nat
/-- Where a parser stands: the tokens that are left, how much is open, the nodes that have ended. -/
structure St where
  toks : List Tok
  opn : Nat
  nodes : List Nd
inductive Res (α : Type) where
  | ok (a : α) (st : St)
  | err (c p : Nat)
  | out
def Res.bind {α β : Type} (r : Res α) (f : α → St → Res β) : Res β :=
  match r with
  | .ok a st => f a st
  | .err c p => .err c p
  | .out => .out
def hd (st : St) : Tok := st.toks.headD (1, 0, 0)
def tl (st : St) : St := { st with toks := st.toks.tail }
def txB (s : ByteArray) (t : Tok) : ByteArray := s.extract t.2.1 t.2.2
def txs (s : ByteArray) (st : St) : List UInt8 := (txB s (hd st)).toList
def has (s : ByteArray) (x : List UInt8) (st : St) : Bool := txs s st == x
def stop {α : Type} (c : Nat) (st : St) : Res α := .err c (hd st).2.1
def take (s : ByteArray) (x : List UInt8) (st : St) : Res Nat := if has s x st then .ok (hd st).2.1 (tl st) else stop 130 st
def nameP (s : ByteArray) (st : St) : Res (ByteArray × Nat) := if (hd st).1 = 2 then .ok (txB s (hd st), (hd st).2.1) (tl st) else stop 130 st
/-- The number of a type's word; 0: it is none. -/
def typN (x : List UInt8) : Nat :=
  if x == [98, 111, 111, 108] then 1 else if x == [117, 56] then 2 else if x == [105, 51, 50] then 3 else if x == [105, 54, 52] then 4 else if x == [102, 54, 52] then 5 else 0
def typeP (s : ByteArray) (st : St) : Res Nat := if typN (txs s st) = 0 then stop 130 st else .ok (typN (txs s st)) (tl st)
def putP (n : Nd) (st : St) : Res Nat := .ok st.nodes.length { st with nodes := st.nodes ++ [n] }
def opened {α : Type} (s : ByteArray) (x : List UInt8) (thr : St → Res α) (st : St) : Res (Nat × α) :=
  if has s x st && decide (st.opn = 32) then stop 132 st
  else (take s x st).bind fun a st1 => (thr { st1 with opn := st1.opn + 1 }).bind fun r st2 => .ok (a, r) { st2 with opn := st2.opn - 1 }

/-- A float's word, of its text: left open here. -/
abbrev FW := ByteArray → Nat
def digitsV (x : List UInt8) : Nat := x.foldl (fun n c => n * 10 + (c.toNat - 48)) 0
/-- A whole literal's digits and what stands behind them. -/
def cutDig (x : List UInt8) : List UInt8 × List UInt8 := (x.takeWhile digitB, x.dropWhile digitB)
/-- A literal's type and word; none: it is beyond its type. -/
def litW (F : FW) (k : Nat) (b : ByteArray) : Option (Nat × Nat) :=
  if b.toList = [116, 114, 117, 101] then some (1, 1)
  else if b.toList = [102, 97, 108, 115, 101] then some (1, 0)
  else if k = 5 then (if F b < 9218868437227405312 then some (5, F b) else none)
  else
    let t := if (cutDig b.toList).2 = [] then 4 else typN (cutDig b.toList).2
    let n := digitsV (cutDig b.toList).1
    if (cutDig b.toList).1 ≠ [] ∧ n < 9223372036854775808 ∧ (t = 4 ∨ (t = 3 ∧ n < 2147483648) ∨ (t = 2 ∧ n < 256)) then some (t, n) else none
def litP (F : FW) (s : ByteArray) (st : St) : Res Nat :=
  match litW F (hd st).1 (txB s (hd st)) with
  | none => stop 131 st
  | some (t, n) => putP ⟨1, (hd st).2.1, ⟨#[]⟩, t, 0, n, 0, []⟩ (tl st)
/-- An array's size. -/
def sizeP (s : ByteArray) (st : St) : Res Nat :=
  if (hd st).1 ≠ 4 then stop 130 st
  else if (txs s st).all digitB && decide (1 ≤ digitsV (txs s st)) && decide (digitsV (txs s st) ≤ 256) then .ok (digitsV (txs s st)) (tl st)
  else stop 131 st

/-- The operators: sign, rank, kind, operation. -/
def opsL : List (List UInt8 × Nat × Nat × Nat) :=
  [([124, 124], 1, 9, 0), ([38, 38], 2, 8, 0), ([61, 61], 3, 7, 11), ([33, 61], 3, 7, 12), ([60], 3, 7, 13), ([60, 61], 3, 7, 14), ([62], 3, 7, 15), ([62, 61], 3, 7, 16),
   ([43], 4, 7, 1), ([45], 4, 7, 2), ([124], 4, 7, 7), ([94], 4, 7, 8), ([42], 5, 7, 3), ([47], 5, 7, 4), ([37], 5, 7, 5), ([38], 5, 7, 6), ([60, 60], 5, 7, 9), ([62, 62], 5, 7, 10)]
def opAt (x : List UInt8) (r : Nat) : Option (Nat × Nat) := (opsL.find? fun o => decide (o.2.1 = r) && (x == o.1)).map fun o => o.2.2

mutual
def row (F : FW) (s : ByteArray) : Nat → Nat → St → Res Nat
  | 0, _, _ => .out
  | n + 1, r, st => if 5 < r then unary F s n st else (row F s n (r + 1) st).bind fun l st1 => rowMore F s n r l st1
def rowMore (F : FW) (s : ByteArray) : Nat → Nat → Nat → St → Res Nat
  | 0, _, _, _ => .out
  | n + 1, r, l, st =>
    match opAt (txs s st) r with
    | none => .ok l st
    | some (k, o) => (row F s n (r + 1) (tl st)).bind fun g st1 => (putP ⟨k, (hd st).2.1, ⟨#[]⟩, 0, o, 0, 0, [l, g]⟩ st1).bind fun l2 st2 => rowMore F s n r l2 st2
def unary (F : FW) (s : ByteArray) : Nat → St → Res Nat
  | 0, _ => .out
  | n + 1, st =>
    if has s [45] st then (opened s [45] (unary F s n) st).bind fun a st1 => putP ⟨6, a.1, ⟨#[]⟩, 0, 17, 0, 0, [a.2]⟩ st1
    else if has s [33] st then (opened s [33] (unary F s n) st).bind fun a st1 => putP ⟨6, a.1, ⟨#[]⟩, 0, 18, 0, 0, [a.2]⟩ st1
    else primary F s n st
def primary (F : FW) (s : ByteArray) : Nat → St → Res Nat
  | 0, _ => .out
  | n + 1, st =>
    if (hd st).1 = 4 ∨ (hd st).1 = 5 then litP F s st
    else if (hd st).1 = 2 then named F s n st
    else if has s [116, 114, 117, 101] st then litP F s st
    else if has s [102, 97, 108, 115, 101] st then litP F s st
    else if has s [40] st then between F s n [40] [41] st
    else (typeP s st).bind fun t st1 => (between F s n [40] [41] st1).bind fun k st2 => putP ⟨5, (hd st).2.1, ⟨#[]⟩, t, 0, 0, 0, [k]⟩ st2
def between (F : FW) (s : ByteArray) : Nat → List UInt8 → List UInt8 → St → Res Nat
  | 0, _, _, _ => .out
  | n + 1, x, y, st => (opened s x (fun st1 => (row F s n 1 st1).bind fun k st2 => (take s y st2).bind fun _ st3 => .ok k st3) st).bind fun a st4 => .ok a.2 st4
def named (F : FW) (s : ByteArray) : Nat → St → Res Nat
  | 0, _ => .out
  | n + 1, st => (nameP s st).bind fun a st1 =>
    if has s [40] st1 then call F s n a.2 a.1 st1
    else if has s [91] st1 then (between F s n [91] [93] st1).bind fun k st2 => putP ⟨3, a.2, a.1, 0, 0, 0, 0, [k]⟩ st2
    else putP ⟨2, a.2, a.1, 0, 0, 0, 0, []⟩ st1
def call (F : FW) (s : ByteArray) : Nat → Nat → ByteArray → St → Res Nat
  | 0, _, _, _ => .out
  | n + 1, p, x, st => (opened s [40] (args F s n) st).bind fun a st1 => putP ⟨4, p, x, 0, 0, 0, 0, a.2⟩ st1
def args (F : FW) (s : ByteArray) : Nat → St → Res (List Nat)
  | 0, _ => .out
  | n + 1, st =>
    if has s [41] st then (take s [41] st).bind fun _ st1 => .ok [] st1
    else (row F s n 1 st).bind fun k st1 => argsMore F s n [k] st1
def argsMore (F : FW) (s : ByteArray) : Nat → List Nat → St → Res (List Nat)
  | 0, _, _ => .out
  | n + 1, ks, st =>
    if has s [44] st then (row F s n 1 (tl st)).bind fun k st1 => argsMore F s n (ks ++ [k]) st1
    else (take s [41] st).bind fun _ st1 => .ok ks st1
end

mutual
def block (F : FW) (s : ByteArray) : Nat → St → Res Nat
  | 0, _ => .out
  | n + 1, st => (opened s [123] (stmts F s n []) st).bind fun a st1 => putP ⟨21, a.1, ⟨#[]⟩, 0, 0, 0, 0, a.2⟩ st1
def stmts (F : FW) (s : ByteArray) : Nat → List Nat → St → Res (List Nat)
  | 0, _, _ => .out
  | n + 1, ks, st =>
    if has s [125] st then (take s [125] st).bind fun _ st1 => .ok ks st1
    else (stmt F s n st).bind fun k st1 => stmts F s n (ks ++ [k]) st1
def stmt (F : FW) (s : ByteArray) : Nat → St → Res Nat
  | 0, _ => .out
  | n + 1, st =>
    if has s [118, 97, 114] st then varP F s n st
    else if has s [105, 102] st then ifP F s n (hd st).2.1 (tl st)
    else if has s [119, 104, 105, 108, 101] st then (row F s n 1 (tl st)).bind fun c st1 => (block F s n st1).bind fun b st2 => putP ⟨15, (hd st).2.1, ⟨#[]⟩, 0, 0, 0, 0, [c, b]⟩ st2
    else if has s [98, 114, 101, 97, 107] st then (take s [59] (tl st)).bind fun _ st1 => putP ⟨16, (hd st).2.1, ⟨#[]⟩, 0, 0, 0, 0, []⟩ st1
    else if has s [99, 111, 110, 116, 105, 110, 117, 101] st then (take s [59] (tl st)).bind fun _ st1 => putP ⟨17, (hd st).2.1, ⟨#[]⟩, 0, 0, 0, 0, []⟩ st1
    else if has s [114, 101, 116, 117, 114, 110] st then exprP F s n 18 st
    else if has s [112, 114, 105, 110, 116] st then exprP F s n 19 st
    else nameSt F s n st
def exprP (F : FW) (s : ByteArray) : Nat → Nat → St → Res Nat
  | 0, _, _ => .out
  | n + 1, k, st => (row F s n 1 (tl st)).bind fun v st1 => (take s [59] st1).bind fun _ st2 => putP ⟨k, (hd st).2.1, ⟨#[]⟩, 0, 0, 0, 0, [v]⟩ st2
def varP (F : FW) (s : ByteArray) : Nat → St → Res Nat
  | 0, _ => .out
  | n + 1, st => (nameP s (tl st)).bind fun a st1 =>
    if has s [91] st1 then (take s [91] st1).bind fun _ st2 => (sizeP s st2).bind fun z st3 => (take s [93] st3).bind fun _ st4 => (typeP s st4).bind fun t st5 => (take s [59] st5).bind fun _ st6 =>
      putP ⟨11, (hd st).2.1, a.1, t, 0, 0, z, []⟩ st6
    else (typeP s st1).bind fun t st2 => (take s [61] st2).bind fun _ st3 => (row F s n 1 st3).bind fun v st4 => (take s [59] st4).bind fun _ st5 => putP ⟨10, (hd st).2.1, a.1, t, 0, 0, 0, [v]⟩ st5
def ifP (F : FW) (s : ByteArray) : Nat → Nat → St → Res Nat
  | 0, _, _ => .out
  | n + 1, p, st => (row F s n 1 st).bind fun c st1 => (block F s n st1).bind fun b st2 =>
    if has s [101, 108, 115, 101] st2 then (elseP F s n (tl st2)).bind fun z st3 => putP ⟨14, p, ⟨#[]⟩, 0, 0, 0, 0, [c, b, z]⟩ st3
    else putP ⟨14, p, ⟨#[]⟩, 0, 0, 0, 0, [c, b]⟩ st2
def elseP (F : FW) (s : ByteArray) : Nat → St → Res Nat
  | 0, _ => .out
  | n + 1, st =>
    if has s [105, 102] st then (opened s [105, 102] (ifP F s n (hd st).2.1) st).bind fun a st1 => putP ⟨21, (hd st).2.1, ⟨#[]⟩, 0, 0, 0, 0, [a.2]⟩ st1
    else block F s n st
def nameSt (F : FW) (s : ByteArray) : Nat → St → Res Nat
  | 0, _ => .out
  | n + 1, st => (nameP s st).bind fun a st1 =>
    if has s [40] st1 then (call F s n a.2 a.1 st1).bind fun k st2 => (take s [59] st2).bind fun _ st3 => putP ⟨20, a.2, ⟨#[]⟩, 0, 0, 0, 0, [k]⟩ st3
    else if has s [91] st1 then (row F s n 1 (tl st1)).bind fun i st2 => (take s [93] st2).bind fun _ st3 => (take s [61] st3).bind fun _ st4 => (row F s n 1 st4).bind fun v st5 => (take s [59] st5).bind fun _ st6 =>
      putP ⟨13, a.2, a.1, 0, 0, 0, 0, [i, v]⟩ st6
    else (take s [61] st1).bind fun _ st2 => (row F s n 1 st2).bind fun v st3 => (take s [59] st3).bind fun _ st4 => putP ⟨12, a.2, a.1, 0, 0, 0, 0, [v]⟩ st4
end
/-- A function, plain: its name, the name's place, its parameters (name, place, type), its result's type, its body. -/
structure Fd where
  name : ByteArray
  pl : Nat
  pars : List (ByteArray × Nat × Nat)
  res : Nat
  body : Nat
def parP (s : ByteArray) (st : St) : Res (ByteArray × Nat × Nat) := (nameP s st).bind fun a st1 => (typeP s st1).bind fun t st2 => .ok (a.1, a.2, t) st2
def parsMore (s : ByteArray) : Nat → List (ByteArray × Nat × Nat) → St → Res (List (ByteArray × Nat × Nat))
  | 0, _, _ => .out
  | n + 1, ps, st =>
    if has s [44] st then (parP s (tl st)).bind fun q st1 => parsMore s n (ps ++ [q]) st1
    else (take s [41] st).bind fun _ st1 => .ok ps st1
def parsP (s : ByteArray) (n : Nat) (st : St) : Res (List (ByteArray × Nat × Nat)) :=
  if has s [41] st then (take s [41] st).bind fun _ st1 => .ok [] st1
  else (parP s st).bind fun q st1 => parsMore s n [q] st1
def fnP (F : FW) (s : ByteArray) (n : Nat) (st : St) : Res Fd :=
  (take s [102, 117, 110, 99] st).bind fun _ st1 => (nameP s st1).bind fun a st2 => (take s [40] st2).bind fun _ st3 => (parsP s n st3).bind fun ps st4 =>
    (typeP s st4).bind fun t st5 => (block F s n st5).bind fun b st6 => .ok ⟨a.1, a.2, ps, t, b⟩ st6
def fnsP (F : FW) (s : ByteArray) (m : Nat) : Nat → List Fd → St → Res (List Fd)
  | 0, _, _ => .out
  | n + 1, fs, st => if (hd st).1 = 1 then .ok fs st else (fnP F s m st).bind fun f st1 => fnsP F s m n (fs ++ [f]) st1
end Go.Proofs.YtbejgachdhfakaaGreatDoor
/- What a parser's way keeps: what is open, the nodes that have ended, the tokens' end; and that there are never more nodes than tokens gone. -/
namespace Go.Proofs.YtbejgachdhfakaaGreatDoor
open Go.RowKit

structure Went (d : Nat) (st st' : St) : Prop where
  opn : st'.opn = st.opn
  sum : st'.nodes.length + st'.toks.length + d ≤ st.nodes.length + st.toks.length
  suf : st'.toks <:+ st.toks
  pre : st.nodes <+: st'.nodes
theorem Went.refl (st : St) : Went 0 st st := ⟨rfl, Nat.le_refl _, List.suffix_refl _, List.prefix_refl _⟩
theorem Went.trans {d e : Nat} {a b c : St} (h : Went d a b) (k : Went e b c) : Went (d + e) a c :=
  ⟨k.opn.trans h.opn, by have := h.sum; have := k.sum; omega, k.suf.trans h.suf, h.pre.trans k.pre⟩
theorem Went.weak {d e : Nat} {a b : St} (h : Went d a b) (hd : e ≤ d) : Went e a b := ⟨h.opn, by have := h.sum; omega, h.suf, h.pre⟩
theorem bind_ok {α β : Type} {r : Res α} {f : α → St → Res β} {b : β} {st' : St} (h : r.bind f = .ok b st') : ∃ a st1, r = .ok a st1 ∧ f a st1 = .ok b st' := by
  cases r with
  | ok a st1 => exact ⟨a, st1, rfl, h⟩
  | err c p => cases h
  | out => cases h
theorem went_tl {st : St} (h : st.toks ≠ []) : Went 1 st (tl st) := by
  unfold tl
  match ht : st.toks, h with
  | t :: ts, _ => exact ⟨rfl, by simp [ht]; omega, by rw [ht]; exact List.suffix_cons _ _, List.prefix_refl _⟩
theorem txs_ne {s : ByteArray} {st : St} (h : txs s st ≠ []) : st.toks ≠ [] := by
  intro h0
  apply h
  have e : txB s (1, 0, 0) = ⟨#[]⟩ := by
    unfold txB
    apply ByteArray.ext
    simp [ByteArray.extract, ByteArray.copySlice]
  simp only [txs, hd, h0, List.headD_nil, e]
  decide +kernel
theorem has_ne {s : ByteArray} {x : List UInt8} {st : St} (h : has s x st = true) (hx : x ≠ []) : st.toks ≠ [] := by
  apply txs_ne (s := s)
  unfold has at h
  rw [eq_of_beq h]; exact hx
theorem kind_ne {st : St} (h : (hd st).1 ≠ 1) : st.toks ≠ [] := by
  intro h0
  apply h
  simp [hd, h0]
theorem went_take {s : ByteArray} {x : List UInt8} {st st' : St} {a : Nat} (hx : x ≠ []) (h : take s x st = .ok a st') : Went 1 st st' := by
  unfold take at h
  split at h
  · rename_i hh
    cases h
    exact went_tl (has_ne hh hx)
  · cases h
theorem went_name {s : ByteArray} {st st' : St} {a : ByteArray × Nat} (h : nameP s st = .ok a st') : Went 1 st st' := by
  unfold nameP at h
  split at h
  · rename_i hh
    cases h
    exact went_tl (kind_ne (by omega))
  · cases h
theorem typN_ne {x : List UInt8} (h : typN x ≠ 0) : x ≠ [] := by
  rintro rfl
  exact h (by decide)
theorem went_type {s : ByteArray} {st st' : St} {a : Nat} (h : typeP s st = .ok a st') : Went 1 st st' := by
  unfold typeP at h
  split at h
  · cases h
  · rename_i hh
    cases h
    exact went_tl (txs_ne (typN_ne hh))
theorem went_put {n : Nd} {d e : Nat} {st st1 st' : St} {a : Nat} (h1 : Went e st st1) (h : putP n st1 = .ok a st') (hd : d + 1 ≤ e := by omega) : Went d st st' := by
  unfold putP at h
  cases h
  exact ⟨h1.opn, by have := h1.sum; simp; omega, h1.suf, h1.pre.trans (List.prefix_append _ _)⟩
theorem went_opened {α : Type} {s : ByteArray} {x : List UInt8} {thr : St → Res α} {d : Nat} {st st' : St} {a : Nat × α} (hx : x ≠ [])
    (ht : ∀ st1 b st2, thr st1 = .ok b st2 → Went d st1 st2) (h : opened s x thr st = .ok a st') : Went (1 + d) st st' := by
  unfold opened at h
  split at h
  · cases h
  · obtain ⟨p, st1, h1, h⟩ := bind_ok h
    obtain ⟨q, st2, h2, h⟩ := bind_ok h
    cases h
    have w1 := went_take hx h1
    have w2 := ht _ _ _ h2
    exact ⟨by have := w2.opn; have := w1.opn; simp at *; omega, by have := w2.sum; have := w1.sum; simp at *; omega, w2.suf.trans w1.suf, w1.pre.trans w2.pre⟩
theorem went_lit {F : FW} {s : ByteArray} {st st' : St} {a : Nat} (hn : st.toks ≠ []) (h : litP F s st = .ok a st') : Went 0 st st' := by
  unfold litP at h
  split at h
  · cases h
  · exact went_put (went_tl hn) h
theorem went_size {s : ByteArray} {st st' : St} {a : Nat} (h : sizeP s st = .ok a st') : Went 1 st st' := by
  unfold sizeP at h
  split at h
  · cases h
  · rename_i hk
    split at h
    · cases h
      exact went_tl (kind_ne (by omega))
    · cases h
theorem opAt_ne {x : List UInt8} {r : Nat} {o : Nat × Nat} (h : opAt x r = some o) : x ≠ [] := by
  rintro rfl
  unfold opAt at h
  simp [opsL] at h
theorem went_expr (F : FW) (s : ByteArray) : ∀ n,
    (∀ r st a st', row F s n r st = .ok a st' → Went 0 st st') ∧ (∀ r l st a st', rowMore F s n r l st = .ok a st' → Went 0 st st') ∧
    (∀ st a st', unary F s n st = .ok a st' → Went 0 st st') ∧ (∀ st a st', primary F s n st = .ok a st' → Went 0 st st') ∧
    (∀ x y st a st', x ≠ [] → y ≠ [] → between F s n x y st = .ok a st' → Went 2 st st') ∧ (∀ st a st', named F s n st = .ok a st' → Went 0 st st') ∧
    (∀ p x st a st', call F s n p x st = .ok a st' → Went 1 st st') ∧ (∀ st a st', args F s n st = .ok a st' → Went 1 st st') ∧
    (∀ ks st a st', argsMore F s n ks st = .ok a st' → Went 1 st st') := by
  intro n
  induction n with
  | zero => exact ⟨fun _ _ _ _ h => (by simp only [row] at h; cases h), fun _ _ _ _ _ h => (by simp only [rowMore] at h; cases h), fun _ _ _ h => (by simp only [unary] at h; cases h), fun _ _ _ h => (by simp only [primary] at h; cases h), fun _ _ _ _ _ _ _ h => (by simp only [between] at h; cases h), fun _ _ _ h => (by simp only [named] at h; cases h), fun _ _ _ _ _ h => (by simp only [call] at h; cases h), fun _ _ _ h => (by simp only [args] at h; cases h), fun _ _ _ _ h => (by simp only [argsMore] at h; cases h)⟩
  | succ n ih =>
    obtain ⟨i1, i2, i3, i4, i5, i6, i7, i8, i9⟩ := ih
    refine ⟨?_, ?_, ?_, ?_, ?_, ?_, ?_, ?_, ?_⟩
    · intro r st a st' h
      simp only [row] at h
      split at h
      · exact i3 _ _ _ h
      · obtain ⟨l, st1, h1, h⟩ := bind_ok h
        exact (i1 _ _ _ _ h1).trans (i2 _ _ _ _ _ h)
    · intro r l st a st' h
      simp only [rowMore] at h
      split at h
      · cases h; exact Went.refl _
      · rename_i k o ho
        obtain ⟨g, st1, h1, h⟩ := bind_ok h
        obtain ⟨l2, st2, h2, h⟩ := bind_ok h
        exact (went_put (d := 0) ((went_tl (txs_ne (opAt_ne ho))).trans (i1 _ _ _ _ h1)) h2).trans (i2 _ _ _ _ _ h)
    · intro st a st' h
      simp only [unary] at h
      split at h
      · obtain ⟨b, st1, h1, h⟩ := bind_ok h
        exact went_put (went_opened (d := 0) (by simp) i3 h1) h
      · split at h
        · obtain ⟨b, st1, h1, h⟩ := bind_ok h
          exact went_put (went_opened (d := 0) (by simp) i3 h1) h
        · exact i4 _ _ _ h
    · intro st a st' h
      simp only [primary] at h
      split at h
      · rename_i hk
        exact went_lit (kind_ne (by omega)) h
      · split at h
        · exact i6 _ _ _ h
        · split at h
          · rename_i hh
            exact went_lit (has_ne hh (by simp)) h
          · split at h
            · rename_i hh
              exact went_lit (has_ne hh (by simp)) h
            · split at h
              · exact (i5 _ _ _ _ _ (by simp) (by simp) h).weak (by omega)
              · obtain ⟨t, st1, h1, h⟩ := bind_ok h
                obtain ⟨k, st2, h2, h⟩ := bind_ok h
                exact went_put ((went_type h1).trans (i5 _ _ _ _ _ (by simp) (by simp) h2)) h
    · intro x y st a st' hx hy h
      simp only [between] at h
      obtain ⟨b, st1, h1, h⟩ := bind_ok h
      cases h
      refine went_opened (d := 1) hx ?_ h1
      intro st2 c st3 h2
      obtain ⟨k, st4, h3, h2⟩ := bind_ok h2
      obtain ⟨z, st5, h4, h2⟩ := bind_ok h2
      cases h2
      exact (i1 _ _ _ _ h3).trans (went_take hy h4) |>.weak (by omega)
    · intro st a st' h
      simp only [named] at h
      obtain ⟨b, st1, h1, h⟩ := bind_ok h
      split at h
      · exact ((went_name h1).trans (i7 _ _ _ _ _ h)).weak (by omega)
      · split at h
        · obtain ⟨k, st2, h2, h⟩ := bind_ok h
          exact went_put ((went_name h1).trans (i5 _ _ _ _ _ (by simp) (by simp) h2)) h
        · exact went_put (went_name h1) h
    · intro p x st a st' h
      simp only [call] at h
      obtain ⟨b, st1, h1, h⟩ := bind_ok h
      exact went_put (went_opened (d := 1) (by simp) i8 h1) h
    · intro st a st' h
      simp only [args] at h
      split at h
      · obtain ⟨b, st1, h1, h⟩ := bind_ok h
        cases h
        exact went_take (by simp) h1
      · obtain ⟨b, st1, h1, h⟩ := bind_ok h
        exact ((i1 _ _ _ _ h1).trans (i9 _ _ _ _ h)).weak (by omega)
    · intro ks st a st' h
      simp only [argsMore] at h
      split at h
      · rename_i hh
        obtain ⟨b, st1, h1, h⟩ := bind_ok h
        exact (((went_tl (has_ne hh (by simp))).trans (i1 _ _ _ _ h1)).trans (i9 _ _ _ _ h)).weak (by omega)
      · obtain ⟨b, st1, h1, h⟩ := bind_ok h
        cases h
        exact went_take (by simp) h1
theorem went_stmt (F : FW) (s : ByteArray) : ∀ n,
    (∀ st a st', block F s n st = .ok a st' → Went 1 st st') ∧ (∀ ks st a st', stmts F s n ks st = .ok a st' → Went 1 st st') ∧
    (∀ st a st', stmt F s n st = .ok a st' → Went 0 st st') ∧ (∀ k st a st', st.toks ≠ [] → exprP F s n k st = .ok a st' → Went 0 st st') ∧
    (∀ st a st', st.toks ≠ [] → varP F s n st = .ok a st' → Went 0 st st') ∧ (∀ p st a st', ifP F s n p st = .ok a st' → Went 0 st st') ∧
    (∀ st a st', elseP F s n st = .ok a st' → Went 0 st st') ∧ (∀ st a st', nameSt F s n st = .ok a st' → Went 0 st st') := by
  intro n
  induction n with
  | zero => exact ⟨fun _ _ _ h => (by simp only [block] at h; cases h), fun _ _ _ _ h => (by simp only [stmts] at h; cases h), fun _ _ _ h => (by simp only [stmt] at h; cases h), fun _ _ _ _ _ h => (by simp only [exprP] at h; cases h), fun _ _ _ _ h => (by simp only [varP] at h; cases h), fun _ _ _ _ h => (by simp only [ifP] at h; cases h), fun _ _ _ h => (by simp only [elseP] at h; cases h), fun _ _ _ h => (by simp only [nameSt] at h; cases h)⟩
  | succ n ih =>
    obtain ⟨i1, i2, i3, i4, i5, i6, i7, i8⟩ := ih
    have ex := fun r st a st' => (went_expr F s n).1 r st a st'
    have ec := (went_expr F s n).2.2.2.2.2.2.1
    refine ⟨?_, ?_, ?_, ?_, ?_, ?_, ?_, ?_⟩
    · intro st a st' h
      simp only [block] at h
      obtain ⟨b, st1, h1, h⟩ := bind_ok h
      exact went_put (went_opened (d := 1) (by simp) (i2 []) h1) h
    · intro ks st a st' h
      simp only [stmts] at h
      split at h
      · obtain ⟨b, st1, h1, h⟩ := bind_ok h
        cases h
        exact went_take (by simp) h1
      · obtain ⟨b, st1, h1, h⟩ := bind_ok h
        exact ((i3 _ _ _ h1).trans (i2 _ _ _ _ h)).weak (by omega)
    · intro st a st' h
      simp only [stmt] at h
      split at h
      · rename_i hh
        exact i5 _ _ _ (has_ne hh (by simp)) h
      · split at h
        · rename_i hh
          exact ((went_tl (has_ne hh (by simp))).trans (i6 _ _ _ _ h)).weak (by omega)
        · split at h
          · rename_i hh
            obtain ⟨c, st1, h1, h⟩ := bind_ok h
            obtain ⟨b, st2, h2, h⟩ := bind_ok h
            exact went_put (((went_tl (has_ne hh (by simp))).trans (ex _ _ _ _ h1)).trans (i1 _ _ _ h2)) h
          · split at h
            · rename_i hh
              obtain ⟨c, st1, h1, h⟩ := bind_ok h
              exact went_put ((went_tl (has_ne hh (by simp))).trans (went_take (by simp) h1)) h
            · split at h
              · rename_i hh
                obtain ⟨c, st1, h1, h⟩ := bind_ok h
                exact went_put ((went_tl (has_ne hh (by simp))).trans (went_take (by simp) h1)) h
              · split at h
                · rename_i hh
                  exact i4 _ _ _ _ (has_ne hh (by simp)) h
                · split at h
                  · rename_i hh
                    exact i4 _ _ _ _ (has_ne hh (by simp)) h
                  · exact i8 _ _ _ h
    · intro k st a st' hn h
      simp only [exprP] at h
      obtain ⟨v, st1, h1, h⟩ := bind_ok h
      obtain ⟨z, st2, h2, h⟩ := bind_ok h
      exact went_put (((went_tl hn).trans (ex _ _ _ _ h1)).trans (went_take (by simp) h2)) h
    · intro st a st' hn h
      simp only [varP] at h
      obtain ⟨b, st1, h1, h⟩ := bind_ok h
      have w0 := (went_tl hn).trans (went_name h1)
      split at h
      · obtain ⟨_, st2, h2, h⟩ := bind_ok h
        obtain ⟨z, st3, h3, h⟩ := bind_ok h
        obtain ⟨_, st4, h4, h⟩ := bind_ok h
        obtain ⟨t, st5, h5, h⟩ := bind_ok h
        obtain ⟨_, st6, h6, h⟩ := bind_ok h
        exact went_put (((((w0.trans (went_take (by simp) h2)).trans (went_size h3)).trans (went_take (by simp) h4)).trans (went_type h5)).trans (went_take (by simp) h6)) h
      · obtain ⟨t, st2, h2, h⟩ := bind_ok h
        obtain ⟨_, st3, h3, h⟩ := bind_ok h
        obtain ⟨v, st4, h4, h⟩ := bind_ok h
        obtain ⟨_, st5, h5, h⟩ := bind_ok h
        exact went_put ((((w0.trans (went_type h2)).trans (went_take (by simp) h3)).trans (ex _ _ _ _ h4)).trans (went_take (by simp) h5)) h
    · intro p st a st' h
      simp only [ifP] at h
      obtain ⟨c, st1, h1, h⟩ := bind_ok h
      obtain ⟨b, st2, h2, h⟩ := bind_ok h
      have w0 := (ex _ _ _ _ h1).trans (i1 _ _ _ h2)
      split at h
      · rename_i hh
        obtain ⟨z, st3, h3, h⟩ := bind_ok h
        exact went_put ((w0.trans (went_tl (has_ne hh (by simp)))).trans (i7 _ _ _ h3)) h
      · exact went_put w0 h
    · intro st a st' h
      simp only [elseP] at h
      split at h
      · obtain ⟨b, st1, h1, h⟩ := bind_ok h
        exact went_put (went_opened (d := 0) (by simp) (i6 _) h1) h
      · exact (i1 _ _ _ h).weak (by omega)
    · intro st a st' h
      simp only [nameSt] at h
      obtain ⟨b, st1, h1, h⟩ := bind_ok h
      have w0 := went_name h1
      split at h
      · obtain ⟨k, st2, h2, h⟩ := bind_ok h
        obtain ⟨_, st3, h3, h⟩ := bind_ok h
        exact went_put ((w0.trans (ec _ _ _ _ _ h2)).trans (went_take (by simp) h3)) h
      · split at h
        · rename_i hh
          obtain ⟨i, st2, h2, h⟩ := bind_ok h
          obtain ⟨_, st3, h3, h⟩ := bind_ok h
          obtain ⟨_, st4, h4, h⟩ := bind_ok h
          obtain ⟨v, st5, h5, h⟩ := bind_ok h
          obtain ⟨_, st6, h6, h⟩ := bind_ok h
          exact went_put ((((((w0.trans (went_tl (has_ne hh (by simp)))).trans (ex _ _ _ _ h2)).trans (went_take (by simp) h3)).trans (went_take (by simp) h4)).trans (ex _ _ _ _ h5)).trans (went_take (by simp) h6)) h
        · obtain ⟨_, st2, h2, h⟩ := bind_ok h
          obtain ⟨v, st3, h3, h⟩ := bind_ok h
          obtain ⟨_, st4, h4, h⟩ := bind_ok h
          exact went_put (((w0.trans (went_take (by simp) h2)).trans (ex _ _ _ _ h3)).trans (went_take (by simp) h4)) h
end Go.Proofs.YtbejgachdhfakaaGreatDoor
/- Each expression and each statement is a node more. -/
namespace Go.Proofs.YtbejgachdhfakaaGreatDoor
open Go.RowKit

theorem grew_put {n : Nd} {st st1 st' : St} {a : Nat} (h1 : st.nodes.length ≤ st1.nodes.length) (h : putP n st1 = .ok a st') : st.nodes.length < st'.nodes.length := by
  unfold putP at h
  cases h
  simp; omega
theorem took {s : ByteArray} {x : List UInt8} {st st' : St} {a : Nat} (h : take s x st = .ok a st') : st'.nodes = st.nodes := by
  unfold take at h
  split at h
  · cases h; rfl
  · cases h
theorem grew_opened {α : Type} {s : ByteArray} {x : List UInt8} {thr : St → Res α} {st st' : St} {a : Nat × α} (ht : ∀ st1 b st2, thr st1 = .ok b st2 → st1.nodes.length < st2.nodes.length) (h : opened s x thr st = .ok a st') : st.nodes.length < st'.nodes.length := by
  unfold opened at h
  split at h
  · cases h
  · obtain ⟨p, st1, h1, h⟩ := bind_ok h
    obtain ⟨q, st2, h2, h⟩ := bind_ok h
    cases h
    have e := took h1
    have := ht _ _ _ h2
    rw [← e]; exact this
theorem grew_lit {F : FW} {s : ByteArray} {st st' : St} {a : Nat} (h : litP F s st = .ok a st') : st.nodes.length < st'.nodes.length := by
  unfold litP at h
  split at h
  · cases h
  · exact grew_put (st := st) (st1 := tl st) (Nat.le_refl _) h
theorem grew_expr (F : FW) (s : ByteArray) : ∀ n,
    (∀ r st a st', row F s n r st = .ok a st' → st.nodes.length < st'.nodes.length) ∧ (∀ st a st', unary F s n st = .ok a st' → st.nodes.length < st'.nodes.length) ∧ (∀ st a st', primary F s n st = .ok a st' → st.nodes.length < st'.nodes.length) ∧
    (∀ x y st a st', between F s n x y st = .ok a st' → st.nodes.length < st'.nodes.length) ∧ (∀ st a st', named F s n st = .ok a st' → st.nodes.length < st'.nodes.length) ∧ (∀ p x st a st', call F s n p x st = .ok a st' → st.nodes.length < st'.nodes.length) := by
  intro n
  induction n with
  | zero => exact ⟨fun _ _ _ _ h => (by simp only [row] at h; cases h), fun _ _ _ h => (by simp only [unary] at h; cases h), fun _ _ _ h => (by simp only [primary] at h; cases h), fun _ _ _ _ _ h => (by simp only [between] at h; cases h), fun _ _ _ h => (by simp only [named] at h; cases h), fun _ _ _ _ _ h => (by simp only [call] at h; cases h)⟩
  | succ n ih =>
    obtain ⟨i1, i3, i4, i5, i6, i7⟩ := ih
    have we := went_expr F s n
    refine ⟨?_, ?_, ?_, ?_, ?_, ?_⟩
    · intro r st a st' h
      simp only [row] at h
      split at h
      · exact i3 _ _ _ h
      · obtain ⟨l, st1, h1, h⟩ := bind_ok h
        have := i1 _ _ _ _ h1
        have := (we.2.1 _ _ _ _ _ h).pre.length_le
        omega
    · intro st a st' h
      simp only [unary] at h
      split at h
      · obtain ⟨b, st1, h1, h⟩ := bind_ok h
        exact grew_put (Nat.le_of_lt (grew_opened i3 h1)) h
      · split at h
        · obtain ⟨b, st1, h1, h⟩ := bind_ok h
          exact grew_put (Nat.le_of_lt (grew_opened i3 h1)) h
        · exact i4 _ _ _ h
    · intro st a st' h
      simp only [primary] at h
      split at h
      · exact grew_lit h
      · split at h
        · exact i6 _ _ _ h
        · split at h
          · exact grew_lit h
          · split at h
            · exact grew_lit h
            · split at h
              · exact i5 _ _ _ _ _ h
              · obtain ⟨t, st1, h1, h⟩ := bind_ok h
                obtain ⟨k, st2, h2, h⟩ := bind_ok h
                have := (went_type h1).pre.length_le
                have := i5 _ _ _ _ _ h2
                exact grew_put (by omega) h
    · intro x y st a st' h
      simp only [between] at h
      obtain ⟨b, st1, h1, h⟩ := bind_ok h
      cases h
      refine grew_opened ?_ h1
      intro st2 c st3 h2
      obtain ⟨k, st4, h3, h2⟩ := bind_ok h2
      obtain ⟨z, st5, h4, h2⟩ := bind_ok h2
      cases h2
      have := i1 _ _ _ _ h3
      rw [took h4]; exact this
    · intro st a st' h
      simp only [named] at h
      obtain ⟨b, st1, h1, h⟩ := bind_ok h
      have e1 := (went_name h1).pre.length_le
      split at h
      · have := i7 _ _ _ _ _ h
        omega
      · split at h
        · obtain ⟨k, st2, h2, h⟩ := bind_ok h
          have := i5 _ _ _ _ _ h2
          exact grew_put (by omega) h
        · exact grew_put e1 h
    · intro p x st a st' h
      simp only [call] at h
      obtain ⟨b, st1, h1, h⟩ := bind_ok h
      have := (went_opened (d := 1) (by simp) (went_expr F s n).2.2.2.2.2.2.2.1 h1).pre.length_le
      exact grew_put this h
theorem grew_stmt (F : FW) (s : ByteArray) (n : Nat) : (∀ st a st', block F s n st = .ok a st' → st.nodes.length < st'.nodes.length) ∧ (∀ st a st', stmt F s n st = .ok a st' → st.nodes.length < st'.nodes.length) ∧ (∀ st a st', elseP F s n st = .ok a st' → st.nodes.length < st'.nodes.length) := by
  match n with
  | 0 => exact ⟨fun _ _ _ h => (by simp only [block] at h; cases h), fun _ _ _ h => (by simp only [stmt] at h; cases h), fun _ _ _ h => (by simp only [elseP] at h; cases h)⟩
  | n + 1 =>
    have ws := went_stmt F s n
    have we := went_expr F s n
    have hb : ∀ st a st', block F s (n + 1) st = .ok a st' → st.nodes.length < st'.nodes.length := by
      intro st a st' h
      simp only [block] at h
      obtain ⟨b, st1, h1, h⟩ := bind_ok h
      exact grew_put (went_opened (d := 1) (by simp) (ws.2.1 []) h1).pre.length_le h
    have hb0 : ∀ st a st', block F s n st = .ok a st' → st.nodes.length < st'.nodes.length := by
      intro st a st' h
      match n, h with
      | 0, h => simp only [block] at h; cases h
      | n + 1, h =>
        simp only [block] at h
        obtain ⟨b, st1, h1, h⟩ := bind_ok h
        exact grew_put (went_opened (d := 1) (by simp) ((went_stmt F s n).2.1 []) h1).pre.length_le h
    refine ⟨hb, ?_, ?_⟩
    · intro st a st' h
      have hx : ∀ k st a st', exprP F s n k st = .ok a st' → st.nodes.length < st'.nodes.length := by
        intro k st a st' h
        match n, h with
        | 0, h => simp only [exprP] at h; cases h
        | n + 1, h =>
          simp only [exprP] at h
          obtain ⟨v, st1, h1, h⟩ := bind_ok h
          obtain ⟨z, st2, h2, h⟩ := bind_ok h
          have := ((went_expr F s n).1 _ _ _ _ h1).pre.length_le
          rw [show (tl st).nodes = st.nodes from rfl] at this
          exact grew_put (st := st) (by rw [took h2]; exact this) h
      have hi : ∀ p st a st', ifP F s n p st = .ok a st' → st.nodes.length < st'.nodes.length := by
        intro p st a st' h
        match n, h with
        | 0, h => simp only [ifP] at h; cases h
        | n + 1, h =>
          simp only [ifP] at h
          obtain ⟨c, st1, h1, h⟩ := bind_ok h
          obtain ⟨b, st2, h2, h⟩ := bind_ok h
          have e1 := ((went_expr F s n).1 _ _ _ _ h1).pre.length_le
          have e2 := ((went_stmt F s n).1 _ _ _ h2).pre.length_le
          split at h
          · obtain ⟨z, st3, h3, h⟩ := bind_ok h
            have e3 := ((went_stmt F s n).2.2.2.2.2.2.1 _ _ _ h3).pre.length_le
            rw [show (tl st2).nodes = st2.nodes from rfl] at e3
            exact grew_put (by omega) h
          · exact grew_put (by omega) h
      have hv : ∀ st a st', varP F s n st = .ok a st' → st.nodes.length < st'.nodes.length := by
        intro st a st' h
        match n, h with
        | 0, h => simp only [varP] at h; cases h
        | n + 1, h =>
          simp only [varP] at h
          obtain ⟨b, st1, h1, h⟩ := bind_ok h
          have e1 := (went_name h1).pre.length_le
          rw [show (tl st).nodes = st.nodes from rfl] at e1
          split at h
          · obtain ⟨_, st2, h2, h⟩ := bind_ok h
            obtain ⟨z, st3, h3, h⟩ := bind_ok h
            obtain ⟨_, st4, h4, h⟩ := bind_ok h
            obtain ⟨t, st5, h5, h⟩ := bind_ok h
            obtain ⟨_, st6, h6, h⟩ := bind_ok h
            have e3 := (went_size h3).pre.length_le
            have e5 := (went_type h5).pre.length_le
            rw [took h2] at e3
            rw [took h4] at e5
            exact grew_put (st := st) (by rw [took h6]; omega) h
          · obtain ⟨t, st2, h2, h⟩ := bind_ok h
            obtain ⟨_, st3, h3, h⟩ := bind_ok h
            obtain ⟨v, st4, h4, h⟩ := bind_ok h
            obtain ⟨_, st5, h5, h⟩ := bind_ok h
            have e2 := (went_type h2).pre.length_le
            have e4 := ((went_expr F s n).1 _ _ _ _ h4).pre.length_le
            rw [took h3] at e4
            exact grew_put (st := st) (by rw [took h5]; omega) h
      have hn : ∀ st a st', nameSt F s n st = .ok a st' → st.nodes.length < st'.nodes.length := by
        intro st a st' h
        match n, h with
        | 0, h => simp only [nameSt] at h; cases h
        | n + 1, h =>
          simp only [nameSt] at h
          obtain ⟨b, st1, h1, h⟩ := bind_ok h
          have e1 := (went_name h1).pre.length_le
          split at h
          · obtain ⟨k, st2, h2, h⟩ := bind_ok h
            obtain ⟨_, st3, h3, h⟩ := bind_ok h
            have e2 := ((went_expr F s n).2.2.2.2.2.2.1 _ _ _ _ _ h2).pre.length_le
            exact grew_put (st := st) (by rw [took h3]; omega) h
          · split at h
            · obtain ⟨i, st2, h2, h⟩ := bind_ok h
              obtain ⟨_, st3, h3, h⟩ := bind_ok h
              obtain ⟨_, st4, h4, h⟩ := bind_ok h
              obtain ⟨v, st5, h5, h⟩ := bind_ok h
              obtain ⟨_, st6, h6, h⟩ := bind_ok h
              have e2 := ((went_expr F s n).1 _ _ _ _ h2).pre.length_le
              have e5 := ((went_expr F s n).1 _ _ _ _ h5).pre.length_le
              rw [show (tl st1).nodes = st1.nodes from rfl] at e2
              rw [took h4, took h3] at e5
              exact grew_put (st := st) (by rw [took h6]; omega) h
            · obtain ⟨_, st2, h2, h⟩ := bind_ok h
              obtain ⟨v, st3, h3, h⟩ := bind_ok h
              obtain ⟨_, st4, h4, h⟩ := bind_ok h
              have e3 := ((went_expr F s n).1 _ _ _ _ h3).pre.length_le
              rw [took h2] at e3
              exact grew_put (st := st) (by rw [took h4]; omega) h
      simp only [stmt] at h
      split at h
      · exact hv _ _ _ h
      · split at h
        · exact hi _ (tl st) _ _ h
        · split at h
          · obtain ⟨c, st1, h1, h⟩ := bind_ok h
            obtain ⟨b, st2, h2, h⟩ := bind_ok h
            have e1 := (we.1 _ _ _ _ h1).pre.length_le
            have e2 := (ws.1 _ _ _ h2).pre.length_le
            rw [show (tl st).nodes = st.nodes from rfl] at e1
            exact grew_put (by omega) h
          · split at h
            · obtain ⟨c, st1, h1, h⟩ := bind_ok h
              exact grew_put (st := st) (by rw [took h1]; exact Nat.le_refl _) h
            · split at h
              · obtain ⟨c, st1, h1, h⟩ := bind_ok h
                exact grew_put (st := st) (by rw [took h1]; exact Nat.le_refl _) h
              · split at h
                · exact hx _ _ _ _ h
                · split at h
                  · exact hx _ _ _ _ h
                  · exact hn _ _ _ h
    · intro st a st' h
      simp only [elseP] at h
      split at h
      · obtain ⟨b, st1, h1, h⟩ := bind_ok h
        exact grew_put (went_opened (d := 0) (by simp) (ws.2.2.2.2.2.1 _) h1).pre.length_le h
      · exact hb0 _ _ _ h
end Go.Proofs.YtbejgachdhfakaaGreatDoor
