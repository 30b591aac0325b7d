/- A scan, round by round; what a list of tokens is in memory; both ways to ask for a point come to one. -/
import Derived.Test.YtcinlpiidgbnaaaPlain
namespace Go.Proofs.Ytcinlpiidgbnaaa
open Go.RowKit

/-- The scan of l has cut off ts and stands at k. -/
def At (pt : Bool) (l : List UInt8) (ts : List Tok) (k : Nat) : Prop := ∃ f, l.length - k < f ∧ scanS pt l = glue ts (scanL pt f k (l.drop k))
theorem at_start (pt : Bool) (l : List UInt8) : At pt l [] (skipL false l) := ⟨l.length + 1, by omega, by rw [glue_nil]; rfl⟩
theorem drop_cons {l : List UInt8} {k : Nat} (h : k < l.length) : ∃ c t, l.drop k = c :: t := ⟨_, _, List.drop_eq_getElem_cons h⟩
theorem at_step {pt : Bool} {l : List UInt8} {ts : List Tok} {k kd e : Nat} (h : At pt l ts k) (hk : k < l.length) (hc : cutL pt (l.drop k) = .ok (kd, e)) :
    At pt l (ts ++ [(kd, k, k + e)]) (k + e + skipL false (l.drop (k + e))) ∧ 0 < e ∧ k + e ≤ l.length ∧ k + e + skipL false (l.drop (k + e)) ≤ l.length := by
  obtain ⟨f, hf, he⟩ := h
  have hb := cutL_ok hc
  rw [drop_len] at hb
  have hs := skipL_le (l.drop (k + e)) false
  rw [drop_len] at hs
  refine ⟨?_, hb.1, by omega, by omega⟩
  match f, hf, he with
  | 0, hf, _ => omega
  | f + 1, hf, he =>
    refine ⟨f, by omega, ?_⟩
    rw [he, ← glue_glue]
    congr 1
    obtain ⟨c, t, hd⟩ := drop_cons hk
    rw [hd] at hc ⊢
    simp only [scanL, hc]
    rw [← hd, List.drop_drop, List.drop_drop, ← Nat.add_assoc]
theorem at_err {pt : Bool} {l : List UInt8} {ts : List Tok} {k p : Nat} (h : At pt l ts k) (hk : k < l.length) (hc : cutL pt (l.drop k) = .error p) : scanS pt l = .error (k + p) := by
  obtain ⟨f, hf, he⟩ := h
  match f, hf, he with
  | 0, hf, _ => omega
  | f + 1, hf, he =>
    obtain ⟨c, t, hd⟩ := drop_cons hk
    rw [hd] at hc he
    rw [he]
    simp only [scanL, hc, glue]
theorem at_end {pt : Bool} {l : List UInt8} {ts : List Tok} {k : Nat} (h : At pt l ts k) (hk : l.length ≤ k) : scanS pt l = .ok (ts ++ [(1, k, k)]) := by
  obtain ⟨f, hf, he⟩ := h
  match f, hf, he with
  | 0, hf, _ => omega
  | f + 1, hf, he =>
    rw [List.drop_eq_nil_of_le hk] at he
    rw [he]; rfl

def tokCells (ts : List Tok) : List Value := ts.flatMap fun t => [.int .u8 (t.1 : Int), .int .i64 (t.2.1 : Int), .int .i64 (t.2.2 : Int)]
theorem tokCells_snoc (ts : List Tok) (a b c : Nat) : tokCells (ts ++ [(a, b, c)]) = tokCells ts ++ [.int .u8 (a : Int), .int .i64 (b : Int), .int .i64 (c : Int)] := by simp [tokCells]
theorem tokCells_length (ts : List Tok) : (tokCells ts).length = ts.length * 3 := by
  induction ts with
  | nil => rfl
  | cons t u ih => simp only [tokCells, List.flatMap_cons, List.length_append, List.length_cons, List.length_nil] at ih ⊢; omega

/-- What is told of a source: its tokens, and the fault. -/
def toksOf (l : List UInt8) : List Tok := if 65536 < l.length then [] else match scanS true l with | .ok ts => ts | .error _ => []
def errOf (l : List UInt8) : Int := if 65536 < l.length then 3 else match scanS true l with | .ok _ => 0 | .error _ => 120
def atOf (l : List UInt8) : Int := if 65536 < l.length then 0 else match scanS true l with | .ok _ => 0 | .error p => (p : Int)
theorem of_long {l : List UInt8} (h : 65536 < l.length) : toksOf l = [] ∧ errOf l = 3 ∧ atOf l = 0 := by simp [toksOf, errOf, atOf, h]
theorem of_err {l : List UInt8} {p : Nat} (h : ¬ 65536 < l.length) (he : scanS true l = .error p) : toksOf l = [] ∧ errOf l = 120 ∧ atOf l = (p : Int) := by simp [toksOf, errOf, atOf, h, he]
theorem of_ok {l : List UInt8} {ts : List Tok} (h : ¬ 65536 < l.length) (he : scanS true l = .ok ts) : toksOf l = ts ∧ errOf l = 0 ∧ atOf l = 0 := by simp [toksOf, errOf, atOf, h, he]

/-- A point behind a float is refused at its place, asked for at once or at the next place. -/
theorem fin_pt {l : List UInt8} {e : Nat} (hn : ∀ c, l[e]? = some c → digitB c = false) : (finL true l e = finL false l e) ∨ (hasL l e 46 = true ∧ finL true l e = .error e ∧ finL false l e = .ok (5, e)) := by
  unfold finL endB
  match h : l.drop e with
  | [] => left; simp [rowL, hasL, List.getElem?_eq_none (by simpa using h : l.length ≤ e)]
  | c :: t =>
    have hc : l[e]? = some c := by
      have : (l.drop e)[0]? = some c := by rw [h]; rfl
      rwa [List.getElem?_drop] at this
    have hd := hn c hc
    have e1 : ldB c = letterB c := by simp [ldB, hd]
    cases hl : letterB c
    · have r1 : rowL ldB (c :: t) = 0 := rowL_no t (by rw [e1, hl])
      have r2 : rowL letterB (c :: t) = 0 := rowL_no t hl
      by_cases h46 : c = 46
      · right
        subst h46
        simp [r1, r2, hasL, hc]
      · left
        simp [r1, r2, hasL, hc, h46]
    · left
      have r1 : 0 < rowL ldB (c :: t) := by rw [rowL_yes t (by rw [e1, hl])]; omega
      have r2 : 0 < rowL letterB (c :: t) := by rw [rowL_yes t hl]; omega
      simp [r1, r2]
theorem row_behind (p : UInt8 → Bool) (l : List UInt8) (k : Nat) : ∀ c, l[k + rowL p (l.drop k)]? = some c → p c = false := by
  intro c h
  refine row_head p (l.drop k) c ?_
  rw [List.drop_drop, List.head?_drop]; exact h
theorem lit_pt (l : List UInt8) : (litL true l = litL false l) ∨ ∃ e, hasL l e 46 = true ∧ litL true l = .error e ∧ litL false l = .ok (5, e) := by
  unfold litL
  split
  · unfold fltL
    split
    · left; rfl
    · unfold frcL
      split
      · unfold powL
        split
        · left; rfl
        · rcases fin_pt (row_behind digitB l _) with h | h
          · left; exact h
          · right; exact ⟨_, h⟩
      · rcases fin_pt (row_behind digitB l _) with h | h
        · left; exact h
        · right; exact ⟨_, h⟩
  · left; rfl
theorem cut_pt (l : List UInt8) : (cutL true l = cutL false l) ∨ ∃ e, hasL l e 46 = true ∧ cutL true l = .error e ∧ cutL false l = .ok (5, e) := by
  match l with
  | [] => left; rfl
  | c :: t =>
    simp only [cutL]
    split
    · left; rfl
    · split
      · exact lit_pt (c :: t)
      · left; rfl
theorem scanL_pt : ∀ (f k : Nat) (l : List UInt8), l.length < f → scanL true f k l = scanL false f k l
  | 0, _, l, h => by omega
  | f + 1, k, [], _ => rfl
  | f + 1, k, c :: t, h => by
    simp only [scanL]
    rcases cut_pt (c :: t) with hc | ⟨e, h46, ht, hf⟩
    · rw [hc]
      match hr : cutL false (c :: t) with
      | .error p => rfl
      | .ok (kd, e) =>
        simp only
        congr 1
        have hb := cutL_ok hr
        refine scanL_pt f _ _ ?_
        rw [drop_len]; omega
    · rw [ht, hf]
      simp only
      have e46 : (c :: t)[e]? = some 46 := by simpa [hasL] using h46
      obtain ⟨hlt, hv⟩ := List.getElem?_eq_some_iff.1 e46
      have hd : (c :: t).drop e = 46 :: (c :: t).drop (e + 1) := by rw [List.drop_eq_getElem_cons hlt, hv]
      rw [hd, skip_point, Nat.add_zero, Nat.add_zero, hd]
      match f, h with
      | 0, h => simp at h
      | f + 1, _ => simp [scanL, point_strange, glue]
theorem scanS_pt (l : List UInt8) : scanS true l = scanS false l := by
  unfold scanS
  refine scanL_pt _ _ _ ?_
  rw [drop_len]; omega
end Go.Proofs.Ytcinlpiidgbnaaa
