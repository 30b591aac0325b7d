/- How many tokens there are; where they lie. -/
import Derived.Test.YtcinlpiidgbnaaaScanPlain
namespace Go.Proofs.Ytcinlpiidgbnaaa
open Go.RowKit

theorem scanL_len {pt : Bool} : ∀ (f k : Nat) (l : List UInt8) (ts : List Tok), scanL pt f k l = .ok ts → ts.length ≤ l.length + 1
  | 0, _, _, _, h => by cases h
  | f + 1, k, [], ts, h => by simp only [scanL, Except.ok.injEq] at h; subst h; simp
  | f + 1, k, c :: t, ts, h => by
    simp only [scanL] at h
    match hr : cutL pt (c :: t) with
    | .error p => rw [hr] at h; cases h
    | .ok (kd, e) =>
      rw [hr] at h
      simp only at h
      have hb := cutL_ok hr
      match hq : scanL pt f (k + e + skipL false ((c :: t).drop e)) ((c :: t).drop (e + skipL false ((c :: t).drop e))) with
      | .error p => rw [hq] at h; cases h
      | .ok us =>
        rw [hq] at h
        simp only [glue, Except.ok.injEq] at h
        subst h
        have := scanL_len f _ _ us hq
        rw [drop_len] at this
        simp only [List.length_append, List.length_cons, List.length_nil] at this ⊢
        omega
theorem toks_len (l : List UInt8) : (toksOf l).length ≤ 65537 := by
  unfold toksOf
  split
  · simp
  · rename_i h
    match hs : scanS true l with
    | .error p => simp
    | .ok ts =>
      simp only
      have := scanL_len _ _ _ ts hs
      rw [drop_len] at this
      omega
end Go.Proofs.Ytcinlpiidgbnaaa
