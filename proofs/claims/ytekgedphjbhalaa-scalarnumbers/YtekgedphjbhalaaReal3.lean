/- Whether the whole part of a binary64 word lies within a whole type: by comparisons with the type's bounds. -/
import Derived.Test.YtekgedphjbhalaaReal2
namespace Go.Proofs.Ytekgedphjbhalaa
open Go.RowKit

def isC (c : Nat) (K : Int) : Prop := ∃ t n j, Ieee.double.read c = .number t n j ∧ stands t n j K
theorem c_0 : isC 0 0 := ⟨false, 0, -1074, by decide, stands_zero _ _⟩
theorem c_256 : isC 4643211215818981376 256 := ⟨false, 4503599627370496, -44, by decide, stands_of _ _ _ _ 44 (by decide) (by decide)⟩
theorem c_m31 : isC 13970166044103278592 (-2147483648) := ⟨true, 4503599627370496, -21, by decide, stands_of _ _ _ _ 21 (by decide) (by decide)⟩
theorem c_31 : isC 4746794007248502784 2147483648 := ⟨false, 4503599627370496, -21, by decide, stands_of _ _ _ _ 21 (by decide) (by decide)⟩
theorem c_m63 : isC 14114281232179134464 (-9223372036854775808) := ⟨true, 4503599627370496, 11, by decide, stands_of _ _ _ _ 0 (by decide) (by decide)⟩
theorem c_63 : isC 4890909195324358656 9223372036854775808 := ⟨false, 4503599627370496, 11, by decide, stands_of _ _ _ _ 0 (by decide) (by decide)⟩

theorem cmp_lt_iff (a b : Int) : (compare a b == .lt) = decide (a < b) := by
  simp only [compare, compareOfLessAndEq]
  by_cases h : a < b
  · simp [h]
  · by_cases g : a = b <;> simp [h, g]
theorem cmp_le_iff (a b : Int) : (compare a b == .lt || compare a b == .eq) = decide (a ≤ b) := by
  simp only [compare, compareOfLessAndEq]
  by_cases h : a < b
  · simp [h]; omega
  · by_cases g : a = b
    · simp [g]
    · simp [h, g]; omega
theorem le_of_ord {x c : Nat} {K N : Int} (h : Ieee.double.order c x = some (compare K N)) : (FloatKind.f64.format.order c x == some .lt || FloatKind.f64.format.order c x == some .eq) = decide (K ≤ N) := by
  show (Ieee.double.order c x == some .lt || Ieee.double.order c x == some .eq) = decide (K ≤ N)
  rw [h, ← cmp_le_iff]
  cases compare K N <;> rfl
theorem lt_of_ord {x c : Nat} {K N : Int} (h : Ieee.double.order x c = some (compare N K)) : (FloatKind.f64.format.order x c == some .lt) = decide (N < K) := by
  show (Ieee.double.order x c == some .lt) = decide (N < K)
  rw [h, ← cmp_lt_iff]
  cases compare N K <;> rfl
theorem ge_of_ord {x c : Nat} {K N : Int} (h : Ieee.double.order x c = some (compare N K)) : (FloatKind.f64.format.order x c == some .gt || FloatKind.f64.format.order x c == some .eq) = decide (K ≤ N) := by
  show (Ieee.double.order x c == some .gt || Ieee.double.order x c == some .eq) = decide (K ≤ N)
  rw [h]
  simp only [compare, compareOfLessAndEq]
  by_cases h : N < K
  · simp [h]
  · by_cases g : N = K
    · simp [g]
    · simp [h, g]; omega

/-- The two tests 'lo <= n' and 'n < hi' on the whole part n of a word. -/
theorem tests (x lo hi : Nat) (L H : Int) (hL : isC lo L) (hH : isC hi H) :
    (∃ N, truncI x = some N ∧ (FloatKind.f64.format.order lo (truncW x) == some .lt || FloatKind.f64.format.order lo (truncW x) == some .eq) = decide (L ≤ N) ∧ (FloatKind.f64.format.order (truncW x) hi == some .lt) = decide (N < H)) ∨
    (truncI x = none ∧ ((FloatKind.f64.format.order lo (truncW x) == some .lt || FloatKind.f64.format.order lo (truncW x) == some .eq) = false ∨ (FloatKind.f64.format.order (truncW x) hi == some .lt) = false)) := by
  obtain ⟨t, n, j, rl, sl⟩ := hL
  obtain ⟨t', n', j', rh, sh⟩ := hH
  by_cases h1 : x % 9223372036854775808 < 9218868437227405312
  · obtain ⟨s, M, m, p, e, er, st, _⟩ := trunc_read x h1
    refine Or.inl ⟨sgn s M, e, le_of_ord ?_, lt_of_ord ?_⟩
    · rw [Ieee.Format.order, er, rl]; exact order_stands sl st
    · rw [Ieee.Format.order, er, rh]; exact order_stands st sh
  · by_cases h2 : x % 9223372036854775808 = 9218868437227405312
    · obtain ⟨e, er⟩ := trunc_inf x h2
      refine Or.inr ⟨e, ?_⟩
      cases hs : (x / 9223372036854775808 % 2 == 1)
      · right
        show (Ieee.double.order _ _ == some .lt) = false
        rw [Ieee.Format.order, er, rh, hs]; rfl
      · left
        show (Ieee.double.order _ _ == some .lt || Ieee.double.order _ _ == some .eq) = false
        rw [Ieee.Format.order, er, rl, hs]; rfl
    · obtain ⟨s, f, e⟩ := read_nan x (by omega)
      have et : truncI x = none := by simp [truncI, e, Ieee.Datum.toInt, Ieee.Datum.integral]
      refine Or.inr ⟨et, Or.inr ?_⟩
      show (Ieee.double.order _ _ == some .lt) = false
      have e2 : truncW x = Ieee.double.word s (Ieee.double.infRung + f % Ieee.double.binade) := by
        simp only [truncW, e, Ieee.Datum.integral]; rfl
      by_cases hf : f % Ieee.double.binade = 0
      · exfalso
        have hx := e
        unfold Ieee.Format.read at hx
        simp only [d_sign, d_binade, d_inf] at hx
        rw [if_neg (by omega), if_neg (by omega), if_neg (by omega)] at hx
        injection hx with _ hx
        rw [d_binade] at hf
        omega
      · have hlt : f % Ieee.double.binade < Ieee.double.binade := Nat.mod_lt _ (by rw [d_binade]; omega)
        have hn : 9218868437227405312 < truncW x % 9223372036854775808 := by
          rw [e2]; unfold Ieee.Format.word
          rw [d_inf, d_sign]
          rw [d_binade] at *
          cases s <;> simp <;> omega
        obtain ⟨s2, f2, e3⟩ := read_nan _ hn
        rw [Ieee.Format.order, e3]; rfl

def withinB (t : Int) (x : Nat) : Bool :=
  match truncI x with
  | some N => if t = 2 then decide (0 ≤ N ∧ N < 256) else if t = 3 then decide (-2147483648 ≤ N ∧ N < 2147483648) else if t = 4 then decide (-9223372036854775808 ≤ N ∧ N < 9223372036854775808) else false
  | none => false
theorem within_pair (x lo hi : Nat) (L H : Int) (hL : isC lo L) (hH : isC hi H) :
    ((FloatKind.f64.format.order lo (truncW x) == some .lt || FloatKind.f64.format.order lo (truncW x) == some .eq) && (FloatKind.f64.format.order (truncW x) hi == some .lt)) = (match truncI x with | some N => decide (L ≤ N ∧ N < H) | none => false) := by
  rcases tests x lo hi L H hL hH with ⟨N, e, a, b⟩ | ⟨e, a | a⟩
  · rw [e, a, b]; simp
  · rw [e, a]; rfl
  · rw [e, a]; simp
def wpartI (t : Int) (x : Nat) : Int := if withinB t x = true then IntKind.u64.wrap ((truncI x).getD 0) else 0
theorem within_some {t : Int} {x : Nat} (h : withinB t x = true) : ∃ N, truncI x = some N ∧ -9223372036854775808 ≤ N ∧ N ≤ 9223372036854775807 ∧ wh t ∧ inT t N := by
  unfold withinB at h
  split at h
  · rename_i N e
    refine ⟨N, e, ?_⟩
    by_cases h2 : t = 2
    · subst h2; simp at h; rw [inT2]; unfold wh; omega
    · by_cases h3 : t = 3
      · subst h3; simp at h; rw [inT3]; unfold wh; omega
      · by_cases h4 : t = 4
        · subst h4; simp at h; rw [inT4]; unfold wh; omega
        · simp [h2, h3, h4] at h
  · cases h
end Go.Proofs.Ytekgedphjbhalaa
