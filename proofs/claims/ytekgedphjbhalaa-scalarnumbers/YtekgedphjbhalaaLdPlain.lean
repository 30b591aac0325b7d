/- What math.Ldexp asks of a normal binary64 word: plain facts. -/
import Derived.Test.YtekgedphjbhalaaReal3
import Derived.Test.YtekgedphjbhalaaBitPlain
namespace Go.Proofs.Ytekgedphjbhalaa
open Go.RowKit

/-- The word of the number m * 2^i, m a normal significand. -/
def wordOf (m : Nat) (i : Int) : Nat := (i + 1074).toNat * 4503599627370496 + m
theorem read_wordOf (m : Nat) (i : Int) (h1 : 4503599627370496 ≤ m) (h2 : m < 9007199254740992) (hi : -1074 ≤ i) (hj : i ≤ 971) : Ieee.double.read (wordOf m i) = .number false m i :=
  read_word false m i h1 h2 hi hj
theorem wordOf_lt (m : Nat) (i : Int) (h2 : m < 9007199254740992) (hj : i ≤ 971) : wordOf m i < 9218868437227405312 := by
  unfold wordOf; omega

theorem l_zero (m : Nat) (i : Int) (h1 : 4503599627370496 ≤ m) (h2 : m < 9007199254740992) (hi : -1074 ≤ i) (hj : i ≤ 971) : (FloatKind.f64.format.order (wordOf m i) 0 == some .eq) = false := by
  have e := read_wordOf m i h1 h2 hi hj
  have r : Ieee.double.read 0 = .number false 0 (-1074) := by decide
  show (Ieee.double.order _ _ == some .eq) = false
  rw [Ieee.Format.order, e, r]
  simp only [Ieee.Datum.order, signed_eq]
  have hb : min i (-1074) = -1074 := by omega
  rw [hb]
  have z : sgn false 0 = 0 := rfl
  have s : sgn false m = (m : Int) := rfl
  rw [z, s, Int.zero_mul]
  have hp := pow2_pos (i - -1074).toNat
  have hm : (0 : Int) < (m : Int) * 2 ^ (i - -1074).toNat := Int.mul_pos (by omega) hp
  simp only [compare, compareOfLessAndEq]
  rw [if_neg (by omega), if_neg (by omega)]; rfl
theorem l_self (m : Nat) (i : Int) (h2 : m < 9007199254740992) (hj : i ≤ 971) : (FloatKind.f64.format.order (wordOf m i) (wordOf m i) != some .eq) = false := by
  have := wordOf_lt m i h2 hj
  show (Ieee.double.order _ _ != some .eq) = false
  rw [order_self _ (by omega)]; rfl
theorem l_max (m : Nat) (i : Int) (h1 : 4503599627370496 ≤ m) (h2 : m < 9007199254740992) (hi : -1074 ≤ i) (hj : i ≤ 971) : (FloatKind.f64.format.order (wordOf m i) 9218868437227405311 == some .gt) = false := by
  have e := read_wordOf m i h1 h2 hi hj
  have r : Ieee.double.read 9218868437227405311 = .number false 9007199254740991 971 := by decide
  show (Ieee.double.order _ _ == some .gt) = false
  rw [Ieee.Format.order, e, r]
  simp only [Ieee.Datum.order, signed_eq]
  have hb : min i 971 = i := by omega
  rw [hb, show (i - i).toNat = 0 by omega, Int.pow_zero, Int.mul_one]
  have s : sgn false m = (m : Int) := rfl
  have s2 : sgn false 9007199254740991 = 9007199254740991 := rfl
  rw [s, s2]
  have hp := pow2_pos (971 - i).toNat
  have hm : (9007199254740991 : Int) * 1 ≤ 9007199254740991 * 2 ^ (971 - i).toNat := Int.mul_le_mul_of_nonneg_left (by omega) (by omega)
  generalize (9007199254740991 : Int) * 2 ^ (971 - i).toNat = q at hm
  simp only [compare, compareOfLessAndEq]
  by_cases g : (m : Int) < q
  · rw [if_pos g]; rfl
  · rw [if_neg g, if_pos (by omega)]; rfl
theorem l_small (m : Nat) (i : Int) (h1 : 4503599627370496 ≤ m) (h2 : m < 9007199254740992) (hi : -1074 ≤ i) (hj : i ≤ 971) : (FloatKind.f64.format.order (wordOf m i) 4503599627370496 == some .lt) = false := by
  have e := read_wordOf m i h1 h2 hi hj
  have r : Ieee.double.read 4503599627370496 = .number false 4503599627370496 (-1074) := by decide
  show (Ieee.double.order _ _ == some .lt) = false
  rw [Ieee.Format.order, e, r]
  simp only [Ieee.Datum.order, signed_eq]
  have hb : min i (-1074) = -1074 := by omega
  rw [hb, show ((-1074 : Int) - -1074).toNat = 0 by omega, Int.pow_zero, Int.mul_one]
  have s : sgn false m = (m : Int) := rfl
  have s2 : sgn false 4503599627370496 = 4503599627370496 := rfl
  rw [s, s2]
  have hp := pow2_pos (i - -1074).toNat
  have hm : (m : Int) * 1 ≤ (m : Int) * 2 ^ (i - -1074).toNat := Int.mul_le_mul_of_nonneg_left (by omega) (by omega)
  generalize (m : Int) * 2 ^ (i - -1074).toNat = q at hm
  simp only [compare, compareOfLessAndEq]
  rw [if_neg (by omega)]
  by_cases g : q = 4503599627370496
  · rw [if_pos g]; rfl
  · rw [if_neg g]; rfl
theorem l_abs (x : Nat) (h : x < 9223372036854775808) : bits .andNot .u64 (x : Int) 9223372036854775808 = (x : Int) := by
  rw [u64_andNot (x : Int) _ (by omega) (by omega) (by omega) (by omega)]
  have e : (18446744073709551615 - (9223372036854775808 : Int).toNat) = 2 ^ 63 - 1 := by decide
  rw [e, Int.toNat_natCast, Nat.and_two_pow_sub_one_eq_mod, Nat.mod_eq_of_lt (by omega)]
theorem l_frac (x : Nat) (h : x < 9223372036854775808) : bits .andNot .u64 (x : Int) 9218868437227405312 = ((x % 4503599627370496 : Nat) : Int) := by
  rw [u64_andNot (x : Int) _ (by omega) (by omega) (by omega) (by omega)]
  have e : (18446744073709551615 - (9218868437227405312 : Int).toNat) = (2 ^ 63) ||| (2 ^ 52 - 1) := by decide
  rw [e, Int.toNat_natCast, Nat.and_or_distrib_left, nat_bit, Nat.and_two_pow_sub_one_eq_mod]
  have e2 : x / 2 ^ 63 % 2 * 2 ^ 63 = 0 := by
    have : x / 2 ^ 63 = 0 := by omega
    rw [this]
  rw [e2, Nat.zero_or]
theorem l_or (a b : Nat) (ha : a < 4503599627370496) (hb : b * 4503599627370496 < 18446744073709551616) : bits .or .u64 (a : Int) ((b : Int) * 4503599627370496) = ((b * 4503599627370496 + a : Nat) : Int) := by
  have eb : ((b : Int) * 4503599627370496) = ((b * 4503599627370496 : Nat) : Int) := by omega
  rw [eb, u64_or _ _ (by omega) (by omega) (by omega) (by omega), Int.toNat_natCast, Int.toNat_natCast, Nat.or_comm, nat_join 52 (b * 4503599627370496) a (by omega) (by omega)]
theorem l_mul (m : Nat) (i : Int) (h1 : 4503599627370496 ≤ m) (h2 : m < 9007199254740992) (hi : -1074 ≤ i) (hj : i ≤ 971) : floatBits .mul .f64 4607182418800017408 (wordOf m i) = some (wordOf m i) := by
  have e := read_wordOf m i h1 h2 hi hj
  have r : Ieee.double.read 4607182418800017408 = .number false 4503599627370496 (-52) := by decide
  show Ieee.double.mul _ _ = _
  rw [Ieee.Format.mul, e, r]
  simp only [Ieee.Datum.product, Option.map_some]
  congr 1
  have hn := nearest_norm false m 52 i h1 h2 hi hj
  have e1 : (-52 : Int) + i = i - ((52 : Nat) : Int) := by omega
  have e2 : 4503599627370496 * m = m * 2 ^ 52 := by omega
  show Ieee.double.nearest (false ^^ false) (4503599627370496 * m) (-52 + i) = _
  rw [e1, e2]
  exact hn
/-- A whole number of 53 bits, or 2^53, as a word. -/
theorem foi_norm (n : Nat) (h1 : 4503599627370496 ≤ n) (h2 : n < 9007199254740992) : floatOfInt .f64 (n : Int) = wordOf n 0 := by
  have hn := nearest_norm false n 0 0 h1 h2 (by omega) (by omega)
  have e : floatOfInt .f64 (n : Int) = Ieee.double.nearest (decide ((n : Int) < 0)) (n : Int).natAbs 0 := rfl
  have d : decide ((n : Int) < 0) = false := by simp
  rw [e, d, Int.natAbs_natCast]
  rw [Nat.pow_zero, Nat.mul_one] at hn
  exact hn
theorem foi_top : floatOfInt .f64 9007199254740992 = wordOf 4503599627370496 1 := by decide
end Go.Proofs.Ytekgedphjbhalaa
