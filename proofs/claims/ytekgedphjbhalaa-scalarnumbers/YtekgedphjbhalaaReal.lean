/- Binary64 words that stand for whole numbers: what is read of a whole number that is written, how such words compare, what is cut off. -/
import Derived.Test.YtekgedphjbhalaaFloat
namespace Go.Proofs.Ytekgedphjbhalaa
open Go.RowKit

theorem d_least : Ieee.double.leastPlace = -1074 := by decide
theorem d_frac : Ieee.double.fractionBits = 52 := rfl

/-- 'signed' of a shift, as a product. -/
def sgn (s : Bool) (n : Nat) : Int := if s then -(n : Int) else (n : Int)
theorem signed_eq (s : Bool) (m k : Nat) : Ieee.signed s m k = sgn s m * 2 ^ k := by
  unfold Ieee.signed sgn
  have e : ((m <<< k : Nat) : Int) = (m : Int) * 2 ^ k := by
    rw [Nat.shiftLeft_eq]; push_cast; rfl
  cases s
  · simp [e]
  · simp only [e, if_true]; exact (Int.neg_mul _ _).symm

/-- The datum 'number s m p' stands for the whole number N. -/
def stands (s : Bool) (m : Nat) (p N : Int) : Prop := ∀ q : Nat, 0 ≤ p + q → sgn s m * 2 ^ (p + q).toNat = N * 2 ^ q

theorem pow2_pos (n : Nat) : (0 : Int) < 2 ^ n := Int.pow_pos (by omega)
theorem cmp_scale (a b c : Int) (hc : 0 < c) : compare (a * c) (b * c) = compare a b := by
  simp only [compare, compareOfLessAndEq]
  have h1 : a * c < b * c ↔ a < b := ⟨fun h => Int.lt_of_mul_lt_mul_right h (by omega), fun h => Int.mul_lt_mul_of_pos_right h hc⟩
  have h2 : a * c = b * c ↔ a = b := ⟨fun h => Int.eq_of_mul_eq_mul_right (by omega) h, fun h => by rw [h]⟩
  simp only [h1, h2]

theorem order_stands {s t : Bool} {m n : Nat} {p j N K : Int} (h : stands s m p N) (g : stands t n j K) : (Ieee.Datum.number s m p).order (.number t n j) = some (compare N K) := by
  simp only [Ieee.Datum.order, signed_eq]
  congr 1
  by_cases hb : min p j ≤ 0
  · have h1 := h (-(min p j)).toNat (by omega)
    have g1 := g (-(min p j)).toNat (by omega)
    have e1 : (p + ((-(min p j)).toNat : Int)).toNat = (p - min p j).toNat := by omega
    have e2 : (j + ((-(min p j)).toNat : Int)).toNat = (j - min p j).toNat := by omega
    rw [e1] at h1
    rw [e2] at g1
    rw [h1, g1]
    exact cmp_scale _ _ _ (pow2_pos _)
  · have h1 := h 0 (by omega)
    have g1 := g 0 (by omega)
    have e1 : (p + ((0 : Nat) : Int)).toNat = (p - min p j).toNat + (min p j).toNat := by omega
    have e2 : (j + ((0 : Nat) : Int)).toNat = (j - min p j).toNat + (min p j).toNat := by omega
    rw [e1, Int.pow_add, ← Int.mul_assoc] at h1
    rw [e2, Int.pow_add, ← Int.mul_assoc] at g1
    rw [← cmp_scale _ _ (2 ^ (min p j).toNat) (pow2_pos _), h1, g1]
    simp

theorem stands_of (s : Bool) (m : Nat) (p : Int) (N : Int) (q0 : Nat) (h0 : 0 ≤ p + q0) (h : sgn s m * 2 ^ (p + q0).toNat = N * 2 ^ q0) : stands s m p N := by
  intro q hq
  by_cases hle : q0 ≤ q
  · have e1 : (p + (q : Int)).toNat = (p + q0).toNat + (q - q0) := by omega
    have e2 : q = q0 + (q - q0) := by omega
    rw [e1, Int.pow_add, ← Int.mul_assoc, h]
    conv => rhs; rw [e2, Int.pow_add, ← Int.mul_assoc]
  · have e1 : (p + (q0 : Int)).toNat = (p + q).toNat + (q0 - q) := by omega
    have e2 : q0 = q + (q0 - q) := by omega
    rw [e1, Int.pow_add, ← Int.mul_assoc] at h
    conv at h => rhs; rw [e2, Int.pow_add, ← Int.mul_assoc]
    exact Int.eq_of_mul_eq_mul_right (by have := pow2_pos (q0 - q); omega) h

/-- What is cut towards zero. -/
theorem cut_zero (neg : Bool) (n d : Nat) : Ieee.Toward.zero.cut neg n d = n / 2 ^ d := by
  simp only [Ieee.Toward.cut, Bool.toNat_false, Nat.add_zero, Nat.one_shiftLeft]
  by_cases h : d ≤ n.log2 + 2
  · rw [Nat.min_eq_left h]
  · rw [Nat.min_eq_right (by omega)]
    have h1 : n < 2 ^ (n.log2 + 1) := Nat.lt_log2_self
    have h2 : 2 ^ (n.log2 + 1) ≤ 2 ^ (n.log2 + 2) := Nat.pow_le_pow_right (by omega) (by omega)
    have h3 : 2 ^ (n.log2 + 2) ≤ 2 ^ d := Nat.pow_le_pow_right (by omega) (by omega)
    rw [Nat.div_eq_of_lt (by omega), Nat.div_eq_of_lt (by omega)]
theorem cut_even_dvd (neg : Bool) (n d : Nat) (h : n % 2 ^ d = 0) (hd : d ≤ n.log2 + 2) : Ieee.Toward.even.cut neg n d = n / 2 ^ d := by
  simp only [Ieee.Toward.cut, Nat.one_shiftLeft, Nat.min_eq_left hd, h]
  have := Nat.two_pow_pos d
  have e : (decide (2 ^ d < 2 * 0) || (2 ^ d == 2 * 0 && n / 2 ^ d % 2 == 1)) = false := by simp
  simp

theorem log2_norm (m k : Nat) (h1 : 4503599627370496 ≤ m) (h2 : m < 9007199254740992) : (m * 2 ^ k).log2 = 52 + k := by
  have hk := Nat.two_pow_pos k
  have hm : m * 2 ^ k ≠ 0 := Nat.mul_ne_zero (by omega) (by omega)
  have p52 : (2 : Nat) ^ 52 = 4503599627370496 := by decide
  have p53 : (2 : Nat) ^ 53 = 9007199254740992 := by decide
  have a1 : 4503599627370496 * 2 ^ k ≤ m * 2 ^ k := Nat.mul_le_mul_right _ h1
  have a2 : m * 2 ^ k < 9007199254740992 * 2 ^ k := Nat.mul_lt_mul_of_pos_right h2 hk
  refine (Nat.log2_eq_iff hm).2 ⟨?_, ?_⟩
  · rw [Nat.pow_add, p52]; exact a1
  · have e : 52 + k + 1 = 53 + k := by omega
    rw [e, Nat.pow_add, p53]; exact a2

/-- A normal significand, shifted up by k digits, at a place that much lower: the word of that significand. -/
theorem nearest_def (s : Bool) (mag : Nat) (place L : Int) (h : mag ≠ 0) (hL : max (place + (mag.log2 : Int) - ((52 : Nat) : Int)) (-1074) = L) :
    Ieee.double.nearest s mag place = Ieee.double.word s (min ((L - -1074).toNat * 4503599627370496 + Ieee.Toward.even.cut s (mag <<< (place - L).toNat) (L - place).toNat) 9218868437227405312) := by
  subst hL
  rw [← d_least, ← d_binade, ← d_inf]
  unfold Ieee.Format.nearest
  rw [if_neg h]
  rfl
theorem nearest_norm (s : Bool) (m k : Nat) (i : Int) (h1 : 4503599627370496 ≤ m) (h2 : m < 9007199254740992) (hi : -1074 ≤ i) (hj : i ≤ 971) :
    Ieee.double.nearest s (m * 2 ^ k) (i - k) = Ieee.double.word s ((i + 1074).toNat * 4503599627370496 + m) := by
  have hk := Nat.two_pow_pos k
  have hm : m * 2 ^ k ≠ 0 := Nat.mul_ne_zero (by omega) (by omega)
  have hl : (m * 2 ^ k).log2 = 52 + k := log2_norm m k h1 h2
  have hmod : m * 2 ^ k % 2 ^ k = 0 := Nat.mul_mod_left _ _
  have hdiv : m * 2 ^ k / 2 ^ k = m := Nat.mul_div_cancel _ hk
  rw [nearest_def s (m * 2 ^ k) (i - k) i hm (by rw [hl]; omega)]
  generalize m * 2 ^ k = M at *
  have e2 : (i - (k : Int) - i).toNat = 0 := by omega
  have e3 : (i - (i - (k : Int))).toNat = k := by omega
  rw [e2, e3, Nat.shiftLeft_zero, cut_even_dvd s M k hmod (by omega), hdiv]
  have e4 : (i - -1074).toNat = (i + 1074).toNat := by omega
  rw [e4, Nat.min_eq_left (by omega)]

theorem read_word (s : Bool) (m : Nat) (i : Int) (h1 : 4503599627370496 ≤ m) (h2 : m < 9007199254740992) (hi : -1074 ≤ i) (hj : i ≤ 971) :
    Ieee.double.read (Ieee.double.word s ((i + 1074).toNat * 4503599627370496 + m)) = .number s m i := by
  generalize hr : (i + 1074).toNat * 4503599627370496 + m = r
  have hrl : r < 9218868437227405312 := by omega
  have hrg : 4503599627370496 ≤ r := by omega
  have em : Ieee.double.word s r % 9223372036854775808 = r := by
    unfold Ieee.Format.word; rw [d_sign]; cases s <;> simp <;> omega
  have ed : (Ieee.double.word s r / 9223372036854775808 % 2 == 1) = s := by
    unfold Ieee.Format.word; rw [d_sign]
    cases s
    · have : r / 9223372036854775808 = 0 := by omega
      simp [this]
    · have : (9223372036854775808 + r) / 9223372036854775808 = 1 := by omega
      simp [this]
  rw [read_norm _ (by rw [em]; exact hrg) (by rw [em]; exact hrl), em, ed, d_least]
  have e1 : 4503599627370496 + r % 4503599627370496 = m := by omega
  have e2 : (-1074 : Int) + ((r / 4503599627370496 - 1 : Nat) : Int) = i := by omega
  rw [e1, e2]
end Go.Proofs.Ytekgedphjbhalaa
