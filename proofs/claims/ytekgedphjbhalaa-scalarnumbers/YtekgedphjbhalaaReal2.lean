/- The whole part of a binary64 word, and how it compares with the bounds of the whole types. -/
import Derived.Test.YtekgedphjbhalaaReal
import Derived.Test.YtekgedphjbhalaaRingPlain
namespace Go.Proofs.Ytekgedphjbhalaa
open Go.RowKit

theorem sgn_mul (s : Bool) (m k : Nat) : sgn s (m * k) = sgn s m * k := by
  unfold sgn; cases s <;> simp [Int.neg_mul]
theorem stands_zero (s : Bool) (p : Int) : stands s 0 p 0 := by
  intro q _; simp [sgn]

/-- A whole number below 2^53, written and read. -/
theorem small_read (s : Bool) (M : Nat) (h0 : M ≠ 0) (h : M < 9007199254740992) :
    ∃ m p, Ieee.double.read (Ieee.double.nearest s M 0) = .number s m p ∧ stands s m p (sgn s M) := by
  have hl : M.log2 ≤ 52 := by
    have p53 : (2 : Nat) ^ 53 = 9007199254740992 := by decide
    have := (Nat.log2_lt h0).2 (by rw [p53]; exact h)
    omega
  have b1 := Nat.log2_self_le h0
  have b2 : M < 2 ^ (M.log2 + 1) := Nat.lt_log2_self
  generalize hL : M.log2 = L at *
  obtain ⟨j, hj⟩ : ∃ j, j = 52 - L := ⟨_, rfl⟩
  have hm1 : 4503599627370496 ≤ M * 2 ^ j := by
    have : 2 ^ L * 2 ^ j ≤ M * 2 ^ j := Nat.mul_le_mul_right _ b1
    rw [← Nat.pow_add, show L + j = 52 by omega] at this
    exact this
  have hm2 : M * 2 ^ j < 9007199254740992 := by
    have : M * 2 ^ j < 2 ^ (L + 1) * 2 ^ j := Nat.mul_lt_mul_of_pos_right b2 (Nat.two_pow_pos j)
    rw [← Nat.pow_add, show L + 1 + j = 53 by omega] at this
    exact this
  have e := nearest_def s M 0 (-(j : Int)) h0 (by rw [hL]; omega)
  have e1 : ((0 : Int) - -(j : Int)).toNat = j := by omega
  have e2 : (-(j : Int) - 0).toNat = 0 := by omega
  rw [e1, e2, Nat.shiftLeft_eq, cut_even_dvd s (M * 2 ^ j) 0 (by rw [Nat.pow_zero]; exact Nat.mod_one _) (by omega), Nat.pow_zero, Nat.div_one, show (-(j : Int) - -1074) = -(j : Int) + 1074 by omega, Nat.min_eq_left (by omega)] at e
  refine ⟨M * 2 ^ j, -(j : Int), ?_, ?_⟩
  · rw [e]; exact read_word s (M * 2 ^ j) (-(j : Int)) hm1 hm2 (by omega) (by omega)
  · refine stands_of s _ _ _ j (by omega) ?_
    have e3 : (-(j : Int) + (j : Int)).toNat = 0 := by omega
    rw [e3, Int.pow_zero, Int.mul_one, sgn_mul]; push_cast; rfl

theorem zero_read (s : Bool) : Ieee.double.read (Ieee.double.nearest s 0 0) = .number s 0 (-1074) := by
  cases s <;> decide

theorem big_read (s : Bool) (m k : Nat) (h1 : 4503599627370496 ≤ m) (h2 : m < 9007199254740992) (hk : k ≤ 971) :
    Ieee.double.read (Ieee.double.nearest s (m * 2 ^ k) 0) = .number s m k ∧ stands s m k (sgn s (m * 2 ^ k)) := by
  have e := nearest_norm s m k k h1 h2 (by omega) (by omega)
  rw [Int.sub_self] at e
  refine ⟨?_, ?_⟩
  · rw [e]; exact read_word s m k h1 h2 (by omega) (by omega)
  · refine stands_of s _ _ _ 0 (by omega) ?_
    have e3 : ((k : Int) + ((0 : Nat) : Int)).toNat = k := by omega
    rw [e3, Int.pow_zero, Int.mul_one, sgn_mul]; push_cast; rfl

/-- The size of the whole part of a finite word. -/
def trN (m : Nat) (i : Int) : Nat := m * 2 ^ i.toNat / 2 ^ (-i).toNat
def truncI (x : Nat) : Option Int := (Ieee.double.read x).toInt .zero
def truncW (x : Nat) : Nat := Ieee.double.write ((Ieee.double.read x).integral .zero)

theorem read_cases (x : Nat) (h : x % 9223372036854775808 < 9218868437227405312) :
    ∃ s m i, Ieee.double.read x = .number s m i ∧ s = (x / 9223372036854775808 % 2 == 1) ∧ ((i = -1074 ∧ m < 4503599627370496) ∨ (4503599627370496 ≤ m ∧ m < 9007199254740992 ∧ -1074 ≤ i ∧ i ≤ 971)) := by
  by_cases g : x % 9223372036854775808 < 4503599627370496
  · exact ⟨_, _, _, read_sub x g, rfl, Or.inl ⟨d_least, g⟩⟩
  · refine ⟨_, _, _, read_norm x (by omega) h, rfl, Or.inr ?_⟩
    rw [d_least]; omega

theorem tr_eq (s : Bool) (m : Nat) (i : Int) : (Ieee.Datum.number s m i).integral .zero = .number s (trN m i) 0 := by
  simp only [Ieee.Datum.integral, cut_zero, Nat.shiftLeft_eq]; rfl

theorem trunc_read (x : Nat) (h : x % 9223372036854775808 < 9218868437227405312) :
    ∃ s M m p, truncI x = some (sgn s M) ∧ Ieee.double.read (truncW x) = .number s m p ∧ stands s m p (sgn s M) ∧ s = (x / 9223372036854775808 % 2 == 1) := by
  obtain ⟨s, m, i, e, es, hc⟩ := read_cases x h
  have e1 : truncI x = some (sgn s (trN m i)) := by
    simp only [truncI, e, Ieee.Datum.toInt, tr_eq, signed_eq]; simp
  have e2 : truncW x = Ieee.double.nearest s (trN m i) 0 := by
    simp only [truncW, e, tr_eq]; rfl
  by_cases hz : trN m i = 0
  · refine ⟨s, 0, 0, -1074, by rw [e1, hz], ?_, ?_, es⟩
    · rw [e2, hz]; exact zero_read s
    · have : sgn s 0 = 0 := by unfold sgn; cases s <;> simp
      rw [this]; exact stands_zero s _
  · by_cases hi : 0 ≤ i
    · rcases hc with ⟨hi', _⟩ | ⟨h1, h2, _, h4⟩
      · omega
      · have et : trN m i = m * 2 ^ i.toNat := by
          unfold trN; rw [show (-i).toNat = 0 by omega, Nat.pow_zero, Nat.div_one]
        have hr := big_read s m i.toNat h1 h2 (by omega)
        exact ⟨s, trN m i, m, i.toNat, e1, by rw [e2, et]; exact hr.1, by rw [et]; exact hr.2, es⟩
    · have et : trN m i = m / 2 ^ (-i).toNat := by
        unfold trN; rw [show i.toNat = 0 by omega, Nat.pow_zero, Nat.mul_one]
      have hlt : trN m i < 9007199254740992 := by
        rw [et]
        have := Nat.div_le_self m (2 ^ (-i).toNat)
        omega
      obtain ⟨m', p', hr, hs⟩ := small_read s (trN m i) hz hlt
      exact ⟨s, trN m i, m', p', e1, by rw [e2]; exact hr, hs, es⟩

theorem trunc_inf (x : Nat) (h : x % 9223372036854775808 = 9218868437227405312) : truncI x = none ∧ Ieee.double.read (truncW x) = .infinity (x / 9223372036854775808 % 2 == 1) := by
  have e := read_inf x h
  refine ⟨by simp [truncI, e, Ieee.Datum.toInt, Ieee.Datum.integral], ?_⟩
  have e2 : truncW x = Ieee.double.word (x / 9223372036854775808 % 2 == 1) Ieee.double.infRung := by
    simp only [truncW, e, Ieee.Datum.integral]; rfl
  rw [e2]
  cases (x / 9223372036854775808 % 2 == 1) <;> decide
end Go.Proofs.Ytekgedphjbhalaa
