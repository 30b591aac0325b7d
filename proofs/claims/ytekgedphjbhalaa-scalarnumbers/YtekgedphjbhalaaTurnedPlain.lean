/- What ScalarTurned asks, in plain arithmetic. -/
import Derived.Test.YtekgedphjbhalaaTurn2
namespace Go.Proofs.Ytekgedphjbhalaa
open Go.RowKit

theorem sgn_inj {s : Bool} {a b : Nat} (h : sgn s a = sgn s b) : a = b := by
  cases s
  · have h' : (a : Int) = (b : Int) := h
    omega
  · have h' : -(a : Int) = -(b : Int) := h
    omega
theorem toInt_stands {s : Bool} {m : Nat} {p : Int} {M : Nat} (h : stands s m p (sgn s M)) : (Ieee.Datum.number s m p).toInt .zero = some (sgn s M) := by
  have hN : trN m p = M := by
    unfold trN
    by_cases hp : 0 ≤ p
    · have h0 := h 0 (by omega)
      rw [show (-p).toNat = 0 by omega, Nat.pow_zero, Nat.div_one]
      rw [show (p + ((0 : Nat) : Int)).toNat = p.toNat by omega, Int.pow_zero, Int.mul_one] at h0
      have e : sgn s (m * 2 ^ p.toNat) = sgn s M := by rw [sgn_mul, ← h0]; push_cast; rfl
      exact sgn_inj e
    · have h0 := h (-p).toNat (by omega)
      rw [show p.toNat = 0 by omega, Nat.pow_zero, Nat.mul_one]
      rw [show (p + ((-p).toNat : Int)).toNat = 0 by omega, Int.pow_zero, Int.mul_one] at h0
      have e : sgn s m = sgn s (M * 2 ^ (-p).toNat) := by rw [sgn_mul, h0]; push_cast; rfl
      have e2 : m = M * 2 ^ (-p).toNat := sgn_inj e
      rw [e2, Nat.mul_div_cancel _ (Nat.two_pow_pos _)]
  simp only [Ieee.Datum.toInt, tr_eq, signed_eq, hN]; simp

theorem trunc_trunc {x : Nat} {N : Int} (h : truncI x = some N) (hx : x % 9223372036854775808 < 9218868437227405312) : truncI (truncW x) = some N := by
  obtain ⟨s, M, m, p, e, er, st, _⟩ := trunc_read x hx
  rw [h] at e
  injection e with e
  rw [e]
  show (Ieee.double.read (truncW x)).toInt .zero = _
  rw [er]; exact toInt_stands st

theorem foi (n : Int) : floatOfInt .f64 n = Ieee.double.nearest (decide (n < 0)) n.natAbs 0 := rfl
theorem foi_word (n : Int) : floatOfInt .f64 n % 9223372036854775808 ≤ 9218868437227405312 ∧ floatOfInt .f64 n < 18446744073709551616 := by
  rw [foi]
  by_cases h : n.natAbs = 0
  · rw [h]; cases decide (n < 0) <;> decide
  · rw [nearest_def _ _ 0 _ h rfl]
    generalize (_ : Nat) * 4503599627370496 + _ = r
    have hm : min r 9218868437227405312 ≤ 9218868437227405312 := Nat.min_le_right _ _
    generalize min r 9218868437227405312 = q at hm
    unfold Ieee.Format.word; rw [d_sign]
    cases decide (n < 0) <;> simp <;> omega
theorem foi_cut (n : Int) : cutI 5 (floatOfInt .f64 n : Int) = (floatOfInt .f64 n : Int) := by
  have h := foi_word n
  have hn : ¬ nanI (floatOfInt .f64 n : Int) = true := by rw [nanI_iff, Int.toNat_natCast]; omega
  simp [cutI, hn]
theorem foi_same (n : Int) : (FloatKind.f64.format.order (floatOfInt .f64 n) (floatOfInt .f64 n) != some .eq) = false := by
  have h := foi_word n
  show (Ieee.double.order _ _ != some .eq) = false
  rw [order_self _ (by omega)]; rfl
theorem foi_trunc (n : Int) (h : n.natAbs < 9007199254740992) : truncI (floatOfInt .f64 n) = some n := by
  show (Ieee.double.read (floatOfInt .f64 n)).toInt .zero = some n
  rw [foi]
  have hs : sgn (decide (n < 0)) n.natAbs = n := by
    unfold sgn
    by_cases g : n < 0 <;> simp [g] <;> omega
  by_cases h0 : n.natAbs = 0
  · have hz : n = 0 := by omega
    subst hz; decide
  · obtain ⟨m, p, e, st⟩ := small_read (decide (n < 0)) n.natAbs h0 h
    rw [e, toInt_stands st, hs]

theorem mid_back {a : Int} (ha : fitW 3 a) : wpartI 3 (floatOfInt .f64 (wrap64 a)) = a := by
  have hi := in_of_fit (Or.inr (Or.inl rfl)) ha
  rw [inT3] at hi
  have ht := foi_trunc (wrap64 a) (by omega)
  have hw : withinB 3 (floatOfInt .f64 (wrap64 a)) = true := by
    unfold withinB; rw [ht]; simp; omega
  obtain ⟨⟨h0, h1⟩, _⟩ := ha
  simp only [wpartI, hw, ht, if_true, Option.getD_some]
  rw [wrapu]; unfold wrap64; omega

/-- The two tests '-2^63 <= x' and 'x < 2^63' on a word itself say what they say on its whole part. -/
theorem raw_tests (x : Nat) (hx : x % 9223372036854775808 < 9218868437227405312) : ∃ N, truncI x = some N ∧
    (FloatKind.f64.format.order x 14114281232179134464 == some .gt || FloatKind.f64.format.order x 14114281232179134464 == some .eq) = decide (-9223372036854775808 ≤ N) ∧
    (FloatKind.f64.format.order x 4890909195324358656 == some .lt) = decide (N < 9223372036854775808) := by
  obtain ⟨s, m, i, e, es, hc⟩ := read_cases x hx
  have e1 : truncI x = some (sgn s (trN m i)) := by
    simp only [truncI, e, Ieee.Datum.toInt, tr_eq, signed_eq]; simp
  have r1 : Ieee.double.read 14114281232179134464 = .number true 4503599627370496 11 := by decide
  have r2 : Ieee.double.read 4890909195324358656 = .number false 4503599627370496 11 := by decide
  have s1 : stands true 4503599627370496 11 (-9223372036854775808) := stands_of _ _ _ _ 0 (by decide) (by decide)
  have s2 : stands false 4503599627370496 11 9223372036854775808 := stands_of _ _ _ _ 0 (by decide) (by decide)
  refine ⟨_, e1, ?_⟩
  by_cases hi : 0 ≤ i
  · have st : stands s m i (sgn s (trN m i)) := by
      refine stands_of s m i _ 0 (by omega) ?_
      have et : trN m i = m * 2 ^ i.toNat := by
        unfold trN; rw [show (-i).toNat = 0 by omega, Nat.pow_zero, Nat.div_one]
      rw [show (i + ((0 : Nat) : Int)).toNat = i.toNat by omega, Int.pow_zero, Int.mul_one, et, sgn_mul]; push_cast; rfl
    refine ⟨ge_of_ord ?_, lt_of_ord ?_⟩
    · rw [Ieee.Format.order, e, r1]; exact order_stands st s1
    · rw [Ieee.Format.order, e, r2]; exact order_stands st s2
  · have hm : m < 9007199254740992 := by omega
    have et : trN m i = m / 2 ^ (-i).toNat := by
      unfold trN; rw [show i.toNat = 0 by omega, Nat.pow_zero, Nat.mul_one]
    have hlt : trN m i < 9007199254740992 := by
      rw [et]; have := Nat.div_le_self m (2 ^ (-i).toNat); omega
    have hN : -9223372036854775808 ≤ sgn s (trN m i) ∧ sgn s (trN m i) < 9223372036854775808 := by
      unfold sgn; cases s <;> simp <;> omega
    have hb : min i 11 = i := by omega
    have hpw : (9007199254740992 : Int) ≤ 4503599627370496 * 2 ^ (11 - i).toNat := by
      have h1 : (1 : Nat) ≤ (11 - i).toNat := by omega
      have h2 : (2 : Nat) ^ 1 ≤ 2 ^ (11 - i).toNat := Nat.pow_le_pow_right (by omega) h1
      have h3 : ((2 : Nat) ^ (11 - i).toNat : Int) = (2 : Int) ^ (11 - i).toNat := by push_cast; rfl
      have h4 : (2 : Int) ≤ (2 : Int) ^ (11 - i).toNat := by rw [← h3]; exact_mod_cast h2
      omega
    have hsm : -9007199254740992 < sgn s m ∧ sgn s m < 9007199254740992 := by
      unfold sgn; cases s <;> simp <;> omega
    have o1 : Ieee.double.order x 14114281232179134464 = some .gt := by
      rw [Ieee.Format.order, e, r1]
      simp only [Ieee.Datum.order, signed_eq, hb]
      rw [show (i - i).toNat = 0 by omega, Int.pow_zero, Int.mul_one]
      have e3 : sgn true 4503599627370496 = -4503599627370496 := rfl
      rw [e3, Int.neg_mul]
      simp only [compare, compareOfLessAndEq]
      rw [if_neg (by omega), if_neg (by omega)]
    have o2 : Ieee.double.order x 4890909195324358656 = some .lt := by
      rw [Ieee.Format.order, e, r2]
      simp only [Ieee.Datum.order, signed_eq, hb]
      rw [show (i - i).toNat = 0 by omega, Int.pow_zero, Int.mul_one]
      have e3 : sgn false 4503599627370496 = 4503599627370496 := rfl
      rw [e3]
      simp only [compare, compareOfLessAndEq]
      rw [if_pos (by omega)]
    refine ⟨?_, ?_⟩
    · show (Ieee.double.order _ _ == _ || Ieee.double.order _ _ == _) = _
      rw [o1]; simp; omega
    · show (Ieee.double.order _ _ == _) = _
      rw [o2]; simp; omega
end Go.Proofs.Ytekgedphjbhalaa
