/- The contracts of the document's 'part' and 'fits': the whole part of a float, by its bits. -/
import Derived.Test.YtekgedphjbhalaaRefs
import Derived.Test.YtekgedphjbhalaaReal3
namespace Go.Proofs.Ytekgedphjbhalaa
open Go.RowKit

def expN (x : Nat) : Nat := x / 4503599627370496 % 2048
def sigN (x : Nat) : Nat := x % 4503599627370496 + 4503599627370496
def partV (x : Nat) : Nat := if expN x ≤ 1022 then 0 else if expN x ≤ 1075 then sigN x / 2 ^ (1075 - expN x) else if 1086 < expN x then 0 else sigN x * 2 ^ (expN x - 1075)
def partB (x : Nat) : Bool := !decide (1086 < expN x)

theorem sig_bd (x : Nat) : 4503599627370496 ≤ sigN x ∧ sigN x < 9007199254740992 := by unfold sigN; omega
theorem mul_lt64 (m k : Nat) (h : m < 9007199254740992) (hk : k ≤ 11) : m * 2 ^ k < 18446744073709551616 := by
  have h1 : 2 ^ k ≤ 2 ^ 11 := Nat.pow_le_pow_right (by omega) hk
  have h2 : m * 2 ^ k ≤ m * 2 ^ 11 := Nat.mul_le_mul_left _ h1
  omega
theorem partV_lt (x : Nat) : partV x < 18446744073709551616 := by
  have h := sig_bd x
  unfold partV
  split
  · omega
  · split
    · have := Nat.div_le_self (sigN x) (2 ^ (1075 - expN x)); omega
    · split
      · omega
      · exact mul_lt64 _ _ h.2 (by omega)

set_option maxHeartbeats 1000000 in
theorem part_any (x : Nat) (w : World) (hx : x < 18446744073709551616) :
    Calls Try.prog 59 #[.int .u64 (x : Int)] w fun e w' => e = .returned (.tuple #[.int .u64 ((partV x : Nat) : Int), .bool (partB x)]) ∧ w' = w := by
  have hE : (x : Int) / 4503599627370496 % 2048 = ((expN x : Nat) : Int) := by unfold expN; omega
  have hS : (x : Int) % 4503599627370496 + 4503599627370496 = ((sigN x : Nat) : Int) := by unfold sigN; omega
  have hEl : expN x < 2048 := by unfold expN; omega
  have hSb : Hid (4503599627370496 ≤ sigN x ∧ sigN x < 9007199254740992) := sig_bd x
  have hv : Hid (partV x = if expN x ≤ 1022 then 0 else if expN x ≤ 1075 then sigN x / 2 ^ (1075 - expN x) else if 1086 < expN x then 0 else sigN x * 2 ^ (expN x - 1075)) := rfl
  have hb : Hid (partB x = !decide (1086 < expN x)) := rfl
  generalize expN x = E at *
  generalize sigN x = S at *
  generalize partV x = V at *
  generalize partB x = B at *
  by_cases c1 : E ≤ 1022
  · by_cases c0 : E = 0
    · subst c0
      go_enter Try.func59, Try.ntmps59
      go_wp2
      go_ret2
      exact ⟨ret_pair (by rw [hv.out, if_pos (by omega)]; rfl) (by rw [hb.out]; rfl), rfl⟩
    · go_enter Try.func59, Try.ntmps59
      go_wp2
      go_ret2
      exact ⟨ret_pair (by rw [hv.out, if_pos c1]; rfl) (by rw [hb.out]; simp; omega), rfl⟩
  · by_cases c2 : E ≤ 1075
    · obtain ⟨j, hj⟩ : ∃ j, E = 1075 - j ∧ j ≤ 52 := ⟨1075 - E, by omega⟩
      have hdiv : ((S : Int) / 2 ^ (-((E : Int) - 1075)).toNat) = ((S / 2 ^ (1075 - E) : Nat) : Int) := by
        rw [show (-((E : Int) - 1075)).toNat = 1075 - E by omega]; push_cast; rfl
      have hdiv' : Hid (((S : Int) / 2 ^ (-((E : Int) - 1075)).toNat) = ((S / 2 ^ (1075 - E) : Nat) : Int)) := hdiv
      clear hdiv hj
      go_enter Try.func59, Try.ntmps59
      go_wp2
      go_ret2
      exact ⟨ret_pair (by rw [hv.out, if_neg (by omega), if_pos (by omega)]; exact hdiv'.out) (by rw [hb.out]; simp; omega), rfl⟩
    · by_cases c3 : 1086 < E
      · go_enter Try.func59, Try.ntmps59
        go_wp2
        go_ret2
        exact ⟨ret_pair (by rw [hv.out, if_neg (by omega), if_neg (by omega), if_pos (by omega)]; rfl) (by rw [hb.out]; simp; omega), rfl⟩
      · have hmul : Hid (IntKind.u64.wrap ((S : Int) * 2 ^ (E - 1075)) = ((S * 2 ^ (E - 1075) : Nat) : Int)) := by
          have h1 := mul_lt64 S (E - 1075) hSb.out.2 (by omega)
          have e : (S : Int) * 2 ^ (E - 1075) = ((S * 2 ^ (E - 1075) : Nat) : Int) := by push_cast; rfl
          show IntKind.u64.wrap _ = _
          rw [e, wrapu]; omega
        go_enter Try.func59, Try.ntmps59
        go_wp2
        go_ret2
        exact ⟨ret_pair (by rw [hv.out, if_neg (by omega), if_neg (by omega), if_neg (by omega)]; exact hmul.out) (by rw [hb.out]; simp; omega), rfl⟩

theorem part_sem (x : Nat) (hx : x < 18446744073709551616) : (partB x = true ∧ truncI x = some (sgn (decide (9223372036854775808 ≤ x)) (partV x)) ∧ x % 9223372036854775808 < 9218868437227405312) ∨ (partB x = false ∧ ∀ t, withinB t x = false) := by
  have hs : (x / 9223372036854775808 % 2 == 1) = decide (9223372036854775808 ≤ x) := by
    rw [Bool.eq_iff_iff]; simp; omega
  have hE : expN x = x % 9223372036854775808 / 4503599627370496 := by unfold expN; omega
  by_cases h1 : x % 9223372036854775808 < 9218868437227405312
  · by_cases g : x % 9223372036854775808 < 4503599627370496
    · left
      have e0 : expN x = 0 := by omega
      have er := read_sub x g
      refine ⟨by simp [partB, e0], ?_, h1⟩
      have v0 : partV x = 0 := by simp [partV, e0]
      have t0 : trN (x % 9223372036854775808) (-1074) = 0 := by
        unfold trN
        have hd : 52 ≤ (-(-1074 : Int)).toNat := by decide
        have e2 : (-1074 : Int).toNat = 0 := by decide
        rw [e2, Nat.pow_zero, Nat.mul_one]
        generalize (-(-1074 : Int)).toNat = d at hd
        have p : 2 ^ 52 ≤ 2 ^ d := Nat.pow_le_pow_right (by omega) hd
        exact Nat.div_eq_of_lt (Nat.lt_of_lt_of_le g p)
      simp only [truncI, er, Ieee.Datum.toInt, d_least, tr_eq, signed_eq, t0, v0, hs]; simp
    · have er := read_norm x (by omega) h1
      have sg : 4503599627370496 + x % 9223372036854775808 % 4503599627370496 = sigN x := by unfold sigN; omega
      have pl : Ieee.double.leastPlace + ((x % 9223372036854775808 / 4503599627370496 - 1 : Nat) : Int) = (expN x : Int) - 1075 := by rw [d_least, ← hE]; omega
      rw [sg, pl, hs] at er
      have ti : truncI x = some (sgn (decide (9223372036854775808 ≤ x)) (trN (sigN x) ((expN x : Int) - 1075))) := by
        simp only [truncI, er, Ieee.Datum.toInt, tr_eq, signed_eq]; simp
      have sb := sig_bd x
      by_cases c3 : 1086 < expN x
      · right
        refine ⟨by simp [partB, c3], ?_⟩
        intro t
        have tr : 18446744073709551616 ≤ trN (sigN x) ((expN x : Int) - 1075) := by
          unfold trN
          rw [show (-((expN x : Int) - 1075)).toNat = 0 by omega, Nat.pow_zero, Nat.div_one]
          have h1 : 2 ^ 12 ≤ 2 ^ ((expN x : Int) - 1075).toNat := Nat.pow_le_pow_right (by omega) (by omega)
          have h2 : 4503599627370496 * 2 ^ 12 ≤ sigN x * 2 ^ ((expN x : Int) - 1075).toNat := Nat.mul_le_mul sb.1 h1
          omega
        generalize trN (sigN x) ((expN x : Int) - 1075) = M at tr ti
        unfold withinB; rw [ti]
        simp only
        have hM : sgn (decide (9223372036854775808 ≤ x)) M ≤ -18446744073709551616 ∨ 18446744073709551616 ≤ sgn (decide (9223372036854775808 ≤ x)) M := by
          unfold sgn; split <;> omega
        generalize sgn (decide (9223372036854775808 ≤ x)) M = K at hM
        by_cases t2 : t = 2
        · rw [if_pos t2]; simp; omega
        · rw [if_neg t2]
          by_cases t3 : t = 3
          · rw [if_pos t3]; simp; omega
          · rw [if_neg t3]
            by_cases t4 : t = 4
            · rw [if_pos t4]; simp; omega
            · rw [if_neg t4]
      · left
        refine ⟨by simp [partB]; omega, ?_, h1⟩
        rw [ti]
        congr 2
        unfold trN partV
        by_cases c1 : expN x ≤ 1022
        · rw [if_pos c1, show ((expN x : Int) - 1075).toNat = 0 by omega, Nat.pow_zero, Nat.mul_one]
          have p : 2 ^ 53 ≤ 2 ^ (-((expN x : Int) - 1075)).toNat := Nat.pow_le_pow_right (by omega) (by omega)
          exact Nat.div_eq_of_lt (by omega)
        · rw [if_neg c1]
          by_cases c2 : expN x ≤ 1075
          · rw [if_pos c2, show ((expN x : Int) - 1075).toNat = 0 by omega, Nat.pow_zero, Nat.mul_one, show (-((expN x : Int) - 1075)).toNat = 1075 - expN x by omega]
          · rw [if_neg c2, if_neg c3, show (-((expN x : Int) - 1075)).toNat = 0 by omega, Nat.pow_zero, Nat.div_one, show ((expN x : Int) - 1075).toNat = expN x - 1075 by omega]
  · right
    have e2 : expN x = 2047 := by omega
    refine ⟨by simp [partB, e2], ?_⟩
    have tn : truncI x = none := by
      by_cases h2 : x % 9223372036854775808 = 9218868437227405312
      · exact (trunc_inf x h2).1
      · obtain ⟨s, f, e⟩ := read_nan x (by omega)
        simp [truncI, e, Ieee.Datum.toInt, Ieee.Datum.integral]
    intro t; simp [withinB, tn]
end Go.Proofs.Ytekgedphjbhalaa
