/- The contract of the document's 'near', whole: for every word it tells what the conversion tells. -/
import Derived.Test.YtekgedphjbhalaaNear
namespace Go.Proofs.Ytekgedphjbhalaa
open Go.RowKit

theorem bitLen_log : ∀ (n : Nat), n ≠ 0 → n < 18446744073709551616 → Lib.bitLen n = n.log2 + 1 := by
  intro n
  induction n using Nat.strongRecOn with
  | ind n ih =>
    intro h0 hn
    rw [Lib.bitLen_half n h0 (by omega)]
    by_cases h2 : n ≥ 2
    · rw [ih (n / 2) (by omega) (by omega) (by omega)]
      have e : n.log2 = (n / 2).log2 + 1 := by rw [Nat.log2_def n, if_pos h2]
      omega
    · have e : n = 1 := by omega
      subst e; decide

theorem ip (e : Nat) : ((2 ^ e : Nat) : Int) = (2 : Int) ^ e := by push_cast; rfl
theorem wrap_nat (n : Nat) (h : n < 18446744073709551616) : IntKind.u64.wrap (n : Int) = (n : Int) := by rw [wrapu]; omega

theorem near_any (a : Int) (w : World) (ha : Hid (word a)) : Calls Try.prog 47 #[.int .u64 a] w fun e w' => e = .returned (.int .u64 ((floatOfInt .f64 (wrap64 a) : Nat) : Int)) ∧ w' = w := by
  have hsz := sizeN_abs ha.out
  have hbd := w64_abs a
  have hng : negB a = decide (wrap64 a < 0) := by rw [Bool.eq_iff_iff, negB_iff ha.out]; simp
  generalize hz : wrap64 a = z at *
  by_cases h0 : z.natAbs = 0
  · have e0 : z = 0 := by omega
    rw [h0] at hsz
    refine (near_nought a w (by rw [hsz]; rfl)).mono ?_
    rintro e w' ⟨rfl, rfl⟩
    refine ⟨ret_u64 ?_, rfl⟩
    rw [e0]; decide
  have hlen := bitLen_log z.natAbs h0 (by omega)
  have lo := Nat.log2_self_le h0
  have hi : z.natAbs < 2 ^ (z.natAbs.log2 + 1) := Nat.lt_log2_self
  generalize hN : z.natAbs = N at *
  generalize hl : N.log2 = l at *
  have hl63 : l ≤ 63 := by
    have : N < 2 ^ 64 := by omega
    have := (Nat.log2_lt h0).2 this
    omega
  have lenC : ∀ w : World, Calls Try.prog 61 #[.int .u64 (N : Int)] w fun e' w' => e' = .returned (.int .i64 ((l : Int) + 1)) ∧ w' = w := by
    intro w
    refine (len_any (N : Int) w ⟨by omega, by omega⟩).mono ?_
    rintro e w' ⟨rfl, rfl⟩
    exact ⟨ret_i64 (by rw [Int.toNat_natCast, hlen]; push_cast; rfl), rfl⟩
  have hN0 : ((N : Int) == 0) = false := by simp; omega
  by_cases hup : 53 ≤ l
  · obtain ⟨e, he⟩ : ∃ e : Nat, l = e + 52 := ⟨l - 52, by omega⟩
    have eL : ((l : Int) + 1 - 53).toNat = e := by omega
    have p2e : 2 ^ e ≤ 2 ^ 11 := Nat.pow_le_pow_right (by omega) (by omega)
    have hpe : 0 < 2 ^ e := Nat.two_pow_pos e
    have half : 2 ^ e = 2 * 2 ^ (e - 1) := by
      have : e = (e - 1) + 1 := by omega
      conv => lhs; rw [this, Nat.pow_succ]
      omega
    have q1 : 4503599627370496 ≤ N / 2 ^ e := by
      rw [Nat.le_div_iff_mul_le hpe]
      have : 2 ^ l = 4503599627370496 * 2 ^ e := by rw [he, Nat.pow_add, Nat.mul_comm]
      omega
    have q2 : N / 2 ^ e < 9007199254740992 := by
      rw [Nat.div_lt_iff_lt_mul hpe]
      have : 2 ^ (l + 1) = 9007199254740992 * 2 ^ e := by rw [he, show e + 52 + 1 = 53 + e by omega, Nat.pow_add]
      omega
    have cu := cut_up (decide (z < 0)) N e (by omega)
    have cst : (N : Int) / 2 ^ e = ((N / 2 ^ e : Nat) : Int) := by push_cast; rfl
    have cmd : (N : Int) % ((2 ^ e : Nat) : Int) = ((N % 2 ^ e : Nat) : Int) := by push_cast; rfl
    generalize hQ : N / 2 ^ e = Q at *
    generalize hR : N % 2 ^ e = R at *
    have shl : N <<< (0 - ((l : Int) + 1 - 53)).toNat = N := by
      rw [show (0 - ((l : Int) + 1 - 53)).toNat = 0 by omega, Nat.shiftLeft_zero]
    have go : ∀ n : Nat, n = Q + (2 ^ e < 2 * R || (2 ^ e == 2 * R && Q % 2 == 1)).toNat → n ≤ 9007199254740992 → floatOfInt .f64 z = nearW (decide (z < 0)) n ((l : Int) + 1 - 53) := by
      intro n hn hle
      refine foi_gen z (by omega) _ (by rw [hN, hl]; omega) (by omega) (by omega) n hle ?_
      rw [hN, shl, show ((l : Int) + 1 - 53 - 0).toNat = e by omega, cu, hn]
    have main : ∀ n : Nat, n = Q + (2 ^ e < 2 * R || (2 ^ e == 2 * R && Q % 2 == 1)).toNat → 4503599627370496 ≤ n → n ≤ 9007199254740992 →
        ((n = Q + 1 ∧ ((2 ^ (e - 1) : Nat) < R ∨ (R = 2 ^ (e - 1) ∧ ((Q : Int) % 2 == 1) = true))) ∨ (n = Q ∧ ((R < 2 ^ (e - 1)) ∨ (R = 2 ^ (e - 1) ∧ ((Q : Int) % 2 == 1) = false)))) →
        Calls Try.prog 47 #[.int .u64 a] w fun e w' => e = .returned (.int .u64 ((floatOfInt .f64 z : Nat) : Int)) ∧ w' = w := by
      intro n hn h1 h2 hc
      rw [go n hn h2]
      refine near_up a ((l : Int) + 1) N (2 ^ e) (2 ^ (e - 1)) Q R (floatOfInt .f64 (n : Int)) (wordOf n ((l : Int) + 1 - 53)) _ w hsz hN0 (by omega) (by omega) lenC
        (fun w => ldexp_any n ((l : Int) + 1 - 53) w ⟨h1, h2, by omega, by omega⟩) ?_ ?_ ?_ ?_ cmd ?_ ?_
      · rw [eL, ← ip]; exact wrap_nat _ (by omega)
      · omega
      · rw [eL, ← ip]; exact wrap_nat _ (by omega)
      · rw [eL]; exact cst
      · rw [hng]; unfold nearW
        by_cases g : z < 0 <;> simp [g]
      · rcases hc with ⟨rfl, hh⟩ | ⟨rfl, hh⟩
        · refine Or.inl ⟨?_, ?_⟩
          · have : IntKind.u64.wrap ((Q : Int) + 1) = ((Q + 1 : Nat) : Int) := by rw [wrapu]; omega
            rw [this]
          · rcases hh with hh | hh
            · exact Or.inl (by exact_mod_cast hh)
            · exact Or.inr hh
        · refine Or.inr ⟨rfl, ?_⟩
          rcases hh with hh | hh
          · have h' : (R : Int) < ((2 ^ (e - 1) : Nat) : Int) := by exact_mod_cast hh
            refine Or.inl ⟨h', ?_⟩
            generalize ((2 ^ (e - 1) : Nat) : Int) = t at h'
            simp; omega
          · exact Or.inr hh
    have par : ((Q : Int) % 2 == 1) = (Q % 2 == 1) := by
      rw [Bool.eq_iff_iff]; simp; omega
    generalize 2 ^ (e - 1) = Hh at *
    generalize 2 ^ e = Pp at *
    by_cases c1 : Hh < R
    · have en : (decide (Pp < 2 * R) || (Pp == 2 * R && Q % 2 == 1)) = true := by simp; omega
      exact main (Q + 1) (by rw [en]; rfl) (by omega) (by omega) (Or.inl ⟨rfl, Or.inl c1⟩)
    · by_cases c2 : R = Hh
      · cases hq : (Q % 2 == 1)
        · have en : (decide (Pp < 2 * R) || (Pp == 2 * R && Q % 2 == 1)) = false := by rw [hq]; simp; omega
          exact main Q (by rw [en]; rfl) (by omega) (by omega) (Or.inr ⟨rfl, Or.inr ⟨c2, by rw [par, hq]⟩⟩)
        · have en : (decide (Pp < 2 * R) || (Pp == 2 * R && Q % 2 == 1)) = true := by rw [hq]; simp; omega
          exact main (Q + 1) (by rw [en]; rfl) (by omega) (by omega) (Or.inl ⟨rfl, Or.inr ⟨c2, by rw [par, hq]⟩⟩)
      · have en : (decide (Pp < 2 * R) || (Pp == 2 * R && Q % 2 == 1)) = false := by simp; omega
        exact main Q (by rw [en]; rfl) (by omega) (by omega) (Or.inr ⟨rfl, Or.inl (by omega)⟩)
  · have eL : (-((l : Int) + 1 - 53)).toNat = 52 - l := by omega
    have n1 : 4503599627370496 ≤ N * 2 ^ (52 - l) := by
      have : 2 ^ l * 2 ^ (52 - l) ≤ N * 2 ^ (52 - l) := Nat.mul_le_mul_right _ lo
      rw [← Nat.pow_add, show l + (52 - l) = 52 by omega] at this
      exact this
    have n2 : N * 2 ^ (52 - l) < 9007199254740992 := by
      have : N * 2 ^ (52 - l) < 2 ^ (l + 1) * 2 ^ (52 - l) := Nat.mul_lt_mul_of_pos_right hi (Nat.two_pow_pos _)
      rw [← Nat.pow_add, show l + 1 + (52 - l) = 53 by omega] at this
      exact this
    have cst : (N : Int) * 2 ^ (52 - l) = ((N * 2 ^ (52 - l) : Nat) : Int) := by push_cast; rfl
    have shl : N <<< (0 - ((l : Int) + 1 - 53)).toNat = N * 2 ^ (52 - l) := by
      rw [show (0 - ((l : Int) + 1 - 53)).toNat = 52 - l by omega, Nat.shiftLeft_eq]
    have fz : floatOfInt .f64 z = nearW (decide (z < 0)) (N * 2 ^ (52 - l)) ((l : Int) + 1 - 53) := by
      refine foi_gen z (by omega) _ (by rw [hN, hl]; omega) (by omega) (by omega) _ (by omega) ?_
      rw [hN, shl, show ((l : Int) + 1 - 53 - 0).toNat = 0 by omega, cut_even_dvd _ _ 0 (by rw [Nat.pow_zero]; exact Nat.mod_one _) (by omega), Nat.pow_zero, Nat.div_one]
    rw [fz]
    generalize hn : N * 2 ^ (52 - l) = n at *
    refine near_down a ((l : Int) + 1) N (floatOfInt .f64 (n : Int)) (wordOf n ((l : Int) + 1 - 53)) _ w hsz hN0 (by omega) (by omega) lenC
      (fun w => ldexp_any n ((l : Int) + 1 - 53) w ⟨n1, by omega, by omega, by omega⟩) ?_ ?_
    · rw [eL, cst, wrap_nat n (by omega)]
    · rw [hng]; unfold nearW
      by_cases g : z < 0 <;> simp [g]
end Go.Proofs.Ytekgedphjbhalaa
