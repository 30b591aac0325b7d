/- Shifts of whole numbers: plain arithmetic. -/
import Derived.Test.YtekgedphjbhalabBitPlain
import Derived.Lib.BitFns
namespace Go.Proofs.Ytekgedphjbhalab
open Go.RowKit

theorem b9 (t x y : Int) : bitsI 9 t x y = cutI t (IntKind.u64.wrap (x * 2 ^ (placesI t y).toNat)) := by simp [bitsI]
theorem b10 (t x y : Int) : bitsI 10 t x y = IntKind.u64.wrap (wrap64 x / 2 ^ (placesI t y).toNat) := by simp [bitsI]
theorem places_of {t : Int} (h : wh t) (b : Int) : ∃ p : Nat, placesI t b = (p : Int) ∧ p ≤ 63 ∧ placesI t (p : Int) = (p : Int) ∧ fitW t (p : Int) := by
  have hb := placesI_bd t b
  refine ⟨(placesI t b).toNat, by omega, by omega, ?_, ?_⟩
  · rcases h with rfl | rfl | rfl <;> simp [placesI] at * <;> omega
  · refine ⟨⟨by omega, by omega⟩, ?_⟩
    rcases h with rfl | rfl | rfl
    · rw [cut2]; simp [placesI] at *; omega
    · rw [cut3, wrapu]; unfold wrap32; omega
    · rw [cut4]
theorem s_up {t : Int} (h : wh t) (a b : Int) (p : Nat) (hp : placesI t b = (p : Int)) : bitsI 9 t a b = bitsI 3 t a (cutI t (IntKind.u64.wrap (2 ^ p))) := by
  refine fit_eq h ?_ (fit_b h _ _ _ (by simp)) ?_
  · rw [b9]; exact fit_cut h _ (word_wrapu _)
  · refine cg_symm (cg_trans (c3 h _ _) (cg_trans (cg_mul (cg_refl _ _) (cg_trans (cg_cut h _) (cg_wrap h _))) ?_))
    rw [b9, hp, Int.toNat_natCast]
    exact cg_symm (cg_trans (cg_cut h _) (cg_wrap h _))
theorem s_same (t a b : Int) (p : Nat) (hp : placesI t b = (p : Int)) (hq : placesI t (p : Int) = (p : Int)) : bitsI 9 t a b = bitsI 9 t a (p : Int) ∧ bitsI 10 t a b = bitsI 10 t a (p : Int) := by
  rw [b9, b9, b10, b10, hp, hq]; exact ⟨rfl, rfl⟩
theorem s_down (t a b : Int) (p : Nat) (hp : placesI t b = (p : Int)) : bitsI 10 t a b = IntKind.u64.wrap (wrap64 a / 2 ^ p) := by
  rw [b10, hp, Int.toNat_natCast]
theorem s_right {t : Int} (h : wh t) (a b : Int) (ha : fitW t a) : rightB t (bitsI 10 t a b) = true := by
  refine fit_right h ⟨by rw [b10]; exact word_wrapu _, ?_⟩
  have := shr_closed h ha (placesI t b)
  rw [b10]; exact this
theorem s_low {a : Int} (ha : word a) (p : Nat) (hs : 0 ≤ wrap64 a) : IntKind.u64.wrap (IntKind.u64.wrap (wrap64 a / 2 ^ p) * 2 ^ p) ≤ a := by
  obtain ⟨h0, h1⟩ := ha
  have ea : wrap64 a = a := by unfold wrap64 at *; omega
  have hb : a < 9223372036854775808 := by unfold wrap64 at *; omega
  have hp := pow_pos p
  rw [ea]
  have hq0 : 0 ≤ a / 2 ^ p := Int.ediv_nonneg h0 (by omega)
  have hq1 : a / 2 ^ p ≤ a := Int.ediv_le_self _ h0
  have hm : a / 2 ^ p * 2 ^ p ≤ a := Int.ediv_mul_le a (by omega)
  have hm0 : 0 ≤ a / 2 ^ p * 2 ^ p := Int.mul_nonneg hq0 (by omega)
  have e1 : IntKind.u64.wrap (a / 2 ^ p) = a / 2 ^ p := by rw [wrapu]; omega
  rw [e1, wrapu]; omega
theorem shr_abs (x : Int) (p : Nat) : (x / 2 ^ p).natAbs ≤ x.natAbs := by
  have hp := pow_pos p
  by_cases h : 0 ≤ x
  · have := Int.ediv_nonneg h (show (0 : Int) ≤ 2 ^ p by omega)
    have := Int.ediv_le_self (2 ^ p) h
    omega
  · have := shr_in x p x 0 (by omega) (by omega) (by omega) (by omega)
    omega
theorem bitLen_zero : Lib.bitLen 0 = 0 := by decide
theorem bitLen_mono : ∀ (n m : Nat), m ≤ n → n < 18446744073709551616 → Lib.bitLen m ≤ Lib.bitLen n := by
  intro n
  induction n using Nat.strongRecOn with
  | ind n ih =>
    intro m h hn
    by_cases hm : m = 0
    · rw [hm, bitLen_zero]; omega
    · rw [Lib.bitLen_half m hm (by omega), Lib.bitLen_half n (by omega) (by omega)]
      have := ih (n / 2) (by omega) (m / 2) (by omega) (by omega)
      omega
theorem w_in (a : Int) : -9223372036854775808 ≤ wrap64 a ∧ wrap64 a ≤ 9223372036854775807 := by unfold wrap64; omega
theorem s_len (t a b : Int) (ha : word a) : Lib.bitLen (sizeI (bitsI 10 t a b)).toNat ≤ Lib.bitLen (sizeI a).toNat := by
  have hw : word (bitsI 10 t a b) := by rw [b10]; exact word_wrapu _
  have hd : wrap64 (bitsI 10 t a b) = wrap64 a / 2 ^ (placesI t b).toNat := by
    have h1 := w_in a
    have h2 := shr_in (wrap64 a) (placesI t b).toNat _ _ h1.1 h1.2 (by omega) (by omega)
    rw [b10, wrapu]
    generalize wrap64 a / 2 ^ (placesI t b).toNat = y at h2
    unfold wrap64; omega
  rw [size_abs hw, size_abs ha, hd]
  have := shr_abs (wrap64 a) (placesI t b).toNat
  have := w64_abs a
  exact bitLen_mono _ _ (by omega) (by omega)
theorem size_word {x : Int} (h : word x) : 0 ≤ sizeI x ∧ sizeI x ≤ 18446744073709551615 := by
  rw [size_abs h]; have := w64_abs x; omega
end Go.Proofs.Ytekgedphjbhalab
