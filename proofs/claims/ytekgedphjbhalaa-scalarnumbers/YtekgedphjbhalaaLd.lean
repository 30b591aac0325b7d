/- The contract of math.Ldexp at a normal word that stands for a whole number of 53 bits, or for 2^53. -/
import Derived.Test.YtekgedphjbhalaaBase
import Derived.Test.YtekgedphjbhalaaLdPlain
namespace Go.Proofs.Ytekgedphjbhalaa
open Go.RowKit

theorem ret_f64 {a b : Nat} (h : a = b) : Ending.returned (.float .f64 a) = .returned (.float .f64 b) := by rw [h]

set_option maxHeartbeats 400000 in
theorem ld_abs (x : Nat) (w : World) (hx : bits .andNot .u64 (x : Int) 9223372036854775808 = (x : Int)) :
    Calls Try.prog 72 #[.float .f64 x] w fun e w' => e = .returned (.float .f64 x) ∧ w' = w := by
  have f1 := run_frombits
  have f2 := run_bits
  go_enter Try.func72, Try.ntmps72
  go_wp2
  go_ret
  exact ⟨rfl, rfl⟩

set_option maxHeartbeats 400000 in
theorem ld_isInf (x : Nat) (w : World) (hx : Hid (bits .andNot .u64 (x : Int) 9223372036854775808 = (x : Int))) (hm : (FloatKind.f64.format.order x 9218868437227405311 == some .gt) = false) :
    Calls Try.prog 68 #[.float .f64 x, .int .i64 0] w fun e w' => e = .returned (.bool false) ∧ w' = w := by
  go_enter Try.func68, Try.ntmps68
  go_wp2_with (go_at_call 72; refine (ld_abs _ _ hx.out).mono ?_; rintro e w' ⟨rfl, rfl⟩)
  go_ret
  exact ⟨rfl, rfl⟩

set_option maxHeartbeats 400000 in
theorem ld_norm (x : Nat) (w : World) (hx : Hid (bits .andNot .u64 (x : Int) 9223372036854775808 = (x : Int))) (hm : (FloatKind.f64.format.order x 4503599627370496 == some .lt) = false) :
    Calls Try.prog 69 #[.float .f64 x] w fun e w' => e = .returned (.tuple #[.float .f64 x, .int .i64 0]) ∧ w' = w := by
  go_enter Try.func69, Try.ntmps69
  go_wp2_with (go_at_call 72; refine (ld_abs _ _ hx.out).mono ?_; rintro e w' ⟨rfl, rfl⟩)
  go_ret2
  exact ⟨rfl, rfl⟩

theorem or_0 (m : Nat) (i : Int) (h1 : 4503599627370496 ≤ m) (h2 : m < 9007199254740992) (i0 : -60 ≤ i) (i1 : i ≤ 20) : bits .or .u64 ((m - 4503599627370496 : Nat) : Int) ((i + 52 + 1023) * 4503599627370496) = ((wordOf m i : Nat) : Int) := by
  have h := l_or (m - 4503599627370496) (i + 52 + 1023).toNat (by omega) (by omega)
  rw [Int.toNat_of_nonneg (by omega)] at h
  rw [h]; unfold wordOf; omega
set_option maxHeartbeats 1000000 in
theorem ld_zero (m : Nat) (i : Int) (w : World) (h1 : 4503599627370496 ≤ m) (h2 : m < 9007199254740992) (i0 : -60 ≤ i) (i1 : i ≤ 20) :
    Calls Try.prog 65 #[.float .f64 (wordOf m 0), .int .i64 i] w fun e w' => e = .returned (.float .f64 (wordOf m i)) ∧ w' = w := by
  have k1 := l_zero m 0 h1 h2 (by omega) (by omega)
  have k2 := l_self m 0 h2 (by omega)
  have k3 := l_max m 0 h1 h2 (by omega) (by omega)
  have k4 := l_small m 0 h1 h2 (by omega) (by omega)
  have hlt := wordOf_lt m 0 h2 (by omega)
  have k5 : Hid (bits .andNot .u64 ((wordOf m 0 : Nat) : Int) 9223372036854775808 = ((wordOf m 0 : Nat) : Int)) := l_abs _ (by omega)
  have k6 := l_frac (wordOf m 0) (by omega)
  have k7 : ((wordOf m 0 : Nat) : Int) / 4503599627370496 = 1075 := by unfold wordOf; omega
  have k8 : wordOf m 0 % 4503599627370496 = m - 4503599627370496 := by unfold wordOf; omega
  rw [k8] at k6
  have k9 : bits .and .i64 1075 2047 = 1075 := by decide
  have k10 := or_0 m i h1 h2 i0 i1
  have k11 := fun (t : TypeId) (w : World) => run_float_arith (P := Try.prog) w .mul t .f64 4607182418800017408 (wordOf m i) (wordOf m i) (l_mul m i h1 h2 (by omega) (by omega))
  have f1 := run_frombits
  have f2 := run_bits
  clear hlt k8
  generalize hX : wordOf m 0 = X at *
  clear hX
  generalize hY : wordOf m i = Y at *
  clear hY
  go_enter Try.func65, Try.ntmps65
  go_wp2_with (first | (go_at_call 68; refine (ld_isInf _ _ k5 k3).mono ?_; rintro e w' ⟨rfl, rfl⟩) | (go_at_call 69; refine (ld_norm _ _ k5 k4).mono ?_; rintro e w' ⟨rfl, rfl⟩) | (go_at_call 34; go_in))
  go_ret
  exact ⟨rfl, rfl⟩

theorem or_1 (m : Nat) (i : Int) (h1 : 4503599627370496 ≤ m) (h2 : m < 9007199254740992) (i0 : -60 ≤ i) (i1 : i ≤ 20) : bits .or .u64 ((m - 4503599627370496 : Nat) : Int) ((i + 53 + 1023) * 4503599627370496) = ((wordOf m (i + 1) : Nat) : Int) := by
  have h := l_or (m - 4503599627370496) (i + 53 + 1023).toNat (by omega) (by omega)
  rw [Int.toNat_of_nonneg (by omega)] at h
  rw [h]; unfold wordOf; omega
set_option maxHeartbeats 1000000 in
theorem ld_one (m : Nat) (i : Int) (w : World) (h1 : 4503599627370496 ≤ m) (h2 : m < 9007199254740992) (i0 : -60 ≤ i) (i1 : i ≤ 20) :
    Calls Try.prog 65 #[.float .f64 (wordOf m 1), .int .i64 i] w fun e w' => e = .returned (.float .f64 (wordOf m (i + 1))) ∧ w' = w := by
  have k1 := l_zero m 1 h1 h2 (by omega) (by omega)
  have k2 := l_self m 1 h2 (by omega)
  have k3 := l_max m 1 h1 h2 (by omega) (by omega)
  have k4 := l_small m 1 h1 h2 (by omega) (by omega)
  have hlt := wordOf_lt m 1 h2 (by omega)
  have k5 : Hid (bits .andNot .u64 ((wordOf m 1 : Nat) : Int) 9223372036854775808 = ((wordOf m 1 : Nat) : Int)) := l_abs _ (by omega)
  have k6 := l_frac (wordOf m 1) (by omega)
  have k7 : ((wordOf m 1 : Nat) : Int) / 4503599627370496 = 1076 := by unfold wordOf; omega
  have k8 : wordOf m 1 % 4503599627370496 = m - 4503599627370496 := by unfold wordOf; omega
  rw [k8] at k6
  have k9 : bits .and .i64 1076 2047 = 1076 := by decide
  have k10 := or_1 m i h1 h2 i0 i1
  have k11 := fun (t : TypeId) (w : World) => run_float_arith (P := Try.prog) w .mul t .f64 4607182418800017408 (wordOf m (i + 1)) (wordOf m (i + 1)) (l_mul m (i + 1) h1 h2 (by omega) (by omega))
  have f1 := run_frombits
  have f2 := run_bits
  clear hlt k8
  generalize hX : wordOf m 1 = X at *
  clear hX
  generalize hY : wordOf m (i + 1) = Y at *
  clear hY
  go_enter Try.func65, Try.ntmps65
  go_wp2_with (first | (go_at_call 68; refine (ld_isInf _ _ k5 k3).mono ?_; rintro e w' ⟨rfl, rfl⟩) | (go_at_call 69; refine (ld_norm _ _ k5 k4).mono ?_; rintro e w' ⟨rfl, rfl⟩) | (go_at_call 34; go_in))
  go_ret
  exact ⟨rfl, rfl⟩

set_option maxHeartbeats 400000 in
theorem ldexp_zero (m : Nat) (i : Int) (w : World) (h1 : Hid (4503599627370496 ≤ m ∧ m < 9007199254740992 ∧ -60 ≤ i ∧ i ≤ 20)) :
    Calls Try.prog 62 #[.float .f64 (wordOf m 0), .int .i64 i] w fun e w' => e = .returned (.float .f64 (wordOf m i)) ∧ w' = w := by
  go_enter Try.func62, Try.ntmps62
  go_wp2_with (go_at_call 65; refine (ld_zero _ _ _ h1.out.1 h1.out.2.1 h1.out.2.2.1 h1.out.2.2.2).mono ?_; rintro e w' ⟨rfl, rfl⟩)
  go_ret
  exact ⟨rfl, rfl⟩
set_option maxHeartbeats 400000 in
theorem ldexp_one (m : Nat) (i : Int) (w : World) (h1 : Hid (4503599627370496 ≤ m ∧ m < 9007199254740992 ∧ -60 ≤ i ∧ i ≤ 20)) :
    Calls Try.prog 62 #[.float .f64 (wordOf m 1), .int .i64 i] w fun e w' => e = .returned (.float .f64 (wordOf m (i + 1))) ∧ w' = w := by
  go_enter Try.func62, Try.ntmps62
  go_wp2_with (go_at_call 65; refine (ld_one _ _ _ h1.out.1 h1.out.2.1 h1.out.2.2.1 h1.out.2.2.2).mono ?_; rintro e w' ⟨rfl, rfl⟩)
  go_ret
  exact ⟨rfl, rfl⟩

/-- Ldexp of a whole number n of 53 bits, or of 2^53: the word one reckons by adding. -/
theorem ldexp_any (n : Nat) (i : Int) (w : World) (h1 : Hid (4503599627370496 ≤ n ∧ n ≤ 9007199254740992 ∧ -60 ≤ i ∧ i ≤ 20)) :
    Calls Try.prog 62 #[.float .f64 (floatOfInt .f64 (n : Int)), .int .i64 i] w fun e w' => e = .returned (.float .f64 (wordOf n i)) ∧ w' = w := by
  obtain ⟨a, b, c, d⟩ := h1.out
  by_cases h : n < 9007199254740992
  · rw [foi_norm n a h]
    exact ldexp_zero n i w ⟨a, h, c, d⟩
  · have e : n = 9007199254740992 := by omega
    subst e
    have ef : floatOfInt .f64 ((9007199254740992 : Nat) : Int) = wordOf 4503599627370496 1 := foi_top
    rw [ef]
    refine (ldexp_one 4503599627370496 i w ⟨by omega, by omega, c, d⟩).mono ?_
    rintro e w' ⟨rfl, rfl⟩
    exact ⟨ret_f64 (by unfold wordOf; omega), rfl⟩
end Go.Proofs.Ytekgedphjbhalaa
