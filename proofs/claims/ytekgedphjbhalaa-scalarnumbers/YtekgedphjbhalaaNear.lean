/- The contract of the document's 'near': it tells the float nearest to a whole number, as the conversion does. -/
import Derived.Test.YtekgedphjbhalaaLd
import Derived.Test.YtekgedphjbhalaaRefs
import Derived.Test.YtekgedphjbhalaaLen
import Derived.Test.YtekgedphjbhalaaTurnedPlain
namespace Go.Proofs.Ytekgedphjbhalaa
open Go.RowKit

def nearW (s : Bool) (n : Nat) (i : Int) : Nat := if s = true then Op.negFloat .f64 (wordOf n i) else wordOf n i
theorem negFloat_is (x : Nat) : Op.negFloat .f64 x = x ^^^ 2 ^ 63 := rfl
theorem xor_top (x : Nat) (hx : x < 2 ^ 63) : x ^^^ 2 ^ 63 = 2 ^ 63 + x := by
  have h := nat_join 63 (2 ^ 63) x (Nat.mod_self _) hx
  rw [← h]
  apply Nat.eq_of_testBit_eq
  intro j
  rw [Nat.testBit_xor, Nat.testBit_or, Nat.testBit_two_pow]
  by_cases hj : 63 = j
  · subst hj
    rw [Nat.testBit_lt_two_pow hx]; simp
  · simp [hj]
theorem nearW_word (s : Bool) (n : Nat) (i : Int) (hn : n ≤ 9007199254740992) (hi : i ≤ 900) : Ieee.double.word s (wordOf n i) = nearW s n i := by
  have hlt : wordOf n i < 9223372036854775808 := by unfold wordOf; omega
  generalize hx : wordOf n i = x at *
  unfold nearW Ieee.Format.word
  rw [d_sign, negFloat_is, hx, xor_top x hlt]

/-- The conversion of a whole number that is not 0: by its highest 53 bits. -/
theorem foi_gen (z : Int) (hz : z.natAbs ≠ 0) (e : Int) (he : (z.natAbs.log2 : Int) - 52 = e) (h1 : e ≤ 20) (_h0 : -60 ≤ e) (n : Nat) (hn : n ≤ 9007199254740992)
    (hk : Ieee.Toward.even.cut (decide (z < 0)) (z.natAbs <<< (0 - e).toNat) (e - 0).toNat = n) : floatOfInt .f64 z = nearW (decide (z < 0)) n e := by
  rw [foi, nearest_def _ _ 0 e hz (by omega), hk, ← nearW_word _ n e hn (by omega)]
  have e1 : (e - -1074).toNat = (e + 1074).toNat := by omega
  rw [e1, Nat.min_eq_left (by omega)]
  rfl

theorem cut_up (s : Bool) (M e : Nat) (he : e ≤ M.log2) : Ieee.Toward.even.cut s M e = M / 2 ^ e + (2 ^ e < 2 * (M % 2 ^ e) || (2 ^ e == 2 * (M % 2 ^ e) && M / 2 ^ e % 2 == 1)).toNat := by
  have hmin : min e (M.log2 + 2) = e := by omega
  simp only [Ieee.Toward.cut, Nat.one_shiftLeft, hmin]

set_option maxHeartbeats 1000000 in
theorem near_up (a L : Int) (N P H Q R F Y Z : Nat) (w : World) (hs : sizeN a = (N : Int)) (h0 : ((N : Int) == 0) = false) (l1 : 53 < L) (l2 : L ≤ 64)
    (lenC : ∀ w : World, Calls Try.prog 61 #[.int .u64 (N : Int)] w fun e' w' => e' = .returned (.int .i64 L) ∧ w' = w)
    (ldC : ∀ w : World, Calls Try.prog 62 #[.float .f64 F, .int .i64 (L - 53)] w fun e' w' => e' = .returned (.float .f64 Y) ∧ w' = w)
    (hP : IntKind.u64.wrap (2 ^ (L - 53).toNat) = (P : Int)) (hP0 : ¬ (P : Int) = 0) (hH : IntKind.u64.wrap (2 ^ ((L - 53).toNat - 1)) = (H : Int)) (hQ : (N : Int) / 2 ^ (L - 53).toNat = (Q : Int)) (hR : (N : Int) % (P : Int) = (R : Int))
    (hZ : (negB a = false ∧ Z = Y) ∨ (negB a = true ∧ Z = Op.negFloat .f64 Y))
    (hc : (floatOfInt .f64 (IntKind.u64.wrap ((Q : Int) + 1)) = F ∧ ((H : Int) < (R : Int) ∨ (R = H ∧ ((Q : Int) % 2 == 1) = true))) ∨
      (floatOfInt .f64 (Q : Int) = F ∧ (((R : Int) < (H : Int) ∧ ((R : Int) == (H : Int)) = false) ∨ (R = H ∧ ((Q : Int) % 2 == 1) = false)))) :
    Calls Try.prog 47 #[.int .u64 a] w fun e w' => e = .returned (.int .u64 (Z : Int)) ∧ w' = w := by
  have f2 := run_bits
  have f3 : ∀ (x : Nat) (w : World), (Op.unary .neg (.float .f64 x)).run Try.prog w = .ok (.float .f64 (Op.negFloat .f64 x)) w := fun _ _ => rfl
  rcases hZ with ⟨hng, rfl⟩ | ⟨hng, rfl⟩
  all_goals
    rcases hc with ⟨hF, c1 | ⟨rfl, c3⟩⟩ | ⟨hF, ⟨c1, c2⟩ | ⟨rfl, c3⟩⟩
    all_goals
      go_enter Try.func47, Try.ntmps47
      go_wp2_with (first | (go_at_call 60; refine (rsize_any _ _).mono ?_; rintro e w' ⟨rfl, rfl⟩) | (go_at_call 61; refine (lenC _).mono ?_; rintro e w' ⟨rfl, rfl⟩) | (go_at_call 62; refine (ldC _).mono ?_; rintro e w' ⟨rfl, rfl⟩))
      go_ret
      exact ⟨rfl, rfl⟩

set_option maxHeartbeats 1000000 in
theorem near_down (a L : Int) (N F Y Z : Nat) (w : World) (hs : sizeN a = (N : Int)) (h0 : ((N : Int) == 0) = false) (l1 : 1 ≤ L) (l2 : L ≤ 53)
    (lenC : ∀ w : World, Calls Try.prog 61 #[.int .u64 (N : Int)] w fun e' w' => e' = .returned (.int .i64 L) ∧ w' = w)
    (ldC : ∀ w : World, Calls Try.prog 62 #[.float .f64 F, .int .i64 (L - 53)] w fun e' w' => e' = .returned (.float .f64 Y) ∧ w' = w)
    (hQ : floatOfInt .f64 (IntKind.u64.wrap ((N : Int) * 2 ^ (-(L - 53)).toNat)) = F)
    (hZ : (negB a = false ∧ Z = Y) ∨ (negB a = true ∧ Z = Op.negFloat .f64 Y)) :
    Calls Try.prog 47 #[.int .u64 a] w fun e w' => e = .returned (.int .u64 (Z : Int)) ∧ w' = w := by
  have f2 := run_bits
  have f3 : ∀ (x : Nat) (w : World), (Op.unary .neg (.float .f64 x)).run Try.prog w = .ok (.float .f64 (Op.negFloat .f64 x)) w := fun _ _ => rfl
  rcases hZ with ⟨hng, rfl⟩ | ⟨hng, rfl⟩
  all_goals
    go_enter Try.func47, Try.ntmps47
    go_wp2_with (first | (go_at_call 60; refine (rsize_any _ _).mono ?_; rintro e w' ⟨rfl, rfl⟩) | (go_at_call 61; refine (lenC _).mono ?_; rintro e w' ⟨rfl, rfl⟩) | (go_at_call 62; refine (ldC _).mono ?_; rintro e w' ⟨rfl, rfl⟩))
    go_ret
    exact ⟨rfl, rfl⟩

set_option maxHeartbeats 1000000 in
theorem near_nought (a : Int) (w : World) (hs : sizeN a = 0) : Calls Try.prog 47 #[.int .u64 a] w fun e w' => e = .returned (.int .u64 0) ∧ w' = w := by
  go_enter Try.func47, Try.ntmps47
  go_wp2_with (go_at_call 60; refine (rsize_any _ _).mono ?_; rintro e w' ⟨rfl, rfl⟩)
  go_ret
  exact ⟨rfl, rfl⟩
end Go.Proofs.Ytekgedphjbhalaa
