/- The contract of the document's 'fits': the whole part of a float that lies within a whole type. -/
import Derived.Test.YtekgedphjbhalaaPart
namespace Go.Proofs.Ytekgedphjbhalaa
open Go.RowKit

set_option maxHeartbeats 400000 in
theorem risNaN_any (x : Nat) (w : World) (h : (FloatKind.f64.format.order x x != some .eq) = false) :
    Calls Try.prog 35 #[.int .u64 (x : Int)] w fun e w' => e = .returned (.bool false) ∧ w' = w := by
  have f1 := run_frombits
  go_enter Try.func35, Try.ntmps35
  go_wp2
  go_ret
  exact ⟨rfl, rfl⟩

def mostI (to : Int) (neg : Bool) : Int := if to = 2 then (if neg then 0 else 255) else if to = 3 then (if neg then 2147483648 else 2147483647) else (if neg then 9223372036854775808 else 9223372036854775807)

set_option maxHeartbeats 1000000 in
theorem rfits_no (to : Int) (x V : Nat) (w : World) (partC : ∀ w : World, Calls Try.prog 59 #[.int .u64 (x : Int)] w fun e w' => e = .returned (.tuple #[.int .u64 (V : Int), .bool false]) ∧ w' = w) :
    Calls Try.prog 46 #[.int .u8 to, .int .u64 (x : Int)] w fun e w' => e = .returned (.tuple #[.int .u64 0, .bool false]) ∧ w' = w := by
  go_enter Try.func46, Try.ntmps46
  go_wp2_with (go_at_call 59; refine (partC _).mono ?_; rintro e w' ⟨rfl, rfl⟩)
  go_ret2
  exact ⟨rfl, rfl⟩

set_option maxRecDepth 100000 in
set_option maxHeartbeats 2000000 in
theorem rfits_ok (to a v : Int) (w : World) (ht : to = 2 ∨ to = 3 ∨ to = 4) (v0 : 0 ≤ v) (partC : ∀ w : World, Calls Try.prog 59 #[.int .u64 a] w fun e w' => e = .returned (.tuple #[.int .u64 v, .bool true]) ∧ w' = w)
    (nanC : ∀ w : World, Calls Try.prog 35 #[.int .u64 a] w fun e w' => e = .returned (.bool false) ∧ w' = w) (Z : Int) (b : Bool)
    (hb : Hid (b = decide (v ≤ mostI to (decide (9223372036854775808 ≤ a)))))
    (hz : Hid (Z = if b = true then (if 9223372036854775808 ≤ a then IntKind.u64.wrap (-v) else v) else 0)) :
    Calls Try.prog 46 #[.int .u8 to, .int .u64 a] w fun e w' => e = .returned (.tuple #[.int .u64 Z, .bool b]) ∧ w' = w := by
  by_cases hn : 9223372036854775808 ≤ a
  · have hh : Hid (9223372036854775808 ≤ a) := hn
    rcases ht with rfl | rfl | rfl
    · by_cases hl : v ≤ 0
      · go_enter Try.func46, Try.ntmps46
        go_wp2_with (first | (go_at_call 59; refine (partC _).mono ?_; rintro e w' ⟨rfl, rfl⟩) | (go_at_call 35; refine (nanC _).mono ?_; rintro e w' ⟨rfl, rfl⟩))
        go_ret2
        have e : b = true := by rw [hb.out]; simp [mostI, hh.out]; omega
        exact ⟨ret_pair (by rw [hz.out, e]; simp [hh.out]; try (rw [wrapu]; omega)) e.symm, rfl⟩
      · go_enter Try.func46, Try.ntmps46
        go_wp2_with (first | (go_at_call 59; refine (partC _).mono ?_; rintro e w' ⟨rfl, rfl⟩) | (go_at_call 35; refine (nanC _).mono ?_; rintro e w' ⟨rfl, rfl⟩))
        go_ret2
        have e : b = false := by rw [hb.out]; simp [mostI, hh.out]; omega
        exact ⟨ret_pair (by rw [hz.out, e]; simp) e.symm, rfl⟩
    · by_cases hl : v ≤ 2147483648
      · go_enter Try.func46, Try.ntmps46
        go_wp2_with (first | (go_at_call 59; refine (partC _).mono ?_; rintro e w' ⟨rfl, rfl⟩) | (go_at_call 35; refine (nanC _).mono ?_; rintro e w' ⟨rfl, rfl⟩))
        go_ret2
        have e : b = true := by rw [hb.out]; simp [mostI, hh.out]; omega
        exact ⟨ret_pair (by rw [hz.out, e]; simp [hh.out]; try (rw [wrapu]; omega)) e.symm, rfl⟩
      · go_enter Try.func46, Try.ntmps46
        go_wp2_with (first | (go_at_call 59; refine (partC _).mono ?_; rintro e w' ⟨rfl, rfl⟩) | (go_at_call 35; refine (nanC _).mono ?_; rintro e w' ⟨rfl, rfl⟩))
        go_ret2
        have e : b = false := by rw [hb.out]; simp [mostI, hh.out]; omega
        exact ⟨ret_pair (by rw [hz.out, e]; simp) e.symm, rfl⟩
    · by_cases hl : v ≤ 9223372036854775808
      · go_enter Try.func46, Try.ntmps46
        go_wp2_with (first | (go_at_call 59; refine (partC _).mono ?_; rintro e w' ⟨rfl, rfl⟩) | (go_at_call 35; refine (nanC _).mono ?_; rintro e w' ⟨rfl, rfl⟩))
        go_ret2
        have e : b = true := by rw [hb.out]; simp [mostI, hh.out]; omega
        exact ⟨ret_pair (by rw [hz.out, e]; simp [hh.out]; try (rw [wrapu]; omega)) e.symm, rfl⟩
      · go_enter Try.func46, Try.ntmps46
        go_wp2_with (first | (go_at_call 59; refine (partC _).mono ?_; rintro e w' ⟨rfl, rfl⟩) | (go_at_call 35; refine (nanC _).mono ?_; rintro e w' ⟨rfl, rfl⟩))
        go_ret2
        have e : b = false := by rw [hb.out]; simp [mostI, hh.out]; omega
        exact ⟨ret_pair (by rw [hz.out, e]; simp) e.symm, rfl⟩
  · rcases ht with rfl | rfl | rfl
    · by_cases hl : v ≤ 255
      · go_enter Try.func46, Try.ntmps46
        go_wp2_with (first | (go_at_call 59; refine (partC _).mono ?_; rintro e w' ⟨rfl, rfl⟩) | (go_at_call 35; refine (nanC _).mono ?_; rintro e w' ⟨rfl, rfl⟩))
        go_ret2
        have e : b = true := by rw [hb.out]; simp [mostI]; omega
        exact ⟨ret_pair (by rw [hz.out, e]; simp; try (rw [wrapu]; omega)) e.symm, rfl⟩
      · go_enter Try.func46, Try.ntmps46
        go_wp2_with (first | (go_at_call 59; refine (partC _).mono ?_; rintro e w' ⟨rfl, rfl⟩) | (go_at_call 35; refine (nanC _).mono ?_; rintro e w' ⟨rfl, rfl⟩))
        go_ret2
        have e : b = false := by rw [hb.out]; simp [mostI]; omega
        exact ⟨ret_pair (by rw [hz.out, e]; simp) e.symm, rfl⟩
    · by_cases hl : v ≤ 2147483647
      · go_enter Try.func46, Try.ntmps46
        go_wp2_with (first | (go_at_call 59; refine (partC _).mono ?_; rintro e w' ⟨rfl, rfl⟩) | (go_at_call 35; refine (nanC _).mono ?_; rintro e w' ⟨rfl, rfl⟩))
        go_ret2
        have e : b = true := by rw [hb.out]; simp [mostI]; omega
        exact ⟨ret_pair (by rw [hz.out, e]; simp; try (rw [wrapu]; omega)) e.symm, rfl⟩
      · go_enter Try.func46, Try.ntmps46
        go_wp2_with (first | (go_at_call 59; refine (partC _).mono ?_; rintro e w' ⟨rfl, rfl⟩) | (go_at_call 35; refine (nanC _).mono ?_; rintro e w' ⟨rfl, rfl⟩))
        go_ret2
        have e : b = false := by rw [hb.out]; simp [mostI]; omega
        exact ⟨ret_pair (by rw [hz.out, e]; simp) e.symm, rfl⟩
    · by_cases hl : v ≤ 9223372036854775807
      · go_enter Try.func46, Try.ntmps46
        go_wp2_with (first | (go_at_call 59; refine (partC _).mono ?_; rintro e w' ⟨rfl, rfl⟩) | (go_at_call 35; refine (nanC _).mono ?_; rintro e w' ⟨rfl, rfl⟩))
        go_ret2
        have e : b = true := by rw [hb.out]; simp [mostI]; omega
        exact ⟨ret_pair (by rw [hz.out, e]; simp; try (rw [wrapu]; omega)) e.symm, rfl⟩
      · go_enter Try.func46, Try.ntmps46
        go_wp2_with (first | (go_at_call 59; refine (partC _).mono ?_; rintro e w' ⟨rfl, rfl⟩) | (go_at_call 35; refine (nanC _).mono ?_; rintro e w' ⟨rfl, rfl⟩))
        go_ret2
        have e : b = false := by rw [hb.out]; simp [mostI]; omega
        exact ⟨ret_pair (by rw [hz.out, e]; simp) e.symm, rfl⟩
end Go.Proofs.Ytekgedphjbhalaa
