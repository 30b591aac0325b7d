/- The walk of ScalarTurns over the contracts: both sides return the same at each of the two rounds. -/
import Derived.Test.YtekgedphjbhalaaTurnRef
namespace Go.Proofs.Ytekgedphjbhalaa
open Go.RowKit

theorem word_or {c : Prop} [Decidable c] {x y : Int} (hx : word x) (hy : word y) : word (if c then x else y) := by
  split
  · exact hx
  · exact hy
theorem word_cut (t a : Int) (ha : word a) : word (cutI t a) := by
  have h0 : word 0 := ⟨by omega, by omega⟩
  have h1 : word 9221120237041090560 := ⟨by omega, by omega⟩
  have ha' := ha
  obtain ⟨a0, a1⟩ := ha
  unfold cutI
  repeat' (first | exact h0 | exact h1 | exact ha' | exact word_wrapu _ | apply word_or)
  all_goals (unfold word; omega)

set_option maxRecDepth 100000 in
set_option maxHeartbeats 2000000 in
theorem turns_walk (to fr a : Int) (w : World) (ha : Hid (word a)) :
    Calls Try.prog 5 #[.int .u8 to, .int .u8 fr, .int .u64 a] w fun e w' => e = .returned (.bool true) ∧ w' = w := by
  go_enter Try.func5, Try.ntmps5
  go_wp2
  go_loop [2, 7] (fun x i => ∃ (k : Nat) (c : Int), k ≤ 2 ∧ i = .int .i64 k ∧ x = .int .u64 c ∧ Hid (word c)) (fun _ i => 2 - (intOf i).toNat)
  case atStart => exact ⟨0, a, by omega, rfl, rfl, ha⟩
  case round =>
    obtain ⟨k, c, hk, rfl, rfl, hc⟩ := hrel
    have hc' : Hid (word (cutI fr c)) := word_cut fr c hc
    by_cases hlt : k < 2
    · go_wp2_with (first | (go_at_call 22; refine (turn_any _ _ _ _ hc).mono ?_; rintro e w1 ⟨rfl, rfl⟩) | (go_at_call 23; refine (rturn_any _ _ _ _ hc).mono ?_; rintro e w1 ⟨rfl, rfl⟩) | (go_at_call 24; refine (turns_any _ _ _).mono ?_; rintro e w1 ⟨rfl, rfl⟩) | (go_at_call 25; refine (rturns_any _ _ _).mono ?_; rintro e w1 ⟨rfl, rfl⟩) | (go_at_call 26; refine (fits_any _ _ _ _ hc).mono ?_; rintro e w1 ⟨rfl, rfl⟩) | (go_at_call 27; refine (rfits2_any _ _ _ _ hc).mono ?_; rintro e w1 ⟨rfl, rfl⟩) | (go_at_call 12; refine (rcut_any _ _ _ hc).mono ?_; rintro e w1 ⟨rfl, rfl⟩))
      go_round
      case rel => exact ⟨k + 1, _, by omega, by go_num, rfl, hc'⟩
      case measure => simp [intOf]; omega
    · go_wp2_with (go_at_call 13; refine (awake_any _).mono ?_; rintro e w1 ⟨rfl, rfl⟩)
      go_ret
      exact ⟨rfl, rfl⟩
end Go.Proofs.Ytekgedphjbhalaa
