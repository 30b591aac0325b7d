/- The walk of ScalarOps over the contracts: both sides return the same at each of the two rounds. -/
import Derived.Test.YtekgedphjbhalaaRefs2
import Derived.WalkKit
namespace Go.Proofs.Ytekgedphjbhalaa
open Go.RowKit

theorem cut_word (t a : Int) (ha : word a) : word (cutI t a) := by
  have h0 : word 0 := ⟨by omega, by omega⟩
  have h1 : word 9221120237041090560 := ⟨by omega, by omega⟩
  have ha' := ha
  obtain ⟨a0, a1⟩ := ha
  unfold cutI
  repeat' (first | exact h0 | exact h1 | exact ha' | exact word_wrapu _ | apply word_ite)
  all_goals (unfold word; omega)

set_option maxRecDepth 100000 in
set_option maxHeartbeats 2000000 in
theorem ops_walk (o t a b : Int) (w : World) (ha : Hid (word a)) (hb : Hid (word b)) :
    Calls Try.prog 4 #[.int .u8 o, .int .u8 t, .int .u64 a, .int .u64 b] w fun e w' => e = .returned (.bool true) ∧ ∃ n, w' = w.drewN n := by
  go_enter Try.func4, Try.ntmps4
  go_wp2_with (first | (go_at_call 14; refine (of_any _ _ _).mono ?_; rintro e w' ⟨rfl, rfl⟩) | (go_at_call 15; refine (rof_any _ _ _).mono ?_; rintro e w' ⟨rfl, rfl⟩))
  go_loopw [2, 3, 13] (fun x y i wr => ∃ (k n : Nat) (c d : Int), k ≤ 2 ∧ i = .int .i64 k ∧ x = .int .u64 c ∧ y = .int .u64 d ∧ Hid (word c) ∧ Hid (word d) ∧ wr = w'.drewN n) (fun _ _ i _ => 2 - (intOf i).toNat)
  case atStart => exact ⟨0, 0, a, b, by omega, rfl, rfl, rfl, ha, hb, rfl⟩
  case round =>
    obtain ⟨k, n, c, d, hk, rfl, rfl, rfl, hc, hd, rfl⟩ := hrel
    have hc' : Hid (word (cutI t c)) := cut_word t c hc
    have hd' : Hid (word (cutI t d)) := cut_word t d hd
    by_cases hlt : k < 2
    · go_wp2_with (first | (go_at_call 16; refine (two_any _ _ _ _ _ hc hd).mono ?_; rintro e w1 ⟨rfl, n1, rfl⟩) | (go_at_call 17; refine (rtwo_any _ _ _ _ _ hc hd).mono ?_; rintro e w1 ⟨rfl, n1, rfl⟩) | (go_at_call 18; refine (one_any _ _ _ _ hc).mono ?_; rintro e w1 ⟨rfl, rfl⟩) | (go_at_call 19; refine (rone_any _ _ _ _ hc).mono ?_; rintro e w1 ⟨rfl, rfl⟩) | (go_at_call 20; refine (stops_any _ _ _ _).mono ?_; rintro e w1 ⟨rfl, rfl⟩) | (go_at_call 21; refine (rstops_any _ _ _ _).mono ?_; rintro e w1 ⟨rfl, rfl⟩) | (go_at_call 12; refine (rcut_any _ _ _ ?hh).mono ?_; (case hh => assumption); rintro e w1 ⟨rfl, rfl⟩))
      go_roundw
      case rel => exact ⟨k + 1, _, _, _, by omega, by go_num, rfl, rfl, hc', hd', rfl⟩
      case measure => simp [intOf]; omega
    · go_wp2_with (go_at_call 13; refine (awake_any _).mono ?_; rintro e w1 ⟨rfl, rfl⟩)
      go_ret
      exact ⟨rfl, _, rfl⟩
end Go.Proofs.Ytekgedphjbhalaa
