/- Contracts of package scalar's turns: Trunc, within, wholePart, Turns, Fits, Turn. -/
import Derived.Test.YtekgedphjbhalaaTwo
import Derived.Test.YtekgedphjbhalaaReal3
namespace Go.Proofs.Ytekgedphjbhalaa
open Go.RowKit

theorem run_trunc (x : Nat) (w : World) (h : x % 9223372036854775808 ≤ 9218868437227405312 ∨ x = 9221120237041090560) : (callFunc 66 #[.float .f64 x]).run Try.prog w = .ok (.value (.float .f64 (truncW x))) w := by
  rw [run_callFunc_extern (fn := Try.f66) (e := Extern.MathFloor.toIntegral "math.archTrunc" .zero) Try.func66 (by kernel_rfl) (by kernel_rfl) (by kernel_rfl) (by kernel_rfl)]
  rcases h with h | h
  · by_cases g : x % 9223372036854775808 = 9218868437227405312
    · have e := read_inf x g
      have e' : FloatKind.f64.decode x = .infinity (x / 9223372036854775808 % 2 == 1) := e
      have e3 : Extern.MathFloor.toIntegral "math.archTrunc" .zero #[.float .f64 x] = pure (.float .f64 (truncW x)) := by
        unfold truncW
        rw [e]
        show (match FloatKind.f64.decode x with | .nan _ _ => _ | d => _) = _
        rw [e']
        rfl
      rw [e3]; rfl
    · obtain ⟨s, m, i, e⟩ := read_num x (by omega)
      have e' : FloatKind.f64.decode x = .number s m i := e
      have e3 : Extern.MathFloor.toIntegral "math.archTrunc" .zero #[.float .f64 x] = pure (.float .f64 (truncW x)) := by
        unfold truncW
        rw [e]
        show (match FloatKind.f64.decode x with | .nan _ _ => _ | d => _) = _
        rw [e']
        rfl
      rw [e3]; rfl
  · subst h
    rfl

set_option maxHeartbeats 400000 in
theorem trunc_any (x : Nat) (w : World) (h : Hid (x % 9223372036854775808 ≤ 9218868437227405312 ∨ x = 9221120237041090560)) :
    Calls Try.prog 63 #[.float .f64 x] w fun e w' => e = .returned (.float .f64 (truncW x)) ∧ w' = w := by
  have hr := fun w => run_trunc x w h.out
  go_enter Try.func63, Try.ntmps63
  go_wp2
  go_ret
  exact ⟨rfl, rfl⟩

theorem and_cases {a b : Bool} : (a = true ∧ b = true) ∨ (a = true ∧ b = false) ∨ a = false := by cases a <;> cases b <;> simp

set_option maxHeartbeats 1000000 in
theorem within_any (t : Int) (x : Nat) (w : World) (h : Hid (x % 9223372036854775808 ≤ 9218868437227405312 ∨ x = 9221120237041090560)) :
    Calls Try.prog 48 #[.int .u8 t, .float .f64 x] w fun e w' => e = .returned (.bool (withinB t x)) ∧ w' = w := by
  by_cases h2 : t = 2
  · subst h2
    have hp := within_pair x 0 4643211215818981376 0 256 c_0 c_256
    have hw : Hid (withinB 2 x = ((FloatKind.f64.format.order 0 (truncW x) == some .lt || FloatKind.f64.format.order 0 (truncW x) == some .eq) && (FloatKind.f64.format.order (truncW x) 4643211215818981376 == some .lt))) := by
      show withinB _ x = _
      rw [hp]; simp [withinB]
    clear hp
    rcases and_cases (a := (FloatKind.f64.format.order 0 (truncW x) == some .lt || FloatKind.f64.format.order 0 (truncW x) == some .eq)) (b := (FloatKind.f64.format.order (truncW x) 4643211215818981376 == some .lt)) with ⟨k1, k2⟩ | ⟨k1, k2⟩ | k1
    · go_enter Try.func48, Try.ntmps48
      go_wp2_with (go_at_call 63; refine (trunc_any _ _ h).mono ?_; rintro e w' ⟨rfl, rfl⟩)
      go_ret
      exact ⟨ret_bool (by rw [hw.out, k1, k2, Bool.true_and]), rfl⟩
    · go_enter Try.func48, Try.ntmps48
      go_wp2_with (go_at_call 63; refine (trunc_any _ _ h).mono ?_; rintro e w' ⟨rfl, rfl⟩)
      go_ret
      exact ⟨ret_bool (by rw [hw.out, k1, k2, Bool.true_and]), rfl⟩
    · go_enter Try.func48, Try.ntmps48
      go_wp2_with (go_at_call 63; refine (trunc_any _ _ h).mono ?_; rintro e w' ⟨rfl, rfl⟩)
      go_ret
      exact ⟨ret_bool (by rw [hw.out, k1, Bool.false_and]), rfl⟩
  by_cases h3 : t = 3
  · subst h3
    have hp := within_pair x 13970166044103278592 4746794007248502784 (-2147483648) 2147483648 c_m31 c_31
    have hw : Hid (withinB 3 x = ((FloatKind.f64.format.order 13970166044103278592 (truncW x) == some .lt || FloatKind.f64.format.order 13970166044103278592 (truncW x) == some .eq) && (FloatKind.f64.format.order (truncW x) 4746794007248502784 == some .lt))) := by
      show withinB _ x = _
      rw [hp]; simp [withinB]
    clear hp
    rcases and_cases (a := (FloatKind.f64.format.order 13970166044103278592 (truncW x) == some .lt || FloatKind.f64.format.order 13970166044103278592 (truncW x) == some .eq)) (b := (FloatKind.f64.format.order (truncW x) 4746794007248502784 == some .lt)) with ⟨k1, k2⟩ | ⟨k1, k2⟩ | k1
    · go_enter Try.func48, Try.ntmps48
      go_wp2_with (go_at_call 63; refine (trunc_any _ _ h).mono ?_; rintro e w' ⟨rfl, rfl⟩)
      go_ret
      exact ⟨ret_bool (by rw [hw.out, k1, k2, Bool.true_and]), rfl⟩
    · go_enter Try.func48, Try.ntmps48
      go_wp2_with (go_at_call 63; refine (trunc_any _ _ h).mono ?_; rintro e w' ⟨rfl, rfl⟩)
      go_ret
      exact ⟨ret_bool (by rw [hw.out, k1, k2, Bool.true_and]), rfl⟩
    · go_enter Try.func48, Try.ntmps48
      go_wp2_with (go_at_call 63; refine (trunc_any _ _ h).mono ?_; rintro e w' ⟨rfl, rfl⟩)
      go_ret
      exact ⟨ret_bool (by rw [hw.out, k1, Bool.false_and]), rfl⟩
  by_cases h4 : t = 4
  · subst h4
    have hp := within_pair x 14114281232179134464 4890909195324358656 (-9223372036854775808) 9223372036854775808 c_m63 c_63
    have hw : Hid (withinB 4 x = ((FloatKind.f64.format.order 14114281232179134464 (truncW x) == some .lt || FloatKind.f64.format.order 14114281232179134464 (truncW x) == some .eq) && (FloatKind.f64.format.order (truncW x) 4890909195324358656 == some .lt))) := by
      show withinB _ x = _
      rw [hp]; simp [withinB]
    clear hp
    rcases and_cases (a := (FloatKind.f64.format.order 14114281232179134464 (truncW x) == some .lt || FloatKind.f64.format.order 14114281232179134464 (truncW x) == some .eq)) (b := (FloatKind.f64.format.order (truncW x) 4890909195324358656 == some .lt)) with ⟨k1, k2⟩ | ⟨k1, k2⟩ | k1
    · go_enter Try.func48, Try.ntmps48
      go_wp2_with (go_at_call 63; refine (trunc_any _ _ h).mono ?_; rintro e w' ⟨rfl, rfl⟩)
      go_ret
      exact ⟨ret_bool (by rw [hw.out, k1, k2, Bool.true_and]), rfl⟩
    · go_enter Try.func48, Try.ntmps48
      go_wp2_with (go_at_call 63; refine (trunc_any _ _ h).mono ?_; rintro e w' ⟨rfl, rfl⟩)
      go_ret
      exact ⟨ret_bool (by rw [hw.out, k1, k2, Bool.true_and]), rfl⟩
    · go_enter Try.func48, Try.ntmps48
      go_wp2_with (go_at_call 63; refine (trunc_any _ _ h).mono ?_; rintro e w' ⟨rfl, rfl⟩)
      go_ret
      exact ⟨ret_bool (by rw [hw.out, k1, Bool.false_and]), rfl⟩
  · have hw : Hid (withinB t x = false) := by
      show withinB t x = false
      unfold withinB; split <;> simp [h2, h3, h4]
    go_enter Try.func48, Try.ntmps48
    go_wp2_with (go_at_call 63; refine (trunc_any _ _ h).mono ?_; rintro e w' ⟨rfl, rfl⟩)
    go_ret
    exact ⟨ret_bool hw.out.symm, rfl⟩
end Go.Proofs.Ytekgedphjbhalaa
