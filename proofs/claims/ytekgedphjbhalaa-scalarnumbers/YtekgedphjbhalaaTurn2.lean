/- Contracts of package scalar's turns: wholePart, Turns, Fits, Turn. -/
import Derived.Test.YtekgedphjbhalaaTurn
namespace Go.Proofs.Ytekgedphjbhalaa
open Go.RowKit

theorem conv_f (x : Nat) (N : Int) (h : truncI x = some N) (h1 : -9223372036854775808 ≤ N) (h2 : N ≤ 9223372036854775807) (w : World) :
    (convert 39 2 (.float .f64 x)).run Try.prog w = .ok (.int .i64 N) w := by
  refine run_convert_float_int w 39 2 .f64 .i64 x N (by rw [Try.underlying39]; rfl) Try.underlying2 ?_
  have h' : (FloatKind.f64.decode x).toInt .zero = some N := h
  unfold floatToIntVal
  rw [h']
  simp [IntKind.min, IntKind.max, IntKind.signed, IntKind.bits]
  omega

set_option maxHeartbeats 400000 in
theorem wpart_any (t : Int) (x : Nat) (w : World) (h : Hid (x % 9223372036854775808 ≤ 9218868437227405312 ∨ x = 9221120237041090560)) :
    Calls Try.prog 45 #[.int .u8 t, .float .f64 x] w fun e w' => e = .returned (.int .u64 (wpartI t x)) ∧ w' = w := by
  cases hw : withinB t x with
  | false =>
    go_enter Try.func45, Try.ntmps45
    go_wp2_with (go_at_call 48; refine (within_any _ _ _ h).mono ?_; rintro e w' ⟨rfl, rfl⟩)
    go_ret
    exact ⟨ret_u64 (by simp [wpartI, hw]), rfl⟩
  | true =>
    obtain ⟨N, e, h1, h2, _⟩ := within_some hw
    have hc := conv_f x N e h1 h2
    have he : Hid (truncI x = some N) := e
    clear e
    go_enter Try.func45, Try.ntmps45
    go_wp2_with (go_at_call 48; refine (within_any _ _ _ h).mono ?_; rintro e w' ⟨rfl, rfl⟩)
    go_ret
    exact ⟨ret_u64 (by simp [wpartI, hw, he.out]), rfl⟩

def turnsB (to fr : Int) : Bool := numberB to && numberB fr
set_option maxHeartbeats 400000 in
theorem turns_any (to fr : Int) (w : World) : Calls Try.prog 24 #[.int .u8 to, .int .u8 fr] w fun e w' => e = .returned (.bool (turnsB to fr)) ∧ w' = w := by
  cases h1 : numberB to <;> cases h2 : numberB fr
  all_goals
    go_enter Try.func24, Try.ntmps24
    go_wp2_with (go_at_call 36; refine (number_any _ _).mono ?_; rintro e w' ⟨rfl, rfl⟩)
    go_ret
    exact ⟨ret_bool (by simp [turnsB, h1, h2]), rfl⟩

def okTurn (to fr a : Int) : Bool := turnsB to fr && rightB fr a
def fitsB (to fr a : Int) : Bool := okTurn to fr a && (fr != 5 || to == 5 || withinB to a.toNat)
def turnI (to fr a : Int) : Int :=
  if okTurn to fr a = true then (if fr = 5 then (if to = 5 then a else wpartI to a.toNat) else if to = 5 then cutI 5 (floatOfInt .f64 (wrap64 a)) else cutI to a) else 0

theorem calm5 {a : Int} (_ha : word a) (h : rightB 5 a = true) : a.toNat % 9223372036854775808 ≤ 9218868437227405312 ∨ a.toNat = 9221120237041090560 := by
  have h2 : cutI 5 a = a := by simp [rightB] at h; exact h.2
  by_cases hn : nanI a = true
  · right
    have : cutI 5 a = 9221120237041090560 := by simp [cutI, hn]
    omega
  · left
    rw [nanI_iff] at hn; omega

set_option maxHeartbeats 1000000 in
theorem fits_any (to fr a : Int) (w : World) (ha : Hid (word a)) : Calls Try.prog 26 #[.int .u8 to, .int .u8 fr, .int .u64 a] w fun e w' => e = .returned (.bool (fitsB to fr a)) ∧ w' = w := by
  cases h1 : turnsB to fr with
  | false =>
    go_enter Try.func26, Try.ntmps26
    go_wp2_with (go_at_call 24; refine (turns_any _ _ _).mono ?_; rintro e w' ⟨rfl, rfl⟩)
    go_ret
    exact ⟨ret_bool (by simp [fitsB, okTurn, h1]), rfl⟩
  | true =>
    cases h2 : rightB fr a with
    | false =>
      go_enter Try.func26, Try.ntmps26
      go_wp2_with (first | (go_at_call 24; refine (turns_any _ _ _).mono ?_; rintro e w' ⟨rfl, rfl⟩) | (go_at_call 9; refine (right_any _ _ _ ha).mono ?_; rintro e w' ⟨rfl, rfl⟩))
      go_ret
      exact ⟨ret_bool (by simp [fitsB, okTurn, h2]), rfl⟩
    | true =>
      by_cases h5 : fr = 5
      · subst h5
        have hc : Hid (a.toNat % 9223372036854775808 ≤ 9218868437227405312 ∨ a.toNat = 9221120237041090560) := calm5 ha h2
        have f1 := run_frombits
        by_cases h6 : to = 5
        · subst h6
          go_enter Try.func26, Try.ntmps26
          go_wp2_with (first | (go_at_call 24; refine (turns_any _ _ _).mono ?_; rintro e w' ⟨rfl, rfl⟩) | (go_at_call 9; refine (right_any _ _ _ ha).mono ?_; rintro e w' ⟨rfl, rfl⟩))
          go_ret
          exact ⟨ret_bool (by simp [fitsB, okTurn, h1, h2]), rfl⟩
        · have h6' : (to == 5) = false := by simpa using h6
          go_enter Try.func26, Try.ntmps26
          go_wp2_with (first | (go_at_call 24; refine (turns_any _ _ _).mono ?_; rintro e w' ⟨rfl, rfl⟩) | (go_at_call 9; refine (right_any _ _ _ ha).mono ?_; rintro e w' ⟨rfl, rfl⟩) | (go_at_call 48; refine (within_any _ _ _ hc).mono ?_; rintro e w' ⟨rfl, rfl⟩))
          go_ret
          exact ⟨ret_bool (by simp [fitsB, okTurn, h1, h2, h6']), rfl⟩
      · have h5' : (fr != 5) = true := by simpa using h5
        go_enter Try.func26, Try.ntmps26
        go_wp2_with (first | (go_at_call 24; refine (turns_any _ _ _).mono ?_; rintro e w' ⟨rfl, rfl⟩) | (go_at_call 9; refine (right_any _ _ _ ha).mono ?_; rintro e w' ⟨rfl, rfl⟩))
        go_ret
        exact ⟨ret_bool (by simp [fitsB, okTurn, h1, h2, h5']), rfl⟩

set_option maxHeartbeats 1000000 in
theorem turn_any (to fr a : Int) (w : World) (ha : Hid (word a)) : Calls Try.prog 22 #[.int .u8 to, .int .u8 fr, .int .u64 a] w fun e w' => e = .returned (.tuple #[.int .u64 (turnI to fr a), .bool (okTurn to fr a)]) ∧ w' = w := by
  cases h1 : turnsB to fr with
  | false =>
    go_enter Try.func22, Try.ntmps22
    go_wp2_with (go_at_call 24; refine (turns_any _ _ _).mono ?_; rintro e w' ⟨rfl, rfl⟩)
    go_ret2
    exact ⟨ret_pair (by simp [turnI, okTurn, h1]) (by simp [okTurn, h1]), rfl⟩
  | true =>
    cases h2 : rightB fr a with
    | false =>
      go_enter Try.func22, Try.ntmps22
      go_wp2_with (first | (go_at_call 24; refine (turns_any _ _ _).mono ?_; rintro e w' ⟨rfl, rfl⟩) | (go_at_call 9; refine (right_any _ _ _ ha).mono ?_; rintro e w' ⟨rfl, rfl⟩))
      go_ret2
      exact ⟨ret_pair (by simp [turnI, okTurn, h2]) (by simp [okTurn, h2]), rfl⟩
    | true =>
      have hok : Hid (okTurn to fr a = true) := by
        show okTurn to fr a = true
        simp [okTurn, h1, h2]
      by_cases h5 : fr = 5
      · subst h5
        have hc : Hid (a.toNat % 9223372036854775808 ≤ 9218868437227405312 ∨ a.toNat = 9221120237041090560) := calm5 ha h2
        have f1 := run_frombits
        by_cases h6 : to = 5
        · subst h6
          go_enter Try.func22, Try.ntmps22
          go_wp2_with (first | (go_at_call 24; refine (turns_any _ _ _).mono ?_; rintro e w' ⟨rfl, rfl⟩) | (go_at_call 9; refine (right_any _ _ _ ha).mono ?_; rintro e w' ⟨rfl, rfl⟩))
          go_ret2
          exact ⟨ret_pair (by simp [turnI, hok.out]) hok.out.symm, rfl⟩
        · have h6' : (to == 5) = false := by simpa using h6
          have h6h : Hid (¬ to = 5) := h6
          clear h6
          go_enter Try.func22, Try.ntmps22
          go_wp2_with (first | (go_at_call 24; refine (turns_any _ _ _).mono ?_; rintro e w' ⟨rfl, rfl⟩) | (go_at_call 9; refine (right_any _ _ _ ha).mono ?_; rintro e w' ⟨rfl, rfl⟩) | (go_at_call 45; refine (wpart_any _ _ _ hc).mono ?_; rintro e w' ⟨rfl, rfl⟩))
          go_ret2
          exact ⟨ret_pair (by simp [turnI, hok.out, h6h.out]) hok.out.symm, rfl⟩
      · have h5' : (fr == 5) = false := by simpa using h5
        have h5h : Hid (¬ fr = 5) := h5
        clear h5
        by_cases h6 : to = 5
        · subst h6
          go_enter Try.func22, Try.ntmps22
          go_wp2_with (first | (go_at_call 24; refine (turns_any _ _ _).mono ?_; rintro e w' ⟨rfl, rfl⟩) | (go_at_call 9; refine (right_any _ _ _ ha).mono ?_; rintro e w' ⟨rfl, rfl⟩) | (go_at_call 44; refine (floatWord_any _ _).mono ?_; rintro e w' ⟨rfl, rfl⟩))
          go_ret2
          exact ⟨ret_pair (by simp [turnI, hok.out, h5h.out]) hok.out.symm, rfl⟩
        · have h6' : (to == 5) = false := by simpa using h6
          have h6h : Hid (¬ to = 5) := h6
          clear h6
          go_enter Try.func22, Try.ntmps22
          go_wp2_with (first | (go_at_call 24; refine (turns_any _ _ _).mono ?_; rintro e w' ⟨rfl, rfl⟩) | (go_at_call 9; refine (right_any _ _ _ ha).mono ?_; rintro e w' ⟨rfl, rfl⟩) | (go_at_call 11; refine (cut_any _ _ _ ha).mono ?_; rintro e w' ⟨rfl, rfl⟩))
          go_ret2
          exact ⟨ret_pair (by simp [turnI, hok.out, h5h.out, h6h.out]) hok.out.symm, rfl⟩
end Go.Proofs.Ytekgedphjbhalaa
