/- Contracts of the small functions of package scalar: what each returns, the world as it was. -/
import Derived.Test.YtekgedphjbhalaaRows
import Derived.Test.YtekgedphjbhalaaPlain
namespace Go.Proofs.Ytekgedphjbhalaa
open Go.RowKit

theorem run_frombits (a : Int) (w : World) : (callFunc 32 #[.int .u64 a]).run Try.prog w = .ok (.value (.float .f64 a.toNat)) w := by kernel_rfl
theorem run_bits (x : Nat) (w : World) : (callFunc 28 #[.float .f64 x]).run Try.prog w = .ok (.value (.int .u64 x)) w := by kernel_rfl

set_option maxHeartbeats 400000 in
theorem cut_any (t a : Int) (w : World) (ha : Hid (word a)) :
    Calls Try.prog 11 #[.int .u8 t, .int .u64 a] w fun e w' => e = .returned (.int .u64 (cutI t a)) ∧ w' = w := by
  have f1 := run_frombits
  by_cases h1 : t = 1
  · subst h1
    go_enter Try.func11, Try.ntmps11
    go_wp2
    go_ret
    exact ⟨ret_u64 (and_one a ha.out), rfl⟩
  by_cases h2 : t = 2
  · subst h2
    go_enter Try.func11, Try.ntmps11
    go_wp2
    go_ret
    exact ⟨rfl, rfl⟩
  by_cases h3 : t = 3
  · subst h3
    go_enter Try.func11, Try.ntmps11
    go_wp2
    go_ret
    exact ⟨rfl, rfl⟩
  by_cases h4 : t = 4
  · subst h4
    go_enter Try.func11, Try.ntmps11
    go_wp2
    go_ret
    exact ⟨rfl, rfl⟩
  by_cases h5 : t = 5
  · subst h5
    by_cases hn : (FloatKind.f64.format.order a.toNat a.toNat != some .eq) = true
    · go_enter Try.func11, Try.ntmps11
      go_wp2
      go_ret
      exact ⟨ret_u64 (by simp [cutI, nanI, hn]), rfl⟩
    · have hn' : (FloatKind.f64.format.order a.toNat a.toNat != some .eq) = false := by simpa using hn
      go_enter Try.func11, Try.ntmps11
      go_wp2
      go_ret
      exact ⟨ret_u64 (by simp [cutI, nanI, hn']), rfl⟩
  · go_enter Try.func11, Try.ntmps11
    go_wp2
    go_ret
    exact ⟨ret_u64 (by simp [cutI, h1, h2, h3, h4, h5]), rfl⟩

set_option maxHeartbeats 400000 in
theorem whole_any (t : Int) (w : World) : Calls Try.prog 37 #[.int .u8 t] w fun e w' => e = .returned (.bool (wholeB t)) ∧ w' = w := by
  go_enter Try.func37, Try.ntmps37
  go_wp2
  all_goals go_ret
  all_goals exact ⟨ret_bool (by simp_all [wholeB]), rfl⟩

set_option maxHeartbeats 400000 in
theorem number_any (t : Int) (w : World) : Calls Try.prog 36 #[.int .u8 t] w fun e w' => e = .returned (.bool (numberB t)) ∧ w' = w := by
  by_cases h : t = 5
  · subst h
    go_enter Try.func36, Try.ntmps36
    go_wp2
    go_ret
    exact ⟨rfl, rfl⟩
  · have h' : (t == 5) = false := by simpa using h
    go_enter Try.func36, Try.ntmps36
    go_wp2_with (go_at_call 37; refine (whole_any _ _).mono ?_; rintro e w' ⟨rfl, rfl⟩)
    go_ret
    exact ⟨ret_bool (by simp [numberB, h']), rfl⟩

set_option maxHeartbeats 400000 in
theorem typed_any (t : Int) (w : World) : Calls Try.prog 33 #[.int .u8 t] w fun e w' => e = .returned (.bool (typedB t)) ∧ w' = w := by
  by_cases h : t = 1
  · subst h
    go_enter Try.func33, Try.ntmps33
    go_wp2
    go_ret
    exact ⟨rfl, rfl⟩
  · have h' : (t == 1) = false := by simpa using h
    go_enter Try.func33, Try.ntmps33
    go_wp2_with (go_at_call 36; refine (number_any _ _).mono ?_; rintro e w' ⟨rfl, rfl⟩)
    go_ret
    exact ⟨ret_bool (by simp [typedB, h']), rfl⟩

set_option maxHeartbeats 400000 in
theorem right_any (t a : Int) (w : World) (ha : Hid (word a)) :
    Calls Try.prog 9 #[.int .u8 t, .int .u64 a] w fun e w' => e = .returned (.bool (rightB t a)) ∧ w' = w := by
  by_cases h : typedB t = true
  · go_enter Try.func9, Try.ntmps9
    go_wp2_with (first | (go_at_call 33; refine (typed_any _ _).mono ?_; rintro e w' ⟨rfl, rfl⟩) | (go_at_call 11; refine (cut_any _ _ _ ha).mono ?_; rintro e w' ⟨rfl, rfl⟩))
    go_ret
    exact ⟨ret_bool (by simp [rightB, h]), rfl⟩
  · have h' : typedB t = false := by simpa using h
    go_enter Try.func9, Try.ntmps9
    go_wp2_with (first | (go_at_call 33; refine (typed_any _ _).mono ?_; rintro e w' ⟨rfl, rfl⟩))
    go_ret
    exact ⟨ret_bool (by simp [rightB, h']), rfl⟩

set_option maxHeartbeats 1000000 in
theorem of_any (o t : Int) (w : World) :
    Calls Try.prog 14 #[.int .u8 o, .int .u8 t] w fun e w' => e = .returned (.tuple #[.int .u8 (ofT o t), .bool (ofB o t)]) ∧ w' = w := by
  go_enter Try.func14, Try.ntmps14
  go_wp2_with (first | (go_at_call 36; refine (number_any _ _).mono ?_; rintro e w' ⟨rfl, rfl⟩) | (go_at_call 37; refine (whole_any _ _).mono ?_; rintro e w' ⟨rfl, rfl⟩))
  all_goals go_ret2
  all_goals exact ⟨ret_pair (by simp_all [ofT, typedB]) (by simp_all [ofB, typedB]), rfl⟩

set_option maxHeartbeats 400000 in
theorem ofOne_any (o : Int) (w : World) : Calls Try.prog 39 #[.int .u8 o] w fun e w' => e = .returned (.bool (oneB o)) ∧ w' = w := by
  by_cases h : o = 17
  · subst h
    go_enter Try.func39, Try.ntmps39
    go_wp2
    go_ret
    exact ⟨rfl, rfl⟩
  · have h' : (o == 17) = false := by simpa using h
    go_enter Try.func39, Try.ntmps39
    go_wp2
    go_ret
    exact ⟨ret_bool (by simp [oneB, h']), rfl⟩

set_option maxHeartbeats 400000 in
theorem truth_any (x : Bool) (w : World) : Calls Try.prog 49 #[.bool x] w fun e w' => e = .returned (.int .u64 (truthI x)) ∧ w' = w := by
  cases x
  all_goals
    go_enter Try.func49, Try.ntmps49
    go_wp2
    go_ret
    exact ⟨rfl, rfl⟩

set_option maxHeartbeats 400000 in
theorem places_any (t b : Int) (w : World) (hb : Hid (word b)) : Calls Try.prog 52 #[.int .u8 t, .int .u64 b] w fun e w' => e = .returned (.int .u64 (placesI t b)) ∧ w' = w := by
  go_enter Try.func52, Try.ntmps52
  go_wp2
  all_goals go_ret
  · exact ⟨ret_u64 (by rw [and_seven b hb.out]; simp_all [placesI]), rfl⟩
  · exact ⟨ret_u64 (by rw [and_31 b hb.out]; simp_all [placesI]), rfl⟩
  · exact ⟨ret_u64 (by rw [and_63 b hb.out]; simp_all [placesI]), rfl⟩

set_option maxHeartbeats 400000 in
theorem cmp_any (o a b : Int) (w : World) : Calls Try.prog 53 #[.int .u8 o, .int .i64 a, .int .i64 b] w fun e w' => e = .returned (.bool (cmpB o a b)) ∧ w' = w := by
  go_enter Try.func53, Try.ntmps53
  go_wp2
  all_goals go_ret
  all_goals exact ⟨ret_bool (by simp_all [cmpB]), rfl⟩
end Go.Proofs.Ytekgedphjbhalaa
