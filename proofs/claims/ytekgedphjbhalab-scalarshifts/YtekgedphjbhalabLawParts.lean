/- Contracts of the small functions that the outright statements share: whole, two, size. -/
import Derived.Test.YtekgedphjbhalabTwo
import Derived.Test.YtekgedphjbhalabRingPlain
namespace Go.Proofs.Ytekgedphjbhalab
open Go.RowKit

def wholeK (k : Int) : Int := 2 + k % 3
theorem wh_wholeK (k : Int) : wh (wholeK k) := by unfold wh wholeK; omega

set_option maxHeartbeats 400000 in
theorem wholeK_any (k : Int) (w : World) (h0 : 0 ≤ k) (h1 : k ≤ 255) : Calls Try.prog 6 #[.int .u8 k] w fun e w' => e = .returned (.int .u8 (wholeK k)) ∧ w' = w := by
  go_enter Try.func6, Try.ntmps6
  go_wp2
  go_ret
  exact ⟨rfl, rfl⟩

set_option maxHeartbeats 400000 in
theorem size_any (x : Int) (w : World) : Calls Try.prog 11 #[.int .u64 x] w fun e w' => e = .returned (.int .u64 (sizeI x)) ∧ w' = w := by
  by_cases h : wrap64 x < 0
  · go_enter Try.func11, Try.ntmps11
    go_wp2
    go_ret
    exact ⟨ret_u64 (by simp [sizeI, h]), rfl⟩
  · go_enter Try.func11, Try.ntmps11
    go_wp2
    go_ret
    exact ⟨ret_u64 (by rw [sizeI, if_neg (by omega)]), rfl⟩

theorem ok_whole {o t x y : Int} (ht : wh t) (ho : 1 ≤ o ∧ o ≤ 16) (hx : fitW t x) (hy : fitW t y) : okTwo o t x y = true := by
  have h1 := fit_right ht hx
  have h2 := fit_right ht hy
  have h3 : ofB o t = true := by
    rcases ht with rfl | rfl | rfl
    all_goals
      have hh : o = 1 ∨ o = 2 ∨ o = 3 ∨ o = 4 ∨ o = 5 ∨ o = 6 ∨ o = 7 ∨ o = 8 ∨ o = 9 ∨ o = 10 ∨ o = 11 ∨ o = 12 ∨ o = 13 ∨ o = 14 ∨ o = 15 ∨ o = 16 := by omega
      rcases hh with rfl | rfl | rfl | rfl | rfl | rfl | rfl | rfl | rfl | rfl | rfl | rfl | rfl | rfl | rfl | rfl <;> decide
  have h4 : oneB o = false := by
    simp [oneB]; omega
  simp [okTwo, h1, h2, h3, h4]

set_option maxHeartbeats 400000 in
theorem two_whole (o t x y : Int) (w : World) (ht : Hid (wh t)) (ho : Hid (1 ≤ o ∧ o ≤ 16)) (hx : Hid (fitW t x)) (hy : Hid (fitW t y)) :
    Calls Try.prog 17 #[.int .u8 o, .int .u8 t, .int .u64 x, .int .u64 y] w fun e w' => e = .returned (.tuple #[.int .u64 (bitsI o t x y), .bool true]) ∧ w' = w := by
  have hok := ok_whole ht.out ho.out hx.out hy.out
  have hc : ofB o t = true ∧ oneB o = false ∧ rightB t x = true ∧ rightB t y = true := by
    unfold okTwo at hok
    cases h1 : ofB o t <;> cases h2 : oneB o <;> cases h3 : rightB t x <;> cases h4 : rightB t y <;> simp_all
  obtain ⟨h1, h2, h3, h4⟩ := hc
  have h5 : (t == 5) = false := by rcases ht.out with h | h | h <;> rw [h] <;> decide
  have hxw : Hid (word x) := hx.out.1
  have hyw : Hid (word y) := hy.out.1
  clear hok
  go_enter Try.func17, Try.ntmps17
  go_wp2_with (first | (go_at_call 19; refine (of_any _ _ _).mono ?_; rintro e w' ⟨rfl, rfl⟩) | (go_at_call 28; refine (ofOne_any _ _).mono ?_; rintro e w' ⟨rfl, rfl⟩) | (go_at_call 9; refine (right_any _ _ _ ?hh).mono ?_; (case hh => assumption); rintro e w' ⟨rfl, rfl⟩) | (go_at_call 30; refine (bits_any _ _ _ _ _ hyw).mono ?_; rintro e w' ⟨rfl, rfl⟩))
  go_ret2
  exact ⟨rfl, rfl⟩

set_option maxHeartbeats 400000 in
theorem tw (o t x y : Int) (w : World) (ht : Hid (wh t)) (ho : Hid (1 ≤ o ∧ o ≤ 16)) (hx : Hid (fitW t x)) (hy : Hid (fitW t y)) :
    Calls Try.prog 8 #[.int .u8 o, .int .u8 t, .int .u64 x, .int .u64 y] w fun e w' => e = .returned (.int .u64 (bitsI o t x y)) ∧ w' = w := by
  go_enter Try.func8, Try.ntmps8
  go_wp2_with (go_at_call 17; refine (two_whole _ _ _ _ _ ht ho hx hy).mono ?_; rintro e w' ⟨rfl, rfl⟩)
  go_ret
  exact ⟨rfl, rfl⟩

theorem opr (o : Int) (h : decide (1 ≤ o ∧ o ≤ 16) = true) : Hid (1 ≤ o ∧ o ≤ 16) := by
  have g : 1 ≤ o ∧ o ≤ 16 := of_decide_eq_true h
  exact g
theorem hid_fit_b {t : Int} (h : Hid (wh t)) (o x y : Int) (ho : o = 1 ∨ o = 2 ∨ o = 3 ∨ o = 4 ∨ o = 5) : Hid (fitW t (bitsI o t x y)) := fit_b h.out o x y ho
theorem hid_fit_cut {t : Int} (h : Hid (wh t)) (x : Int) (hx : Hid (word x)) : Hid (fitW t (cutI t x)) := fit_cut h.out x hx.out
theorem hid_word_fit {t x : Int} (h : Hid (fitW t x)) : Hid (word x) := h.out.1

set_option maxHeartbeats 400000 in
theorem neg_whole (t x : Int) (w : World) (ht : Hid (wh t)) (hx : Hid (fitW t x)) :
    Calls Try.prog 18 #[.int .u8 17, .int .u8 t, .int .u64 x] w fun e w' => e = .returned (.tuple #[.int .u64 (cutI t (IntKind.u64.wrap (0 - x))), .bool true]) ∧ w' = w := by
  have hok : okOne 17 t x = true := by
    have h1 := fit_right ht.out hx.out
    have h2 : ofB 17 t = true := by rcases ht.out with h | h | h <;> rw [h] <;> decide
    simp [okOne, h1, h2, oneB]
  have h5 : t ≠ 5 := by rcases ht.out with h | h | h <;> omega
  refine (one_yes 17 t x w hx.out.1 hok).mono ?_
  rintro e w' ⟨rfl, rfl⟩
  exact ⟨ret_pair (by simp [h5]) rfl, rfl⟩

theorem not_whole (t x : Int) (w : World) (ht : Hid (wh t)) (hx : Hid (fitW t x)) :
    Calls Try.prog 18 #[.int .u8 18, .int .u8 t, .int .u64 x] w fun e w' => e = .returned (.tuple #[.int .u64 (cutI t (bits .xor .u64 18446744073709551615 x)), .bool true]) ∧ w' = w := by
  have hok : okOne 18 t x = true := by
    have h1 := fit_right ht.out hx.out
    have h2 : ofB 18 t = true := by rcases ht.out with h | h | h <;> rw [h] <;> decide
    simp [okOne, h1, h2, oneB]
  refine (one_yes 18 t x w hx.out.1 hok).mono ?_
  rintro e w' ⟨rfl, rfl⟩
  exact ⟨rfl, rfl⟩

def oneW (o t x : Int) : Int := if o = 18 then cutI t (bits .xor .u64 18446744073709551615 x) else cutI t (IntKind.u64.wrap (0 - x))
theorem one_whole (o t x : Int) (w : World) (ht : Hid (wh t)) (ho : Hid (o = 17 ∨ o = 18)) (hx : Hid (fitW t x)) :
    Calls Try.prog 18 #[.int .u8 o, .int .u8 t, .int .u64 x] w fun e w' => e = .returned (.tuple #[.int .u64 (oneW o t x), .bool true]) ∧ w' = w := by
  rcases ho.out with rfl | rfl
  · exact neg_whole t x w ht hx
  · exact not_whole t x w ht hx
theorem op17 : Hid ((17 : Int) = 17 ∨ (17 : Int) = 18) := Or.inl rfl
theorem op18 : Hid ((18 : Int) = 17 ∨ (18 : Int) = 18) := Or.inr rfl
theorem oneW17 (t x : Int) : oneW 17 t x = cutI t (IntKind.u64.wrap (0 - x)) := by simp [oneW]
theorem oneW18 (t x : Int) : oneW 18 t x = cutI t (bits .xor .u64 18446744073709551615 x) := by simp [oneW]
end Go.Proofs.Ytekgedphjbhalab
