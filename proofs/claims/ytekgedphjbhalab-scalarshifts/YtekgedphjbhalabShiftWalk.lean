/- ScalarShifts: the walk over the contracts. -/
import Derived.Test.YtekgedphjbhalabLawParts
import Derived.Test.YtekgedphjbhalabLen
import Derived.Test.YtekgedphjbhalabShiftPlain
namespace Go.Proofs.Ytekgedphjbhalab
open Go.RowKit

theorem bne_of_eq {a b : Int} (h : a = b) : (a != b) = false := by simp [h]

set_option maxRecDepth 100000 in
set_option maxHeartbeats 1000000 in
theorem shift2_lo (k a b : Int) (p : Nat) (w : World) (k0 : 0 ≤ k) (k1 : k ≤ 255) (hk : wholeK k = 2) (wa : Hid (word a)) (wb : Hid (word b)) (hs : (cutI 2 b).tmod 8 = (p : Int)) (hp : p ≤ 63) (hb : placesI 2 (cutI 2 b) = (p : Int)) (hq : placesI 2 (p : Int) = (p : Int)) (fp : Hid (fitW 2 (p : Int))) (hc : IntKind.u64.wrap (bitsI 10 2 (cutI 2 a) (cutI 2 b) * 2 ^ p) ≤ cutI 2 a) :
    Calls Try.prog 3 #[.int .u8 k, .int .u64 a, .int .u64 b] w fun e w' => e = .returned (.bool true) ∧ w' = w := by
  have wholeC : ∀ w : World, Calls Try.prog 6 #[.int .u8 k] w fun e w' => e = .returned (.int .u8 2) ∧ w' = w := by
    intro w; rw [← hk]; exact wholeK_any k w k0 k1
  have ht : Hid (wh 2) := by unfold Hid wh; omega
  have fa : Hid (fitW 2 (cutI 2 a)) := hid_fit_cut ht a wa
  have fb : Hid (fitW 2 (cutI 2 b)) := hid_fit_cut ht b wb
  have g1 := bne_of_eq (s_up ht.out (cutI 2 a) (cutI 2 b) p hb)
  have g2 := bne_of_eq (s_same 2 (cutI 2 a) (cutI 2 b) p hb hq).1
  have g3 := bne_of_eq (s_same 2 (cutI 2 a) (cutI 2 b) p hb hq).2
  have g4 := s_right ht.out (cutI 2 a) (cutI 2 b) fa.out
  have g6 := s_len 2 (cutI 2 a) (cutI 2 b) fa.out.1
  have g7 : (bitsI 10 2 (cutI 2 a) (cutI 2 b) == IntKind.u64.wrap (wrap64 (cutI 2 a) / 2 ^ p)) = true := by rw [s_down 2 (cutI 2 a) (cutI 2 b) p hb]; simp
  have wd : Hid (word (bitsI 10 2 (cutI 2 a) (cutI 2 b))) := by rw [b10]; exact word_wrapu _
  have z1 : Hid (0 ≤ sizeI (bitsI 10 2 (cutI 2 a) (cutI 2 b)) ∧ sizeI (bitsI 10 2 (cutI 2 a) (cutI 2 b)) ≤ 18446744073709551615) := size_word wd.out
  have z2 : Hid (0 ≤ sizeI (cutI 2 a) ∧ sizeI (cutI 2 a) ≤ 18446744073709551615) := size_word fa.out.1
  clear hk k0 k1 hb hq
  go_enter Try.func3, Try.ntmps3
  go_wp2_with (first | (go_at_call 5; refine (awake_any _).mono ?_; rintro e w' ⟨rfl, rfl⟩) | (go_at_call 6; refine (wholeC _).mono ?_; rintro e w' ⟨rfl, rfl⟩) | (go_at_call 7; refine (cut_any _ _ _ ?hh).mono ?_; (case hh => first | assumption | exact word_wrap _); rintro e w' ⟨rfl, rfl⟩) | (go_at_call 8; refine (tw _ _ _ _ _ ht ?ho ?hx ?hy).mono ?_; (case ho => exact opr _ rfl); (case hx => assumption); (case hy => first | assumption | exact hid_fit_cut ht _ (word_wrap _)); rintro e w' ⟨rfl, rfl⟩) | (go_at_call 9; refine (right_any _ _ _ wd).mono ?_; rintro e w' ⟨rfl, rfl⟩) | (go_at_call 11; refine (size_any _ _).mono ?_; rintro e w' ⟨rfl, rfl⟩) | (go_at_call 10; refine (len_any _ _ ?hh).mono ?_; (case hh => assumption); rintro e w' ⟨rfl, rfl⟩))
  go_ret
  exact ⟨rfl, rfl⟩

set_option maxRecDepth 100000 in
set_option maxHeartbeats 1000000 in
theorem shift2_hi (k a b : Int) (p : Nat) (w : World) (k0 : 0 ≤ k) (k1 : k ≤ 255) (hk : wholeK k = 2) (wa : Hid (word a)) (wb : Hid (word b)) (hs : (cutI 2 b).tmod 8 = (p : Int)) (hp : p ≤ 63) (hb : placesI 2 (cutI 2 b) = (p : Int)) (hq : placesI 2 (p : Int) = (p : Int)) (fp : Hid (fitW 2 (p : Int))) (hc : cutI 2 a < IntKind.u64.wrap (bitsI 10 2 (cutI 2 a) (cutI 2 b) * 2 ^ p)) (hn : wrap64 (cutI 2 a) < 0) :
    Calls Try.prog 3 #[.int .u8 k, .int .u64 a, .int .u64 b] w fun e w' => e = .returned (.bool true) ∧ w' = w := by
  have wholeC : ∀ w : World, Calls Try.prog 6 #[.int .u8 k] w fun e w' => e = .returned (.int .u8 2) ∧ w' = w := by
    intro w; rw [← hk]; exact wholeK_any k w k0 k1
  have ht : Hid (wh 2) := by unfold Hid wh; omega
  have fa : Hid (fitW 2 (cutI 2 a)) := hid_fit_cut ht a wa
  have fb : Hid (fitW 2 (cutI 2 b)) := hid_fit_cut ht b wb
  have g1 := bne_of_eq (s_up ht.out (cutI 2 a) (cutI 2 b) p hb)
  have g2 := bne_of_eq (s_same 2 (cutI 2 a) (cutI 2 b) p hb hq).1
  have g3 := bne_of_eq (s_same 2 (cutI 2 a) (cutI 2 b) p hb hq).2
  have g4 := s_right ht.out (cutI 2 a) (cutI 2 b) fa.out
  have g6 := s_len 2 (cutI 2 a) (cutI 2 b) fa.out.1
  have g7 : (bitsI 10 2 (cutI 2 a) (cutI 2 b) == IntKind.u64.wrap (wrap64 (cutI 2 a) / 2 ^ p)) = true := by rw [s_down 2 (cutI 2 a) (cutI 2 b) p hb]; simp
  have wd : Hid (word (bitsI 10 2 (cutI 2 a) (cutI 2 b))) := by rw [b10]; exact word_wrapu _
  have z1 : Hid (0 ≤ sizeI (bitsI 10 2 (cutI 2 a) (cutI 2 b)) ∧ sizeI (bitsI 10 2 (cutI 2 a) (cutI 2 b)) ≤ 18446744073709551615) := size_word wd.out
  have z2 : Hid (0 ≤ sizeI (cutI 2 a) ∧ sizeI (cutI 2 a) ≤ 18446744073709551615) := size_word fa.out.1
  clear hk k0 k1 hb hq
  go_enter Try.func3, Try.ntmps3
  go_wp2_with (first | (go_at_call 5; refine (awake_any _).mono ?_; rintro e w' ⟨rfl, rfl⟩) | (go_at_call 6; refine (wholeC _).mono ?_; rintro e w' ⟨rfl, rfl⟩) | (go_at_call 7; refine (cut_any _ _ _ ?hh).mono ?_; (case hh => first | assumption | exact word_wrap _); rintro e w' ⟨rfl, rfl⟩) | (go_at_call 8; refine (tw _ _ _ _ _ ht ?ho ?hx ?hy).mono ?_; (case ho => exact opr _ rfl); (case hx => assumption); (case hy => first | assumption | exact hid_fit_cut ht _ (word_wrap _)); rintro e w' ⟨rfl, rfl⟩) | (go_at_call 9; refine (right_any _ _ _ wd).mono ?_; rintro e w' ⟨rfl, rfl⟩) | (go_at_call 11; refine (size_any _ _).mono ?_; rintro e w' ⟨rfl, rfl⟩) | (go_at_call 10; refine (len_any _ _ ?hh).mono ?_; (case hh => assumption); rintro e w' ⟨rfl, rfl⟩))
  go_ret
  exact ⟨rfl, rfl⟩

set_option maxRecDepth 100000 in
set_option maxHeartbeats 1000000 in
theorem shift3_lo (k a b : Int) (p : Nat) (w : World) (k0 : 0 ≤ k) (k1 : k ≤ 255) (hk : wholeK k = 3) (wa : Hid (word a)) (wb : Hid (word b)) (hs : (cutI 3 b).tmod 32 = (p : Int)) (hp : p ≤ 63) (hb : placesI 3 (cutI 3 b) = (p : Int)) (hq : placesI 3 (p : Int) = (p : Int)) (fp : Hid (fitW 3 (p : Int))) (hc : IntKind.u64.wrap (bitsI 10 3 (cutI 3 a) (cutI 3 b) * 2 ^ p) ≤ cutI 3 a) :
    Calls Try.prog 3 #[.int .u8 k, .int .u64 a, .int .u64 b] w fun e w' => e = .returned (.bool true) ∧ w' = w := by
  have wholeC : ∀ w : World, Calls Try.prog 6 #[.int .u8 k] w fun e w' => e = .returned (.int .u8 3) ∧ w' = w := by
    intro w; rw [← hk]; exact wholeK_any k w k0 k1
  have ht : Hid (wh 3) := by unfold Hid wh; omega
  have fa : Hid (fitW 3 (cutI 3 a)) := hid_fit_cut ht a wa
  have fb : Hid (fitW 3 (cutI 3 b)) := hid_fit_cut ht b wb
  have g1 := bne_of_eq (s_up ht.out (cutI 3 a) (cutI 3 b) p hb)
  have g2 := bne_of_eq (s_same 3 (cutI 3 a) (cutI 3 b) p hb hq).1
  have g3 := bne_of_eq (s_same 3 (cutI 3 a) (cutI 3 b) p hb hq).2
  have g4 := s_right ht.out (cutI 3 a) (cutI 3 b) fa.out
  have g6 := s_len 3 (cutI 3 a) (cutI 3 b) fa.out.1
  have g7 : (bitsI 10 3 (cutI 3 a) (cutI 3 b) == IntKind.u64.wrap (wrap64 (cutI 3 a) / 2 ^ p)) = true := by rw [s_down 3 (cutI 3 a) (cutI 3 b) p hb]; simp
  have wd : Hid (word (bitsI 10 3 (cutI 3 a) (cutI 3 b))) := by rw [b10]; exact word_wrapu _
  have z1 : Hid (0 ≤ sizeI (bitsI 10 3 (cutI 3 a) (cutI 3 b)) ∧ sizeI (bitsI 10 3 (cutI 3 a) (cutI 3 b)) ≤ 18446744073709551615) := size_word wd.out
  have z2 : Hid (0 ≤ sizeI (cutI 3 a) ∧ sizeI (cutI 3 a) ≤ 18446744073709551615) := size_word fa.out.1
  clear hk k0 k1 hb hq
  go_enter Try.func3, Try.ntmps3
  go_wp2_with (first | (go_at_call 5; refine (awake_any _).mono ?_; rintro e w' ⟨rfl, rfl⟩) | (go_at_call 6; refine (wholeC _).mono ?_; rintro e w' ⟨rfl, rfl⟩) | (go_at_call 7; refine (cut_any _ _ _ ?hh).mono ?_; (case hh => first | assumption | exact word_wrap _); rintro e w' ⟨rfl, rfl⟩) | (go_at_call 8; refine (tw _ _ _ _ _ ht ?ho ?hx ?hy).mono ?_; (case ho => exact opr _ rfl); (case hx => assumption); (case hy => first | assumption | exact hid_fit_cut ht _ (word_wrap _)); rintro e w' ⟨rfl, rfl⟩) | (go_at_call 9; refine (right_any _ _ _ wd).mono ?_; rintro e w' ⟨rfl, rfl⟩) | (go_at_call 11; refine (size_any _ _).mono ?_; rintro e w' ⟨rfl, rfl⟩) | (go_at_call 10; refine (len_any _ _ ?hh).mono ?_; (case hh => assumption); rintro e w' ⟨rfl, rfl⟩))
  go_ret
  exact ⟨rfl, rfl⟩

set_option maxRecDepth 100000 in
set_option maxHeartbeats 1000000 in
theorem shift3_hi (k a b : Int) (p : Nat) (w : World) (k0 : 0 ≤ k) (k1 : k ≤ 255) (hk : wholeK k = 3) (wa : Hid (word a)) (wb : Hid (word b)) (hs : (cutI 3 b).tmod 32 = (p : Int)) (hp : p ≤ 63) (hb : placesI 3 (cutI 3 b) = (p : Int)) (hq : placesI 3 (p : Int) = (p : Int)) (fp : Hid (fitW 3 (p : Int))) (hc : cutI 3 a < IntKind.u64.wrap (bitsI 10 3 (cutI 3 a) (cutI 3 b) * 2 ^ p)) (hn : wrap64 (cutI 3 a) < 0) :
    Calls Try.prog 3 #[.int .u8 k, .int .u64 a, .int .u64 b] w fun e w' => e = .returned (.bool true) ∧ w' = w := by
  have wholeC : ∀ w : World, Calls Try.prog 6 #[.int .u8 k] w fun e w' => e = .returned (.int .u8 3) ∧ w' = w := by
    intro w; rw [← hk]; exact wholeK_any k w k0 k1
  have ht : Hid (wh 3) := by unfold Hid wh; omega
  have fa : Hid (fitW 3 (cutI 3 a)) := hid_fit_cut ht a wa
  have fb : Hid (fitW 3 (cutI 3 b)) := hid_fit_cut ht b wb
  have g1 := bne_of_eq (s_up ht.out (cutI 3 a) (cutI 3 b) p hb)
  have g2 := bne_of_eq (s_same 3 (cutI 3 a) (cutI 3 b) p hb hq).1
  have g3 := bne_of_eq (s_same 3 (cutI 3 a) (cutI 3 b) p hb hq).2
  have g4 := s_right ht.out (cutI 3 a) (cutI 3 b) fa.out
  have g6 := s_len 3 (cutI 3 a) (cutI 3 b) fa.out.1
  have g7 : (bitsI 10 3 (cutI 3 a) (cutI 3 b) == IntKind.u64.wrap (wrap64 (cutI 3 a) / 2 ^ p)) = true := by rw [s_down 3 (cutI 3 a) (cutI 3 b) p hb]; simp
  have wd : Hid (word (bitsI 10 3 (cutI 3 a) (cutI 3 b))) := by rw [b10]; exact word_wrapu _
  have z1 : Hid (0 ≤ sizeI (bitsI 10 3 (cutI 3 a) (cutI 3 b)) ∧ sizeI (bitsI 10 3 (cutI 3 a) (cutI 3 b)) ≤ 18446744073709551615) := size_word wd.out
  have z2 : Hid (0 ≤ sizeI (cutI 3 a) ∧ sizeI (cutI 3 a) ≤ 18446744073709551615) := size_word fa.out.1
  clear hk k0 k1 hb hq
  go_enter Try.func3, Try.ntmps3
  go_wp2_with (first | (go_at_call 5; refine (awake_any _).mono ?_; rintro e w' ⟨rfl, rfl⟩) | (go_at_call 6; refine (wholeC _).mono ?_; rintro e w' ⟨rfl, rfl⟩) | (go_at_call 7; refine (cut_any _ _ _ ?hh).mono ?_; (case hh => first | assumption | exact word_wrap _); rintro e w' ⟨rfl, rfl⟩) | (go_at_call 8; refine (tw _ _ _ _ _ ht ?ho ?hx ?hy).mono ?_; (case ho => exact opr _ rfl); (case hx => assumption); (case hy => first | assumption | exact hid_fit_cut ht _ (word_wrap _)); rintro e w' ⟨rfl, rfl⟩) | (go_at_call 9; refine (right_any _ _ _ wd).mono ?_; rintro e w' ⟨rfl, rfl⟩) | (go_at_call 11; refine (size_any _ _).mono ?_; rintro e w' ⟨rfl, rfl⟩) | (go_at_call 10; refine (len_any _ _ ?hh).mono ?_; (case hh => assumption); rintro e w' ⟨rfl, rfl⟩))
  go_ret
  exact ⟨rfl, rfl⟩

set_option maxRecDepth 100000 in
set_option maxHeartbeats 1000000 in
theorem shift4_lo (k a b : Int) (p : Nat) (w : World) (k0 : 0 ≤ k) (k1 : k ≤ 255) (hk : wholeK k = 4) (wa : Hid (word a)) (wb : Hid (word b)) (hs : (cutI 4 b).tmod 64 = (p : Int)) (hp : p ≤ 63) (hb : placesI 4 (cutI 4 b) = (p : Int)) (hq : placesI 4 (p : Int) = (p : Int)) (fp : Hid (fitW 4 (p : Int))) (hc : IntKind.u64.wrap (bitsI 10 4 (cutI 4 a) (cutI 4 b) * 2 ^ p) ≤ cutI 4 a) :
    Calls Try.prog 3 #[.int .u8 k, .int .u64 a, .int .u64 b] w fun e w' => e = .returned (.bool true) ∧ w' = w := by
  have wholeC : ∀ w : World, Calls Try.prog 6 #[.int .u8 k] w fun e w' => e = .returned (.int .u8 4) ∧ w' = w := by
    intro w; rw [← hk]; exact wholeK_any k w k0 k1
  have ht : Hid (wh 4) := by unfold Hid wh; omega
  have fa : Hid (fitW 4 (cutI 4 a)) := hid_fit_cut ht a wa
  have fb : Hid (fitW 4 (cutI 4 b)) := hid_fit_cut ht b wb
  have g1 := bne_of_eq (s_up ht.out (cutI 4 a) (cutI 4 b) p hb)
  have g2 := bne_of_eq (s_same 4 (cutI 4 a) (cutI 4 b) p hb hq).1
  have g3 := bne_of_eq (s_same 4 (cutI 4 a) (cutI 4 b) p hb hq).2
  have g4 := s_right ht.out (cutI 4 a) (cutI 4 b) fa.out
  have g6 := s_len 4 (cutI 4 a) (cutI 4 b) fa.out.1
  have g7 : (bitsI 10 4 (cutI 4 a) (cutI 4 b) == IntKind.u64.wrap (wrap64 (cutI 4 a) / 2 ^ p)) = true := by rw [s_down 4 (cutI 4 a) (cutI 4 b) p hb]; simp
  have wd : Hid (word (bitsI 10 4 (cutI 4 a) (cutI 4 b))) := by rw [b10]; exact word_wrapu _
  have z1 : Hid (0 ≤ sizeI (bitsI 10 4 (cutI 4 a) (cutI 4 b)) ∧ sizeI (bitsI 10 4 (cutI 4 a) (cutI 4 b)) ≤ 18446744073709551615) := size_word wd.out
  have z2 : Hid (0 ≤ sizeI (cutI 4 a) ∧ sizeI (cutI 4 a) ≤ 18446744073709551615) := size_word fa.out.1
  clear hk k0 k1 hb hq
  go_enter Try.func3, Try.ntmps3
  go_wp2_with (first | (go_at_call 5; refine (awake_any _).mono ?_; rintro e w' ⟨rfl, rfl⟩) | (go_at_call 6; refine (wholeC _).mono ?_; rintro e w' ⟨rfl, rfl⟩) | (go_at_call 7; refine (cut_any _ _ _ ?hh).mono ?_; (case hh => first | assumption | exact word_wrap _); rintro e w' ⟨rfl, rfl⟩) | (go_at_call 8; refine (tw _ _ _ _ _ ht ?ho ?hx ?hy).mono ?_; (case ho => exact opr _ rfl); (case hx => assumption); (case hy => first | assumption | exact hid_fit_cut ht _ (word_wrap _)); rintro e w' ⟨rfl, rfl⟩) | (go_at_call 9; refine (right_any _ _ _ wd).mono ?_; rintro e w' ⟨rfl, rfl⟩) | (go_at_call 11; refine (size_any _ _).mono ?_; rintro e w' ⟨rfl, rfl⟩) | (go_at_call 10; refine (len_any _ _ ?hh).mono ?_; (case hh => assumption); rintro e w' ⟨rfl, rfl⟩))
  go_ret
  exact ⟨rfl, rfl⟩

set_option maxRecDepth 100000 in
set_option maxHeartbeats 1000000 in
theorem shift4_hi (k a b : Int) (p : Nat) (w : World) (k0 : 0 ≤ k) (k1 : k ≤ 255) (hk : wholeK k = 4) (wa : Hid (word a)) (wb : Hid (word b)) (hs : (cutI 4 b).tmod 64 = (p : Int)) (hp : p ≤ 63) (hb : placesI 4 (cutI 4 b) = (p : Int)) (hq : placesI 4 (p : Int) = (p : Int)) (fp : Hid (fitW 4 (p : Int))) (hc : cutI 4 a < IntKind.u64.wrap (bitsI 10 4 (cutI 4 a) (cutI 4 b) * 2 ^ p)) (hn : wrap64 (cutI 4 a) < 0) :
    Calls Try.prog 3 #[.int .u8 k, .int .u64 a, .int .u64 b] w fun e w' => e = .returned (.bool true) ∧ w' = w := by
  have wholeC : ∀ w : World, Calls Try.prog 6 #[.int .u8 k] w fun e w' => e = .returned (.int .u8 4) ∧ w' = w := by
    intro w; rw [← hk]; exact wholeK_any k w k0 k1
  have ht : Hid (wh 4) := by unfold Hid wh; omega
  have fa : Hid (fitW 4 (cutI 4 a)) := hid_fit_cut ht a wa
  have fb : Hid (fitW 4 (cutI 4 b)) := hid_fit_cut ht b wb
  have g1 := bne_of_eq (s_up ht.out (cutI 4 a) (cutI 4 b) p hb)
  have g2 := bne_of_eq (s_same 4 (cutI 4 a) (cutI 4 b) p hb hq).1
  have g3 := bne_of_eq (s_same 4 (cutI 4 a) (cutI 4 b) p hb hq).2
  have g4 := s_right ht.out (cutI 4 a) (cutI 4 b) fa.out
  have g6 := s_len 4 (cutI 4 a) (cutI 4 b) fa.out.1
  have g7 : (bitsI 10 4 (cutI 4 a) (cutI 4 b) == IntKind.u64.wrap (wrap64 (cutI 4 a) / 2 ^ p)) = true := by rw [s_down 4 (cutI 4 a) (cutI 4 b) p hb]; simp
  have wd : Hid (word (bitsI 10 4 (cutI 4 a) (cutI 4 b))) := by rw [b10]; exact word_wrapu _
  have z1 : Hid (0 ≤ sizeI (bitsI 10 4 (cutI 4 a) (cutI 4 b)) ∧ sizeI (bitsI 10 4 (cutI 4 a) (cutI 4 b)) ≤ 18446744073709551615) := size_word wd.out
  have z2 : Hid (0 ≤ sizeI (cutI 4 a) ∧ sizeI (cutI 4 a) ≤ 18446744073709551615) := size_word fa.out.1
  clear hk k0 k1 hb hq
  go_enter Try.func3, Try.ntmps3
  go_wp2_with (first | (go_at_call 5; refine (awake_any _).mono ?_; rintro e w' ⟨rfl, rfl⟩) | (go_at_call 6; refine (wholeC _).mono ?_; rintro e w' ⟨rfl, rfl⟩) | (go_at_call 7; refine (cut_any _ _ _ ?hh).mono ?_; (case hh => first | assumption | exact word_wrap _); rintro e w' ⟨rfl, rfl⟩) | (go_at_call 8; refine (tw _ _ _ _ _ ht ?ho ?hx ?hy).mono ?_; (case ho => exact opr _ rfl); (case hx => assumption); (case hy => first | assumption | exact hid_fit_cut ht _ (word_wrap _)); rintro e w' ⟨rfl, rfl⟩) | (go_at_call 9; refine (right_any _ _ _ wd).mono ?_; rintro e w' ⟨rfl, rfl⟩) | (go_at_call 11; refine (size_any _ _).mono ?_; rintro e w' ⟨rfl, rfl⟩) | (go_at_call 10; refine (len_any _ _ ?hh).mono ?_; (case hh => assumption); rintro e w' ⟨rfl, rfl⟩))
  go_ret
  exact ⟨rfl, rfl⟩

theorem shift_walk (k a b : Int) (w : World) (k0 : 0 ≤ k) (k1 : k ≤ 255) (wa : Hid (word a)) (wb : Hid (word b)) :
    Calls Try.prog 3 #[.int .u8 k, .int .u64 a, .int .u64 b] w fun e w' => e = .returned (.bool true) ∧ w' = w := by
  have hw := wh_wholeK k
  obtain ⟨p, hb, hp, hq, fp⟩ := places_of hw (cutI (wholeK k) b)
  have fa := fit_cut hw a wa
  have fb := fit_cut hw b wb
  have b0 := fb.1.1
  have low := fun h => s_low (a := cutI (wholeK k) a) fa.1 p h
  rw [← s_down (wholeK k) (cutI (wholeK k) a) (cutI (wholeK k) b) p hb] at low
  have hc : IntKind.u64.wrap (bitsI 10 (wholeK k) (cutI (wholeK k) a) (cutI (wholeK k) b) * 2 ^ p) ≤ cutI (wholeK k) a ∨ (cutI (wholeK k) a < IntKind.u64.wrap (bitsI 10 (wholeK k) (cutI (wholeK k) a) (cutI (wholeK k) b) * 2 ^ p) ∧ wrap64 (cutI (wholeK k) a) < 0) := by
    by_cases h : 0 ≤ wrap64 (cutI (wholeK k) a)
    · exact Or.inl (low h)
    · by_cases g : IntKind.u64.wrap (bitsI 10 (wholeK k) (cutI (wholeK k) a) (cutI (wholeK k) b) * 2 ^ p) ≤ cutI (wholeK k) a
      · exact Or.inl g
      · exact Or.inr ⟨by omega, by omega⟩
  clear low fa
  have hk : wholeK k = 2 ∨ wholeK k = 3 ∨ wholeK k = 4 := hw
  rcases hk with hk | hk | hk
  · rw [hk] at hb hq fp b0 hc
    have hs : (cutI 2 b).tmod 8 = (p : Int) := by
      rw [Int.tmod_eq_emod_of_nonneg b0, ← hb]; simp [placesI]
    rcases hc with hc | ⟨hc, hn⟩
    · exact shift2_lo k a b p w k0 k1 hk wa wb hs hp hb hq fp hc
    · exact shift2_hi k a b p w k0 k1 hk wa wb hs hp hb hq fp hc hn
  · rw [hk] at hb hq fp b0 hc
    have hs : (cutI 3 b).tmod 32 = (p : Int) := by
      rw [Int.tmod_eq_emod_of_nonneg b0, ← hb]; simp [placesI]
    rcases hc with hc | ⟨hc, hn⟩
    · exact shift3_lo k a b p w k0 k1 hk wa wb hs hp hb hq fp hc
    · exact shift3_hi k a b p w k0 k1 hk wa wb hs hp hb hq fp hc hn
  · rw [hk] at hb hq fp b0 hc
    have hs : (cutI 4 b).tmod 64 = (p : Int) := by
      rw [Int.tmod_eq_emod_of_nonneg b0, ← hb]; simp [placesI]
    rcases hc with hc | ⟨hc, hn⟩
    · exact shift4_lo k a b p w k0 k1 hk wa wb hs hp hb hq fp hc
    · exact shift4_hi k a b p w k0 k1 hk wa wb hs hp hb hq fp hc hn
end Go.Proofs.Ytekgedphjbhalab
