/- The walk of ScalarRing over the contracts. -/
import Derived.Test.YtekgedphjbhalaaLawParts
import Derived.Test.YtekgedphjbhalaaStops
namespace Go.Proofs.Ytekgedphjbhalaa
open Go.RowKit

theorem bne_of_eq {a b : Int} (h : a = b) : (a != b) = false := by simp [h]
theorem stops_yes {o t b : Int} (ht : wh t) (ho : o = 4 ∨ o = 5) (hb : b = 0) : stopsB o t b = true := by
  have h1 : wholeB t = true := by rcases ht with rfl | rfl | rfl <;> decide
  rcases ho with rfl | rfl <;> simp [stopsB, h1, hb]

set_option maxRecDepth 100000 in
set_option maxHeartbeats 4000000 in
theorem ring_zero (k a b c : Int) (w : World) (k0 : 0 ≤ k) (k1 : k ≤ 255) (wa : Hid (word a)) (wb : Hid (word b)) (wc : Hid (word c)) (hb : cutI (wholeK k) b = 0) :
    Calls Try.prog 7 #[.int .u8 k, .int .u64 a, .int .u64 b, .int .u64 c] w fun e w' => e = .returned (.bool true) ∧ w' = w := by
  have ht : Hid (wh (wholeK k)) := wh_wholeK k
  have fa : Hid (fitW (wholeK k) (cutI (wholeK k) a)) := hid_fit_cut ht a wa
  have fb : Hid (fitW (wholeK k) (cutI (wholeK k) b)) := hid_fit_cut ht b wb
  have fc : Hid (fitW (wholeK k) (cutI (wholeK k) c)) := hid_fit_cut ht c wc
  have g1 := bne_of_eq (r_addcomm (wholeK k) (cutI (wholeK k) a) (cutI (wholeK k) b))
  have g2 := bne_of_eq (r_mulcomm (wholeK k) (cutI (wholeK k) a) (cutI (wholeK k) b))
  have g3 := fit_right ht.out (fit_b ht.out 1 (cutI (wholeK k) a) (cutI (wholeK k) b) (by simp))
  have g4 := fit_right ht.out (fit_b ht.out 3 (cutI (wholeK k) a) (cutI (wholeK k) b) (by simp))
  have g5 := bne_of_eq (b1 (wholeK k) (cutI (wholeK k) a) (cutI (wholeK k) b))
  have g6 := bne_of_eq (b3 (wholeK k) (cutI (wholeK k) a) (cutI (wholeK k) b))
  have g7 := bne_of_eq (r_addassoc ht.out (cutI (wholeK k) a) (cutI (wholeK k) b) (cutI (wholeK k) c))
  have g8 := bne_of_eq (r_mulassoc ht.out (cutI (wholeK k) a) (cutI (wholeK k) b) (cutI (wholeK k) c))
  have g9 := bne_of_eq (r_back ht.out (cutI (wholeK k) a) (cutI (wholeK k) b) fa.out)
  have g10 := bne_of_eq (r_dist ht.out (cutI (wholeK k) a) (cutI (wholeK k) b) (cutI (wholeK k) c))
  have g11 : (bitsI 1 (wholeK k) (cutI (wholeK k) a) (oneW 17 (wholeK k) (cutI (wholeK k) b)) != bitsI 2 (wholeK k) (cutI (wholeK k) a) (cutI (wholeK k) b)) = false := bne_of_eq (by rw [oneW17]; exact r_neg ht.out (cutI (wholeK k) a) (cutI (wholeK k) b))
  have g12 : (bitsI 1 (wholeK k) (oneW 18 (wholeK k) (cutI (wholeK k) b)) 1 != oneW 17 (wholeK k) (cutI (wholeK k) b)) = false := bne_of_eq (by rw [oneW17, oneW18]; exact r_not ht.out (cutI (wholeK k) b) fb.out.1)
  have fm : Hid (fitW (wholeK k) (oneW 17 (wholeK k) (cutI (wholeK k) b))) := by rw [oneW17]; exact fit_cut ht.out _ (word_wrapu _)
  have fn : Hid (fitW (wholeK k) (oneW 18 (wholeK k) (cutI (wholeK k) b))) := by rw [oneW18]; exact fit_cut ht.out _ (word_xor _ fb.out.1)
  have f1 : Hid (fitW (wholeK k) 1) := fit_one ht.out
  have z1 : (cutI (wholeK k) b == 0) = true := by simp [hb]
  have z2 : (bitsI 4 (wholeK k) (cutI (wholeK k) a) (cutI (wholeK k) b) == 0) = true := by rw [hb, b4]; simp [divI, wrap64]
  have z3 : (bitsI 5 (wholeK k) (cutI (wholeK k) a) (cutI (wholeK k) b) == 0) = true := by rw [hb, b5]; simp [divI, wrap64]
  have z4 : stopsB 4 (wholeK k) (cutI (wholeK k) b) = true := stops_yes ht.out (by simp) hb
  have z5 : stopsB 5 (wholeK k) (cutI (wholeK k) b) = true := stops_yes ht.out (by simp) hb
  clear hb
  generalize hT : wholeK k = T at *
  have wholeC : ∀ w : World, Calls Try.prog 29 #[.int .u8 k] w fun e w' => e = .returned (.int .u8 T) ∧ w' = w := by
    intro w; rw [← hT]; exact wholeK_any k w k0 k1
  clear hT k0 k1
  go_enter Try.func7, Try.ntmps7
  go_wp2_with (first | (go_at_call 13; refine (awake_any _).mono ?_; rintro e w' ⟨rfl, rfl⟩) | (go_at_call 29; refine (wholeC _).mono ?_; rintro e w' ⟨rfl, rfl⟩) | (go_at_call 11; refine (cut_any _ _ _ ?hh).mono ?_; (case hh => first | assumption | exact word_wrap _); rintro e w' ⟨rfl, rfl⟩) | (go_at_call 9; refine (right_any _ _ _ ?hh).mono ?_; (case hh => first | assumption | exact hid_word_fit (hid_fit_b ht _ _ _ (by simp))); rintro e w' ⟨rfl, rfl⟩) | (go_at_call 30; refine (tw _ _ _ _ _ ht ?ho ?hx ?hy).mono ?_; (case ho => exact opr _ rfl); (case hx => first | assumption | exact hid_fit_b ht _ _ _ (by simp)); (case hy => first | assumption | exact hid_fit_b ht _ _ _ (by simp)); rintro e w' ⟨rfl, rfl⟩) | (go_at_call 18; refine (one_whole _ _ _ _ ht ?ho fb).mono ?_; (case ho => first | exact op17 | exact op18); rintro e w' ⟨rfl, rfl⟩) | (go_at_call 20; refine (stops_any _ _ _ _).mono ?_; rintro e w' ⟨rfl, rfl⟩) | (go_at_call 31; refine (size_any _ _).mono ?_; rintro e w' ⟨rfl, rfl⟩))
  go_ret
  exact ⟨rfl, rfl⟩

set_option maxRecDepth 100000 in
set_option maxHeartbeats 4000000 in
theorem ring_even (k a b c : Int) (w : World) (k0 : 0 ≤ k) (k1 : k ≤ 255) (wa : Hid (word a)) (wb : Hid (word b)) (wc : Hid (word c)) (hb : cutI (wholeK k) b ≠ 0) (hr : bitsI 5 (wholeK k) (cutI (wholeK k) a) (cutI (wholeK k) b) = 0) :
    Calls Try.prog 7 #[.int .u8 k, .int .u64 a, .int .u64 b, .int .u64 c] w fun e w' => e = .returned (.bool true) ∧ w' = w := by
  have ht : Hid (wh (wholeK k)) := wh_wholeK k
  have fa : Hid (fitW (wholeK k) (cutI (wholeK k) a)) := hid_fit_cut ht a wa
  have fb : Hid (fitW (wholeK k) (cutI (wholeK k) b)) := hid_fit_cut ht b wb
  have fc : Hid (fitW (wholeK k) (cutI (wholeK k) c)) := hid_fit_cut ht c wc
  have g1 := bne_of_eq (r_addcomm (wholeK k) (cutI (wholeK k) a) (cutI (wholeK k) b))
  have g2 := bne_of_eq (r_mulcomm (wholeK k) (cutI (wholeK k) a) (cutI (wholeK k) b))
  have g3 := fit_right ht.out (fit_b ht.out 1 (cutI (wholeK k) a) (cutI (wholeK k) b) (by simp))
  have g4 := fit_right ht.out (fit_b ht.out 3 (cutI (wholeK k) a) (cutI (wholeK k) b) (by simp))
  have g5 := bne_of_eq (b1 (wholeK k) (cutI (wholeK k) a) (cutI (wholeK k) b))
  have g6 := bne_of_eq (b3 (wholeK k) (cutI (wholeK k) a) (cutI (wholeK k) b))
  have g7 := bne_of_eq (r_addassoc ht.out (cutI (wholeK k) a) (cutI (wholeK k) b) (cutI (wholeK k) c))
  have g8 := bne_of_eq (r_mulassoc ht.out (cutI (wholeK k) a) (cutI (wholeK k) b) (cutI (wholeK k) c))
  have g9 := bne_of_eq (r_back ht.out (cutI (wholeK k) a) (cutI (wholeK k) b) fa.out)
  have g10 := bne_of_eq (r_dist ht.out (cutI (wholeK k) a) (cutI (wholeK k) b) (cutI (wholeK k) c))
  have g11 : (bitsI 1 (wholeK k) (cutI (wholeK k) a) (oneW 17 (wholeK k) (cutI (wholeK k) b)) != bitsI 2 (wholeK k) (cutI (wholeK k) a) (cutI (wholeK k) b)) = false := bne_of_eq (by rw [oneW17]; exact r_neg ht.out (cutI (wholeK k) a) (cutI (wholeK k) b))
  have g12 : (bitsI 1 (wholeK k) (oneW 18 (wholeK k) (cutI (wholeK k) b)) 1 != oneW 17 (wholeK k) (cutI (wholeK k) b)) = false := bne_of_eq (by rw [oneW17, oneW18]; exact r_not ht.out (cutI (wholeK k) b) fb.out.1)
  have fm : Hid (fitW (wholeK k) (oneW 17 (wholeK k) (cutI (wholeK k) b))) := by rw [oneW17]; exact fit_cut ht.out _ (word_wrapu _)
  have fn : Hid (fitW (wholeK k) (oneW 18 (wholeK k) (cutI (wholeK k) b))) := by rw [oneW18]; exact fit_cut ht.out _ (word_xor _ fb.out.1)
  have f1 : Hid (fitW (wholeK k) 1) := fit_one ht.out
  have z1 : (cutI (wholeK k) b == 0) = false := by simpa using hb
  have z2 : (bitsI 1 (wholeK k) (bitsI 3 (wholeK k) (bitsI 4 (wholeK k) (cutI (wholeK k) a) (cutI (wholeK k) b)) (cutI (wholeK k) b)) (bitsI 5 (wholeK k) (cutI (wholeK k) a) (cutI (wholeK k) b)) == cutI (wholeK k) a) = true := by
    rw [r_div ht.out _ _ fa.out (nz fb.out.1 hb)]; simp
  have z3 := near_lt ht.out fa.out fb.out hb
  have z4 : stopsB 4 (wholeK k) (cutI (wholeK k) b) = false := by simp [stopsB, hb]
  have z5 := fit_right ht.out (fit_b ht.out 4 (cutI (wholeK k) a) (cutI (wholeK k) b) (by simp))
  have z6 := fit_right ht.out (fit_b ht.out 5 (cutI (wholeK k) a) (cutI (wholeK k) b) (by simp))
  have z7 : (bitsI 5 (wholeK k) (cutI (wholeK k) a) (cutI (wholeK k) b) == 0) = true := by simpa using hr
  clear hb hr
  generalize hT : wholeK k = T at *
  have wholeC : ∀ w : World, Calls Try.prog 29 #[.int .u8 k] w fun e w' => e = .returned (.int .u8 T) ∧ w' = w := by
    intro w; rw [← hT]; exact wholeK_any k w k0 k1
  clear hT k0 k1
  go_enter Try.func7, Try.ntmps7
  go_wp2_with (first | (go_at_call 13; refine (awake_any _).mono ?_; rintro e w' ⟨rfl, rfl⟩) | (go_at_call 29; refine (wholeC _).mono ?_; rintro e w' ⟨rfl, rfl⟩) | (go_at_call 11; refine (cut_any _ _ _ ?hh).mono ?_; (case hh => first | assumption | exact word_wrap _); rintro e w' ⟨rfl, rfl⟩) | (go_at_call 9; refine (right_any _ _ _ ?hh).mono ?_; (case hh => first | assumption | exact hid_word_fit (hid_fit_b ht _ _ _ (by simp))); rintro e w' ⟨rfl, rfl⟩) | (go_at_call 30; refine (tw _ _ _ _ _ ht ?ho ?hx ?hy).mono ?_; (case ho => exact opr _ rfl); (case hx => first | assumption | exact hid_fit_b ht _ _ _ (by simp)); (case hy => first | assumption | exact hid_fit_b ht _ _ _ (by simp)); rintro e w' ⟨rfl, rfl⟩) | (go_at_call 18; refine (one_whole _ _ _ _ ht ?ho fb).mono ?_; (case ho => first | exact op17 | exact op18); rintro e w' ⟨rfl, rfl⟩) | (go_at_call 20; refine (stops_any _ _ _ _).mono ?_; rintro e w' ⟨rfl, rfl⟩) | (go_at_call 31; refine (size_any _ _).mono ?_; rintro e w' ⟨rfl, rfl⟩))
  go_ret
  exact ⟨rfl, rfl⟩

set_option maxRecDepth 100000 in
set_option maxHeartbeats 4000000 in
theorem ring_rest (k a b c : Int) (w : World) (k0 : 0 ≤ k) (k1 : k ≤ 255) (wa : Hid (word a)) (wb : Hid (word b)) (wc : Hid (word c)) (hb : cutI (wholeK k) b ≠ 0) (hr : bitsI 5 (wholeK k) (cutI (wholeK k) a) (cutI (wholeK k) b) ≠ 0) :
    Calls Try.prog 7 #[.int .u8 k, .int .u64 a, .int .u64 b, .int .u64 c] w fun e w' => e = .returned (.bool true) ∧ w' = w := by
  have ht : Hid (wh (wholeK k)) := wh_wholeK k
  have fa : Hid (fitW (wholeK k) (cutI (wholeK k) a)) := hid_fit_cut ht a wa
  have fb : Hid (fitW (wholeK k) (cutI (wholeK k) b)) := hid_fit_cut ht b wb
  have fc : Hid (fitW (wholeK k) (cutI (wholeK k) c)) := hid_fit_cut ht c wc
  have g1 := bne_of_eq (r_addcomm (wholeK k) (cutI (wholeK k) a) (cutI (wholeK k) b))
  have g2 := bne_of_eq (r_mulcomm (wholeK k) (cutI (wholeK k) a) (cutI (wholeK k) b))
  have g3 := fit_right ht.out (fit_b ht.out 1 (cutI (wholeK k) a) (cutI (wholeK k) b) (by simp))
  have g4 := fit_right ht.out (fit_b ht.out 3 (cutI (wholeK k) a) (cutI (wholeK k) b) (by simp))
  have g5 := bne_of_eq (b1 (wholeK k) (cutI (wholeK k) a) (cutI (wholeK k) b))
  have g6 := bne_of_eq (b3 (wholeK k) (cutI (wholeK k) a) (cutI (wholeK k) b))
  have g7 := bne_of_eq (r_addassoc ht.out (cutI (wholeK k) a) (cutI (wholeK k) b) (cutI (wholeK k) c))
  have g8 := bne_of_eq (r_mulassoc ht.out (cutI (wholeK k) a) (cutI (wholeK k) b) (cutI (wholeK k) c))
  have g9 := bne_of_eq (r_back ht.out (cutI (wholeK k) a) (cutI (wholeK k) b) fa.out)
  have g10 := bne_of_eq (r_dist ht.out (cutI (wholeK k) a) (cutI (wholeK k) b) (cutI (wholeK k) c))
  have g11 : (bitsI 1 (wholeK k) (cutI (wholeK k) a) (oneW 17 (wholeK k) (cutI (wholeK k) b)) != bitsI 2 (wholeK k) (cutI (wholeK k) a) (cutI (wholeK k) b)) = false := bne_of_eq (by rw [oneW17]; exact r_neg ht.out (cutI (wholeK k) a) (cutI (wholeK k) b))
  have g12 : (bitsI 1 (wholeK k) (oneW 18 (wholeK k) (cutI (wholeK k) b)) 1 != oneW 17 (wholeK k) (cutI (wholeK k) b)) = false := bne_of_eq (by rw [oneW17, oneW18]; exact r_not ht.out (cutI (wholeK k) b) fb.out.1)
  have fm : Hid (fitW (wholeK k) (oneW 17 (wholeK k) (cutI (wholeK k) b))) := by rw [oneW17]; exact fit_cut ht.out _ (word_wrapu _)
  have fn : Hid (fitW (wholeK k) (oneW 18 (wholeK k) (cutI (wholeK k) b))) := by rw [oneW18]; exact fit_cut ht.out _ (word_xor _ fb.out.1)
  have f1 : Hid (fitW (wholeK k) 1) := fit_one ht.out
  have z1 : (cutI (wholeK k) b == 0) = false := by simpa using hb
  have z2 : (bitsI 1 (wholeK k) (bitsI 3 (wholeK k) (bitsI 4 (wholeK k) (cutI (wholeK k) a) (cutI (wholeK k) b)) (cutI (wholeK k) b)) (bitsI 5 (wholeK k) (cutI (wholeK k) a) (cutI (wholeK k) b)) == cutI (wholeK k) a) = true := by
    rw [r_div ht.out _ _ fa.out (nz fb.out.1 hb)]; simp
  have z3 := near_lt ht.out fa.out fb.out hb
  have z4 : stopsB 4 (wholeK k) (cutI (wholeK k) b) = false := by simp [stopsB, hb]
  have z5 := fit_right ht.out (fit_b ht.out 4 (cutI (wholeK k) a) (cutI (wholeK k) b) (by simp))
  have z6 := fit_right ht.out (fit_b ht.out 5 (cutI (wholeK k) a) (cutI (wholeK k) b) (by simp))
  have z7 : (bitsI 5 (wholeK k) (cutI (wholeK k) a) (cutI (wholeK k) b) == 0) = false := by simpa using hr
  have z8 := near_sign ht.out fa.out fb.out hb hr
  clear hb hr
  generalize hT : wholeK k = T at *
  have wholeC : ∀ w : World, Calls Try.prog 29 #[.int .u8 k] w fun e w' => e = .returned (.int .u8 T) ∧ w' = w := by
    intro w; rw [← hT]; exact wholeK_any k w k0 k1
  clear hT k0 k1
  go_enter Try.func7, Try.ntmps7
  go_wp2_with (first | (go_at_call 13; refine (awake_any _).mono ?_; rintro e w' ⟨rfl, rfl⟩) | (go_at_call 29; refine (wholeC _).mono ?_; rintro e w' ⟨rfl, rfl⟩) | (go_at_call 11; refine (cut_any _ _ _ ?hh).mono ?_; (case hh => first | assumption | exact word_wrap _); rintro e w' ⟨rfl, rfl⟩) | (go_at_call 9; refine (right_any _ _ _ ?hh).mono ?_; (case hh => first | assumption | exact hid_word_fit (hid_fit_b ht _ _ _ (by simp))); rintro e w' ⟨rfl, rfl⟩) | (go_at_call 30; refine (tw _ _ _ _ _ ht ?ho ?hx ?hy).mono ?_; (case ho => exact opr _ rfl); (case hx => first | assumption | exact hid_fit_b ht _ _ _ (by simp)); (case hy => first | assumption | exact hid_fit_b ht _ _ _ (by simp)); rintro e w' ⟨rfl, rfl⟩) | (go_at_call 18; refine (one_whole _ _ _ _ ht ?ho fb).mono ?_; (case ho => first | exact op17 | exact op18); rintro e w' ⟨rfl, rfl⟩) | (go_at_call 20; refine (stops_any _ _ _ _).mono ?_; rintro e w' ⟨rfl, rfl⟩) | (go_at_call 31; refine (size_any _ _).mono ?_; rintro e w' ⟨rfl, rfl⟩))
  go_ret
  exact ⟨rfl, rfl⟩

theorem ring_walk (k a b c : Int) (w : World) (k0 : 0 ≤ k) (k1 : k ≤ 255) (wa : Hid (word a)) (wb : Hid (word b)) (wc : Hid (word c)) :
    Calls Try.prog 7 #[.int .u8 k, .int .u64 a, .int .u64 b, .int .u64 c] w fun e w' => e = .returned (.bool true) ∧ w' = w := by
  by_cases hb : cutI (wholeK k) b = 0
  · exact ring_zero k a b c w k0 k1 wa wb wc hb
  · by_cases hr : bitsI 5 (wholeK k) (cutI (wholeK k) a) (cutI (wholeK k) b) = 0
    · exact ring_even k a b c w k0 k1 wa wb wc hb hr
    · exact ring_rest k a b c w k0 k1 wa wb wc hb hr
end Go.Proofs.Ytekgedphjbhalaa
