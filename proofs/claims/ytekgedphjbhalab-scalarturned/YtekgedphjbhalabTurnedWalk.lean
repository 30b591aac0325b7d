/- ScalarTurned: the walk over the contracts. -/
import Derived.Test.YtekgedphjbhalabTurnedPlain
namespace Go.Proofs.Ytekgedphjbhalab
open Go.RowKit

theorem bne_eq {a b : Int} (h : a = b) : (a != b) = false := by simp [h]
theorem cw {a : Int} (t : Int) (ht : wh t) (ha : word a) : word (cutI t a) := (fit_cut ht a ha).1
theorem w2 : wh 2 := Or.inl rfl
theorem w3 : wh 3 := Or.inr (Or.inl rfl)
theorem w4 : wh 4 := Or.inr (Or.inr rfl)

/-- A byte is a right word of the next type, and comes back. -/
theorem up_down {a : Int} (ha : word a) : turnI 3 2 (cutI 2 a) = cutI 2 a ∧ turnI 2 3 (cutI 2 a) = cutI 2 a ∧ okTurn 3 2 (cutI 2 a) = true ∧ okTurn 2 3 (cutI 2 a) = true := by
  have f2 := fit_cut w2 a ha
  have hw := f2.1
  have hr := fit_right w2 f2
  have h3 : cutI 3 (cutI 2 a) = cutI 2 a := by
    rw [cut2, cut3, wrapu]; unfold wrap32; omega
  have hr3 : rightB 3 (cutI 2 a) = true := fit_right w3 ⟨hw, h3⟩
  have o1 : okTurn 3 2 (cutI 2 a) = true := by simp [okTurn, hr]; decide
  have o2 : okTurn 2 3 (cutI 2 a) = true := by simp [okTurn, hr3]; decide
  refine ⟨?_, ?_, o1, o2⟩
  · simp [turnI, o1, h3]
  · simp [turnI, o2]; rw [f2.2]

theorem to_float {a : Int} (ha : word a) :
    turnI 5 3 (cutI 3 a) = (floatOfInt .f64 (wrap64 (cutI 3 a)) : Int) ∧ okTurn 5 3 (cutI 3 a) = true ∧
    turnI 3 5 (floatOfInt .f64 (wrap64 (cutI 3 a)) : Int) = cutI 3 a ∧ okTurn 3 5 (floatOfInt .f64 (wrap64 (cutI 3 a)) : Int) = true ∧
    turnI 5 4 a = (floatOfInt .f64 (wrap64 a) : Int) ∧ okTurn 5 4 a = true := by
  have f3 := fit_cut w3 a ha
  have hr := fit_right w3 f3
  have o1 : okTurn 5 3 (cutI 3 a) = true := by simp [okTurn, hr]; decide
  have h5 : rightB 5 (floatOfInt .f64 (wrap64 (cutI 3 a)) : Int) = true := by simp [rightB, foi_cut]; decide
  have o2 : okTurn 3 5 (floatOfInt .f64 (wrap64 (cutI 3 a)) : Int) = true := by simp [okTurn, h5]; decide
  have o3 : okTurn 5 4 a = true := by
    have : rightB 4 a = true := fit_right w4 ⟨ha, cut4 a⟩
    simp [okTurn, this]; decide
  refine ⟨?_, o1, ?_, o2, ?_, o3⟩
  · simp [turnI, o1, foi_cut]
  · simp [turnI, o2]; exact mid_back f3
  · simp [turnI, o3, foi_cut]

theorem foi_hid (n : Int) : Hid (word (floatOfInt .f64 n : Int)) := by
  have := foi_word n
  exact ⟨by omega, by omega⟩

/-- What is asked of a float, when it is a NaN, when it fits, and when it does not. -/
theorem asked (x : Nat) :
    (∃ N, cutI 5 x = x ∧ fitsB 4 5 x = true ∧ okTurn 4 5 x = true ∧ wrap64 (turnI 4 5 x) = N ∧ truncI (truncW x) = some N ∧ -9223372036854775808 ≤ N ∧ N ≤ 9223372036854775807 ∧ x % 9223372036854775808 ≤ 9218868437227405312 ∧
      (FloatKind.f64.format.order x 14114281232179134464 == some .gt || FloatKind.f64.format.order x 14114281232179134464 == some .eq) = true ∧ (FloatKind.f64.format.order x 4890909195324358656 == some .lt) = true) ∨
    (fitsB 4 5 (cutI 5 x) = false ∧ okTurn 4 5 (cutI 5 x) = true ∧ turnI 4 5 (cutI 5 x) = 0 ∧
      ((FloatKind.f64.format.order x 14114281232179134464 == some .gt || FloatKind.f64.format.order x 14114281232179134464 == some .eq) = false ∨
       ((FloatKind.f64.format.order x 14114281232179134464 == some .gt || FloatKind.f64.format.order x 14114281232179134464 == some .eq) = true ∧ (FloatKind.f64.format.order x 4890909195324358656 == some .lt) = false))) := by
  have ok : okTurn 4 5 (cutI 5 x) = true := by
    have hr : rightB 5 (cutI 5 (x : Int)) = true := by
      have h1 : typedB 5 = true := by decide
      have h2 : cutI 5 (cutI 5 (x : Int)) = cutI 5 (x : Int) := by
        by_cases h : nanI (x : Int) = true
        · have e : cutI 5 (x : Int) = 9221120237041090560 := by simp [cutI, h]
          rw [e]; simp [cutI]
        · have e : cutI 5 (x : Int) = x := by simp [cutI, h]
          rw [e, e]
      simp [rightB, h1, h2]
    simp [okTurn, hr]; decide
  have no : withinB 4 (cutI 5 (x : Int)).toNat = false → fitsB 4 5 (cutI 5 x) = false ∧ turnI 4 5 (cutI 5 x) = 0 := by
    intro h
    refine ⟨by simp [fitsB, h], by simp [turnI, wpartI, h]⟩
  by_cases h1 : x % 9223372036854775808 < 9218868437227405312
  · have ex : cutI 5 (x : Int) = x := by
      have hn : ¬ nanI (x : Int) = true := by rw [nanI_iff, Int.toNat_natCast]; omega
      simp [cutI, hn]
    obtain ⟨N, e, t1, t2⟩ := raw_tests x h1
    by_cases hN : -9223372036854775808 ≤ N ∧ N < 9223372036854775808
    · left
      rw [ex] at ok
      have hw : withinB 4 x = true := by simp [withinB, e, hN.1, hN.2]
      refine ⟨N, ex, by simp [fitsB, ok, hw], ok, ?_, trunc_trunc e h1, hN.1, by omega, by omega, by rw [t1]; simp [hN.1], by rw [t2]; simp [hN.2]⟩
      simp only [turnI, ok, wpartI, Int.toNat_natCast, hw, e, if_true, Option.getD_some]
      simp
      rw [wrapu]; unfold wrap64; omega
    · right
      have hw : withinB 4 x = false := by simp [withinB, e]; omega
      have hn := no (by rw [ex, Int.toNat_natCast]; exact hw)
      refine ⟨hn.1, ok, hn.2, ?_⟩
      rw [t1, t2]
      by_cases g : -9223372036854775808 ≤ N
      · right; simp [g]; omega
      · left; simp; omega
  · right
    have tn : truncI (cutI 5 (x : Int)).toNat = none := by
      by_cases h2 : x % 9223372036854775808 = 9218868437227405312
      · have ex : cutI 5 (x : Int) = x := by
          have hn : ¬ nanI (x : Int) = true := by rw [nanI_iff, Int.toNat_natCast]; omega
          simp [cutI, hn]
        rw [ex, Int.toNat_natCast]; exact (trunc_inf x h2).1
      · have hn : nanI (x : Int) = true := by rw [nanI_iff, Int.toNat_natCast]; omega
        have ex : cutI 5 (x : Int) = 9221120237041090560 := by simp [cutI, hn]
        rw [ex]; decide
    have hn := no (by simp [withinB, tn])
    refine ⟨hn.1, ok, hn.2, ?_⟩
    have r1 : Ieee.double.read 14114281232179134464 = .number true 4503599627370496 11 := by decide
    have r2 : Ieee.double.read 4890909195324358656 = .number false 4503599627370496 11 := by decide
    by_cases h2 : x % 9223372036854775808 = 9218868437227405312
    · have er := read_inf x h2
      cases hs : (x / 9223372036854775808 % 2 == 1)
      · right
        refine ⟨?_, ?_⟩
        · show (Ieee.double.order _ _ == _ || Ieee.double.order _ _ == _) = true
          rw [Ieee.Format.order, er, r1, hs]; rfl
        · show (Ieee.double.order _ _ == _) = false
          rw [Ieee.Format.order, er, r2, hs]; rfl
      · left
        show (Ieee.double.order _ _ == _ || Ieee.double.order _ _ == _) = false
        rw [Ieee.Format.order, er, r1, hs]; rfl
    · obtain ⟨s, f, er⟩ := read_nan x (by omega)
      left
      show (Ieee.double.order _ _ == _ || Ieee.double.order _ _ == _) = false
      rw [Ieee.Format.order, er]; rfl

set_option maxRecDepth 100000 in
set_option maxHeartbeats 1000000 in
theorem turned_fits (a N : Int) (x : Nat) (w : World) (ha : Hid (word a)) (hx : Hid (word (x : Int))) (ex : cutI 5 x = x) (hfit : fitsB 4 5 x = true) (hok : okTurn 4 5 x = true) (hn : wrap64 (turnI 4 5 x) = N) (htt : truncI (truncW x) = some N) (n0 : -9223372036854775808 ≤ N) (n1 : N ≤ 9223372036854775807)
    (hcalm : x % 9223372036854775808 ≤ 9218868437227405312)
    (hge : (FloatKind.f64.format.order x 14114281232179134464 == some .gt || FloatKind.f64.format.order x 14114281232179134464 == some .eq) = true) (hlt : (FloatKind.f64.format.order x 4890909195324358656 == some .lt) = true) :
    Calls Try.prog 4 #[.int .u64 a, .float .f64 x] w fun e w' => e = .returned (.bool true) ∧ w' = w := by
  obtain ⟨u1, u2, u3, u4⟩ := up_down ha.out
  obtain ⟨v1, v2, v3, v4, v5, v6⟩ := to_float ha.out
  have hf1 : Hid (word (floatOfInt .f64 (wrap64 (cutI 3 a)) : Int)) := foi_hid _
  have g1 := foi_same (wrap64 (cutI 3 a))
  have g2 := foi_same (wrap64 a)
  have q2 : Hid (word (cutI 2 a)) := cw 2 w2 ha.out
  have q3 : Hid (word (cutI 3 a)) := cw 3 w3 ha.out
  have f1 := run_frombits
  have f2 := run_bits
  have hc := conv_f (truncW x) N htt n0 n1
  have hcm : Hid (x % 9223372036854775808 ≤ 9218868437227405312 ∨ x = 9221120237041090560) := Or.inl hcalm
  clear htt n0 n1 hcalm
  go_enter Try.func4, Try.ntmps4
  go_wp2_with (first | (go_at_call 5; refine (awake_any _).mono ?_; rintro e w' ⟨rfl, rfl⟩) | (go_at_call 7; refine (cut_any _ _ _ ?hh).mono ?_; (case hh => assumption); rintro e w' ⟨rfl, rfl⟩) | (go_at_call 12; refine (turn_any _ _ _ _ ?hh).mono ?_; (case hh => assumption); rintro e w' ⟨rfl, rfl⟩) | (go_at_call 15; refine (fits_any _ _ _ _ ?hh).mono ?_; (case hh => assumption); rintro e w' ⟨rfl, rfl⟩) | (go_at_call 16; refine (trunc_any _ _ hcm).mono ?_; rintro e w' ⟨rfl, rfl⟩))
  go_ret
  exact ⟨rfl, rfl⟩

set_option maxRecDepth 100000 in
set_option maxHeartbeats 1000000 in
theorem turned_ge (a : Int) (x : Nat) (w : World) (ha : Hid (word a)) (hx : Hid (word (x : Int))) (hv : Hid (word (cutI 5 (x : Int)))) (hfit : fitsB 4 5 (cutI 5 x) = false) (hok : okTurn 4 5 (cutI 5 x) = true) (hn : turnI 4 5 (cutI 5 x) = 0) (hge : (FloatKind.f64.format.order x 14114281232179134464 == some .gt || FloatKind.f64.format.order x 14114281232179134464 == some .eq) = false) :
    Calls Try.prog 4 #[.int .u64 a, .float .f64 x] w fun e w' => e = .returned (.bool true) ∧ w' = w := by
  obtain ⟨u1, u2, u3, u4⟩ := up_down ha.out
  obtain ⟨v1, v2, v3, v4, v5, v6⟩ := to_float ha.out
  have hf1 : Hid (word (floatOfInt .f64 (wrap64 (cutI 3 a)) : Int)) := foi_hid _
  have g1 := foi_same (wrap64 (cutI 3 a))
  have g2 := foi_same (wrap64 a)
  have q2 : Hid (word (cutI 2 a)) := cw 2 w2 ha.out
  have q3 : Hid (word (cutI 3 a)) := cw 3 w3 ha.out
  have f1 := run_frombits
  have f2 := run_bits
  go_enter Try.func4, Try.ntmps4
  go_wp2_with (first | (go_at_call 5; refine (awake_any _).mono ?_; rintro e w' ⟨rfl, rfl⟩) | (go_at_call 7; refine (cut_any _ _ _ ?hh).mono ?_; (case hh => assumption); rintro e w' ⟨rfl, rfl⟩) | (go_at_call 12; refine (turn_any _ _ _ _ ?hh).mono ?_; (case hh => assumption); rintro e w' ⟨rfl, rfl⟩) | (go_at_call 15; refine (fits_any _ _ _ _ ?hh).mono ?_; (case hh => assumption); rintro e w' ⟨rfl, rfl⟩))
  go_ret
  exact ⟨rfl, rfl⟩

set_option maxRecDepth 100000 in
set_option maxHeartbeats 1000000 in
theorem turned_lt (a : Int) (x : Nat) (w : World) (ha : Hid (word a)) (hx : Hid (word (x : Int))) (hv : Hid (word (cutI 5 (x : Int)))) (hfit : fitsB 4 5 (cutI 5 x) = false) (hok : okTurn 4 5 (cutI 5 x) = true) (hn : turnI 4 5 (cutI 5 x) = 0) (hge : (FloatKind.f64.format.order x 14114281232179134464 == some .gt || FloatKind.f64.format.order x 14114281232179134464 == some .eq) = true) (hlt : (FloatKind.f64.format.order x 4890909195324358656 == some .lt) = false) :
    Calls Try.prog 4 #[.int .u64 a, .float .f64 x] w fun e w' => e = .returned (.bool true) ∧ w' = w := by
  obtain ⟨u1, u2, u3, u4⟩ := up_down ha.out
  obtain ⟨v1, v2, v3, v4, v5, v6⟩ := to_float ha.out
  have hf1 : Hid (word (floatOfInt .f64 (wrap64 (cutI 3 a)) : Int)) := foi_hid _
  have g1 := foi_same (wrap64 (cutI 3 a))
  have g2 := foi_same (wrap64 a)
  have q2 : Hid (word (cutI 2 a)) := cw 2 w2 ha.out
  have q3 : Hid (word (cutI 3 a)) := cw 3 w3 ha.out
  have f1 := run_frombits
  have f2 := run_bits
  go_enter Try.func4, Try.ntmps4
  go_wp2_with (first | (go_at_call 5; refine (awake_any _).mono ?_; rintro e w' ⟨rfl, rfl⟩) | (go_at_call 7; refine (cut_any _ _ _ ?hh).mono ?_; (case hh => assumption); rintro e w' ⟨rfl, rfl⟩) | (go_at_call 12; refine (turn_any _ _ _ _ ?hh).mono ?_; (case hh => assumption); rintro e w' ⟨rfl, rfl⟩) | (go_at_call 15; refine (fits_any _ _ _ _ ?hh).mono ?_; (case hh => assumption); rintro e w' ⟨rfl, rfl⟩))
  go_ret
  exact ⟨rfl, rfl⟩

theorem turned_walk (a : Int) (x : Nat) (w : World) (ha : Hid (word a)) (hx : Hid (word (x : Int))) :
    Calls Try.prog 4 #[.int .u64 a, .float .f64 x] w fun e w' => e = .returned (.bool true) ∧ w' = w := by
  have hv : Hid (word (cutI 5 (x : Int))) := by
    show word _
    by_cases h : nanI (x : Int) = true
    · have e : cutI 5 (x : Int) = 9221120237041090560 := by simp [cutI, h]
      rw [e]; exact ⟨by omega, by omega⟩
    · have e : cutI 5 (x : Int) = x := by simp [cutI, h]
      rw [e]; exact hx
  rcases asked x with ⟨N, h1, h2, h3, h4, h5, h6, h7, h8, h9, h10⟩ | ⟨h1, h2, h3, h4 | ⟨h4, h5⟩⟩
  · exact turned_fits a N x w ha hx h1 h2 h3 h4 h5 h6 h7 h8 h9 h10
  · exact turned_ge a x w ha hx hv h1 h2 h3 h4
  · exact turned_lt a x w ha hx hv h1 h2 h3 h4 h5
end Go.Proofs.Ytekgedphjbhalab
