/- The contracts of the document's Turns, Fits and Turn: they tell what package scalar tells. -/
import Derived.Test.YtekgedphjbhalaaFitsRef
import Derived.Test.YtekgedphjbhalaaNear2
namespace Go.Proofs.Ytekgedphjbhalaa
open Go.RowKit

theorem rfits_any (to a : Int) (w : World) (ha : Hid (word a)) (ht : Hid (wh to)) :
    Calls Try.prog 46 #[.int .u8 to, .int .u64 a] w fun e w' => e = .returned (.tuple #[.int .u64 (wpartI to a.toNat), .bool (withinB to a.toNat)]) ∧ w' = w := by
  obtain ⟨a0, a1⟩ := ha.out
  obtain ⟨x, rfl⟩ := Int.eq_ofNat_of_zero_le a0
  rw [Int.toNat_natCast]
  have hx : x < 18446744073709551616 := by omega
  have hp := fun w => part_any x w hx
  rcases part_sem x hx with ⟨hb, ht', hfin⟩ | ⟨hb, hno⟩
  · have hn : (FloatKind.f64.format.order x x != some .eq) = false := by
      show (Ieee.double.order _ _ != some .eq) = false
      rw [order_self _ (by omega)]; rfl
    have hV := partV_lt x
    rw [hb] at hp
    generalize partV x = V at *
    have hng : decide (9223372036854775808 ≤ (x : Int)) = decide (9223372036854775808 ≤ x) := by rw [decide_eq_decide]; omega
    refine rfits_ok to (x : Int) (V : Int) w ht.out (by omega) hp (fun w => risNaN_any x w hn) _ _ ?_ ?_
    · show withinB to x = _
      unfold withinB; rw [ht']
      rw [hng]
      by_cases g : 9223372036854775808 ≤ x
      · have es : sgn (decide (9223372036854775808 ≤ x)) V = -(V : Int) := by simp [sgn, g]
        simp only [es]
        rcases ht.out with rfl | rfl | rfl <;> (simp [mostI, g]; try omega)
      · have es : sgn (decide (9223372036854775808 ≤ x)) V = (V : Int) := by simp [sgn, g]
        simp only [es]
        rcases ht.out with rfl | rfl | rfl <;> (simp [mostI, g]; try omega)
    · show wpartI to x = _
      cases hw : withinB to x with
      | false => simp [wpartI, hw]
      | true =>
        simp only [wpartI, hw, ht', if_true, Option.getD_some]
        by_cases g : 9223372036854775808 ≤ x
        · have g' : 9223372036854775808 ≤ (x : Int) := by omega
          have es : sgn (decide (9223372036854775808 ≤ x)) V = -(V : Int) := by simp [sgn, g]
          rw [es, if_pos g']
        · have g' : ¬ 9223372036854775808 ≤ (x : Int) := by omega
          have es : sgn (decide (9223372036854775808 ≤ x)) V = (V : Int) := by simp [sgn, g]
          rw [es, if_neg g']; exact wrap_nat V hV
  · rw [hb] at hp
    refine (rfits_no to x _ w hp).mono ?_
    rintro e w' ⟨rfl, rfl⟩
    exact ⟨ret_pair (by simp [wpartI, hno to]) (hno to).symm, rfl⟩

theorem numberB_iff (t : Int) : numberB t = true ↔ 2 ≤ t ∧ t ≤ 5 := by
  simp [numberB, wholeB]; omega

set_option maxHeartbeats 400000 in
theorem rturns_any (to fr : Int) (w : World) : Calls Try.prog 25 #[.int .u8 to, .int .u8 fr] w fun e w' => e = .returned (.bool (turnsB to fr)) ∧ w' = w := by
  have hi : Hid (numberB to = true ↔ 2 ≤ to ∧ to ≤ 5) := numberB_iff to
  have hj : Hid (numberB fr = true ↔ 2 ≤ fr ∧ fr ≤ 5) := numberB_iff fr
  by_cases c1 : 2 ≤ to
  · by_cases c2 : to ≤ 5
    · by_cases c3 : 2 ≤ fr
      · by_cases c4 : fr ≤ 5
        · go_enter Try.func25, Try.ntmps25
          go_wp2
          go_ret
          exact ⟨ret_bool (by simp [turnsB, hi.out.2 ⟨c1, c2⟩, hj.out.2 ⟨c3, c4⟩]), rfl⟩
        · go_enter Try.func25, Try.ntmps25
          go_wp2
          go_ret
          have : numberB fr = false := by
            cases h : numberB fr
            · rfl
            · have := hj.out.1 h; omega
          exact ⟨ret_bool (by simp [turnsB, this]), rfl⟩
      · go_enter Try.func25, Try.ntmps25
        go_wp2
        go_ret
        have : numberB fr = false := by
          cases h : numberB fr
          · rfl
          · have := hj.out.1 h; omega
        exact ⟨ret_bool (by simp [turnsB, this]), rfl⟩
    · go_enter Try.func25, Try.ntmps25
      go_wp2
      go_ret
      have : numberB to = false := by
        cases h : numberB to
        · rfl
        · have := hi.out.1 h; omega
      exact ⟨ret_bool (by simp [turnsB, this]), rfl⟩
  · go_enter Try.func25, Try.ntmps25
    go_wp2
    go_ret
    have : numberB to = false := by
      cases h : numberB to
      · rfl
      · have := hi.out.1 h; omega
    exact ⟨ret_bool (by simp [turnsB, this]), rfl⟩

theorem wh_of_turns {to fr : Int} (h : turnsB to fr = true) (h5 : ¬ to = 5) : wh to := by
  have h1 : numberB to = true := by simp [turnsB] at h; exact h.1
  have := (numberB_iff to).1 h1
  unfold wh; omega

set_option maxHeartbeats 1000000 in
theorem rfits2_any (to fr a : Int) (w : World) (ha : Hid (word a)) : Calls Try.prog 27 #[.int .u8 to, .int .u8 fr, .int .u64 a] w fun e w' => e = .returned (.bool (fitsB to fr a)) ∧ w' = w := by
  cases h1 : turnsB to fr with
  | false =>
    go_enter Try.func27, Try.ntmps27
    go_wp2_with (go_at_call 25; refine (rturns_any _ _ _).mono ?_; rintro e w' ⟨rfl, rfl⟩)
    go_ret
    exact ⟨ret_bool (by simp [fitsB, okTurn, h1]), rfl⟩
  | true =>
    cases h2 : rightB fr a with
    | false =>
      go_enter Try.func27, Try.ntmps27
      go_wp2_with (first | (go_at_call 25; refine (rturns_any _ _ _).mono ?_; rintro e w' ⟨rfl, rfl⟩) | (go_at_call 10; refine (rright_any _ _ _ ha).mono ?_; rintro e w' ⟨rfl, rfl⟩))
      go_ret
      exact ⟨ret_bool (by simp [fitsB, okTurn, h2]), rfl⟩
    | true =>
      by_cases h5 : fr = 5
      · subst h5
        by_cases h6 : to = 5
        · subst h6
          go_enter Try.func27, Try.ntmps27
          go_wp2_with (first | (go_at_call 25; refine (rturns_any _ _ _).mono ?_; rintro e w' ⟨rfl, rfl⟩) | (go_at_call 10; refine (rright_any _ _ _ ha).mono ?_; rintro e w' ⟨rfl, rfl⟩))
          go_ret
          exact ⟨ret_bool (by simp [fitsB, okTurn, h1, h2]), rfl⟩
        · have h6' : (to == 5) = false := by simpa using h6
          have hw : Hid (wh to) := wh_of_turns h1 h6
          clear h6
          go_enter Try.func27, Try.ntmps27
          go_wp2_with (first | (go_at_call 25; refine (rturns_any _ _ _).mono ?_; rintro e w' ⟨rfl, rfl⟩) | (go_at_call 10; refine (rright_any _ _ _ ha).mono ?_; rintro e w' ⟨rfl, rfl⟩) | (go_at_call 46; refine (rfits_any _ _ _ ha hw).mono ?_; rintro e w' ⟨rfl, rfl⟩))
          go_ret
          exact ⟨ret_bool (by simp [fitsB, okTurn, h1, h2, h6']), rfl⟩
      · have h5' : (fr != 5) = true := by simpa using h5
        go_enter Try.func27, Try.ntmps27
        go_wp2_with (first | (go_at_call 25; refine (rturns_any _ _ _).mono ?_; rintro e w' ⟨rfl, rfl⟩) | (go_at_call 10; refine (rright_any _ _ _ ha).mono ?_; rintro e w' ⟨rfl, rfl⟩))
        go_ret
        exact ⟨ret_bool (by simp [fitsB, okTurn, h1, h2, h5']), rfl⟩

theorem right_cut {t a : Int} (h : rightB t a = true) : cutI t a = a := by simp [rightB] at h; exact h.2

set_option maxHeartbeats 1000000 in
theorem rturn_any (to fr a : Int) (w : World) (ha : Hid (word a)) : Calls Try.prog 23 #[.int .u8 to, .int .u8 fr, .int .u64 a] w fun e w' => e = .returned (.tuple #[.int .u64 (turnI to fr a), .bool (okTurn to fr a)]) ∧ w' = w := by
  cases h1 : turnsB to fr with
  | false =>
    go_enter Try.func23, Try.ntmps23
    go_wp2_with (go_at_call 25; refine (rturns_any _ _ _).mono ?_; rintro e w' ⟨rfl, rfl⟩)
    go_ret2
    exact ⟨ret_pair (by simp [turnI, okTurn, h1]) (by simp [okTurn, h1]), rfl⟩
  | true =>
    cases h2 : rightB fr a with
    | false =>
      go_enter Try.func23, Try.ntmps23
      go_wp2_with (first | (go_at_call 25; refine (rturns_any _ _ _).mono ?_; rintro e w' ⟨rfl, rfl⟩) | (go_at_call 10; refine (rright_any _ _ _ ha).mono ?_; rintro e w' ⟨rfl, rfl⟩))
      go_ret2
      exact ⟨ret_pair (by simp [turnI, okTurn, h2]) (by simp [okTurn, h2]), rfl⟩
    | true =>
      have hok : Hid (okTurn to fr a = true) := by
        show okTurn to fr a = true
        simp [okTurn, h1, h2]
      by_cases he : fr = to
      · subst he
        have hc : Hid (cutI fr a = a) := right_cut h2
        go_enter Try.func23, Try.ntmps23
        go_wp2_with (first | (go_at_call 25; refine (rturns_any _ _ _).mono ?_; rintro e w' ⟨rfl, rfl⟩) | (go_at_call 10; refine (rright_any _ _ _ ha).mono ?_; rintro e w' ⟨rfl, rfl⟩))
        go_ret2
        refine ⟨ret_pair ?_ hok.out.symm, rfl⟩
        simp only [turnI, hok.out, if_true]
        by_cases g : fr = 5
        · simp [g]
        · simp [g, hc.out]
      have he' : (fr == to) = false := by simpa using he
      by_cases h5 : fr = 5
      · subst h5
        have h6 : ¬ to = 5 := fun h => he h.symm
        have hw : Hid (wh to) := wh_of_turns h1 h6
        have h6h : Hid (¬ to = 5) := h6
        clear he h6
        go_enter Try.func23, Try.ntmps23
        go_wp2_with (first | (go_at_call 25; refine (rturns_any _ _ _).mono ?_; rintro e w' ⟨rfl, rfl⟩) | (go_at_call 10; refine (rright_any _ _ _ ha).mono ?_; rintro e w' ⟨rfl, rfl⟩) | (go_at_call 46; refine (rfits_any _ _ _ ha hw).mono ?_; rintro e w' ⟨rfl, rfl⟩))
        go_ret2
        exact ⟨ret_pair (by simp [turnI, hok.out, h6h.out]) hok.out.symm, rfl⟩
      · have h5' : (fr == 5) = false := by simpa using h5
        have h5h : Hid (¬ fr = 5) := h5
        clear h5 he
        by_cases h6 : to = 5
        · subst h6
          go_enter Try.func23, Try.ntmps23
          go_wp2_with (first | (go_at_call 25; refine (rturns_any _ _ _).mono ?_; rintro e w' ⟨rfl, rfl⟩) | (go_at_call 10; refine (rright_any _ _ _ ha).mono ?_; rintro e w' ⟨rfl, rfl⟩) | (go_at_call 47; refine (near_any _ _ ha).mono ?_; rintro e w' ⟨rfl, rfl⟩))
          go_ret2
          exact ⟨ret_pair (by simp [turnI, hok.out, h5h.out, foi_cut]) hok.out.symm, rfl⟩
        · have h6' : (to == 5) = false := by simpa using h6
          have h6h : Hid (¬ to = 5) := h6
          clear h6
          go_enter Try.func23, Try.ntmps23
          go_wp2_with (first | (go_at_call 25; refine (rturns_any _ _ _).mono ?_; rintro e w' ⟨rfl, rfl⟩) | (go_at_call 10; refine (rright_any _ _ _ ha).mono ?_; rintro e w' ⟨rfl, rfl⟩) | (go_at_call 12; refine (rcut_any _ _ _ ha).mono ?_; rintro e w' ⟨rfl, rfl⟩))
          go_ret2
          exact ⟨ret_pair (by simp [turnI, hok.out, h5h.out, h6h.out]) hok.out.symm, rfl⟩
end Go.Proofs.Ytekgedphjbhalaa
