/- Contracts of the document's answer for operations (smithyref01): each returns what package scalar's contract names, by its own way. -/
import Derived.Test.YtekgedphjbhalaaTwo
import Derived.Test.YtekgedphjbhalaaWake
import Derived.Test.YtekgedphjbhalaaBitPlain
import Derived.Deep.QuietTactic
import Derived.BigQuiet
namespace Go.Proofs.Ytekgedphjbhalaa
open Go.RowKit

theorem ret_two {a b c d : Int} (h : a = b) (g : c = d) : Ending.returned (.tuple #[.int .u64 a, .int .u64 c]) = .returned (.tuple #[.int .u64 b, .int .u64 d]) := by rw [h, g]

set_option maxHeartbeats 400000 in
theorem rWhole_any (t : Int) (w : World) : Calls Try.prog 38 #[.int .u8 t] w fun e w' => e = .returned (.bool (wholeB t)) ∧ w' = w := by
  by_cases h2 : t = 2
  · subst h2
    go_enter Try.func38, Try.ntmps38
    go_wp2
    go_ret
    exact ⟨rfl, rfl⟩
  by_cases h3 : t = 3
  · subst h3
    go_enter Try.func38, Try.ntmps38
    go_wp2
    go_ret
    exact ⟨rfl, rfl⟩
  · have h2' : (t == 2) = false := by simpa using h2
    have h3' : (t == 3) = false := by simpa using h3
    go_enter Try.func38, Try.ntmps38
    go_wp2
    go_ret
    exact ⟨ret_bool (by simp [wholeB, h2', h3']), rfl⟩

set_option maxHeartbeats 1000000 in
theorem rof_typed (o t : Int) (w : World) (ht : t = 1 ∨ t = 2 ∨ t = 3 ∨ t = 4 ∨ t = 5) :
    Calls Try.prog 15 #[.int .u8 o, .int .u8 t] w fun e w' => e = .returned (.tuple #[.int .u8 (ofT o t), .bool (ofB o t)]) ∧ w' = w := by
  rcases ht with rfl | rfl | rfl | rfl | rfl
  all_goals
    go_enter Try.func15, Try.ntmps15
    go_wp2
    all_goals go_ret2
    all_goals exact ⟨ret_pair (by simp_all [ofT, typedB, numberB, wholeB]) (by simp_all [ofB, typedB, numberB, wholeB]), rfl⟩

theorem of_untyped (o t : Int) (h : typedB t = false) : ofT o t = 0 ∧ ofB o t = false := by
  have h1 : numberB t = false := by simp [typedB] at h; exact h.2
  have h2 : wholeB t = false := by simp [numberB] at h1; exact h1.2
  have h3 : ¬ t = 1 := by simp [typedB] at h; exact h.1
  constructor
  · simp [ofT, h, h1, h2, h3]
  · simp [ofB, h, h1, h2, h3]

set_option maxHeartbeats 400000 in
theorem rof_any (o t : Int) (w : World) :
    Calls Try.prog 15 #[.int .u8 o, .int .u8 t] w fun e w' => e = .returned (.tuple #[.int .u8 (ofT o t), .bool (ofB o t)]) ∧ w' = w := by
  by_cases ht : t = 1 ∨ t = 2 ∨ t = 3 ∨ t = 4 ∨ t = 5
  · exact rof_typed o t w ht
  · have hu : typedB t = false := by simp [typedB, numberB, wholeB]; omega
    have h0 : Hid (ofT o t = 0 ∧ ofB o t = false) := of_untyped o t hu
    by_cases h1 : t < 1
    · go_enter Try.func15, Try.ntmps15
      go_wp2
      go_ret2
      exact ⟨ret_pair h0.out.1.symm h0.out.2.symm, rfl⟩
    · have h2 : 5 < t := by omega
      go_enter Try.func15, Try.ntmps15
      go_wp2
      go_ret2
      exact ⟨ret_pair h0.out.1.symm h0.out.2.symm, rfl⟩

set_option maxHeartbeats 400000 in
theorem rtruth_any (x : Bool) (w : World) : Calls Try.prog 54 #[.bool x] w fun e w' => e = .returned (.int .u64 (truthI x)) ∧ w' = w := by
  cases x
  all_goals
    go_enter Try.func54, Try.ntmps54
    go_wp2
    go_ret
    exact ⟨rfl, rfl⟩

set_option maxHeartbeats 400000 in
theorem rsize_any (x : Int) (w : World) : Calls Try.prog 60 #[.int .u64 x] w fun e w' => e = .returned (.tuple #[.int .u64 (sizeN x), .bool (negB x)]) ∧ w' = w := by
  by_cases h : 9223372036854775808 ≤ x
  · go_enter Try.func60, Try.ntmps60
    go_wp2
    go_ret2
    exact ⟨ret_pair (by rw [sizeN, if_pos (by omega)]; congr 1; omega) (by simp [negB]; omega), rfl⟩
  · go_enter Try.func60, Try.ntmps60
    go_wp2
    go_ret2
    exact ⟨ret_pair (by rw [sizeN, if_neg (by omega)]) (by simp [negB]; omega), rfl⟩

set_option maxHeartbeats 400000 in
theorem rless_any (a b : Int) (w : World) (ha : Hid (word a)) (hb : Hid (word b)) : Calls Try.prog 58 #[.int .u64 a, .int .u64 b] w fun e w' => e = .returned (.bool (lessB a b)) ∧ w' = w := by
  go_enter Try.func58, Try.ntmps58
  go_wp2
  go_ret
  exact ⟨ret_bool (less_is ha hb), rfl⟩

set_option maxHeartbeats 400000 in
theorem rplaces_any (t b : Int) (w : World) (hb : Hid (word b)) : Calls Try.prog 56 #[.int .u8 t, .int .u64 b] w fun e w' => e = .returned (.int .u64 (placesI t b)) ∧ w' = w := by
  go_enter Try.func56, Try.ntmps56
  go_wp2
  all_goals go_ret
  all_goals exact ⟨ret_u64 (by rw [Int.tmod_eq_emod_of_nonneg hb.out.1]; simp_all [placesI]), rfl⟩

theorem sizeN_nz {b : Int} (hb : word b) (h : b ≠ 0) : sizeN b ≠ 0 := by
  rw [sizeN_abs hb]; have := nz hb h; omega

set_option maxHeartbeats 400000 in
theorem rover_any (a b : Int) (w : World) (hb : Hid (word b)) : Calls Try.prog 55 #[.int .u64 a, .int .u64 b] w fun e w' => e = .returned (.tuple #[.int .u64 (overQ a b), .int .u64 (overR a b)]) ∧ ∃ n, w' = w.drewN n := by
  by_cases hz : b = 0
  · subst hz
    go_enter Try.func55, Try.ntmps55
    go_wp2
    go_ret2
    exact ⟨rfl, 0, rfl⟩
  · have hs := sizeN_nz hb.out hz
    have hz' : (b == 0) = false := by simpa using hz
    cases hx : negB a <;> cases hy : negB b
    all_goals
      go_enter Try.func55, Try.ntmps55
      go_wp2_with (go_at_call 60; refine (rsize_any _ _).mono ?_; rintro e w' ⟨rfl, rfl⟩)
      go_quiet (fail)
      go_wp2
      go_ret2
      exact ⟨ret_two (by simp [overQ, hz, hx, hy]) (by simp [overR, hz, hx]), _, rfl⟩

set_option maxHeartbeats 400000 in
theorem rdown_any (a : Int) (s : Nat) (w : World) (ha : Hid (word a)) (hs : s ≤ 64) : Calls Try.prog 57 #[.int .u64 a, .int .u64 (s : Int)] w fun e w' => e = .returned (.int .u64 (downI a s)) ∧ w' = w := by
  have hz := down_zero ha.out
  go_enter Try.func57, Try.ntmps57
  go_wp2
  go_loop [0, 5, 6] (fun x i _ => ∃ k : Nat, k ≤ s ∧ i = .int .u64 (k : Int) ∧ x = .int .u64 (downI a k)) (fun _ i _ => s - (intOf i).toNat)
  case atStart => exact ⟨0, Nat.zero_le _, rfl, by rw [show ((0 : Nat) : Int) = 0 from rfl, hz]⟩
  case round =>
    obtain ⟨k, hk, rfl, rfl⟩ := hrel
    have HS : Hid (IntKind.u64.wrap (IntKind.u64.wrap ((downI a k).tdiv 2) + bits .andNot .u64 (downI a k) 9223372036854775807) = downI a ((k + 1 : Nat) : Int)) := by
      have e : IntKind.u64.wrap ((downI a k).tdiv 2) = (downI a k).tdiv 2 := by
        have hw := word_down a k
        obtain ⟨h0, h1⟩ := hw
        rw [wrapu, Int.tdiv_eq_ediv_of_nonneg h0]; omega
      rw [e]; exact down_step k
    clear hz
    by_cases hlt : k < s
    · go_wp2
      refine ⟨⟨k + 1, by omega, by simp, ?_⟩, ?_⟩
      · rw [HS.out]
      · simp [intOf]; omega
    · go_wp2
      go_ret
      have e : k = s := by omega
      subst e
      exact ⟨rfl, rfl⟩

theorem places_nat (t b : Int) : ∃ p : Nat, placesI t b = (p : Int) ∧ p ≤ 64 := by
  have h := placesI_bd t b
  exact ⟨(placesI t b).toNat, by omega, by omega⟩

set_option maxHeartbeats 2000000 in
theorem rwhole_any (o t a b : Int) (w : World) (ha : Hid (word a)) (hb : Hid (word b)) :
    Calls Try.prog 43 #[.int .u8 o, .int .u8 t, .int .u64 a, .int .u64 b] w fun e w' => e = .returned (.int .u64 (wholeW o t a b)) ∧ ∃ n, w' = w.drewN n := by
  have hp := placesI_bd t b
  obtain ⟨p0, p1⟩ := hp
  have hdn : ∀ w : World, Calls Try.prog 57 #[.int .u64 a, .int .u64 (placesI t b)] w fun e w' => e = .returned (.int .u64 (downI a (placesI t b))) ∧ w' = w := by
    obtain ⟨p, hp, hl⟩ := places_nat t b
    rw [hp]; exact fun w => rdown_any a p w ha hl
  go_enter Try.func43, Try.ntmps43
  go_wp2_with (first | (go_at_call 55; refine (rover_any _ _ _ hb).mono ?_; rintro e w' ⟨rfl, n, rfl⟩) | (go_at_call 56; refine (rplaces_any _ _ _ hb).mono ?_; rintro e w' ⟨rfl, rfl⟩) | (go_at_call 57; refine (hdn _).mono ?_; rintro e w' ⟨rfl, rfl⟩) | (go_at_call 58; refine (rless_any _ _ _ ?h1 ?h2).mono ?_; (case h1 => assumption); (case h2 => assumption); rintro e w' ⟨rfl, rfl⟩) | (go_at_call 54; refine (rtruth_any _ _).mono ?_; rintro e w' ⟨rfl, rfl⟩))
  all_goals go_ret
  all_goals exact ⟨ret_u64 (by simp_all [wholeW]), _, rfl⟩
end Go.Proofs.Ytekgedphjbhalaa
