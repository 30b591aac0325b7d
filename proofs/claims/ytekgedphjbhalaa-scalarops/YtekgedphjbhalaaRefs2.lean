/- Contracts of the document's answer for operations (smithyref01): floats, Two, One, Stops. -/
import Derived.Test.YtekgedphjbhalaaRefs
import Derived.Test.YtekgedphjbhalaaStops
namespace Go.Proofs.Ytekgedphjbhalaa
open Go.RowKit

theorem cut5_rany (a : Int) (w : World) :
    Calls Try.prog 12 #[.int .u8 5, .int .u64 a] w fun e w' => e = .returned (.int .u64 (cutI 5 a)) ∧ w' = w := by
  have f1 := run_frombits
  by_cases hn : (FloatKind.f64.format.order a.toNat a.toNat != some .eq) = true
  · go_enter Try.func12, Try.ntmps12
    go_wp2
    go_ret
    exact ⟨ret_u64 (by simp [cutI, nanI, hn]), rfl⟩
  · have hn' : (FloatKind.f64.format.order a.toNat a.toNat != some .eq) = false := by simpa using hn
    go_enter Try.func12, Try.ntmps12
    go_wp2
    go_ret
    exact ⟨ret_u64 (by simp [cutI, nanI, hn']), rfl⟩

set_option maxHeartbeats 1000000 in
theorem rflt_arith (o : Int) (op : BinOp) (x y : Nat) (w : World) (ho : (o = 1 ∧ op = .add) ∨ (o = 2 ∧ op = .sub) ∨ (o = 3 ∧ op = .mul) ∨ (o = 4 ∧ op = .quo)) :
    Calls Try.prog 42 #[.int .u8 o, .float .f64 x, .float .f64 y] w fun e w' => e = .returned (.int .u64 (resI (floatBits op .f64 x y))) ∧ ∃ n, w' = w.drewN n := by
  have f2 := run_bits
  cases hr : floatBits op .f64 x y with
  | some r =>
    have hrun := fun (t : TypeId) (w : World) => run_float_arith (P := Try.prog) w op t .f64 x y r hr
    clear hr
    rcases ho with ⟨rfl, rfl⟩ | ⟨rfl, rfl⟩ | ⟨rfl, rfl⟩ | ⟨rfl, rfl⟩
    all_goals
      go_enter Try.func42, Try.ntmps42
      go_wp2_with (go_at_call 12; refine (cut5_rany _ _).mono ?_; rintro e w' ⟨rfl, rfl⟩)
      go_ret
      exact ⟨rfl, 0, rfl⟩
  | none =>
    have hrun := fun (t : TypeId) (w : World) => run_nan (P := Try.prog) op x y t w (by rcases ho with h | h | h | h <;> simp [h.2]) hr
    clear hr
    rcases ho with ⟨rfl, rfl⟩ | ⟨rfl, rfl⟩ | ⟨rfl, rfl⟩ | ⟨rfl, rfl⟩
    all_goals
      go_enter Try.func42, Try.ntmps42
      go_wp2_with (go_at_call 12; refine (cut5_rany _ _).mono ?_; rintro e w' ⟨rfl, rfl⟩)
      go_ret
      exact ⟨ret_u64 resI_drawn, 1, rfl⟩

set_option maxHeartbeats 1000000 in
theorem rflt_cmp (o : Int) (x y : Nat) (w : World) (ho : o = 11 ∨ o = 12 ∨ o = 13 ∨ o = 14 ∨ o = 15 ∨ o = 16) :
    Calls Try.prog 42 #[.int .u8 o, .float .f64 x, .float .f64 y] w fun e w' => e = .returned (.int .u64 (truthI (fcmpB o x y))) ∧ w' = w := by
  rcases ho with rfl | rfl | rfl | rfl | rfl | rfl
  all_goals
    go_enter Try.func42, Try.ntmps42
    go_wp2_with (go_at_call 54; refine (rtruth_any _ _).mono ?_; rintro e w' ⟨rfl, rfl⟩)
    go_ret
    exact ⟨rfl, rfl⟩

theorem rflt_any (o : Int) (x y : Nat) (w : World) (ho : Hid (o = 1 ∨ o = 2 ∨ o = 3 ∨ o = 4 ∨ o = 11 ∨ o = 12 ∨ o = 13 ∨ o = 14 ∨ o = 15 ∨ o = 16)) :
    Calls Try.prog 42 #[.int .u8 o, .float .f64 x, .float .f64 y] w fun e w' => e = .returned (.int .u64 (fltI o x y)) ∧ ∃ n, w' = w.drewN n := by
  rcases ho.out with rfl | rfl | rfl | rfl | h
  · exact rflt_arith 1 .add x y w (by simp)
  · exact rflt_arith 2 .sub x y w (by simp)
  · exact rflt_arith 3 .mul x y w (by simp)
  · exact rflt_arith 4 .quo x y w (by simp)
  · refine (rflt_cmp o x y w h).mono ?_
    rintro e w' ⟨rfl, rfl⟩
    refine ⟨ret_u64 ?_, 0, rfl⟩
    rcases h with rfl | rfl | rfl | rfl | rfl | rfl <;> simp [fltI]

theorem of5 {o : Int} (h : ofB o 5 = true) (h1 : oneB o = false) : o = 1 ∨ o = 2 ∨ o = 3 ∨ o = 4 ∨ o = 11 ∨ o = 12 ∨ o = 13 ∨ o = 14 ∨ o = 15 ∨ o = 16 := by
  have h2 : o ≠ 17 ∧ o ≠ 18 := by simp [oneB] at h1; exact h1
  unfold ofB at h
  by_cases q1 : o = 11 ∨ o = 12
  · omega
  rw [if_neg q1] at h
  by_cases q2 : o = 13 ∨ o = 14 ∨ o = 15 ∨ o = 16
  · omega
  rw [if_neg q2] at h
  by_cases q3 : o = 1 ∨ o = 2 ∨ o = 3 ∨ o = 4 ∨ o = 17
  · omega
  rw [if_neg q3] at h
  by_cases q4 : o = 6 ∨ o = 7 ∨ o = 8 ∨ o = 18
  · rw [if_pos q4] at h; simp [wholeB] at h
  rw [if_neg q4] at h
  by_cases q5 : o = 5 ∨ o = 9 ∨ o = 10
  · rw [if_pos q5] at h; simp [wholeB] at h
  rw [if_neg q5] at h
  cases h
theorem of_le18 {o t : Int} (h : ofB o t = true) : o ≤ 18 ∧ 1 ≤ o := by
  unfold ofB at h
  by_cases q1 : o = 11 ∨ o = 12
  · omega
  rw [if_neg q1] at h
  by_cases q2 : o = 13 ∨ o = 14 ∨ o = 15 ∨ o = 16
  · omega
  rw [if_neg q2] at h
  by_cases q3 : o = 1 ∨ o = 2 ∨ o = 3 ∨ o = 4 ∨ o = 17
  · omega
  rw [if_neg q3] at h
  by_cases q4 : o = 6 ∨ o = 7 ∨ o = 8 ∨ o = 18
  · omega
  rw [if_neg q4] at h
  by_cases q5 : o = 5 ∨ o = 9 ∨ o = 10
  · omega
  rw [if_neg q5] at h
  cases h

set_option maxHeartbeats 1000000 in
theorem rtwo_no (o t a b : Int) (w : World) (ha : Hid (word a)) (hb : Hid (word b)) (h : okTwo o t a b = false) :
    Calls Try.prog 17 #[.int .u8 o, .int .u8 t, .int .u64 a, .int .u64 b] w fun e w' => e = .returned (.tuple #[.int .u64 0, .bool false]) ∧ w' = w := by
  have hc : ofB o t = false ∨ (ofB o t = true ∧ 16 < o) ∨ (ofB o t = true ∧ o ≤ 16 ∧ rightB t a = false) ∨ (ofB o t = true ∧ o ≤ 16 ∧ rightB t a = true ∧ rightB t b = false) := by
    cases h1 : ofB o t with
    | false => simp
    | true =>
      have hl := of_le18 h1
      by_cases h2 : 16 < o
      · simp [h2]
      · have h4 : oneB o = false := by simp [oneB]; omega
        unfold okTwo at h
        cases h5 : rightB t a <;> cases h6 : rightB t b <;> simp_all
        all_goals omega
  clear h
  rcases hc with h1 | ⟨h1, h2⟩ | ⟨h1, h2, h3⟩ | ⟨h1, h2, h3, h4⟩
  all_goals
    go_enter Try.func17, Try.ntmps17
    go_wp2_with (first | (go_at_call 15; refine (rof_any _ _ _).mono ?_; rintro e w' ⟨rfl, rfl⟩) | (go_at_call 10; refine (rright_any _ _ _ ?hh).mono ?_; (case hh => assumption); rintro e w' ⟨rfl, rfl⟩))
    go_ret2
    exact ⟨rfl, rfl⟩

theorem word_ite {c : Prop} [Decidable c] {x y : Int} (hx : word x) (hy : word y) : word (if c then x else y) := by
  split
  · exact hx
  · exact hy
theorem word_wholeW (o t : Int) {a b : Int} (ha : word a) (hb : word b) : word (wholeW o t a b) := by
  have tr : ∀ x, word (truthI x) := by intro x; cases x <;> (unfold truthI word; simp)
  have wq : word (overQ a b) := by
    unfold overQ; split
    · exact ⟨by omega, by omega⟩
    · split <;> exact word_wrapu _
  have wr : word (overR a b) := by
    by_cases hz : b = 0
    · simp [overR, hz, word]
    · rw [overR_is ha hb hz]; exact word_wrapu _
  have w1 : word (bits .and .u64 a b) := by
    rw [u64_and a b ha.1 ha.2 hb.1 hb.2]
    have := Nat.and_lt_two_pow a.toNat (show b.toNat < 2 ^ 64 by have := hb.1; have := hb.2; omega)
    unfold word; omega
  have w2 : word (bits .or .u64 a b) := by
    rw [u64_or a b ha.1 ha.2 hb.1 hb.2]
    have := Nat.or_lt_two_pow (show a.toNat < 2 ^ 64 by have := ha.1; have := ha.2; omega) (show b.toNat < 2 ^ 64 by have := hb.1; have := hb.2; omega)
    unfold word; omega
  have w3 : word (bits .xor .u64 a b) := by
    rw [u64_xor a b ha.1 ha.2 hb.1 hb.2]
    have := Nat.xor_lt_two_pow (show a.toNat < 2 ^ 64 by have := ha.1; have := ha.2; omega) (show b.toNat < 2 ^ 64 by have := hb.1; have := hb.2; omega)
    unfold word; omega
  unfold wholeW
  repeat' (first | exact word_wrapu _ | exact tr _ | assumption | exact word_down _ _ | apply word_ite)

set_option maxHeartbeats 1000000 in
theorem rtwo_yes (o t a b : Int) (w : World) (ha : Hid (word a)) (hb : Hid (word b)) (h : okTwo o t a b = true) :
    Calls Try.prog 17 #[.int .u8 o, .int .u8 t, .int .u64 a, .int .u64 b] w fun e w' => e = .returned (.tuple #[.int .u64 (if t = 5 then fltI o a.toNat b.toNat else bitsI o t a b), .bool true]) ∧ ∃ n, w' = w.drewN n := by
  have hc : ofB o t = true ∧ oneB o = false ∧ rightB t a = true ∧ rightB t b = true := by
    unfold okTwo at h
    cases h1 : ofB o t <;> cases h2 : oneB o <;> cases h3 : rightB t a <;> cases h4 : rightB t b <;> simp_all
  clear h
  obtain ⟨h1, h2, h3, h4⟩ := hc
  have hl : o ≤ 16 := by
    have := of_le18 h1
    have h2' : o ≠ 17 ∧ o ≠ 18 := by simp [oneB] at h2; exact h2
    omega
  by_cases h5 : t = 5
  · subst h5
    have f1 := run_frombits
    have ho : Hid _ := of5 h1 h2
    go_enter Try.func17, Try.ntmps17
    go_wp2_with (first | (go_at_call 15; refine (rof_any _ _ _).mono ?_; rintro e w' ⟨rfl, rfl⟩) | (go_at_call 10; refine (rright_any _ _ _ ?hh).mono ?_; (case hh => assumption); rintro e w' ⟨rfl, rfl⟩) | (go_at_call 42; refine (rflt_any _ _ _ _ ho).mono ?_; rintro e w' ⟨rfl, n, rfl⟩))
    go_ret2
    exact ⟨rfl, _, rfl⟩
  · have hs : Hid (bitsI o t a b = cutI (ofT o t) (wholeW o t a b)) := whole_same ha.out hb.out h1 h2 h3 h4 h5
    have hw : Hid (word (wholeW o t a b)) := word_wholeW o t ha.out hb.out
    go_enter Try.func17, Try.ntmps17
    go_wp2_with (first | (go_at_call 15; refine (rof_any _ _ _).mono ?_; rintro e w' ⟨rfl, rfl⟩) | (go_at_call 10; refine (rright_any _ _ _ ?hh).mono ?_; (case hh => assumption); rintro e w' ⟨rfl, rfl⟩) | (go_at_call 43; refine (rwhole_any _ _ _ _ _ ha hb).mono ?_; rintro e w' ⟨rfl, n, rfl⟩) | (go_at_call 12; refine (rcut_any _ _ _ hw).mono ?_; rintro e w' ⟨rfl, rfl⟩))
    go_ret2
    exact ⟨ret_pair hs.out.symm rfl, _, rfl⟩

theorem rtwo_any (o t a b : Int) (w : World) (ha : Hid (word a)) (hb : Hid (word b)) :
    Calls Try.prog 17 #[.int .u8 o, .int .u8 t, .int .u64 a, .int .u64 b] w fun e w' => e = .returned (.tuple #[.int .u64 (twoI o t a b), .bool (okTwo o t a b)]) ∧ ∃ n, w' = w.drewN n := by
  cases h : okTwo o t a b with
  | true =>
    refine (rtwo_yes o t a b w ha hb h).mono ?_
    rintro e w' ⟨rfl, n, rfl⟩
    exact ⟨ret_pair (by simp [twoI, h]) rfl, _, rfl⟩
  | false =>
    refine (rtwo_no o t a b w ha hb h).mono ?_
    rintro e w' ⟨rfl, rfl⟩
    exact ⟨ret_pair (by simp [twoI, h]) rfl, 0, rfl⟩

set_option maxHeartbeats 400000 in
theorem rstops_any (o t b : Int) (w : World) : Calls Try.prog 21 #[.int .u8 o, .int .u8 t, .int .u64 b] w fun e w' => e = .returned (.bool (stopsB o t b)) ∧ w' = w := by
  go_enter Try.func21, Try.ntmps21
  go_wp2_with (first | (go_at_call 38; refine (rWhole_any _ _).mono ?_; rintro e w' ⟨rfl, rfl⟩))
  all_goals go_ret
  all_goals exact ⟨ret_bool (by simp_all [stopsB]), rfl⟩

set_option maxHeartbeats 1000000 in
theorem rone_no (o t a : Int) (w : World) (ha : Hid (word a)) (h : okOne o t a = false) :
    Calls Try.prog 19 #[.int .u8 o, .int .u8 t, .int .u64 a] w fun e w' => e = .returned (.tuple #[.int .u64 0, .bool false]) ∧ w' = w := by
  have hc : ofB o t = false ∨ (ofB o t = true ∧ o < 17) ∨ (ofB o t = true ∧ 17 ≤ o ∧ rightB t a = false) := by
    cases h1 : ofB o t with
    | false => simp
    | true =>
      have hl := of_le18 h1
      by_cases h2 : o < 17
      · simp [h2]
      · have h4 : oneB o = true := by simp [oneB]; omega
        unfold okOne at h
        cases h5 : rightB t a <;> simp_all
  clear h
  rcases hc with h1 | ⟨h1, h2⟩ | ⟨h1, h2, h3⟩
  all_goals
    go_enter Try.func19, Try.ntmps19
    go_wp2_with (first | (go_at_call 15; refine (rof_any _ _ _).mono ?_; rintro e w' ⟨rfl, rfl⟩) | (go_at_call 10; refine (rright_any _ _ _ ?hh).mono ?_; (case hh => assumption); rintro e w' ⟨rfl, rfl⟩))
    go_ret2
    exact ⟨rfl, rfl⟩

theorem negf_is {a : Int} (ha : word a) : bits .xor .u64 a 9223372036854775808 = (Op.negFloat .f64 a.toNat : Int) := by
  rw [u64_xor a _ ha.1 ha.2 (by omega) (by omega)]
  rfl

set_option maxHeartbeats 1000000 in
theorem rone_yes (o t a : Int) (w : World) (ha : Hid (word a)) (h : okOne o t a = true) :
    Calls Try.prog 19 #[.int .u8 o, .int .u8 t, .int .u64 a] w fun e w' => e = .returned (.tuple #[.int .u64 (if o = 18 then cutI t (bits .xor .u64 18446744073709551615 a) else if t = 5 then cutI 5 (Op.negFloat .f64 a.toNat) else cutI t (IntKind.u64.wrap (0 - a))), .bool true]) ∧ w' = w := by
  have hc : ofB o t = true ∧ oneB o = true ∧ rightB t a = true := by
    unfold okOne at h
    cases h1 : ofB o t <;> cases h2 : oneB o <;> cases h3 : rightB t a <;> simp_all
  clear h
  obtain ⟨h1, h2, h3⟩ := hc
  have ho : o = 17 ∨ o = 18 := by simp [oneB] at h2; exact h2
  by_cases h6 : t = 5
  · subst h6
    rcases ho with rfl | rfl
    · have hx : Hid (bits .xor .u64 a 9223372036854775808 = (Op.negFloat .f64 a.toNat : Int)) := negf_is ha.out
      go_enter Try.func19, Try.ntmps19
      go_wp2_with (first | (go_at_call 15; refine (rof_any _ _ _).mono ?_; rintro e w' ⟨rfl, rfl⟩) | (go_at_call 10; refine (rright_any _ _ _ ?hh).mono ?_; (case hh => assumption); rintro e w' ⟨rfl, rfl⟩) | (go_at_call 12; refine (cut5_rany _ _).mono ?_; rintro e w' ⟨rfl, rfl⟩))
      go_ret2
      exact ⟨ret_pair (by rw [hx.out]) rfl, rfl⟩
    · simp [ofB, wholeB] at h1
  · have hx : Hid (word (bits .xor .u64 18446744073709551615 a)) := word_xor a ha
    rcases ho with rfl | rfl
    · go_enter Try.func19, Try.ntmps19
      go_wp2_with (first | (go_at_call 15; refine (rof_any _ _ _).mono ?_; rintro e w' ⟨rfl, rfl⟩) | (go_at_call 10; refine (rright_any _ _ _ ?hh).mono ?_; (case hh => assumption); rintro e w' ⟨rfl, rfl⟩) | (go_at_call 12; refine (rcut_any _ _ _ (word_wrap _)).mono ?_; rintro e w' ⟨rfl, rfl⟩))
      go_ret2
      exact ⟨ret_pair (by simp) rfl, rfl⟩
    · go_enter Try.func19, Try.ntmps19
      go_wp2_with (first | (go_at_call 15; refine (rof_any _ _ _).mono ?_; rintro e w' ⟨rfl, rfl⟩) | (go_at_call 10; refine (rright_any _ _ _ ?hh).mono ?_; (case hh => assumption); rintro e w' ⟨rfl, rfl⟩) | (go_at_call 12; refine (rcut_any _ _ _ hx).mono ?_; rintro e w' ⟨rfl, rfl⟩))
      go_ret2
      exact ⟨ret_pair (by simp) rfl, rfl⟩

theorem rone_any (o t a : Int) (w : World) (ha : Hid (word a)) :
    Calls Try.prog 19 #[.int .u8 o, .int .u8 t, .int .u64 a] w fun e w' => e = .returned (.tuple #[.int .u64 (oneI o t a), .bool (okOne o t a)]) ∧ w' = w := by
  cases h : okOne o t a with
  | true =>
    refine (rone_yes o t a w ha h).mono ?_
    rintro e w' ⟨rfl, rfl⟩
    exact ⟨ret_pair (by simp [oneI, h]) rfl, rfl⟩
  | false =>
    refine (rone_no o t a w ha h).mono ?_
    rintro e w' ⟨rfl, rfl⟩
    exact ⟨ret_pair (by simp [oneI, h]) rfl, rfl⟩
end Go.Proofs.Ytekgedphjbhalaa
