/- Contracts of package scalar's operations on two words and on one: divided, twoBits, twoFloats, Two, One. -/
import Derived.Test.YtknbgpgefeahlaaGreatDoorXFloatM
namespace Go.Proofs.YtknbgpgefeahlaaGreatDoor.Sc
open Go.RowKit

theorem wrap_u64 (n : Int) : IntKind.u64.wrap n = n % 18446744073709551616 := by simp [IntKind.wrap, IntKind.bits, IntKind.signed]
theorem word_wrap (n : Int) : word (IntKind.u64.wrap n) := by
  rw [wrap_u64]; unfold word; omega

set_option maxHeartbeats 400000 in
theorem div_any (o t a b : Int) (w : World) :
    Calls Tryz.prog 121 #[.int .u8 o, .int .u8 t, .int .i64 a, .int .i64 b] w fun e w' => e = .returned (.int .u64 (divI o t a b)) ∧ w' = w := by
  by_cases hb : b = 0
  · subst hb
    go_enter Tryz.func121, Tryz.ntmps121
    go_wp2
    go_ret
    exact ⟨ret_u64 (by simp [divI]), rfl⟩
  · by_cases ho : o = 5
    · subst ho
      go_enter Tryz.func121, Tryz.ntmps121
      go_wp2_with (go_at_call 39; refine (cut_any _ _ _ (word_wrap _)).mono ?_; rintro e w' ⟨rfl, rfl⟩)
      go_ret
      exact ⟨ret_u64 (by simp [divI, hb]), rfl⟩
    · go_enter Tryz.func121, Tryz.ntmps121
      go_wp2_with (go_at_call 39; refine (cut_any _ _ _ (word_wrap _)).mono ?_; rintro e w' ⟨rfl, rfl⟩)
      go_ret
      exact ⟨ret_u64 (by simp [divI, hb, ho]), rfl⟩

set_option maxHeartbeats 1000000 in
theorem bits_any (o t a b : Int) (w : World) (hb : Hid (word b)) :
    Calls Tryz.prog 99 #[.int .u8 o, .int .u8 t, .int .u64 a, .int .u64 b] w fun e w' => e = .returned (.int .u64 (bitsI o t a b)) ∧ w' = w := by
  have hp := placesI_bd t b
  obtain ⟨p0, p1⟩ := hp
  go_enter Tryz.func99, Tryz.ntmps99
  go_wp2_with (first | (go_at_call 39; refine (cut_any _ _ _ (word_wrap _)).mono ?_; rintro e w' ⟨rfl, rfl⟩) | (go_at_call 121; refine (div_any _ _ _ _ _).mono ?_; rintro e w' ⟨rfl, rfl⟩) | (go_at_call 122; refine (places_any _ _ _ hb).mono ?_; rintro e w' ⟨rfl, rfl⟩) | (go_at_call 123; refine (cmp_any _ _ _ _).mono ?_; rintro e w' ⟨rfl, rfl⟩) | (go_at_call 119; refine (truth_any _ _).mono ?_; rintro e w' ⟨rfl, rfl⟩))
  all_goals go_ret
  all_goals exact ⟨ret_u64 (by simp_all [bitsI]), rfl⟩

set_option maxHeartbeats 400000 in
theorem cut5_any (a : Int) (w : World) :
    Calls Tryz.prog 39 #[.int .u8 5, .int .u64 a] w fun e w' => e = .returned (.int .u64 (cutI 5 a)) ∧ w' = w := by
  have f1 := run_frombits
  by_cases hn : (FloatKind.f64.format.order a.toNat a.toNat != some .eq) = true
  · go_enter Tryz.func39, Tryz.ntmps39
    go_wp2
    go_ret
    exact ⟨ret_u64 (by simp [cutI, nanI, hn]), rfl⟩
  · have hn' : (FloatKind.f64.format.order a.toNat a.toNat != some .eq) = false := by simpa using hn
    go_enter Tryz.func39, Tryz.ntmps39
    go_wp2
    go_ret
    exact ⟨ret_u64 (by simp [cutI, nanI, hn']), rfl⟩

set_option maxHeartbeats 400000 in
theorem floatWord_any (x : Nat) (w : World) :
    Calls Tryz.prog 73 #[.float .f64 x] w fun e w' => e = .returned (.int .u64 (cutI 5 x)) ∧ w' = w := by
  have f2 := run_bits
  go_enter Tryz.func73, Tryz.ntmps73
  go_wp2_with (go_at_call 39; refine (cut5_any _ _).mono ?_; rintro e w' ⟨rfl, rfl⟩)
  go_ret
  exact ⟨rfl, rfl⟩

set_option maxHeartbeats 400000 in
theorem fcmp_any (o : Int) (x y : Nat) (w : World) : Calls Tryz.prog 120 #[.int .u8 o, .float .f64 x, .float .f64 y] w fun e w' => e = .returned (.bool (fcmpB o x y)) ∧ w' = w := by
  go_enter Tryz.func120, Tryz.ntmps120
  go_wp2
  all_goals go_ret
  all_goals exact ⟨ret_bool (by simp_all [fcmpB]), rfl⟩

set_option maxHeartbeats 400000 in
theorem flt_arith (o : Int) (op : BinOp) (x y : Nat) (w : World) (ho : (o = 1 ∧ op = .add) ∨ (o = 2 ∧ op = .sub) ∨ (o = 3 ∧ op = .mul) ∨ (o = 4 ∧ op = .quo)) :
    Calls Tryz.prog 98 #[.int .u8 o, .float .f64 x, .float .f64 y] w fun e w' => e = .returned (.int .u64 (resI (floatBits op .f64 x y))) ∧ ∃ n, w' = w.drewN n := by
  cases hr : floatBits op .f64 x y with
  | some r =>
    have hrun := fun (t : TypeId) (w : World) => run_float_arith (P := Tryz.prog) w op t .f64 x y r hr
    clear hr
    rcases ho with ⟨rfl, rfl⟩ | ⟨rfl, rfl⟩ | ⟨rfl, rfl⟩ | ⟨rfl, rfl⟩
    all_goals
      go_enter Tryz.func98, Tryz.ntmps98
      go_wp2_with (go_at_call 73; refine (floatWord_any _ _).mono ?_; rintro e w' ⟨rfl, rfl⟩)
      go_ret
      exact ⟨rfl, 0, rfl⟩
  | none =>
    have hrun := fun (t : TypeId) (w : World) => run_nan (P := Tryz.prog) op x y t w (by rcases ho with h | h | h | h <;> simp [h.2]) hr
    clear hr
    rcases ho with ⟨rfl, rfl⟩ | ⟨rfl, rfl⟩ | ⟨rfl, rfl⟩ | ⟨rfl, rfl⟩
    all_goals
      go_enter Tryz.func98, Tryz.ntmps98
      go_wp2_with (go_at_call 73; refine (floatWord_any _ _).mono ?_; rintro e w' ⟨rfl, rfl⟩)
      go_ret
      exact ⟨ret_u64 resI_drawn, 1, rfl⟩

set_option maxHeartbeats 400000 in
theorem flt_cmp (o : Int) (x y : Nat) (w : World) (h1 : (o == 1) = false) (h2 : (o == 2) = false) (h3 : (o == 3) = false) (h4 : (o == 4) = false) :
    Calls Tryz.prog 98 #[.int .u8 o, .float .f64 x, .float .f64 y] w fun e w' => e = .returned (.int .u64 (truthI (fcmpB o x y))) ∧ w' = w := by
  go_enter Tryz.func98, Tryz.ntmps98
  go_wp2_with (first | (go_at_call 120; refine (fcmp_any _ _ _ _).mono ?_; rintro e w' ⟨rfl, rfl⟩) | (go_at_call 119; refine (truth_any _ _).mono ?_; rintro e w' ⟨rfl, rfl⟩))
  go_ret
  exact ⟨rfl, rfl⟩

theorem flt_any (o : Int) (x y : Nat) (w : World) :
    Calls Tryz.prog 98 #[.int .u8 o, .float .f64 x, .float .f64 y] w fun e w' => e = .returned (.int .u64 (fltI o x y)) ∧ ∃ n, w' = w.drewN n := by
  by_cases h1 : o = 1
  · subst h1; exact flt_arith 1 .add x y w (by simp)
  by_cases h2 : o = 2
  · subst h2; exact flt_arith 2 .sub x y w (by simp)
  by_cases h3 : o = 3
  · subst h3; exact flt_arith 3 .mul x y w (by simp)
  by_cases h4 : o = 4
  · subst h4; exact flt_arith 4 .quo x y w (by simp)
  · refine (flt_cmp o x y w (by simpa using h1) (by simpa using h2) (by simpa using h3) (by simpa using h4)).mono ?_
    rintro e w' ⟨rfl, rfl⟩
    exact ⟨ret_u64 (by simp [fltI, h1, h2, h3, h4]), 0, rfl⟩

def okTwo (o t a b : Int) : Bool := ofB o t && !oneB o && rightB t a && rightB t b
def twoI (o t a b : Int) : Int := if okTwo o t a b = true then (if t = 5 then fltI o a.toNat b.toNat else bitsI o t a b) else 0

set_option maxHeartbeats 1000000 in
theorem two_no (o t a b : Int) (w : World) (ha : Hid (word a)) (hb : Hid (word b)) (h : okTwo o t a b = false) :
    Calls Tryz.prog 70 #[.int .u8 o, .int .u8 t, .int .u64 a, .int .u64 b] w fun e w' => e = .returned (.tuple #[.int .u64 0, .bool false]) ∧ w' = w := by
  have hc : ofB o t = false ∨ (ofB o t = true ∧ oneB o = true) ∨ (ofB o t = true ∧ oneB o = false ∧ rightB t a = false) ∨ (ofB o t = true ∧ oneB o = false ∧ rightB t a = true ∧ rightB t b = false) := by
    unfold okTwo at h
    cases h1 : ofB o t <;> cases h2 : oneB o <;> cases h3 : rightB t a <;> cases h4 : rightB t b <;> simp_all
  clear h
  rcases hc with h1 | ⟨h1, h2⟩ | ⟨h1, h2, h3⟩ | ⟨h1, h2, h3, h4⟩
  all_goals
    go_enter Tryz.func70, Tryz.ntmps70
    go_wp2_with (first | (go_at_call 96; refine (of_any _ _ _).mono ?_; rintro e w' ⟨rfl, rfl⟩) | (go_at_call 97; refine (ofOne_any _ _).mono ?_; rintro e w' ⟨rfl, rfl⟩) | (go_at_call 23; refine (right_any _ _ _ ?hh).mono ?_; (case hh => assumption); rintro e w' ⟨rfl, rfl⟩))
    go_ret2
    exact ⟨rfl, rfl⟩

set_option maxHeartbeats 1000000 in
theorem two_yes (o t a b : Int) (w : World) (ha : Hid (word a)) (hb : Hid (word b)) (h : okTwo o t a b = true) :
    Calls Tryz.prog 70 #[.int .u8 o, .int .u8 t, .int .u64 a, .int .u64 b] w fun e w' => e = .returned (.tuple #[.int .u64 (if t = 5 then fltI o a.toNat b.toNat else bitsI o t a b), .bool true]) ∧ ∃ n, w' = w.drewN n := by
  have hc : ofB o t = true ∧ oneB o = false ∧ rightB t a = true ∧ rightB t b = true := by
    unfold okTwo at h
    cases h1 : ofB o t <;> cases h2 : oneB o <;> cases h3 : rightB t a <;> cases h4 : rightB t b <;> simp_all
  clear h
  obtain ⟨h1, h2, h3, h4⟩ := hc
  by_cases h5 : t = 5
  · subst h5
    have f1 := run_frombits
    go_enter Tryz.func70, Tryz.ntmps70
    go_wp2_with (first | (go_at_call 96; refine (of_any _ _ _).mono ?_; rintro e w' ⟨rfl, rfl⟩) | (go_at_call 97; refine (ofOne_any _ _).mono ?_; rintro e w' ⟨rfl, rfl⟩) | (go_at_call 23; refine (right_any _ _ _ ?hh).mono ?_; (case hh => assumption); rintro e w' ⟨rfl, rfl⟩) | (go_at_call 98; refine (flt_any _ _ _ _).mono ?_; rintro e w' ⟨rfl, n, rfl⟩))
    go_ret2
    exact ⟨rfl, _, rfl⟩
  · go_enter Tryz.func70, Tryz.ntmps70
    go_wp2_with (first | (go_at_call 96; refine (of_any _ _ _).mono ?_; rintro e w' ⟨rfl, rfl⟩) | (go_at_call 97; refine (ofOne_any _ _).mono ?_; rintro e w' ⟨rfl, rfl⟩) | (go_at_call 23; refine (right_any _ _ _ ?hh).mono ?_; (case hh => assumption); rintro e w' ⟨rfl, rfl⟩) | (go_at_call 99; refine (bits_any _ _ _ _ _ hb).mono ?_; rintro e w' ⟨rfl, rfl⟩))
    go_ret2
    exact ⟨ret_pair (by simp) rfl, 0, rfl⟩

theorem two_any (o t a b : Int) (w : World) (ha : Hid (word a)) (hb : Hid (word b)) :
    Calls Tryz.prog 70 #[.int .u8 o, .int .u8 t, .int .u64 a, .int .u64 b] w fun e w' => e = .returned (.tuple #[.int .u64 (twoI o t a b), .bool (okTwo o t a b)]) ∧ ∃ n, w' = w.drewN n := by
  cases h : okTwo o t a b with
  | true =>
    refine (two_yes o t a b w ha hb h).mono ?_
    rintro e w' ⟨rfl, n, rfl⟩
    exact ⟨ret_pair (by simp [twoI, h]) rfl, _, rfl⟩
  | false =>
    refine (two_no o t a b w ha hb h).mono ?_
    rintro e w' ⟨rfl, rfl⟩
    exact ⟨ret_pair (by simp [twoI, h]) rfl, 0, rfl⟩

def okOne (o t a : Int) : Bool := ofB o t && oneB o && rightB t a
def oneI (o t a : Int) : Int :=
  if okOne o t a = true then (if o = 18 then cutI t (bits .xor .u64 18446744073709551615 a) else if t = 5 then cutI 5 (Op.negFloat .f64 a.toNat) else cutI t (IntKind.u64.wrap (0 - a))) else 0

set_option maxHeartbeats 1000000 in
theorem one_no (o t a : Int) (w : World) (ha : Hid (word a)) (h : okOne o t a = false) :
    Calls Tryz.prog 69 #[.int .u8 o, .int .u8 t, .int .u64 a] w fun e w' => e = .returned (.tuple #[.int .u64 0, .bool false]) ∧ w' = w := by
  have hc : ofB o t = false ∨ (ofB o t = true ∧ oneB o = false) ∨ (ofB o t = true ∧ oneB o = true ∧ rightB t a = false) := by
    unfold okOne at h
    cases h1 : ofB o t <;> cases h2 : oneB o <;> cases h3 : rightB t a <;> simp_all
  clear h
  rcases hc with h1 | ⟨h1, h2⟩ | ⟨h1, h2, h3⟩
  all_goals
    go_enter Tryz.func69, Tryz.ntmps69
    go_wp2_with (first | (go_at_call 96; refine (of_any _ _ _).mono ?_; rintro e w' ⟨rfl, rfl⟩) | (go_at_call 97; refine (ofOne_any _ _).mono ?_; rintro e w' ⟨rfl, rfl⟩) | (go_at_call 23; refine (right_any _ _ _ ?hh).mono ?_; (case hh => assumption); rintro e w' ⟨rfl, rfl⟩))
    go_ret2
    exact ⟨rfl, rfl⟩

theorem word_xor (a : Int) (h : word a) : word (bits .xor .u64 18446744073709551615 a) := by
  obtain ⟨h0, h1⟩ := h
  rw [u64_xor _ a (by omega) (by omega) h0 h1]
  have : ((18446744073709551615 : Int).toNat ^^^ a.toNat) < 2 ^ 64 := Nat.xor_lt_two_pow (by decide) (by omega)
  unfold word; omega

set_option maxHeartbeats 1000000 in
theorem one_yes (o t a : Int) (w : World) (ha : Hid (word a)) (h : okOne o t a = true) :
    Calls Tryz.prog 69 #[.int .u8 o, .int .u8 t, .int .u64 a] w fun e w' => e = .returned (.tuple #[.int .u64 (if o = 18 then cutI t (bits .xor .u64 18446744073709551615 a) else if t = 5 then cutI 5 (Op.negFloat .f64 a.toNat) else cutI t (IntKind.u64.wrap (0 - a))), .bool true]) ∧ w' = w := by
  have hc : ofB o t = true ∧ oneB o = true ∧ rightB t a = true := by
    unfold okOne at h
    cases h1 : ofB o t <;> cases h2 : oneB o <;> cases h3 : rightB t a <;> simp_all
  clear h
  obtain ⟨h1, h2, h3⟩ := hc
  by_cases h5 : o = 18
  · subst h5
    have hx : Hid (word (bits .xor .u64 18446744073709551615 a)) := word_xor a ha
    go_enter Tryz.func69, Tryz.ntmps69
    go_wp2_with (first | (go_at_call 96; refine (of_any _ _ _).mono ?_; rintro e w' ⟨rfl, rfl⟩) | (go_at_call 97; refine (ofOne_any _ _).mono ?_; rintro e w' ⟨rfl, rfl⟩) | (go_at_call 23; refine (right_any _ _ _ ?hh).mono ?_; (case hh => assumption); rintro e w' ⟨rfl, rfl⟩) | (go_at_call 39; refine (cut_any _ _ _ hx).mono ?_; rintro e w' ⟨rfl, rfl⟩))
    go_ret2
    exact ⟨rfl, rfl⟩
  by_cases h6 : t = 5
  · subst h6
    have f1 := run_frombits
    have f3 : ∀ (x : Nat) (w : World), (Op.unary .neg (.float .f64 x)).run Tryz.prog w = .ok (.float .f64 (Op.negFloat .f64 x)) w := fun _ _ => rfl
    go_enter Tryz.func69, Tryz.ntmps69
    go_wp2_with (first | (go_at_call 96; refine (of_any _ _ _).mono ?_; rintro e w' ⟨rfl, rfl⟩) | (go_at_call 97; refine (ofOne_any _ _).mono ?_; rintro e w' ⟨rfl, rfl⟩) | (go_at_call 23; refine (right_any _ _ _ ?hh).mono ?_; (case hh => assumption); rintro e w' ⟨rfl, rfl⟩) | (go_at_call 73; refine (floatWord_any _ _).mono ?_; rintro e w' ⟨rfl, rfl⟩))
    go_ret2
    exact ⟨ret_pair (by simp) rfl, rfl⟩
  · go_enter Tryz.func69, Tryz.ntmps69
    go_wp2_with (first | (go_at_call 96; refine (of_any _ _ _).mono ?_; rintro e w' ⟨rfl, rfl⟩) | (go_at_call 97; refine (ofOne_any _ _).mono ?_; rintro e w' ⟨rfl, rfl⟩) | (go_at_call 23; refine (right_any _ _ _ ?hh).mono ?_; (case hh => assumption); rintro e w' ⟨rfl, rfl⟩) | (go_at_call 39; refine (cut_any _ _ _ (word_wrap _)).mono ?_; rintro e w' ⟨rfl, rfl⟩))
    go_ret2
    exact ⟨ret_pair (by simp) rfl, rfl⟩

theorem one_any (o t a : Int) (w : World) (ha : Hid (word a)) :
    Calls Tryz.prog 69 #[.int .u8 o, .int .u8 t, .int .u64 a] w fun e w' => e = .returned (.tuple #[.int .u64 (oneI o t a), .bool (okOne o t a)]) ∧ w' = w := by
  cases h : okOne o t a with
  | true =>
    refine (one_yes o t a w ha h).mono ?_
    rintro e w' ⟨rfl, rfl⟩
    exact ⟨ret_pair (by simp [oneI, h]) rfl, rfl⟩
  | false =>
    refine (one_no o t a w ha h).mono ?_
    rintro e w' ⟨rfl, rfl⟩
    exact ⟨ret_pair (by simp [oneI, h]) rfl, rfl⟩

end Go.Proofs.YtknbgpgefeahlaaGreatDoor.Sc
