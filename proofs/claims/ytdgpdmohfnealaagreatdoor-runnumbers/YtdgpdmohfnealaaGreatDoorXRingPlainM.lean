/- Contracts of package scalar's operations on two words and on one: divided, twoBits, twoFloats, Two, One. -/
import Derived.Test.YtdgpdmohfnealaaGreatDoorXFloatM
namespace Go.Proofs.YtdgpdmohfnealaaGreatDoor.Sc
open Go.RowKit

theorem wrap_u64 (n : Int) : IntKind.u64.wrap n = n % 18446744073709551616 := by simp [IntKind.wrap, IntKind.bits, IntKind.signed]
theorem word_wrap (n : Int) : word (IntKind.u64.wrap n) := by
  rw [wrap_u64]; unfold word; omega

set_option maxHeartbeats 400000 in
theorem div_any (o t a b : Int) (w : World) :
    Calls Tryz.prog 85 #[.int .u8 o, .int .u8 t, .int .i64 a, .int .i64 b] w fun e w' => e = .returned (.int .u64 (divI o t a b)) ∧ w' = w := by
  by_cases hb : b = 0
  · subst hb
    go_enter Tryz.func85, Tryz.ntmps85
    go_wp2
    go_ret
    exact ⟨ret_u64 (by simp [divI]), rfl⟩
  · by_cases ho : o = 5
    · subst ho
      go_enter Tryz.func85, Tryz.ntmps85
      go_wp2_with (go_at_call 28; refine (cut_any _ _ _ (word_wrap _)).mono ?_; rintro e w' ⟨rfl, rfl⟩)
      go_ret
      exact ⟨ret_u64 (by simp [divI, hb]), rfl⟩
    · go_enter Tryz.func85, Tryz.ntmps85
      go_wp2_with (go_at_call 28; refine (cut_any _ _ _ (word_wrap _)).mono ?_; rintro e w' ⟨rfl, rfl⟩)
      go_ret
      exact ⟨ret_u64 (by simp [divI, hb, ho]), rfl⟩

set_option maxHeartbeats 1000000 in
theorem bits_any (o t a b : Int) (w : World) (hb : Hid (word b)) :
    Calls Tryz.prog 73 #[.int .u8 o, .int .u8 t, .int .u64 a, .int .u64 b] w fun e w' => e = .returned (.int .u64 (bitsI o t a b)) ∧ w' = w := by
  have hp := placesI_bd t b
  obtain ⟨p0, p1⟩ := hp
  go_enter Tryz.func73, Tryz.ntmps73
  go_wp2_with (first | (go_at_call 28; refine (cut_any _ _ _ (word_wrap _)).mono ?_; rintro e w' ⟨rfl, rfl⟩) | (go_at_call 85; refine (div_any _ _ _ _ _).mono ?_; rintro e w' ⟨rfl, rfl⟩) | (go_at_call 86; refine (places_any _ _ _ hb).mono ?_; rintro e w' ⟨rfl, rfl⟩) | (go_at_call 87; refine (cmp_any _ _ _ _).mono ?_; rintro e w' ⟨rfl, rfl⟩) | (go_at_call 83; refine (truth_any _ _).mono ?_; rintro e w' ⟨rfl, rfl⟩))
  all_goals go_ret
  all_goals exact ⟨ret_u64 (by simp_all [bitsI]), rfl⟩

set_option maxHeartbeats 400000 in
theorem cut5_any (a : Int) (w : World) :
    Calls Tryz.prog 28 #[.int .u8 5, .int .u64 a] w fun e w' => e = .returned (.int .u64 (cutI 5 a)) ∧ w' = w := by
  have f1 := run_frombits
  by_cases hn : (FloatKind.f64.format.order a.toNat a.toNat != some .eq) = true
  · go_enter Tryz.func28, Tryz.ntmps28
    go_wp2
    go_ret
    exact ⟨ret_u64 (by simp [cutI, nanI, hn]), rfl⟩
  · have hn' : (FloatKind.f64.format.order a.toNat a.toNat != some .eq) = false := by simpa using hn
    go_enter Tryz.func28, Tryz.ntmps28
    go_wp2
    go_ret
    exact ⟨ret_u64 (by simp [cutI, nanI, hn']), rfl⟩

set_option maxHeartbeats 400000 in
theorem floatWord_any (x : Nat) (w : World) :
    Calls Tryz.prog 56 #[.float .f64 x] w fun e w' => e = .returned (.int .u64 (cutI 5 x)) ∧ w' = w := by
  have f2 := run_bits
  go_enter Tryz.func56, Tryz.ntmps56
  go_wp2_with (go_at_call 28; refine (cut5_any _ _).mono ?_; rintro e w' ⟨rfl, rfl⟩)
  go_ret
  exact ⟨rfl, rfl⟩

set_option maxHeartbeats 400000 in
theorem fcmp_any (o : Int) (x y : Nat) (w : World) : Calls Tryz.prog 84 #[.int .u8 o, .float .f64 x, .float .f64 y] w fun e w' => e = .returned (.bool (fcmpB o x y)) ∧ w' = w := by
  go_enter Tryz.func84, Tryz.ntmps84
  go_wp2
  all_goals go_ret
  all_goals exact ⟨ret_bool (by simp_all [fcmpB]), rfl⟩

set_option maxHeartbeats 400000 in
theorem flt_arith (o : Int) (op : BinOp) (x y : Nat) (w : World) (ho : (o = 1 ∧ op = .add) ∨ (o = 2 ∧ op = .sub) ∨ (o = 3 ∧ op = .mul) ∨ (o = 4 ∧ op = .quo)) :
    Calls Tryz.prog 72 #[.int .u8 o, .float .f64 x, .float .f64 y] w fun e w' => e = .returned (.int .u64 (resI (floatBits op .f64 x y))) ∧ ∃ n, w' = w.drewN n := by
  cases hr : floatBits op .f64 x y with
  | some r =>
    have hrun := fun (t : TypeId) (w : World) => run_float_arith (P := Tryz.prog) w op t .f64 x y r hr
    clear hr
    rcases ho with ⟨rfl, rfl⟩ | ⟨rfl, rfl⟩ | ⟨rfl, rfl⟩ | ⟨rfl, rfl⟩
    all_goals
      go_enter Tryz.func72, Tryz.ntmps72
      go_wp2_with (go_at_call 56; refine (floatWord_any _ _).mono ?_; rintro e w' ⟨rfl, rfl⟩)
      go_ret
      exact ⟨rfl, 0, rfl⟩
  | none =>
    have hrun := fun (t : TypeId) (w : World) => run_nan (P := Tryz.prog) op x y t w (by rcases ho with h | h | h | h <;> simp [h.2]) hr
    clear hr
    rcases ho with ⟨rfl, rfl⟩ | ⟨rfl, rfl⟩ | ⟨rfl, rfl⟩ | ⟨rfl, rfl⟩
    all_goals
      go_enter Tryz.func72, Tryz.ntmps72
      go_wp2_with (go_at_call 56; refine (floatWord_any _ _).mono ?_; rintro e w' ⟨rfl, rfl⟩)
      go_ret
      exact ⟨ret_u64 resI_drawn, 1, rfl⟩

set_option maxHeartbeats 400000 in
theorem flt_cmp (o : Int) (x y : Nat) (w : World) (h1 : (o == 1) = false) (h2 : (o == 2) = false) (h3 : (o == 3) = false) (h4 : (o == 4) = false) :
    Calls Tryz.prog 72 #[.int .u8 o, .float .f64 x, .float .f64 y] w fun e w' => e = .returned (.int .u64 (truthI (fcmpB o x y))) ∧ w' = w := by
  go_enter Tryz.func72, Tryz.ntmps72
  go_wp2_with (first | (go_at_call 84; refine (fcmp_any _ _ _ _).mono ?_; rintro e w' ⟨rfl, rfl⟩) | (go_at_call 83; refine (truth_any _ _).mono ?_; rintro e w' ⟨rfl, rfl⟩))
  go_ret
  exact ⟨rfl, rfl⟩

theorem flt_any (o : Int) (x y : Nat) (w : World) :
    Calls Tryz.prog 72 #[.int .u8 o, .float .f64 x, .float .f64 y] w fun e w' => e = .returned (.int .u64 (fltI o x y)) ∧ ∃ n, w' = w.drewN n := by
  by_cases h1 : o = 1
  · subst h1; exact flt_arith 1 .add x y w (by simp)
  by_cases h2 : o = 2
  · subst h2; exact flt_arith 2 .sub x y w (by simp)
  by_cases h3 : o = 3
  · subst h3; exact flt_arith 3 .mul x y w (by simp)
  by_cases h4 : o = 4
  · subst h4; exact flt_arith 4 .quo x y w (by simp)
  · refine (flt_cmp o x y w (by simpa using h1) (by simpa using h2) (by simpa using h3) (by simpa using h4)).mono ?_
    rintro e w' ⟨rfl, rfl⟩
    exact ⟨ret_u64 (by simp [fltI, h1, h2, h3, h4]), 0, rfl⟩

def okTwo (o t a b : Int) : Bool := ofB o t && !oneB o && rightB t a && rightB t b
def twoI (o t a b : Int) : Int := if okTwo o t a b = true then (if t = 5 then fltI o a.toNat b.toNat else bitsI o t a b) else 0

set_option maxHeartbeats 1000000 in
theorem two_no (o t a b : Int) (w : World) (ha : Hid (word a)) (hb : Hid (word b)) (h : okTwo o t a b = false) :
    Calls Tryz.prog 53 #[.int .u8 o, .int .u8 t, .int .u64 a, .int .u64 b] w fun e w' => e = .returned (.tuple #[.int .u64 0, .bool false]) ∧ w' = w := by
  have hc : ofB o t = false ∨ (ofB o t = true ∧ oneB o = true) ∨ (ofB o t = true ∧ oneB o = false ∧ rightB t a = false) ∨ (ofB o t = true ∧ oneB o = false ∧ rightB t a = true ∧ rightB t b = false) := by
    unfold okTwo at h
    cases h1 : ofB o t <;> cases h2 : oneB o <;> cases h3 : rightB t a <;> cases h4 : rightB t b <;> simp_all
  clear h
  rcases hc with h1 | ⟨h1, h2⟩ | ⟨h1, h2, h3⟩ | ⟨h1, h2, h3, h4⟩
  all_goals
    go_enter Tryz.func53, Tryz.ntmps53
    go_wp2_with (first | (go_at_call 70; refine (of_any _ _ _).mono ?_; rintro e w' ⟨rfl, rfl⟩) | (go_at_call 71; refine (ofOne_any _ _).mono ?_; rintro e w' ⟨rfl, rfl⟩) | (go_at_call 15; refine (right_any _ _ _ ?hh).mono ?_; (case hh => assumption); rintro e w' ⟨rfl, rfl⟩))
    go_ret2
    exact ⟨rfl, rfl⟩

set_option maxHeartbeats 1000000 in
theorem two_yes (o t a b : Int) (w : World) (ha : Hid (word a)) (hb : Hid (word b)) (h : okTwo o t a b = true) :
    Calls Tryz.prog 53 #[.int .u8 o, .int .u8 t, .int .u64 a, .int .u64 b] w fun e w' => e = .returned (.tuple #[.int .u64 (if t = 5 then fltI o a.toNat b.toNat else bitsI o t a b), .bool true]) ∧ ∃ n, w' = w.drewN n := by
  have hc : ofB o t = true ∧ oneB o = false ∧ rightB t a = true ∧ rightB t b = true := by
    unfold okTwo at h
    cases h1 : ofB o t <;> cases h2 : oneB o <;> cases h3 : rightB t a <;> cases h4 : rightB t b <;> simp_all
  clear h
  obtain ⟨h1, h2, h3, h4⟩ := hc
  by_cases h5 : t = 5
  · subst h5
    have f1 := run_frombits
    go_enter Tryz.func53, Tryz.ntmps53
    go_wp2_with (first | (go_at_call 70; refine (of_any _ _ _).mono ?_; rintro e w' ⟨rfl, rfl⟩) | (go_at_call 71; refine (ofOne_any _ _).mono ?_; rintro e w' ⟨rfl, rfl⟩) | (go_at_call 15; refine (right_any _ _ _ ?hh).mono ?_; (case hh => assumption); rintro e w' ⟨rfl, rfl⟩) | (go_at_call 72; refine (flt_any _ _ _ _).mono ?_; rintro e w' ⟨rfl, n, rfl⟩))
    go_ret2
    exact ⟨rfl, _, rfl⟩
  · go_enter Tryz.func53, Tryz.ntmps53
    go_wp2_with (first | (go_at_call 70; refine (of_any _ _ _).mono ?_; rintro e w' ⟨rfl, rfl⟩) | (go_at_call 71; refine (ofOne_any _ _).mono ?_; rintro e w' ⟨rfl, rfl⟩) | (go_at_call 15; refine (right_any _ _ _ ?hh).mono ?_; (case hh => assumption); rintro e w' ⟨rfl, rfl⟩) | (go_at_call 73; refine (bits_any _ _ _ _ _ hb).mono ?_; rintro e w' ⟨rfl, rfl⟩))
    go_ret2
    exact ⟨ret_pair (by simp) rfl, 0, rfl⟩

theorem two_any (o t a b : Int) (w : World) (ha : Hid (word a)) (hb : Hid (word b)) :
    Calls Tryz.prog 53 #[.int .u8 o, .int .u8 t, .int .u64 a, .int .u64 b] w fun e w' => e = .returned (.tuple #[.int .u64 (twoI o t a b), .bool (okTwo o t a b)]) ∧ ∃ n, w' = w.drewN n := by
  cases h : okTwo o t a b with
  | true =>
    refine (two_yes o t a b w ha hb h).mono ?_
    rintro e w' ⟨rfl, n, rfl⟩
    exact ⟨ret_pair (by simp [twoI, h]) rfl, _, rfl⟩
  | false =>
    refine (two_no o t a b w ha hb h).mono ?_
    rintro e w' ⟨rfl, rfl⟩
    exact ⟨ret_pair (by simp [twoI, h]) rfl, 0, rfl⟩

def okOne (o t a : Int) : Bool := ofB o t && oneB o && rightB t a
def oneI (o t a : Int) : Int :=
  if okOne o t a = true then (if o = 18 then cutI t (bits .xor .u64 18446744073709551615 a) else if t = 5 then cutI 5 (Op.negFloat .f64 a.toNat) else cutI t (IntKind.u64.wrap (0 - a))) else 0

set_option maxHeartbeats 1000000 in
theorem one_no (o t a : Int) (w : World) (ha : Hid (word a)) (h : okOne o t a = false) :
    Calls Tryz.prog 52 #[.int .u8 o, .int .u8 t, .int .u64 a] w fun e w' => e = .returned (.tuple #[.int .u64 0, .bool false]) ∧ w' = w := by
  have hc : ofB o t = false ∨ (ofB o t = true ∧ oneB o = false) ∨ (ofB o t = true ∧ oneB o = true ∧ rightB t a = false) := by
    unfold okOne at h
    cases h1 : ofB o t <;> cases h2 : oneB o <;> cases h3 : rightB t a <;> simp_all
  clear h
  rcases hc with h1 | ⟨h1, h2⟩ | ⟨h1, h2, h3⟩
  all_goals
    go_enter Tryz.func52, Tryz.ntmps52
    go_wp2_with (first | (go_at_call 70; refine (of_any _ _ _).mono ?_; rintro e w' ⟨rfl, rfl⟩) | (go_at_call 71; refine (ofOne_any _ _).mono ?_; rintro e w' ⟨rfl, rfl⟩) | (go_at_call 15; refine (right_any _ _ _ ?hh).mono ?_; (case hh => assumption); rintro e w' ⟨rfl, rfl⟩))
    go_ret2
    exact ⟨rfl, rfl⟩

theorem word_xor (a : Int) (h : word a) : word (bits .xor .u64 18446744073709551615 a) := by
  obtain ⟨h0, h1⟩ := h
  rw [u64_xor _ a (by omega) (by omega) h0 h1]
  have : ((18446744073709551615 : Int).toNat ^^^ a.toNat) < 2 ^ 64 := Nat.xor_lt_two_pow (by decide) (by omega)
  unfold word; omega

set_option maxHeartbeats 1000000 in
theorem one_yes (o t a : Int) (w : World) (ha : Hid (word a)) (h : okOne o t a = true) :
    Calls Tryz.prog 52 #[.int .u8 o, .int .u8 t, .int .u64 a] w fun e w' => e = .returned (.tuple #[.int .u64 (if o = 18 then cutI t (bits .xor .u64 18446744073709551615 a) else if t = 5 then cutI 5 (Op.negFloat .f64 a.toNat) else cutI t (IntKind.u64.wrap (0 - a))), .bool true]) ∧ w' = w := by
  have hc : ofB o t = true ∧ oneB o = true ∧ rightB t a = true := by
    unfold okOne at h
    cases h1 : ofB o t <;> cases h2 : oneB o <;> cases h3 : rightB t a <;> simp_all
  clear h
  obtain ⟨h1, h2, h3⟩ := hc
  by_cases h5 : o = 18
  · subst h5
    have hx : Hid (word (bits .xor .u64 18446744073709551615 a)) := word_xor a ha
    go_enter Tryz.func52, Tryz.ntmps52
    go_wp2_with (first | (go_at_call 70; refine (of_any _ _ _).mono ?_; rintro e w' ⟨rfl, rfl⟩) | (go_at_call 71; refine (ofOne_any _ _).mono ?_; rintro e w' ⟨rfl, rfl⟩) | (go_at_call 15; refine (right_any _ _ _ ?hh).mono ?_; (case hh => assumption); rintro e w' ⟨rfl, rfl⟩) | (go_at_call 28; refine (cut_any _ _ _ hx).mono ?_; rintro e w' ⟨rfl, rfl⟩))
    go_ret2
    exact ⟨rfl, rfl⟩
  by_cases h6 : t = 5
  · subst h6
    have f1 := run_frombits
    have f3 : ∀ (x : Nat) (w : World), (Op.unary .neg (.float .f64 x)).run Tryz.prog w = .ok (.float .f64 (Op.negFloat .f64 x)) w := fun _ _ => rfl
    go_enter Tryz.func52, Tryz.ntmps52
    go_wp2_with (first | (go_at_call 70; refine (of_any _ _ _).mono ?_; rintro e w' ⟨rfl, rfl⟩) | (go_at_call 71; refine (ofOne_any _ _).mono ?_; rintro e w' ⟨rfl, rfl⟩) | (go_at_call 15; refine (right_any _ _ _ ?hh).mono ?_; (case hh => assumption); rintro e w' ⟨rfl, rfl⟩) | (go_at_call 56; refine (floatWord_any _ _).mono ?_; rintro e w' ⟨rfl, rfl⟩))
    go_ret2
    exact ⟨ret_pair (by simp) rfl, rfl⟩
  · go_enter Tryz.func52, Tryz.ntmps52
    go_wp2_with (first | (go_at_call 70; refine (of_any _ _ _).mono ?_; rintro e w' ⟨rfl, rfl⟩) | (go_at_call 71; refine (ofOne_any _ _).mono ?_; rintro e w' ⟨rfl, rfl⟩) | (go_at_call 15; refine (right_any _ _ _ ?hh).mono ?_; (case hh => assumption); rintro e w' ⟨rfl, rfl⟩) | (go_at_call 28; refine (cut_any _ _ _ (word_wrap _)).mono ?_; rintro e w' ⟨rfl, rfl⟩))
    go_ret2
    exact ⟨ret_pair (by simp) rfl, rfl⟩

theorem one_any (o t a : Int) (w : World) (ha : Hid (word a)) :
    Calls Tryz.prog 52 #[.int .u8 o, .int .u8 t, .int .u64 a] w fun e w' => e = .returned (.tuple #[.int .u64 (oneI o t a), .bool (okOne o t a)]) ∧ w' = w := by
  cases h : okOne o t a with
  | true =>
    refine (one_yes o t a w ha h).mono ?_
    rintro e w' ⟨rfl, rfl⟩
    exact ⟨ret_pair (by simp [oneI, h]) rfl, rfl⟩
  | false =>
    refine (one_no o t a w ha h).mono ?_
    rintro e w' ⟨rfl, rfl⟩
    exact ⟨ret_pair (by simp [oneI, h]) rfl, rfl⟩

end Go.Proofs.YtdgpdmohfnealaaGreatDoor.Sc
/- Binary64 words that stand for whole numbers: what is read of a whole number that is written, how such words compare, what is cut off. -/
namespace Go.Proofs.YtdgpdmohfnealaaGreatDoor.Sc
open Go.RowKit

theorem d_least : Ieee.double.leastPlace = -1074 := by decide
theorem d_frac : Ieee.double.fractionBits = 52 := rfl

/-- 'signed' of a shift, as a product. -/
def sgn (s : Bool) (n : Nat) : Int := if s then -(n : Int) else (n : Int)
theorem signed_eq (s : Bool) (m k : Nat) : Ieee.signed s m k = sgn s m * 2 ^ k := by
  unfold Ieee.signed sgn
  have e : ((m <<< k : Nat) : Int) = (m : Int) * 2 ^ k := by
    rw [Nat.shiftLeft_eq]; push_cast; rfl
  cases s
  · simp [e]
  · simp only [e, if_true]; exact (Int.neg_mul _ _).symm

/-- The datum 'number s m p' stands for the whole number N. -/
def stands (s : Bool) (m : Nat) (p N : Int) : Prop := ∀ q : Nat, 0 ≤ p + q → sgn s m * 2 ^ (p + q).toNat = N * 2 ^ q

theorem pow2_pos (n : Nat) : (0 : Int) < 2 ^ n := Int.pow_pos (by omega)
theorem cmp_scale (a b c : Int) (hc : 0 < c) : compare (a * c) (b * c) = compare a b := by
  simp only [compare, compareOfLessAndEq]
  have h1 : a * c < b * c ↔ a < b := ⟨fun h => Int.lt_of_mul_lt_mul_right h (by omega), fun h => Int.mul_lt_mul_of_pos_right h hc⟩
  have h2 : a * c = b * c ↔ a = b := ⟨fun h => Int.eq_of_mul_eq_mul_right (by omega) h, fun h => by rw [h]⟩
  simp only [h1, h2]

theorem order_stands {s t : Bool} {m n : Nat} {p j N K : Int} (h : stands s m p N) (g : stands t n j K) : (Ieee.Datum.number s m p).order (.number t n j) = some (compare N K) := by
  simp only [Ieee.Datum.order, signed_eq]
  congr 1
  by_cases hb : min p j ≤ 0
  · have h1 := h (-(min p j)).toNat (by omega)
    have g1 := g (-(min p j)).toNat (by omega)
    have e1 : (p + ((-(min p j)).toNat : Int)).toNat = (p - min p j).toNat := by omega
    have e2 : (j + ((-(min p j)).toNat : Int)).toNat = (j - min p j).toNat := by omega
    rw [e1] at h1
    rw [e2] at g1
    rw [h1, g1]
    exact cmp_scale _ _ _ (pow2_pos _)
  · have h1 := h 0 (by omega)
    have g1 := g 0 (by omega)
    have e1 : (p + ((0 : Nat) : Int)).toNat = (p - min p j).toNat + (min p j).toNat := by omega
    have e2 : (j + ((0 : Nat) : Int)).toNat = (j - min p j).toNat + (min p j).toNat := by omega
    rw [e1, Int.pow_add, ← Int.mul_assoc] at h1
    rw [e2, Int.pow_add, ← Int.mul_assoc] at g1
    rw [← cmp_scale _ _ (2 ^ (min p j).toNat) (pow2_pos _), h1, g1]
    simp

theorem stands_of (s : Bool) (m : Nat) (p : Int) (N : Int) (q0 : Nat) (h0 : 0 ≤ p + q0) (h : sgn s m * 2 ^ (p + q0).toNat = N * 2 ^ q0) : stands s m p N := by
  intro q hq
  by_cases hle : q0 ≤ q
  · have e1 : (p + (q : Int)).toNat = (p + q0).toNat + (q - q0) := by omega
    have e2 : q = q0 + (q - q0) := by omega
    rw [e1, Int.pow_add, ← Int.mul_assoc, h]
    conv => rhs; rw [e2, Int.pow_add, ← Int.mul_assoc]
  · have e1 : (p + (q0 : Int)).toNat = (p + q).toNat + (q0 - q) := by omega
    have e2 : q0 = q + (q0 - q) := by omega
    rw [e1, Int.pow_add, ← Int.mul_assoc] at h
    conv at h => rhs; rw [e2, Int.pow_add, ← Int.mul_assoc]
    exact Int.eq_of_mul_eq_mul_right (by have := pow2_pos (q0 - q); omega) h

/-- What is cut towards zero. -/
theorem cut_zero (neg : Bool) (n d : Nat) : Ieee.Toward.zero.cut neg n d = n / 2 ^ d := by
  simp only [Ieee.Toward.cut, Bool.toNat_false, Nat.add_zero, Nat.one_shiftLeft]
  by_cases h : d ≤ n.log2 + 2
  · rw [Nat.min_eq_left h]
  · rw [Nat.min_eq_right (by omega)]
    have h1 : n < 2 ^ (n.log2 + 1) := Nat.lt_log2_self
    have h2 : 2 ^ (n.log2 + 1) ≤ 2 ^ (n.log2 + 2) := Nat.pow_le_pow_right (by omega) (by omega)
    have h3 : 2 ^ (n.log2 + 2) ≤ 2 ^ d := Nat.pow_le_pow_right (by omega) (by omega)
    rw [Nat.div_eq_of_lt (by omega), Nat.div_eq_of_lt (by omega)]
theorem cut_even_dvd (neg : Bool) (n d : Nat) (h : n % 2 ^ d = 0) (hd : d ≤ n.log2 + 2) : Ieee.Toward.even.cut neg n d = n / 2 ^ d := by
  simp only [Ieee.Toward.cut, Nat.one_shiftLeft, Nat.min_eq_left hd, h]
  have := Nat.two_pow_pos d
  have e : (decide (2 ^ d < 2 * 0) || (2 ^ d == 2 * 0 && n / 2 ^ d % 2 == 1)) = false := by simp
  simp

theorem log2_norm (m k : Nat) (h1 : 4503599627370496 ≤ m) (h2 : m < 9007199254740992) : (m * 2 ^ k).log2 = 52 + k := by
  have hk := Nat.two_pow_pos k
  have hm : m * 2 ^ k ≠ 0 := Nat.mul_ne_zero (by omega) (by omega)
  have p52 : (2 : Nat) ^ 52 = 4503599627370496 := by decide
  have p53 : (2 : Nat) ^ 53 = 9007199254740992 := by decide
  have a1 : 4503599627370496 * 2 ^ k ≤ m * 2 ^ k := Nat.mul_le_mul_right _ h1
  have a2 : m * 2 ^ k < 9007199254740992 * 2 ^ k := Nat.mul_lt_mul_of_pos_right h2 hk
  refine (Nat.log2_eq_iff hm).2 ⟨?_, ?_⟩
  · rw [Nat.pow_add, p52]; exact a1
  · have e : 52 + k + 1 = 53 + k := by omega
    rw [e, Nat.pow_add, p53]; exact a2

/-- A normal significand, shifted up by k digits, at a place that much lower: the word of that significand. -/
theorem nearest_def (s : Bool) (mag : Nat) (place L : Int) (h : mag ≠ 0) (hL : max (place + (mag.log2 : Int) - ((52 : Nat) : Int)) (-1074) = L) :
    Ieee.double.nearest s mag place = Ieee.double.word s (min ((L - -1074).toNat * 4503599627370496 + Ieee.Toward.even.cut s (mag <<< (place - L).toNat) (L - place).toNat) 9218868437227405312) := by
  subst hL
  rw [← d_least, ← d_binade, ← d_inf]
  unfold Ieee.Format.nearest
  rw [if_neg h]
  rfl
theorem nearest_norm (s : Bool) (m k : Nat) (i : Int) (h1 : 4503599627370496 ≤ m) (h2 : m < 9007199254740992) (hi : -1074 ≤ i) (hj : i ≤ 971) :
    Ieee.double.nearest s (m * 2 ^ k) (i - k) = Ieee.double.word s ((i + 1074).toNat * 4503599627370496 + m) := by
  have hk := Nat.two_pow_pos k
  have hm : m * 2 ^ k ≠ 0 := Nat.mul_ne_zero (by omega) (by omega)
  have hl : (m * 2 ^ k).log2 = 52 + k := log2_norm m k h1 h2
  have hmod : m * 2 ^ k % 2 ^ k = 0 := Nat.mul_mod_left _ _
  have hdiv : m * 2 ^ k / 2 ^ k = m := Nat.mul_div_cancel _ hk
  rw [nearest_def s (m * 2 ^ k) (i - k) i hm (by rw [hl]; omega)]
  generalize m * 2 ^ k = M at *
  have e2 : (i - (k : Int) - i).toNat = 0 := by omega
  have e3 : (i - (i - (k : Int))).toNat = k := by omega
  rw [e2, e3, Nat.shiftLeft_zero, cut_even_dvd s M k hmod (by omega), hdiv]
  have e4 : (i - -1074).toNat = (i + 1074).toNat := by omega
  rw [e4, Nat.min_eq_left (by omega)]

theorem read_word (s : Bool) (m : Nat) (i : Int) (h1 : 4503599627370496 ≤ m) (h2 : m < 9007199254740992) (hi : -1074 ≤ i) (hj : i ≤ 971) :
    Ieee.double.read (Ieee.double.word s ((i + 1074).toNat * 4503599627370496 + m)) = .number s m i := by
  generalize hr : (i + 1074).toNat * 4503599627370496 + m = r
  have hrl : r < 9218868437227405312 := by omega
  have hrg : 4503599627370496 ≤ r := by omega
  have em : Ieee.double.word s r % 9223372036854775808 = r := by
    unfold Ieee.Format.word; rw [d_sign]; cases s <;> simp <;> omega
  have ed : (Ieee.double.word s r / 9223372036854775808 % 2 == 1) = s := by
    unfold Ieee.Format.word; rw [d_sign]
    cases s
    · have : r / 9223372036854775808 = 0 := by omega
      simp [this]
    · have : (9223372036854775808 + r) / 9223372036854775808 = 1 := by omega
      simp [this]
  rw [read_norm _ (by rw [em]; exact hrg) (by rw [em]; exact hrl), em, ed, d_least]
  have e1 : 4503599627370496 + r % 4503599627370496 = m := by omega
  have e2 : (-1074 : Int) + ((r / 4503599627370496 - 1 : Nat) : Int) = i := by omega
  rw [e1, e2]
end Go.Proofs.YtdgpdmohfnealaaGreatDoor.Sc
/- Whole numbers of a type, modulo a power of two: plain arithmetic. -/
namespace Go.Proofs.YtdgpdmohfnealaaGreatDoor.Sc
open Go.RowKit

def wh (t : Int) : Prop := t = 2 ∨ t = 3 ∨ t = 4
def md (t : Int) : Int := if t = 2 then 256 else if t = 3 then 4294967296 else 18446744073709551616
def cg (t x y : Int) : Prop := ∃ k : Int, x = y + k * md t
def fitW (t x : Int) : Prop := word x ∧ cutI t x = x

theorem wrapu (n : Int) : IntKind.u64.wrap n = n % 18446744073709551616 := by simp [IntKind.wrap, IntKind.bits, IntKind.signed]

theorem cg_refl (t x : Int) : cg t x x := ⟨0, by omega⟩
theorem cg_symm {t x y : Int} (h : cg t x y) : cg t y x := by
  obtain ⟨k, h⟩ := h; exact ⟨-k, by grind⟩
theorem cg_trans {t x y z : Int} (h : cg t x y) (g : cg t y z) : cg t x z := by
  obtain ⟨k, h⟩ := h; obtain ⟨l, g⟩ := g; exact ⟨k + l, by grind⟩
theorem cg_add {t x y u v : Int} (h : cg t x y) (g : cg t u v) : cg t (x + u) (y + v) := by
  obtain ⟨k, h⟩ := h; obtain ⟨l, g⟩ := g; exact ⟨k + l, by grind⟩
theorem cg_sub {t x y u v : Int} (h : cg t x y) (g : cg t u v) : cg t (x - u) (y - v) := by
  obtain ⟨k, h⟩ := h; obtain ⟨l, g⟩ := g; exact ⟨k - l, by grind⟩
theorem cg_mul {t x y u v : Int} (h : cg t x y) (g : cg t u v) : cg t (x * u) (y * v) := by
  obtain ⟨k, h⟩ := h; obtain ⟨l, g⟩ := g; exact ⟨k * u + y * l, by grind⟩

theorem cg_wrap {t : Int} (h : wh t) (n : Int) : cg t (IntKind.u64.wrap n) n := by
  rw [wrapu]
  rcases h with rfl | rfl | rfl
  · exact ⟨-(n / 18446744073709551616) * 72057594037927936, by simp [md]; omega⟩
  · exact ⟨-(n / 18446744073709551616) * 4294967296, by simp [md]; omega⟩
  · exact ⟨-(n / 18446744073709551616), by simp [md]; omega⟩
theorem word_wrapu (n : Int) : word (IntKind.u64.wrap n) := by
  rw [wrapu]; unfold word; omega

theorem cut2 (x : Int) : cutI 2 x = x % 256 := by simp [cutI]
theorem cut3 (x : Int) : cutI 3 x = IntKind.u64.wrap (wrap32 x) := by simp [cutI]
theorem cut4 (x : Int) : cutI 4 x = x := by simp [cutI]
theorem cg_cut {t : Int} (h : wh t) (x : Int) : cg t (cutI t x) x := by
  rcases h with rfl | rfl | rfl
  · rw [cut2]; exact ⟨-(x / 256), by simp [md]; omega⟩
  · rw [cut3]
    refine cg_trans (cg_wrap (Or.inr (Or.inl rfl)) _) ?_
    unfold wrap32
    exact ⟨-((x + 2147483648) / 4294967296), by simp [md]; omega⟩
  · rw [cut4]; exact cg_refl _ _
theorem fit_cut {t : Int} (h : wh t) (x : Int) (hx : word x) : fitW t (cutI t x) := by
  obtain ⟨h0, h1⟩ := hx
  rcases h with rfl | rfl | rfl
  · refine ⟨?_, ?_⟩
    · rw [cut2]; unfold word; omega
    · rw [cut2, cut2]; omega
  · refine ⟨?_, ?_⟩
    · rw [cut3]; exact word_wrapu _
    · rw [cut3, cut3, wrapu, wrapu]; unfold wrap32; omega
  · exact ⟨by rw [cut4]; exact ⟨h0, h1⟩, by rw [cut4, cut4]⟩
theorem fit_eq {t x y : Int} (h : wh t) (hx : fitW t x) (hy : fitW t y) (g : cg t x y) : x = y := by
  obtain ⟨⟨x0, x1⟩, hx⟩ := hx
  obtain ⟨⟨y0, y1⟩, hy⟩ := hy
  obtain ⟨k, g⟩ := g
  rcases h with rfl | rfl | rfl
  · rw [cut2] at hx hy; simp [md] at g; omega
  · rw [cut3, wrapu] at hx hy; simp [md] at g; unfold wrap32 at hx hy; omega
  · simp [md] at g; omega
theorem fit_right {t x : Int} (h : wh t) (hx : fitW t x) : rightB t x = true := by
  have : typedB t = true := by rcases h with rfl | rfl | rfl <;> decide
  simp [rightB, this, hx.2]

theorem b1 (t x y : Int) : bitsI 1 t x y = cutI t (IntKind.u64.wrap (x + y)) := by simp [bitsI]
theorem b2 (t x y : Int) : bitsI 2 t x y = cutI t (IntKind.u64.wrap (x - y)) := by simp [bitsI]
theorem b3 (t x y : Int) : bitsI 3 t x y = cutI t (IntKind.u64.wrap (x * y)) := by simp [bitsI]
theorem b4 (t x y : Int) : bitsI 4 t x y = divI 4 t (wrap64 x) (wrap64 y) := by simp [bitsI]
theorem b5 (t x y : Int) : bitsI 5 t x y = divI 5 t (wrap64 x) (wrap64 y) := by simp [bitsI]
theorem fit_zero {t : Int} (h : wh t) : fitW t 0 := by
  rcases h with rfl | rfl | rfl
  · exact ⟨⟨by omega, by omega⟩, by decide⟩
  · exact ⟨⟨by omega, by omega⟩, by rw [cut3, wrapu]; unfold wrap32; decide⟩
  · exact ⟨⟨by omega, by omega⟩, by decide⟩
theorem fit_one {t : Int} (h : wh t) : fitW t 1 := by
  rcases h with rfl | rfl | rfl
  · exact ⟨⟨by omega, by omega⟩, by decide⟩
  · exact ⟨⟨by omega, by omega⟩, by rw [cut3, wrapu]; unfold wrap32; decide⟩
  · exact ⟨⟨by omega, by omega⟩, by decide⟩
theorem fit_b {t : Int} (h : wh t) (o x y : Int) (ho : o = 1 ∨ o = 2 ∨ o = 3 ∨ o = 4 ∨ o = 5) : fitW t (bitsI o t x y) := by
  rcases ho with rfl | rfl | rfl | rfl | rfl
  · rw [b1]; exact fit_cut h _ (word_wrapu _)
  · rw [b2]; exact fit_cut h _ (word_wrapu _)
  · rw [b3]; exact fit_cut h _ (word_wrapu _)
  · rw [b4]; unfold divI
    split
    · exact fit_zero h
    · split <;> exact fit_cut h _ (word_wrapu _)
  · rw [b5]; unfold divI
    split
    · exact fit_zero h
    · split <;> exact fit_cut h _ (word_wrapu _)
theorem c1 {t : Int} (h : wh t) (x y : Int) : cg t (bitsI 1 t x y) (x + y) := by rw [b1]; exact cg_trans (cg_cut h _) (cg_wrap h _)
theorem c2 {t : Int} (h : wh t) (x y : Int) : cg t (bitsI 2 t x y) (x - y) := by rw [b2]; exact cg_trans (cg_cut h _) (cg_wrap h _)
theorem c3 {t : Int} (h : wh t) (x y : Int) : cg t (bitsI 3 t x y) (x * y) := by rw [b3]; exact cg_trans (cg_cut h _) (cg_wrap h _)

theorem r_addcomm (t a b : Int) : bitsI 1 t a b = bitsI 1 t b a := by rw [b1, b1, Int.add_comm]
theorem r_mulcomm (t a b : Int) : bitsI 3 t a b = bitsI 3 t b a := by rw [b3, b3, Int.mul_comm]
theorem r_addassoc {t : Int} (h : wh t) (a b c : Int) : bitsI 1 t (bitsI 1 t a b) c = bitsI 1 t a (bitsI 1 t b c) := by
  refine fit_eq h (fit_b h _ _ _ (by simp)) (fit_b h _ _ _ (by simp)) ?_
  refine cg_trans (c1 h _ _) (cg_trans (cg_add (c1 h _ _) (cg_refl _ _)) (cg_symm (cg_trans (c1 h _ _) (cg_trans (cg_add (cg_refl _ _) (c1 h _ _)) ?_))))
  rw [Int.add_assoc]; exact cg_refl _ _
theorem r_mulassoc {t : Int} (h : wh t) (a b c : Int) : bitsI 3 t (bitsI 3 t a b) c = bitsI 3 t a (bitsI 3 t b c) := by
  refine fit_eq h (fit_b h _ _ _ (by simp)) (fit_b h _ _ _ (by simp)) ?_
  refine cg_trans (c3 h _ _) (cg_trans (cg_mul (c3 h _ _) (cg_refl _ _)) (cg_symm (cg_trans (c3 h _ _) (cg_trans (cg_mul (cg_refl _ _) (c3 h _ _)) ?_))))
  rw [Int.mul_assoc]; exact cg_refl _ _
theorem r_back {t : Int} (h : wh t) (a b : Int) (ha : fitW t a) : bitsI 2 t (bitsI 1 t a b) b = a := by
  refine fit_eq h (fit_b h _ _ _ (by simp)) ha ?_
  refine cg_trans (c2 h _ _) (cg_trans (cg_sub (c1 h _ _) (cg_refl _ _)) ?_)
  have : a + b - b = a := by omega
  rw [this]; exact cg_refl _ _
theorem r_dist {t : Int} (h : wh t) (a b c : Int) : bitsI 3 t a (bitsI 1 t b c) = bitsI 1 t (bitsI 3 t a b) (bitsI 3 t a c) := by
  refine fit_eq h (fit_b h _ _ _ (by simp)) (fit_b h _ _ _ (by simp)) ?_
  refine cg_trans (c3 h _ _) (cg_trans (cg_mul (cg_refl _ _) (c1 h _ _)) (cg_symm (cg_trans (c1 h _ _) (cg_trans (cg_add (c3 h _ _) (c3 h _ _)) ?_))))
  rw [Int.mul_add]; exact cg_refl _ _
theorem r_neg {t : Int} (h : wh t) (a b : Int) : bitsI 1 t a (cutI t (IntKind.u64.wrap (0 - b))) = bitsI 2 t a b := by
  refine fit_eq h (fit_b h _ _ _ (by simp)) (fit_b h _ _ _ (by simp)) ?_
  refine cg_trans (c1 h _ _) (cg_trans (cg_add (cg_refl _ _) (cg_trans (cg_cut h _) (cg_wrap h _))) (cg_symm (cg_trans (c2 h _ _) ?_)))
  have : a + (0 - b) = a - b := by omega
  rw [this]; exact cg_refl _ _
theorem xor_all (b : Int) (hb : word b) : bits .xor .u64 18446744073709551615 b = 18446744073709551615 - b := by
  obtain ⟨h0, h1⟩ := hb
  have hx := u64_xor 18446744073709551615 b (by omega) (by omega) h0 h1
  rw [hx]
  have e : (18446744073709551615 : Int).toNat = 2 ^ 64 - 1 := by decide
  have hlt : b.toNat < 2 ^ 64 := by omega
  have key : (2 ^ 64 - 1) ^^^ b.toNat = 2 ^ 64 - 1 - b.toNat := by
    apply Nat.eq_of_testBit_eq
    intro i
    rw [Nat.testBit_xor, Nat.testBit_two_pow_sub_one, Nat.sub_sub, Nat.add_comm 1, Nat.testBit_two_pow_sub_succ hlt]
    by_cases hi : i < 64
    · simp [hi]
    · have : b.toNat.testBit i = false := Nat.testBit_lt_two_pow (Nat.lt_of_lt_of_le hlt (Nat.pow_le_pow_right (by omega) (by omega)))
      simp [hi, this]
  rw [e, key]; omega
theorem r_not {t : Int} (h : wh t) (b : Int) (hb : word b) : bitsI 1 t (cutI t (bits .xor .u64 18446744073709551615 b)) 1 = cutI t (IntKind.u64.wrap (0 - b)) := by
  rw [xor_all b hb]
  refine fit_eq h (fit_b h _ _ _ (by simp)) (fit_cut h _ (word_wrapu _)) ?_
  refine cg_trans (c1 h _ _) (cg_trans (cg_add (cg_cut h _) (cg_refl _ _)) (cg_symm (cg_trans (cg_cut h _) (cg_trans (cg_wrap h _) ?_))))
  refine cg_trans (cg_symm (cg_wrap h _)) (cg_trans ?_ (cg_wrap h _))
  rw [wrapu, wrapu]
  have : (0 - b) % 18446744073709551616 = (18446744073709551615 - b + 1) % 18446744073709551616 := by omega
  rw [this]; exact cg_refl _ _

theorem cg_wrap64 {t : Int} (h : wh t) (n : Int) : cg t (wrap64 n) n := by
  refine cg_trans (cg_symm (cg_wrap h _)) (cg_trans ?_ (cg_wrap h n))
  have : IntKind.u64.wrap (wrap64 n) = IntKind.u64.wrap n := by rw [wrapu, wrapu]; unfold wrap64; omega
  rw [this]; exact cg_refl _ _
theorem d4 {t : Int} (h : wh t) (a b : Int) (hb : wrap64 b ≠ 0) : cg t (bitsI 4 t a b) ((wrap64 a).tdiv (wrap64 b)) := by
  rw [b4]; simp only [divI, if_neg hb]
  rw [if_neg (by decide)]
  exact cg_trans (cg_cut h _) (cg_trans (cg_wrap h _) (cg_wrap64 h _))
theorem e5 (t a b : Int) (hb : wrap64 b ≠ 0) : bitsI 5 t a b = cutI t (IntKind.u64.wrap ((wrap64 a).tmod (wrap64 b))) := by
  rw [b5]; simp [divI, hb]
theorem d5 {t : Int} (h : wh t) (a b : Int) (hb : wrap64 b ≠ 0) : cg t (bitsI 5 t a b) ((wrap64 a).tmod (wrap64 b)) := by
  rw [e5 t a b hb]; exact cg_trans (cg_cut h _) (cg_wrap h _)
theorem r_div {t : Int} (h : wh t) (a b : Int) (ha : fitW t a) (hb : wrap64 b ≠ 0) : bitsI 1 t (bitsI 3 t (bitsI 4 t a b) b) (bitsI 5 t a b) = a := by
  refine fit_eq h (fit_b h _ _ _ (by simp)) ha ?_
  refine cg_trans (c1 h _ _) (cg_trans (cg_add (cg_trans (c3 h _ _) (cg_mul (d4 h a b hb) (cg_symm (cg_wrap64 h b)))) (d5 h a b hb)) ?_)
  rw [Int.mul_comm, Int.mul_tdiv_add_tmod]
  exact cg_wrap64 h a
theorem nz {b : Int} (hw : word b) (h : b ≠ 0) : wrap64 b ≠ 0 := by
  obtain ⟨h0, h1⟩ := hw
  unfold wrap64; omega
def inT (t n : Int) : Prop := if t = 2 then 0 ≤ n ∧ n < 256 else if t = 3 then -2147483648 ≤ n ∧ n < 2147483648 else -9223372036854775808 ≤ n ∧ n < 9223372036854775808
theorem inT2 (n : Int) : inT 2 n ↔ (0 ≤ n ∧ n < 256) := by simp [inT]
theorem inT3 (n : Int) : inT 3 n ↔ (-2147483648 ≤ n ∧ n < 2147483648) := by simp [inT]
theorem inT4 (n : Int) : inT 4 n ↔ (-9223372036854775808 ≤ n ∧ n < 9223372036854775808) := by simp [inT]
theorem in_of_fit {t x : Int} (h : wh t) (hx : fitW t x) : inT t (wrap64 x) := by
  obtain ⟨⟨h0, h1⟩, hx⟩ := hx
  rcases h with rfl | rfl | rfl
  · rw [cut2] at hx; rw [inT2]; unfold wrap64; omega
  · rw [cut3, wrapu] at hx; unfold wrap32 at hx; rw [inT3]; unfold wrap64; omega
  · rw [inT4]; unfold wrap64; omega
theorem wrap_in {t n : Int} (h : wh t) (hn : inT t n) : wrap64 (cutI t (IntKind.u64.wrap n)) = n := by
  rcases h with rfl | rfl | rfl
  · rw [inT2] at hn; rw [cut2, wrapu]; unfold wrap64; omega
  · rw [inT3] at hn; rw [cut3, wrapu, wrapu]; unfold wrap64 wrap32; omega
  · rw [inT4] at hn; rw [cut4, wrapu]; unfold wrap64; omega
theorem tmod_abs (a b : Int) (hb : b ≠ 0) : (a.tmod b).natAbs < b.natAbs := by
  rw [Int.natAbs_tmod]; exact Nat.mod_lt _ (by omega)
theorem tmod_sign (a b : Int) : (0 ≤ a → 0 ≤ a.tmod b) ∧ (a ≤ 0 → a.tmod b ≤ 0) := by
  refine ⟨fun h => Int.tmod_nonneg b h, fun h => ?_⟩
  have h1 := Int.tmod_nonneg b (show 0 ≤ -a by omega)
  rw [Int.neg_tmod] at h1; omega
theorem in_rem {t a b : Int} (h : wh t) (ha : inT t a) (hb : inT t b) (hz : b ≠ 0) : inT t (a.tmod b) := by
  have h1 := tmod_abs a b hz
  have h2 := tmod_sign a b
  rcases h with rfl | rfl | rfl
  · rw [inT2] at *; omega
  · rw [inT3] at *; omega
  · rw [inT4] at *; omega
theorem rem_is {t a b : Int} (h : wh t) (ha : fitW t a) (hb : fitW t b) (hz : b ≠ 0) : wrap64 (bitsI 5 t a b) = (wrap64 a).tmod (wrap64 b) := by
  have hz' := nz hb.1 hz
  rw [e5 t a b hz']
  exact wrap_in h (in_rem h (in_of_fit h ha) (in_of_fit h hb) hz')
def sizeI (x : Int) : Int := if wrap64 x < 0 then IntKind.u64.wrap (0 - x) else x
theorem size_abs {x : Int} (h : word x) : sizeI x = (wrap64 x).natAbs := by
  obtain ⟨h0, h1⟩ := h
  unfold sizeI; rw [wrapu]; unfold wrap64; split <;> omega
theorem near_lt {t a b : Int} (h : wh t) (ha : fitW t a) (hb : fitW t b) (hz : b ≠ 0) : sizeI (bitsI 5 t a b) < sizeI b := by
  rw [size_abs (fit_b h 5 a b (by simp)).1, size_abs hb.1, rem_is h ha hb hz]
  have := tmod_abs (wrap64 a) (wrap64 b) (nz hb.1 hz); omega
theorem near_sign {t a b : Int} (h : wh t) (ha : fitW t a) (hb : fitW t b) (hz : b ≠ 0) (hr : bitsI 5 t a b ≠ 0) : (decide (wrap64 (bitsI 5 t a b) < 0) == decide (wrap64 a < 0)) = true := by
  have hr' := nz (fit_b h 5 a b (by simp)).1 hr
  rw [rem_is h ha hb hz] at *
  have := tmod_sign (wrap64 a) (wrap64 b)
  have e : decide ((wrap64 a).tmod (wrap64 b) < 0) = decide (wrap64 a < 0) := by
    rw [decide_eq_decide]; omega
  rw [e]; simp
end Go.Proofs.YtdgpdmohfnealaaGreatDoor.Sc
