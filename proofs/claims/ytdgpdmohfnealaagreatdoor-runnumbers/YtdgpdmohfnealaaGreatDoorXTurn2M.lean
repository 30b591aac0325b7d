/- The whole part of a binary64 word, and how it compares with the bounds of the whole types. -/
import Derived.Test.YtdgpdmohfnealaaGreatDoorXRingPlainM
namespace Go.Proofs.YtdgpdmohfnealaaGreatDoor.Sc
open Go.RowKit

theorem sgn_mul (s : Bool) (m k : Nat) : sgn s (m * k) = sgn s m * k := by
  unfold sgn; cases s <;> simp [Int.neg_mul]
theorem stands_zero (s : Bool) (p : Int) : stands s 0 p 0 := by
  intro q _; simp [sgn]

/-- A whole number below 2^53, written and read. -/
theorem small_read (s : Bool) (M : Nat) (h0 : M ≠ 0) (h : M < 9007199254740992) :
    ∃ m p, Ieee.double.read (Ieee.double.nearest s M 0) = .number s m p ∧ stands s m p (sgn s M) := by
  have hl : M.log2 ≤ 52 := by
    have p53 : (2 : Nat) ^ 53 = 9007199254740992 := by decide
    have := (Nat.log2_lt h0).2 (by rw [p53]; exact h)
    omega
  have b1 := Nat.log2_self_le h0
  have b2 : M < 2 ^ (M.log2 + 1) := Nat.lt_log2_self
  generalize hL : M.log2 = L at *
  obtain ⟨j, hj⟩ : ∃ j, j = 52 - L := ⟨_, rfl⟩
  have hm1 : 4503599627370496 ≤ M * 2 ^ j := by
    have : 2 ^ L * 2 ^ j ≤ M * 2 ^ j := Nat.mul_le_mul_right _ b1
    rw [← Nat.pow_add, show L + j = 52 by omega] at this
    exact this
  have hm2 : M * 2 ^ j < 9007199254740992 := by
    have : M * 2 ^ j < 2 ^ (L + 1) * 2 ^ j := Nat.mul_lt_mul_of_pos_right b2 (Nat.two_pow_pos j)
    rw [← Nat.pow_add, show L + 1 + j = 53 by omega] at this
    exact this
  have e := nearest_def s M 0 (-(j : Int)) h0 (by rw [hL]; omega)
  have e1 : ((0 : Int) - -(j : Int)).toNat = j := by omega
  have e2 : (-(j : Int) - 0).toNat = 0 := by omega
  rw [e1, e2, Nat.shiftLeft_eq, cut_even_dvd s (M * 2 ^ j) 0 (by rw [Nat.pow_zero]; exact Nat.mod_one _) (by omega), Nat.pow_zero, Nat.div_one, show (-(j : Int) - -1074) = -(j : Int) + 1074 by omega, Nat.min_eq_left (by omega)] at e
  refine ⟨M * 2 ^ j, -(j : Int), ?_, ?_⟩
  · rw [e]; exact read_word s (M * 2 ^ j) (-(j : Int)) hm1 hm2 (by omega) (by omega)
  · refine stands_of s _ _ _ j (by omega) ?_
    have e3 : (-(j : Int) + (j : Int)).toNat = 0 := by omega
    rw [e3, Int.pow_zero, Int.mul_one, sgn_mul]; push_cast; rfl

theorem zero_read (s : Bool) : Ieee.double.read (Ieee.double.nearest s 0 0) = .number s 0 (-1074) := by
  cases s <;> decide

theorem big_read (s : Bool) (m k : Nat) (h1 : 4503599627370496 ≤ m) (h2 : m < 9007199254740992) (hk : k ≤ 971) :
    Ieee.double.read (Ieee.double.nearest s (m * 2 ^ k) 0) = .number s m k ∧ stands s m k (sgn s (m * 2 ^ k)) := by
  have e := nearest_norm s m k k h1 h2 (by omega) (by omega)
  rw [Int.sub_self] at e
  refine ⟨?_, ?_⟩
  · rw [e]; exact read_word s m k h1 h2 (by omega) (by omega)
  · refine stands_of s _ _ _ 0 (by omega) ?_
    have e3 : ((k : Int) + ((0 : Nat) : Int)).toNat = k := by omega
    rw [e3, Int.pow_zero, Int.mul_one, sgn_mul]; push_cast; rfl

/-- The size of the whole part of a finite word. -/
def trN (m : Nat) (i : Int) : Nat := m * 2 ^ i.toNat / 2 ^ (-i).toNat
def truncI (x : Nat) : Option Int := (Ieee.double.read x).toInt .zero
def truncW (x : Nat) : Nat := Ieee.double.write ((Ieee.double.read x).integral .zero)

theorem read_cases (x : Nat) (h : x % 9223372036854775808 < 9218868437227405312) :
    ∃ s m i, Ieee.double.read x = .number s m i ∧ s = (x / 9223372036854775808 % 2 == 1) ∧ ((i = -1074 ∧ m < 4503599627370496) ∨ (4503599627370496 ≤ m ∧ m < 9007199254740992 ∧ -1074 ≤ i ∧ i ≤ 971)) := by
  by_cases g : x % 9223372036854775808 < 4503599627370496
  · exact ⟨_, _, _, read_sub x g, rfl, Or.inl ⟨d_least, g⟩⟩
  · refine ⟨_, _, _, read_norm x (by omega) h, rfl, Or.inr ?_⟩
    rw [d_least]; omega

theorem tr_eq (s : Bool) (m : Nat) (i : Int) : (Ieee.Datum.number s m i).integral .zero = .number s (trN m i) 0 := by
  simp only [Ieee.Datum.integral, cut_zero, Nat.shiftLeft_eq]; rfl

theorem trunc_read (x : Nat) (h : x % 9223372036854775808 < 9218868437227405312) :
    ∃ s M m p, truncI x = some (sgn s M) ∧ Ieee.double.read (truncW x) = .number s m p ∧ stands s m p (sgn s M) ∧ s = (x / 9223372036854775808 % 2 == 1) := by
  obtain ⟨s, m, i, e, es, hc⟩ := read_cases x h
  have e1 : truncI x = some (sgn s (trN m i)) := by
    simp only [truncI, e, Ieee.Datum.toInt, tr_eq, signed_eq]; simp
  have e2 : truncW x = Ieee.double.nearest s (trN m i) 0 := by
    simp only [truncW, e, tr_eq]; rfl
  by_cases hz : trN m i = 0
  · refine ⟨s, 0, 0, -1074, by rw [e1, hz], ?_, ?_, es⟩
    · rw [e2, hz]; exact zero_read s
    · have : sgn s 0 = 0 := by unfold sgn; cases s <;> simp
      rw [this]; exact stands_zero s _
  · by_cases hi : 0 ≤ i
    · rcases hc with ⟨hi', _⟩ | ⟨h1, h2, _, h4⟩
      · omega
      · have et : trN m i = m * 2 ^ i.toNat := by
          unfold trN; rw [show (-i).toNat = 0 by omega, Nat.pow_zero, Nat.div_one]
        have hr := big_read s m i.toNat h1 h2 (by omega)
        exact ⟨s, trN m i, m, i.toNat, e1, by rw [e2, et]; exact hr.1, by rw [et]; exact hr.2, es⟩
    · have et : trN m i = m / 2 ^ (-i).toNat := by
        unfold trN; rw [show i.toNat = 0 by omega, Nat.pow_zero, Nat.mul_one]
      have hlt : trN m i < 9007199254740992 := by
        rw [et]
        have := Nat.div_le_self m (2 ^ (-i).toNat)
        omega
      obtain ⟨m', p', hr, hs⟩ := small_read s (trN m i) hz hlt
      exact ⟨s, trN m i, m', p', e1, by rw [e2]; exact hr, hs, es⟩

theorem trunc_inf (x : Nat) (h : x % 9223372036854775808 = 9218868437227405312) : truncI x = none ∧ Ieee.double.read (truncW x) = .infinity (x / 9223372036854775808 % 2 == 1) := by
  have e := read_inf x h
  refine ⟨by simp [truncI, e, Ieee.Datum.toInt, Ieee.Datum.integral], ?_⟩
  have e2 : truncW x = Ieee.double.word (x / 9223372036854775808 % 2 == 1) Ieee.double.infRung := by
    simp only [truncW, e, Ieee.Datum.integral]; rfl
  rw [e2]
  cases (x / 9223372036854775808 % 2 == 1) <;> decide
end Go.Proofs.YtdgpdmohfnealaaGreatDoor.Sc
/- Whether the whole part of a binary64 word lies within a whole type: by comparisons with the type's bounds. -/
namespace Go.Proofs.YtdgpdmohfnealaaGreatDoor.Sc
open Go.RowKit

def isC (c : Nat) (K : Int) : Prop := ∃ t n j, Ieee.double.read c = .number t n j ∧ stands t n j K
theorem c_0 : isC 0 0 := ⟨false, 0, -1074, by decide, stands_zero _ _⟩
theorem c_256 : isC 4643211215818981376 256 := ⟨false, 4503599627370496, -44, by decide, stands_of _ _ _ _ 44 (by decide) (by decide)⟩
theorem c_m31 : isC 13970166044103278592 (-2147483648) := ⟨true, 4503599627370496, -21, by decide, stands_of _ _ _ _ 21 (by decide) (by decide)⟩
theorem c_31 : isC 4746794007248502784 2147483648 := ⟨false, 4503599627370496, -21, by decide, stands_of _ _ _ _ 21 (by decide) (by decide)⟩
theorem c_m63 : isC 14114281232179134464 (-9223372036854775808) := ⟨true, 4503599627370496, 11, by decide, stands_of _ _ _ _ 0 (by decide) (by decide)⟩
theorem c_63 : isC 4890909195324358656 9223372036854775808 := ⟨false, 4503599627370496, 11, by decide, stands_of _ _ _ _ 0 (by decide) (by decide)⟩

theorem cmp_lt_iff (a b : Int) : (compare a b == .lt) = decide (a < b) := by
  simp only [compare, compareOfLessAndEq]
  by_cases h : a < b
  · simp [h]
  · by_cases g : a = b <;> simp [h, g]
theorem cmp_le_iff (a b : Int) : (compare a b == .lt || compare a b == .eq) = decide (a ≤ b) := by
  simp only [compare, compareOfLessAndEq]
  by_cases h : a < b
  · simp [h]; omega
  · by_cases g : a = b
    · simp [g]
    · simp [h, g]; omega
theorem le_of_ord {x c : Nat} {K N : Int} (h : Ieee.double.order c x = some (compare K N)) : (FloatKind.f64.format.order c x == some .lt || FloatKind.f64.format.order c x == some .eq) = decide (K ≤ N) := by
  show (Ieee.double.order c x == some .lt || Ieee.double.order c x == some .eq) = decide (K ≤ N)
  rw [h, ← cmp_le_iff]
  cases compare K N <;> rfl
theorem lt_of_ord {x c : Nat} {K N : Int} (h : Ieee.double.order x c = some (compare N K)) : (FloatKind.f64.format.order x c == some .lt) = decide (N < K) := by
  show (Ieee.double.order x c == some .lt) = decide (N < K)
  rw [h, ← cmp_lt_iff]
  cases compare N K <;> rfl
theorem ge_of_ord {x c : Nat} {K N : Int} (h : Ieee.double.order x c = some (compare N K)) : (FloatKind.f64.format.order x c == some .gt || FloatKind.f64.format.order x c == some .eq) = decide (K ≤ N) := by
  show (Ieee.double.order x c == some .gt || Ieee.double.order x c == some .eq) = decide (K ≤ N)
  rw [h]
  simp only [compare, compareOfLessAndEq]
  by_cases h : N < K
  · simp [h]
  · by_cases g : N = K
    · simp [g]
    · simp [h, g]; omega

/-- The two tests 'lo <= n' and 'n < hi' on the whole part n of a word. -/
theorem tests (x lo hi : Nat) (L H : Int) (hL : isC lo L) (hH : isC hi H) :
    (∃ N, truncI x = some N ∧ (FloatKind.f64.format.order lo (truncW x) == some .lt || FloatKind.f64.format.order lo (truncW x) == some .eq) = decide (L ≤ N) ∧ (FloatKind.f64.format.order (truncW x) hi == some .lt) = decide (N < H)) ∨
    (truncI x = none ∧ ((FloatKind.f64.format.order lo (truncW x) == some .lt || FloatKind.f64.format.order lo (truncW x) == some .eq) = false ∨ (FloatKind.f64.format.order (truncW x) hi == some .lt) = false)) := by
  obtain ⟨t, n, j, rl, sl⟩ := hL
  obtain ⟨t', n', j', rh, sh⟩ := hH
  by_cases h1 : x % 9223372036854775808 < 9218868437227405312
  · obtain ⟨s, M, m, p, e, er, st, _⟩ := trunc_read x h1
    refine Or.inl ⟨sgn s M, e, le_of_ord ?_, lt_of_ord ?_⟩
    · rw [Ieee.Format.order, er, rl]; exact order_stands sl st
    · rw [Ieee.Format.order, er, rh]; exact order_stands st sh
  · by_cases h2 : x % 9223372036854775808 = 9218868437227405312
    · obtain ⟨e, er⟩ := trunc_inf x h2
      refine Or.inr ⟨e, ?_⟩
      cases hs : (x / 9223372036854775808 % 2 == 1)
      · right
        show (Ieee.double.order _ _ == some .lt) = false
        rw [Ieee.Format.order, er, rh, hs]; rfl
      · left
        show (Ieee.double.order _ _ == some .lt || Ieee.double.order _ _ == some .eq) = false
        rw [Ieee.Format.order, er, rl, hs]; rfl
    · obtain ⟨s, f, e⟩ := read_nan x (by omega)
      have et : truncI x = none := by simp [truncI, e, Ieee.Datum.toInt, Ieee.Datum.integral]
      refine Or.inr ⟨et, Or.inr ?_⟩
      show (Ieee.double.order _ _ == some .lt) = false
      have e2 : truncW x = Ieee.double.word s (Ieee.double.infRung + f % Ieee.double.binade) := by
        simp only [truncW, e, Ieee.Datum.integral]; rfl
      by_cases hf : f % Ieee.double.binade = 0
      · exfalso
        have hx := e
        unfold Ieee.Format.read at hx
        simp only [d_sign, d_binade, d_inf] at hx
        rw [if_neg (by omega), if_neg (by omega), if_neg (by omega)] at hx
        injection hx with _ hx
        rw [d_binade] at hf
        omega
      · have hlt : f % Ieee.double.binade < Ieee.double.binade := Nat.mod_lt _ (by rw [d_binade]; omega)
        have hn : 9218868437227405312 < truncW x % 9223372036854775808 := by
          rw [e2]; unfold Ieee.Format.word
          rw [d_inf, d_sign]
          rw [d_binade] at *
          cases s <;> simp <;> omega
        obtain ⟨s2, f2, e3⟩ := read_nan _ hn
        rw [Ieee.Format.order, e3]; rfl

def withinB (t : Int) (x : Nat) : Bool :=
  match truncI x with
  | some N => if t = 2 then decide (0 ≤ N ∧ N < 256) else if t = 3 then decide (-2147483648 ≤ N ∧ N < 2147483648) else if t = 4 then decide (-9223372036854775808 ≤ N ∧ N < 9223372036854775808) else false
  | none => false
theorem within_pair (x lo hi : Nat) (L H : Int) (hL : isC lo L) (hH : isC hi H) :
    ((FloatKind.f64.format.order lo (truncW x) == some .lt || FloatKind.f64.format.order lo (truncW x) == some .eq) && (FloatKind.f64.format.order (truncW x) hi == some .lt)) = (match truncI x with | some N => decide (L ≤ N ∧ N < H) | none => false) := by
  rcases tests x lo hi L H hL hH with ⟨N, e, a, b⟩ | ⟨e, a | a⟩
  · rw [e, a, b]; simp
  · rw [e, a]; rfl
  · rw [e, a]; simp
def wpartI (t : Int) (x : Nat) : Int := if withinB t x = true then IntKind.u64.wrap ((truncI x).getD 0) else 0
theorem within_some {t : Int} {x : Nat} (h : withinB t x = true) : ∃ N, truncI x = some N ∧ -9223372036854775808 ≤ N ∧ N ≤ 9223372036854775807 ∧ wh t ∧ inT t N := by
  unfold withinB at h
  split at h
  · rename_i N e
    refine ⟨N, e, ?_⟩
    by_cases h2 : t = 2
    · subst h2; simp at h; rw [inT2]; unfold wh; omega
    · by_cases h3 : t = 3
      · subst h3; simp at h; rw [inT3]; unfold wh; omega
      · by_cases h4 : t = 4
        · subst h4; simp at h; rw [inT4]; unfold wh; omega
        · simp [h2, h3, h4] at h
  · cases h
end Go.Proofs.YtdgpdmohfnealaaGreatDoor.Sc
/- Contracts of package scalar's turns: Trunc, within, wholePart, Turns, Fits, Turn. -/
namespace Go.Proofs.YtdgpdmohfnealaaGreatDoor.Sc
open Go.RowKit

theorem run_trunc (x : Nat) (w : World) (h : x % 9223372036854775808 ≤ 9218868437227405312 ∨ x = 9221120237041090560) : (callFunc 101 #[.float .f64 x]).run Tryz.prog w = .ok (.value (.float .f64 (truncW x))) w := by
  rw [run_callFunc_extern (fn := Tryz.f101) (e := Extern.MathFloor.toIntegral "math.archTrunc" .zero) Tryz.func101 (by kernel_rfl) (by kernel_rfl) (by kernel_rfl) (by kernel_rfl)]
  rcases h with h | h
  · by_cases g : x % 9223372036854775808 = 9218868437227405312
    · have e := read_inf x g
      have e' : FloatKind.f64.decode x = .infinity (x / 9223372036854775808 % 2 == 1) := e
      have e3 : Extern.MathFloor.toIntegral "math.archTrunc" .zero #[.float .f64 x] = pure (.float .f64 (truncW x)) := by
        unfold truncW
        rw [e]
        show (match FloatKind.f64.decode x with | .nan _ _ => _ | d => _) = _
        rw [e']
        rfl
      rw [e3]; rfl
    · obtain ⟨s, m, i, e⟩ := read_num x (by omega)
      have e' : FloatKind.f64.decode x = .number s m i := e
      have e3 : Extern.MathFloor.toIntegral "math.archTrunc" .zero #[.float .f64 x] = pure (.float .f64 (truncW x)) := by
        unfold truncW
        rw [e]
        show (match FloatKind.f64.decode x with | .nan _ _ => _ | d => _) = _
        rw [e']
        rfl
      rw [e3]; rfl
  · subst h
    rfl

set_option maxHeartbeats 400000 in
theorem trunc_any (x : Nat) (w : World) (h : Hid (x % 9223372036854775808 ≤ 9218868437227405312 ∨ x = 9221120237041090560)) :
    Calls Tryz.prog 88 #[.float .f64 x] w fun e w' => e = .returned (.float .f64 (truncW x)) ∧ w' = w := by
  have hr := fun w => run_trunc x w h.out
  go_enter Tryz.func88, Tryz.ntmps88
  go_wp2
  go_ret
  exact ⟨rfl, rfl⟩

theorem and_cases {a b : Bool} : (a = true ∧ b = true) ∨ (a = true ∧ b = false) ∨ a = false := by cases a <;> cases b <;> simp

set_option maxHeartbeats 1000000 in
theorem within_any (t : Int) (x : Nat) (w : World) (h : Hid (x % 9223372036854775808 ≤ 9218868437227405312 ∨ x = 9221120237041090560)) :
    Calls Tryz.prog 74 #[.int .u8 t, .float .f64 x] w fun e w' => e = .returned (.bool (withinB t x)) ∧ w' = w := by
  by_cases h2 : t = 2
  · subst h2
    have hp := within_pair x 0 4643211215818981376 0 256 c_0 c_256
    have hw : Hid (withinB 2 x = ((FloatKind.f64.format.order 0 (truncW x) == some .lt || FloatKind.f64.format.order 0 (truncW x) == some .eq) && (FloatKind.f64.format.order (truncW x) 4643211215818981376 == some .lt))) := by
      show withinB _ x = _
      rw [hp]; simp [withinB]
    clear hp
    rcases and_cases (a := (FloatKind.f64.format.order 0 (truncW x) == some .lt || FloatKind.f64.format.order 0 (truncW x) == some .eq)) (b := (FloatKind.f64.format.order (truncW x) 4643211215818981376 == some .lt)) with ⟨k1, k2⟩ | ⟨k1, k2⟩ | k1
    · go_enter Tryz.func74, Tryz.ntmps74
      go_wp2_with (go_at_call 88; refine (trunc_any _ _ h).mono ?_; rintro e w' ⟨rfl, rfl⟩)
      go_ret
      exact ⟨ret_bool (by rw [hw.out, k1, k2, Bool.true_and]), rfl⟩
    · go_enter Tryz.func74, Tryz.ntmps74
      go_wp2_with (go_at_call 88; refine (trunc_any _ _ h).mono ?_; rintro e w' ⟨rfl, rfl⟩)
      go_ret
      exact ⟨ret_bool (by rw [hw.out, k1, k2, Bool.true_and]), rfl⟩
    · go_enter Tryz.func74, Tryz.ntmps74
      go_wp2_with (go_at_call 88; refine (trunc_any _ _ h).mono ?_; rintro e w' ⟨rfl, rfl⟩)
      go_ret
      exact ⟨ret_bool (by rw [hw.out, k1, Bool.false_and]), rfl⟩
  by_cases h3 : t = 3
  · subst h3
    have hp := within_pair x 13970166044103278592 4746794007248502784 (-2147483648) 2147483648 c_m31 c_31
    have hw : Hid (withinB 3 x = ((FloatKind.f64.format.order 13970166044103278592 (truncW x) == some .lt || FloatKind.f64.format.order 13970166044103278592 (truncW x) == some .eq) && (FloatKind.f64.format.order (truncW x) 4746794007248502784 == some .lt))) := by
      show withinB _ x = _
      rw [hp]; simp [withinB]
    clear hp
    rcases and_cases (a := (FloatKind.f64.format.order 13970166044103278592 (truncW x) == some .lt || FloatKind.f64.format.order 13970166044103278592 (truncW x) == some .eq)) (b := (FloatKind.f64.format.order (truncW x) 4746794007248502784 == some .lt)) with ⟨k1, k2⟩ | ⟨k1, k2⟩ | k1
    · go_enter Tryz.func74, Tryz.ntmps74
      go_wp2_with (go_at_call 88; refine (trunc_any _ _ h).mono ?_; rintro e w' ⟨rfl, rfl⟩)
      go_ret
      exact ⟨ret_bool (by rw [hw.out, k1, k2, Bool.true_and]), rfl⟩
    · go_enter Tryz.func74, Tryz.ntmps74
      go_wp2_with (go_at_call 88; refine (trunc_any _ _ h).mono ?_; rintro e w' ⟨rfl, rfl⟩)
      go_ret
      exact ⟨ret_bool (by rw [hw.out, k1, k2, Bool.true_and]), rfl⟩
    · go_enter Tryz.func74, Tryz.ntmps74
      go_wp2_with (go_at_call 88; refine (trunc_any _ _ h).mono ?_; rintro e w' ⟨rfl, rfl⟩)
      go_ret
      exact ⟨ret_bool (by rw [hw.out, k1, Bool.false_and]), rfl⟩
  by_cases h4 : t = 4
  · subst h4
    have hp := within_pair x 14114281232179134464 4890909195324358656 (-9223372036854775808) 9223372036854775808 c_m63 c_63
    have hw : Hid (withinB 4 x = ((FloatKind.f64.format.order 14114281232179134464 (truncW x) == some .lt || FloatKind.f64.format.order 14114281232179134464 (truncW x) == some .eq) && (FloatKind.f64.format.order (truncW x) 4890909195324358656 == some .lt))) := by
      show withinB _ x = _
      rw [hp]; simp [withinB]
    clear hp
    rcases and_cases (a := (FloatKind.f64.format.order 14114281232179134464 (truncW x) == some .lt || FloatKind.f64.format.order 14114281232179134464 (truncW x) == some .eq)) (b := (FloatKind.f64.format.order (truncW x) 4890909195324358656 == some .lt)) with ⟨k1, k2⟩ | ⟨k1, k2⟩ | k1
    · go_enter Tryz.func74, Tryz.ntmps74
      go_wp2_with (go_at_call 88; refine (trunc_any _ _ h).mono ?_; rintro e w' ⟨rfl, rfl⟩)
      go_ret
      exact ⟨ret_bool (by rw [hw.out, k1, k2, Bool.true_and]), rfl⟩
    · go_enter Tryz.func74, Tryz.ntmps74
      go_wp2_with (go_at_call 88; refine (trunc_any _ _ h).mono ?_; rintro e w' ⟨rfl, rfl⟩)
      go_ret
      exact ⟨ret_bool (by rw [hw.out, k1, k2, Bool.true_and]), rfl⟩
    · go_enter Tryz.func74, Tryz.ntmps74
      go_wp2_with (go_at_call 88; refine (trunc_any _ _ h).mono ?_; rintro e w' ⟨rfl, rfl⟩)
      go_ret
      exact ⟨ret_bool (by rw [hw.out, k1, Bool.false_and]), rfl⟩
  · have hw : Hid (withinB t x = false) := by
      show withinB t x = false
      unfold withinB; split <;> simp [h2, h3, h4]
    go_enter Tryz.func74, Tryz.ntmps74
    go_wp2_with (go_at_call 88; refine (trunc_any _ _ h).mono ?_; rintro e w' ⟨rfl, rfl⟩)
    go_ret
    exact ⟨ret_bool hw.out.symm, rfl⟩
end Go.Proofs.YtdgpdmohfnealaaGreatDoor.Sc
/- Contracts of package scalar's turns: wholePart, Turns, Fits, Turn. -/
namespace Go.Proofs.YtdgpdmohfnealaaGreatDoor.Sc
open Go.RowKit

theorem conv_f (x : Nat) (N : Int) (h : truncI x = some N) (h1 : -9223372036854775808 ≤ N) (h2 : N ≤ 9223372036854775807) (w : World) :
    (convert 108 2 (.float .f64 x)).run Tryz.prog w = .ok (.int .i64 N) w := by
  refine run_convert_float_int w 108 2 .f64 .i64 x N (by rw [Tryz.underlying108]; rfl) Tryz.underlying2 ?_
  have h' : (FloatKind.f64.decode x).toInt .zero = some N := h
  unfold floatToIntVal
  rw [h']
  simp [IntKind.min, IntKind.max, IntKind.signed, IntKind.bits]
  omega

set_option maxHeartbeats 400000 in
theorem wpart_any (t : Int) (x : Nat) (w : World) (h : Hid (x % 9223372036854775808 ≤ 9218868437227405312 ∨ x = 9221120237041090560)) :
    Calls Tryz.prog 55 #[.int .u8 t, .float .f64 x] w fun e w' => e = .returned (.int .u64 (wpartI t x)) ∧ w' = w := by
  cases hw : withinB t x with
  | false =>
    go_enter Tryz.func55, Tryz.ntmps55
    go_wp2_with (go_at_call 74; refine (within_any _ _ _ h).mono ?_; rintro e w' ⟨rfl, rfl⟩)
    go_ret
    exact ⟨ret_u64 (by simp [wpartI, hw]), rfl⟩
  | true =>
    obtain ⟨N, e, h1, h2, _⟩ := within_some hw
    have hc := conv_f x N e h1 h2
    have he : Hid (truncI x = some N) := e
    clear e
    go_enter Tryz.func55, Tryz.ntmps55
    go_wp2_with (go_at_call 74; refine (within_any _ _ _ h).mono ?_; rintro e w' ⟨rfl, rfl⟩)
    go_ret
    exact ⟨ret_u64 (by simp [wpartI, hw, he.out]), rfl⟩

def turnsB (to fr : Int) : Bool := numberB to && numberB fr
set_option maxHeartbeats 400000 in
theorem turns_any (to fr : Int) (w : World) : Calls Tryz.prog 54 #[.int .u8 to, .int .u8 fr] w fun e w' => e = .returned (.bool (turnsB to fr)) ∧ w' = w := by
  cases h1 : numberB to <;> cases h2 : numberB fr
  all_goals
    go_enter Tryz.func54, Tryz.ntmps54
    go_wp2_with (go_at_call 47; refine (number_any _ _).mono ?_; rintro e w' ⟨rfl, rfl⟩)
    go_ret
    exact ⟨ret_bool (by simp [turnsB, h1, h2]), rfl⟩

def okTurn (to fr a : Int) : Bool := turnsB to fr && rightB fr a
def fitsB (to fr a : Int) : Bool := okTurn to fr a && (fr != 5 || to == 5 || withinB to a.toNat)
def turnI (to fr a : Int) : Int :=
  if okTurn to fr a = true then (if fr = 5 then (if to = 5 then a else wpartI to a.toNat) else if to = 5 then cutI 5 (floatOfInt .f64 (wrap64 a)) else cutI to a) else 0

theorem calm5 {a : Int} (_ha : word a) (h : rightB 5 a = true) : a.toNat % 9223372036854775808 ≤ 9218868437227405312 ∨ a.toNat = 9221120237041090560 := by
  have h2 : cutI 5 a = a := by simp [rightB] at h; exact h.2
  by_cases hn : nanI a = true
  · right
    have : cutI 5 a = 9221120237041090560 := by simp [cutI, hn]
    omega
  · left
    rw [nanI_iff] at hn; omega

set_option maxHeartbeats 1000000 in
theorem turn_any (to fr a : Int) (w : World) (ha : Hid (word a)) : Calls Tryz.prog 35 #[.int .u8 to, .int .u8 fr, .int .u64 a] w fun e w' => e = .returned (.tuple #[.int .u64 (turnI to fr a), .bool (okTurn to fr a)]) ∧ w' = w := by
  cases h1 : turnsB to fr with
  | false =>
    go_enter Tryz.func35, Tryz.ntmps35
    go_wp2_with (go_at_call 54; refine (turns_any _ _ _).mono ?_; rintro e w' ⟨rfl, rfl⟩)
    go_ret2
    exact ⟨ret_pair (by simp [turnI, okTurn, h1]) (by simp [okTurn, h1]), rfl⟩
  | true =>
    cases h2 : rightB fr a with
    | false =>
      go_enter Tryz.func35, Tryz.ntmps35
      go_wp2_with (first | (go_at_call 54; refine (turns_any _ _ _).mono ?_; rintro e w' ⟨rfl, rfl⟩) | (go_at_call 15; refine (right_any _ _ _ ha).mono ?_; rintro e w' ⟨rfl, rfl⟩))
      go_ret2
      exact ⟨ret_pair (by simp [turnI, okTurn, h2]) (by simp [okTurn, h2]), rfl⟩
    | true =>
      have hok : Hid (okTurn to fr a = true) := by
        show okTurn to fr a = true
        simp [okTurn, h1, h2]
      by_cases h5 : fr = 5
      · subst h5
        have hc : Hid (a.toNat % 9223372036854775808 ≤ 9218868437227405312 ∨ a.toNat = 9221120237041090560) := calm5 ha h2
        have f1 := run_frombits
        by_cases h6 : to = 5
        · subst h6
          go_enter Tryz.func35, Tryz.ntmps35
          go_wp2_with (first | (go_at_call 54; refine (turns_any _ _ _).mono ?_; rintro e w' ⟨rfl, rfl⟩) | (go_at_call 15; refine (right_any _ _ _ ha).mono ?_; rintro e w' ⟨rfl, rfl⟩))
          go_ret2
          exact ⟨ret_pair (by simp [turnI, hok.out]) hok.out.symm, rfl⟩
        · have h6' : (to == 5) = false := by simpa using h6
          have h6h : Hid (¬ to = 5) := h6
          clear h6
          go_enter Tryz.func35, Tryz.ntmps35
          go_wp2_with (first | (go_at_call 54; refine (turns_any _ _ _).mono ?_; rintro e w' ⟨rfl, rfl⟩) | (go_at_call 15; refine (right_any _ _ _ ha).mono ?_; rintro e w' ⟨rfl, rfl⟩) | (go_at_call 55; refine (wpart_any _ _ _ hc).mono ?_; rintro e w' ⟨rfl, rfl⟩))
          go_ret2
          exact ⟨ret_pair (by simp [turnI, hok.out, h6h.out]) hok.out.symm, rfl⟩
      · have h5' : (fr == 5) = false := by simpa using h5
        have h5h : Hid (¬ fr = 5) := h5
        clear h5
        by_cases h6 : to = 5
        · subst h6
          go_enter Tryz.func35, Tryz.ntmps35
          go_wp2_with (first | (go_at_call 54; refine (turns_any _ _ _).mono ?_; rintro e w' ⟨rfl, rfl⟩) | (go_at_call 15; refine (right_any _ _ _ ha).mono ?_; rintro e w' ⟨rfl, rfl⟩) | (go_at_call 56; refine (floatWord_any _ _).mono ?_; rintro e w' ⟨rfl, rfl⟩))
          go_ret2
          exact ⟨ret_pair (by simp [turnI, hok.out, h5h.out]) hok.out.symm, rfl⟩
        · have h6' : (to == 5) = false := by simpa using h6
          have h6h : Hid (¬ to = 5) := h6
          clear h6
          go_enter Tryz.func35, Tryz.ntmps35
          go_wp2_with (first | (go_at_call 54; refine (turns_any _ _ _).mono ?_; rintro e w' ⟨rfl, rfl⟩) | (go_at_call 15; refine (right_any _ _ _ ha).mono ?_; rintro e w' ⟨rfl, rfl⟩) | (go_at_call 28; refine (cut_any _ _ _ ha).mono ?_; rintro e w' ⟨rfl, rfl⟩))
          go_ret2
          exact ⟨ret_pair (by simp [turnI, hok.out, h5h.out, h6h.out]) hok.out.symm, rfl⟩
end Go.Proofs.YtdgpdmohfnealaaGreatDoor.Sc
