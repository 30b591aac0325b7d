/- ScalarOrder: the six comparisons agree, of whole numbers and of floats; the walk over the contracts. -/
import Derived.Test.YtekgedphjbhalaaLawParts
namespace Go.Proofs.Ytekgedphjbhalaa
open Go.RowKit

theorem cmp_swap (a b : Int) : compare b a = (compare a b).swap := by
  simp only [compare, compareOfLessAndEq]
  by_cases h1 : a < b
  · rw [if_pos h1, if_neg (by omega), if_neg (by omega)]; rfl
  · rw [if_neg h1]
    by_cases h2 : a = b
    · subst h2; simp
    · rw [if_neg h2, if_pos (by omega)]; rfl
theorem cmpn_swap (a b : Nat) : compare b a = (compare a b).swap := by
  simp only [compare, compareOfLessAndEq]
  by_cases h1 : a < b
  · rw [if_pos h1, if_neg (by omega), if_neg (by omega)]; rfl
  · rw [if_neg h1]
    by_cases h2 : a = b
    · subst h2; simp
    · rw [if_neg h2, if_pos (by omega)]; rfl
theorem datum_swap (x y : Ieee.Datum) : y.order x = (x.order y).map Ordering.swap := by
  cases x <;> cases y
  · rename_i s m i t n j
    simp only [Ieee.Datum.order, Option.map_some]
    rw [Int.min_comm j i, cmp_swap]
  · rename_i s m i t
    cases t <;> rfl
  · rfl
  · rename_i s t n j
    cases s <;> rfl
  · rename_i s t
    cases s <;> cases t <;> rfl
  · rfl
  · rfl
  · rfl
  · rfl
theorem order_swap (x y : Nat) : Ieee.double.order y x = (Ieee.double.order x y).map Ordering.swap := datum_swap _ _
theorem order_none (x y : Nat) (h : Ieee.double.order x x ≠ some .eq) : Ieee.double.order x y = none := by
  have hx : 9218868437227405312 < x % 9223372036854775808 := Classical.byContradiction fun g => h (order_self x g)
  obtain ⟨s, f, e⟩ := read_nan x hx
  simp [Ieee.Format.order, e, Ieee.Datum.order]
theorem order_some (x y : Nat) (hx : Ieee.double.order x x = some .eq) (hy : Ieee.double.order y y = some .eq) : ∃ c, Ieee.double.order x y = some c := by
  have gx : ¬ 9218868437227405312 < x % 9223372036854775808 := fun g => by rw [order_nan x g] at hx; cases hx
  have gy : ¬ 9218868437227405312 < y % 9223372036854775808 := fun g => by rw [order_nan y g] at hy; cases hy
  by_cases ix : x % 9223372036854775808 = 9218868437227405312
  · have ex := read_inf x ix
    by_cases iy : y % 9223372036854775808 = 9218868437227405312
    · have ey := read_inf y iy
      exact ⟨_, by simp [Ieee.Format.order, ex, ey, Ieee.Datum.order]; rfl⟩
    · obtain ⟨s, m, i, ey⟩ := read_num y (by omega)
      exact ⟨_, by simp only [Ieee.Format.order, ex, ey, Ieee.Datum.order]; rfl⟩
  · obtain ⟨s, m, i, ex⟩ := read_num x (by omega)
    by_cases iy : y % 9223372036854775808 = 9218868437227405312
    · have ey := read_inf y iy
      exact ⟨_, by simp only [Ieee.Format.order, ex, ey, Ieee.Datum.order]; rfl⟩
    · obtain ⟨s', m', i', ey⟩ := read_num y (by omega)
      exact ⟨_, by simp only [Ieee.Format.order, ex, ey, Ieee.Datum.order]; rfl⟩

def fordI (o a b : Int) : Int := truthI (fcmpB o a.toNat b.toNat)
theorem right5 (a : Int) : rightB 5 (cutI 5 a) = true := by
  have h1 : typedB 5 = true := by decide
  have h2 : cutI 5 (cutI 5 a) = cutI 5 a := by
    by_cases h : nanI a = true
    · have e : cutI 5 a = 9221120237041090560 := by simp [cutI, h]
      rw [e]
      simp [cutI]
    · have e : cutI 5 a = a := by simp [cutI, h]
      rw [e, e]
  simp [rightB, h1, h2]

set_option maxHeartbeats 400000 in
theorem two_float (o x y : Int) (w : World) (ho : Hid (11 ≤ o ∧ o ≤ 16)) (wx : Hid (word x)) (wy : Hid (word y)) (hx : rightB 5 x = true) (hy : rightB 5 y = true) :
    Calls Try.prog 16 #[.int .u8 o, .int .u8 5, .int .u64 x, .int .u64 y] w fun e w' => e = .returned (.tuple #[.int .u64 (fordI o x y), .bool true]) ∧ w' = w := by
  have h1 : ofB o 5 = true := by
    have hh : o = 11 ∨ o = 12 ∨ o = 13 ∨ o = 14 ∨ o = 15 ∨ o = 16 := by have := ho.out; omega
    rcases hh with rfl | rfl | rfl | rfl | rfl | rfl <;> decide
  have h2 : oneB o = false := by have := ho.out; simp [oneB]; omega
  have g1 : (o == 1) = false := by have := ho.out; simp; omega
  have g2 : (o == 2) = false := by have := ho.out; simp; omega
  have g3 : (o == 3) = false := by have := ho.out; simp; omega
  have g4 : (o == 4) = false := by have := ho.out; simp; omega
  have f1 := run_frombits
  go_enter Try.func16, Try.ntmps16
  go_wp2_with (first | (go_at_call 14; refine (of_any _ _ _).mono ?_; rintro e w' ⟨rfl, rfl⟩) | (go_at_call 39; refine (ofOne_any _ _).mono ?_; rintro e w' ⟨rfl, rfl⟩) | (go_at_call 9; refine (right_any _ _ _ ?hh).mono ?_; (case hh => assumption); rintro e w' ⟨rfl, rfl⟩) | (go_at_call 40; refine (flt_cmp _ _ _ _ g1 g2 g3 g4).mono ?_; rintro e w' ⟨rfl, rfl⟩))
  go_ret2
  exact ⟨rfl, rfl⟩

set_option maxHeartbeats 400000 in
theorem tf (o x y : Int) (w : World) (ho : Hid (11 ≤ o ∧ o ≤ 16)) (wx : Hid (word x)) (wy : Hid (word y)) (hx : Hid (rightB 5 x = true)) (hy : Hid (rightB 5 y = true)) :
    Calls Try.prog 30 #[.int .u8 o, .int .u8 5, .int .u64 x, .int .u64 y] w fun e w' => e = .returned (.int .u64 (fordI o x y)) ∧ w' = w := by
  go_enter Try.func30, Try.ntmps30
  go_wp2_with (go_at_call 16; refine (two_float _ _ _ _ ho wx wy hx.out hy.out).mono ?_; rintro e w' ⟨rfl, rfl⟩)
  go_ret
  exact ⟨rfl, rfl⟩
theorem opf (o : Int) (h : decide (11 ≤ o ∧ o ≤ 16) = true) : Hid (11 ≤ o ∧ o ≤ 16) := by
  have g : 11 ≤ o ∧ o ≤ 16 := of_decide_eq_true h
  exact g
set_option maxRecDepth 100000 in
set_option maxHeartbeats 1000000 in
theorem order_lt (k a b : Int) (w : World) (k0 : 0 ≤ k) (k1 : k ≤ 255) (k2 : k ≤ 200) (wa : Hid (word a)) (wb : Hid (word b)) (h : wrap64 (cutI (wholeK k) a) < wrap64 (cutI (wholeK k) b)) :
    Calls Try.prog 8 #[.int .u8 k, .int .u64 a, .int .u64 b] w fun e w' => e = .returned (.bool true) ∧ w' = w := by
  have ht : Hid (wh (wholeK k)) := wh_wholeK k
  have fa : Hid (fitW (wholeK k) (cutI (wholeK k) a)) := hid_fit_cut ht a wa
  have fb : Hid (fitW (wholeK k) (cutI (wholeK k) b)) := hid_fit_cut ht b wb
  have f1 := run_frombits
  have h5 : (wholeK k == 5) = false := by unfold wholeK; simp; omega
  have h5' : (wholeK k != 5) = true := by unfold wholeK; simp; omega
  have e13 : bitsI 13 (wholeK k) (cutI (wholeK k) a) (cutI (wholeK k) b) = 1 := by simp [bitsI, cmpB, truthI]; omega
  have e14 : bitsI 14 (wholeK k) (cutI (wholeK k) a) (cutI (wholeK k) b) = 1 := by simp [bitsI, cmpB, truthI]; omega
  have e15 : bitsI 15 (wholeK k) (cutI (wholeK k) a) (cutI (wholeK k) b) = 0 := by simp [bitsI, cmpB, truthI]; omega
  have e16 : bitsI 16 (wholeK k) (cutI (wholeK k) a) (cutI (wholeK k) b) = 0 := by simp [bitsI, cmpB, truthI]; omega
  have e11 : bitsI 11 (wholeK k) (cutI (wholeK k) a) (cutI (wholeK k) b) = 0 := by simp [bitsI, cmpB, truthI]; omega
  have e12 : bitsI 12 (wholeK k) (cutI (wholeK k) a) (cutI (wholeK k) b) = 1 := by simp [bitsI, cmpB, truthI]; omega
  have s13 : bitsI 13 (wholeK k) (cutI (wholeK k) b) (cutI (wholeK k) a) = 0 := by simp [bitsI, cmpB, truthI]; omega
  have s16 : bitsI 16 (wholeK k) (cutI (wholeK k) b) (cutI (wholeK k) a) = 1 := by simp [bitsI, cmpB, truthI]; omega
  have hd : decide (wrap64 (cutI (wholeK k) a) < wrap64 (cutI (wholeK k) b)) = true := by simpa using h
  clear h
  go_enter Try.func8, Try.ntmps8
  go_wp2_with (first | (go_at_call 13; refine (awake_any _).mono ?_; rintro e w' ⟨rfl, rfl⟩) | (go_at_call 29; refine (wholeK_any _ _ k0 k1).mono ?_; rintro e w' ⟨rfl, rfl⟩) | (go_at_call 11; refine (cut_any _ _ _ ?hh).mono ?_; (case hh => assumption); rintro e w' ⟨rfl, rfl⟩) | (go_at_call 30; refine (tw _ _ _ _ _ ht ?ho ?hx ?hy).mono ?_; (case ho => exact opr _ rfl); (case hx => assumption); (case hy => assumption); rintro e w' ⟨rfl, rfl⟩))
  go_ret
  exact ⟨rfl, rfl⟩

set_option maxRecDepth 100000 in
set_option maxHeartbeats 1000000 in
theorem order_eq (k a b : Int) (w : World) (k0 : 0 ≤ k) (k1 : k ≤ 255) (k2 : k ≤ 200) (wa : Hid (word a)) (wb : Hid (word b)) (h : wrap64 (cutI (wholeK k) a) = wrap64 (cutI (wholeK k) b)) :
    Calls Try.prog 8 #[.int .u8 k, .int .u64 a, .int .u64 b] w fun e w' => e = .returned (.bool true) ∧ w' = w := by
  have ht : Hid (wh (wholeK k)) := wh_wholeK k
  have fa : Hid (fitW (wholeK k) (cutI (wholeK k) a)) := hid_fit_cut ht a wa
  have fb : Hid (fitW (wholeK k) (cutI (wholeK k) b)) := hid_fit_cut ht b wb
  have f1 := run_frombits
  have h5 : (wholeK k == 5) = false := by unfold wholeK; simp; omega
  have h5' : (wholeK k != 5) = true := by unfold wholeK; simp; omega
  have e13 : bitsI 13 (wholeK k) (cutI (wholeK k) a) (cutI (wholeK k) b) = 0 := by simp [bitsI, cmpB, truthI]; omega
  have e14 : bitsI 14 (wholeK k) (cutI (wholeK k) a) (cutI (wholeK k) b) = 1 := by simp [bitsI, cmpB, truthI]; omega
  have e15 : bitsI 15 (wholeK k) (cutI (wholeK k) a) (cutI (wholeK k) b) = 0 := by simp [bitsI, cmpB, truthI]; omega
  have e16 : bitsI 16 (wholeK k) (cutI (wholeK k) a) (cutI (wholeK k) b) = 1 := by simp [bitsI, cmpB, truthI]; omega
  have e11 : bitsI 11 (wholeK k) (cutI (wholeK k) a) (cutI (wholeK k) b) = 1 := by simp [bitsI, cmpB, truthI]; omega
  have e12 : bitsI 12 (wholeK k) (cutI (wholeK k) a) (cutI (wholeK k) b) = 0 := by simp [bitsI, cmpB, truthI]; omega
  have s13 : bitsI 13 (wholeK k) (cutI (wholeK k) b) (cutI (wholeK k) a) = 0 := by simp [bitsI, cmpB, truthI]; omega
  have s16 : bitsI 16 (wholeK k) (cutI (wholeK k) b) (cutI (wholeK k) a) = 1 := by simp [bitsI, cmpB, truthI]; omega
  have hd : decide (wrap64 (cutI (wholeK k) a) < wrap64 (cutI (wholeK k) b)) = false := by simp; omega
  clear h
  go_enter Try.func8, Try.ntmps8
  go_wp2_with (first | (go_at_call 13; refine (awake_any _).mono ?_; rintro e w' ⟨rfl, rfl⟩) | (go_at_call 29; refine (wholeK_any _ _ k0 k1).mono ?_; rintro e w' ⟨rfl, rfl⟩) | (go_at_call 11; refine (cut_any _ _ _ ?hh).mono ?_; (case hh => assumption); rintro e w' ⟨rfl, rfl⟩) | (go_at_call 30; refine (tw _ _ _ _ _ ht ?ho ?hx ?hy).mono ?_; (case ho => exact opr _ rfl); (case hx => assumption); (case hy => assumption); rintro e w' ⟨rfl, rfl⟩))
  go_ret
  exact ⟨rfl, rfl⟩

set_option maxRecDepth 100000 in
set_option maxHeartbeats 1000000 in
theorem order_gt (k a b : Int) (w : World) (k0 : 0 ≤ k) (k1 : k ≤ 255) (k2 : k ≤ 200) (wa : Hid (word a)) (wb : Hid (word b)) (h : wrap64 (cutI (wholeK k) b) < wrap64 (cutI (wholeK k) a)) :
    Calls Try.prog 8 #[.int .u8 k, .int .u64 a, .int .u64 b] w fun e w' => e = .returned (.bool true) ∧ w' = w := by
  have ht : Hid (wh (wholeK k)) := wh_wholeK k
  have fa : Hid (fitW (wholeK k) (cutI (wholeK k) a)) := hid_fit_cut ht a wa
  have fb : Hid (fitW (wholeK k) (cutI (wholeK k) b)) := hid_fit_cut ht b wb
  have f1 := run_frombits
  have h5 : (wholeK k == 5) = false := by unfold wholeK; simp; omega
  have h5' : (wholeK k != 5) = true := by unfold wholeK; simp; omega
  have e13 : bitsI 13 (wholeK k) (cutI (wholeK k) a) (cutI (wholeK k) b) = 0 := by simp [bitsI, cmpB, truthI]; omega
  have e14 : bitsI 14 (wholeK k) (cutI (wholeK k) a) (cutI (wholeK k) b) = 0 := by simp [bitsI, cmpB, truthI]; omega
  have e15 : bitsI 15 (wholeK k) (cutI (wholeK k) a) (cutI (wholeK k) b) = 1 := by simp [bitsI, cmpB, truthI]; omega
  have e16 : bitsI 16 (wholeK k) (cutI (wholeK k) a) (cutI (wholeK k) b) = 1 := by simp [bitsI, cmpB, truthI]; omega
  have e11 : bitsI 11 (wholeK k) (cutI (wholeK k) a) (cutI (wholeK k) b) = 0 := by simp [bitsI, cmpB, truthI]; omega
  have e12 : bitsI 12 (wholeK k) (cutI (wholeK k) a) (cutI (wholeK k) b) = 1 := by simp [bitsI, cmpB, truthI]; omega
  have s13 : bitsI 13 (wholeK k) (cutI (wholeK k) b) (cutI (wholeK k) a) = 1 := by simp [bitsI, cmpB, truthI]; omega
  have s16 : bitsI 16 (wholeK k) (cutI (wholeK k) b) (cutI (wholeK k) a) = 0 := by simp [bitsI, cmpB, truthI]; omega
  have hd : decide (wrap64 (cutI (wholeK k) a) < wrap64 (cutI (wholeK k) b)) = false := by simp; omega
  clear h
  go_enter Try.func8, Try.ntmps8
  go_wp2_with (first | (go_at_call 13; refine (awake_any _).mono ?_; rintro e w' ⟨rfl, rfl⟩) | (go_at_call 29; refine (wholeK_any _ _ k0 k1).mono ?_; rintro e w' ⟨rfl, rfl⟩) | (go_at_call 11; refine (cut_any _ _ _ ?hh).mono ?_; (case hh => assumption); rintro e w' ⟨rfl, rfl⟩) | (go_at_call 30; refine (tw _ _ _ _ _ ht ?ho ?hx ?hy).mono ?_; (case ho => exact opr _ rfl); (case hx => assumption); (case hy => assumption); rintro e w' ⟨rfl, rfl⟩))
  go_ret
  exact ⟨rfl, rfl⟩

set_option maxRecDepth 100000 in
set_option maxHeartbeats 1000000 in
theorem order_isnan (k a b : Int) (w : World) (k0 : 0 ≤ k) (k1 : k ≤ 255) (k2 : 200 < k) (wa : Hid (word a)) (wb : Hid (word b)) (va : Hid (word (cutI 5 a))) (vb : Hid (word (cutI 5 b))) (h : (FloatKind.f64.format.order (cutI 5 a).toNat (cutI 5 a).toNat != some .eq) = true ∨ ((FloatKind.f64.format.order (cutI 5 a).toNat (cutI 5 a).toNat != some .eq) = false ∧ (FloatKind.f64.format.order (cutI 5 b).toNat (cutI 5 b).toNat != some .eq) = true)) (g : FloatKind.f64.format.order (cutI 5 a).toNat (cutI 5 b).toNat = none) :
    Calls Try.prog 8 #[.int .u8 k, .int .u64 a, .int .u64 b] w fun e w' => e = .returned (.bool true) ∧ w' = w := by
  have ra : Hid (rightB 5 (cutI 5 a) = true) := right5 a
  have rb : Hid (rightB 5 (cutI 5 b) = true) := right5 b
  have f1 := run_frombits
  have g' : FloatKind.f64.format.order (cutI 5 b).toNat (cutI 5 a).toNat = (FloatKind.f64.format.order (cutI 5 a).toNat (cutI 5 b).toNat).map Ordering.swap := order_swap _ _
  rw [g] at g'
  have e13 : fordI 13 (cutI 5 a) (cutI 5 b) = 0 := by simp [fordI, fcmpB, truthI, g]
  have e14 : fordI 14 (cutI 5 a) (cutI 5 b) = 0 := by simp [fordI, fcmpB, truthI, g]
  have e15 : fordI 15 (cutI 5 a) (cutI 5 b) = 0 := by simp [fordI, fcmpB, truthI, g]
  have e16 : fordI 16 (cutI 5 a) (cutI 5 b) = 0 := by simp [fordI, fcmpB, truthI, g]
  have e11 : fordI 11 (cutI 5 a) (cutI 5 b) = 0 := by simp [fordI, fcmpB, truthI, g]
  have e12 : fordI 12 (cutI 5 a) (cutI 5 b) = 1 := by simp [fordI, fcmpB, truthI, g]
  have s13 : fordI 13 (cutI 5 b) (cutI 5 a) = 0 := by simp [fordI, fcmpB, truthI, g']
  have s16 : fordI 16 (cutI 5 b) (cutI 5 a) = 0 := by simp [fordI, fcmpB, truthI, g']
  clear g g'
  rcases h with h1 | ⟨h1, h2⟩
  all_goals
    go_enter Try.func8, Try.ntmps8
    go_wp2_with (first | (go_at_call 13; refine (awake_any _).mono ?_; rintro e w' ⟨rfl, rfl⟩) | (go_at_call 29; refine (wholeK_any _ _ k0 k1).mono ?_; rintro e w' ⟨rfl, rfl⟩) | (go_at_call 11; refine (cut_any _ _ _ ?hh).mono ?_; (case hh => assumption); rintro e w' ⟨rfl, rfl⟩) | (go_at_call 30; refine (tf _ _ _ _ ?ho ?wx ?wy ?hx ?hy).mono ?_; (case ho => exact opf _ rfl); (case wx => assumption); (case wy => assumption); (case hx => assumption); (case hy => assumption); rintro e w' ⟨rfl, rfl⟩))
    go_ret
    exact ⟨rfl, rfl⟩

set_option maxRecDepth 100000 in
set_option maxHeartbeats 1000000 in
theorem order_flt (k a b : Int) (w : World) (k0 : 0 ≤ k) (k1 : k ≤ 255) (k2 : 200 < k) (wa : Hid (word a)) (wb : Hid (word b)) (va : Hid (word (cutI 5 a))) (vb : Hid (word (cutI 5 b))) (h1 : (FloatKind.f64.format.order (cutI 5 a).toNat (cutI 5 a).toNat != some .eq) = false) (h2 : (FloatKind.f64.format.order (cutI 5 b).toNat (cutI 5 b).toNat != some .eq) = false) (g : FloatKind.f64.format.order (cutI 5 a).toNat (cutI 5 b).toNat = some .lt) :
    Calls Try.prog 8 #[.int .u8 k, .int .u64 a, .int .u64 b] w fun e w' => e = .returned (.bool true) ∧ w' = w := by
  have ra : Hid (rightB 5 (cutI 5 a) = true) := right5 a
  have rb : Hid (rightB 5 (cutI 5 b) = true) := right5 b
  have f1 := run_frombits
  have g' : FloatKind.f64.format.order (cutI 5 b).toNat (cutI 5 a).toNat = (FloatKind.f64.format.order (cutI 5 a).toNat (cutI 5 b).toNat).map Ordering.swap := order_swap _ _
  rw [g] at g'
  have e13 : fordI 13 (cutI 5 a) (cutI 5 b) = 1 := by simp [fordI, fcmpB, truthI, g]
  have e14 : fordI 14 (cutI 5 a) (cutI 5 b) = 1 := by simp [fordI, fcmpB, truthI, g]
  have e15 : fordI 15 (cutI 5 a) (cutI 5 b) = 0 := by simp [fordI, fcmpB, truthI, g]
  have e16 : fordI 16 (cutI 5 a) (cutI 5 b) = 0 := by simp [fordI, fcmpB, truthI, g]
  have e11 : fordI 11 (cutI 5 a) (cutI 5 b) = 0 := by simp [fordI, fcmpB, truthI, g]
  have e12 : fordI 12 (cutI 5 a) (cutI 5 b) = 1 := by simp [fordI, fcmpB, truthI, g]
  have s13 : fordI 13 (cutI 5 b) (cutI 5 a) = 0 := by simp [fordI, fcmpB, truthI, g']
  have s16 : fordI 16 (cutI 5 b) (cutI 5 a) = 1 := by simp [fordI, fcmpB, truthI, g']
  clear g g'
  go_enter Try.func8, Try.ntmps8
  go_wp2_with (first | (go_at_call 13; refine (awake_any _).mono ?_; rintro e w' ⟨rfl, rfl⟩) | (go_at_call 29; refine (wholeK_any _ _ k0 k1).mono ?_; rintro e w' ⟨rfl, rfl⟩) | (go_at_call 11; refine (cut_any _ _ _ ?hh).mono ?_; (case hh => assumption); rintro e w' ⟨rfl, rfl⟩) | (go_at_call 30; refine (tf _ _ _ _ ?ho ?wx ?wy ?hx ?hy).mono ?_; (case ho => exact opf _ rfl); (case wx => assumption); (case wy => assumption); (case hx => assumption); (case hy => assumption); rintro e w' ⟨rfl, rfl⟩))
  go_ret
  exact ⟨rfl, rfl⟩

set_option maxRecDepth 100000 in
set_option maxHeartbeats 1000000 in
theorem order_feq (k a b : Int) (w : World) (k0 : 0 ≤ k) (k1 : k ≤ 255) (k2 : 200 < k) (wa : Hid (word a)) (wb : Hid (word b)) (va : Hid (word (cutI 5 a))) (vb : Hid (word (cutI 5 b))) (h1 : (FloatKind.f64.format.order (cutI 5 a).toNat (cutI 5 a).toNat != some .eq) = false) (h2 : (FloatKind.f64.format.order (cutI 5 b).toNat (cutI 5 b).toNat != some .eq) = false) (g : FloatKind.f64.format.order (cutI 5 a).toNat (cutI 5 b).toNat = some .eq) :
    Calls Try.prog 8 #[.int .u8 k, .int .u64 a, .int .u64 b] w fun e w' => e = .returned (.bool true) ∧ w' = w := by
  have ra : Hid (rightB 5 (cutI 5 a) = true) := right5 a
  have rb : Hid (rightB 5 (cutI 5 b) = true) := right5 b
  have f1 := run_frombits
  have g' : FloatKind.f64.format.order (cutI 5 b).toNat (cutI 5 a).toNat = (FloatKind.f64.format.order (cutI 5 a).toNat (cutI 5 b).toNat).map Ordering.swap := order_swap _ _
  rw [g] at g'
  have e13 : fordI 13 (cutI 5 a) (cutI 5 b) = 0 := by simp [fordI, fcmpB, truthI, g]
  have e14 : fordI 14 (cutI 5 a) (cutI 5 b) = 1 := by simp [fordI, fcmpB, truthI, g]
  have e15 : fordI 15 (cutI 5 a) (cutI 5 b) = 0 := by simp [fordI, fcmpB, truthI, g]
  have e16 : fordI 16 (cutI 5 a) (cutI 5 b) = 1 := by simp [fordI, fcmpB, truthI, g]
  have e11 : fordI 11 (cutI 5 a) (cutI 5 b) = 1 := by simp [fordI, fcmpB, truthI, g]
  have e12 : fordI 12 (cutI 5 a) (cutI 5 b) = 0 := by simp [fordI, fcmpB, truthI, g]
  have s13 : fordI 13 (cutI 5 b) (cutI 5 a) = 0 := by simp [fordI, fcmpB, truthI, g']
  have s16 : fordI 16 (cutI 5 b) (cutI 5 a) = 1 := by simp [fordI, fcmpB, truthI, g']
  clear g g'
  go_enter Try.func8, Try.ntmps8
  go_wp2_with (first | (go_at_call 13; refine (awake_any _).mono ?_; rintro e w' ⟨rfl, rfl⟩) | (go_at_call 29; refine (wholeK_any _ _ k0 k1).mono ?_; rintro e w' ⟨rfl, rfl⟩) | (go_at_call 11; refine (cut_any _ _ _ ?hh).mono ?_; (case hh => assumption); rintro e w' ⟨rfl, rfl⟩) | (go_at_call 30; refine (tf _ _ _ _ ?ho ?wx ?wy ?hx ?hy).mono ?_; (case ho => exact opf _ rfl); (case wx => assumption); (case wy => assumption); (case hx => assumption); (case hy => assumption); rintro e w' ⟨rfl, rfl⟩))
  go_ret
  exact ⟨rfl, rfl⟩

set_option maxRecDepth 100000 in
set_option maxHeartbeats 1000000 in
theorem order_fgt (k a b : Int) (w : World) (k0 : 0 ≤ k) (k1 : k ≤ 255) (k2 : 200 < k) (wa : Hid (word a)) (wb : Hid (word b)) (va : Hid (word (cutI 5 a))) (vb : Hid (word (cutI 5 b))) (h1 : (FloatKind.f64.format.order (cutI 5 a).toNat (cutI 5 a).toNat != some .eq) = false) (h2 : (FloatKind.f64.format.order (cutI 5 b).toNat (cutI 5 b).toNat != some .eq) = false) (g : FloatKind.f64.format.order (cutI 5 a).toNat (cutI 5 b).toNat = some .gt) :
    Calls Try.prog 8 #[.int .u8 k, .int .u64 a, .int .u64 b] w fun e w' => e = .returned (.bool true) ∧ w' = w := by
  have ra : Hid (rightB 5 (cutI 5 a) = true) := right5 a
  have rb : Hid (rightB 5 (cutI 5 b) = true) := right5 b
  have f1 := run_frombits
  have g' : FloatKind.f64.format.order (cutI 5 b).toNat (cutI 5 a).toNat = (FloatKind.f64.format.order (cutI 5 a).toNat (cutI 5 b).toNat).map Ordering.swap := order_swap _ _
  rw [g] at g'
  have e13 : fordI 13 (cutI 5 a) (cutI 5 b) = 0 := by simp [fordI, fcmpB, truthI, g]
  have e14 : fordI 14 (cutI 5 a) (cutI 5 b) = 0 := by simp [fordI, fcmpB, truthI, g]
  have e15 : fordI 15 (cutI 5 a) (cutI 5 b) = 1 := by simp [fordI, fcmpB, truthI, g]
  have e16 : fordI 16 (cutI 5 a) (cutI 5 b) = 1 := by simp [fordI, fcmpB, truthI, g]
  have e11 : fordI 11 (cutI 5 a) (cutI 5 b) = 0 := by simp [fordI, fcmpB, truthI, g]
  have e12 : fordI 12 (cutI 5 a) (cutI 5 b) = 1 := by simp [fordI, fcmpB, truthI, g]
  have s13 : fordI 13 (cutI 5 b) (cutI 5 a) = 1 := by simp [fordI, fcmpB, truthI, g']
  have s16 : fordI 16 (cutI 5 b) (cutI 5 a) = 0 := by simp [fordI, fcmpB, truthI, g']
  clear g g'
  go_enter Try.func8, Try.ntmps8
  go_wp2_with (first | (go_at_call 13; refine (awake_any _).mono ?_; rintro e w' ⟨rfl, rfl⟩) | (go_at_call 29; refine (wholeK_any _ _ k0 k1).mono ?_; rintro e w' ⟨rfl, rfl⟩) | (go_at_call 11; refine (cut_any _ _ _ ?hh).mono ?_; (case hh => assumption); rintro e w' ⟨rfl, rfl⟩) | (go_at_call 30; refine (tf _ _ _ _ ?ho ?wx ?wy ?hx ?hy).mono ?_; (case ho => exact opf _ rfl); (case wx => assumption); (case wy => assumption); (case hx => assumption); (case hy => assumption); rintro e w' ⟨rfl, rfl⟩))
  go_ret
  exact ⟨rfl, rfl⟩

theorem cut5_word (a : Int) (ha : word a) : word (cutI 5 a) := by
  unfold cutI
  simp only [show ¬ (5 : Int) = 1 by decide, show ¬ (5 : Int) = 2 by decide, show ¬ (5 : Int) = 3 by decide, if_false, if_true]
  split
  · exact ⟨by omega, by omega⟩
  · exact ha

theorem order_walk (k a b : Int) (w : World) (k0 : 0 ≤ k) (k1 : k ≤ 255) (wa : Hid (word a)) (wb : Hid (word b)) :
    Calls Try.prog 8 #[.int .u8 k, .int .u64 a, .int .u64 b] w fun e w' => e = .returned (.bool true) ∧ w' = w := by
  by_cases k2 : k ≤ 200
  · by_cases h1 : wrap64 (cutI (wholeK k) a) < wrap64 (cutI (wholeK k) b)
    · exact order_lt k a b w k0 k1 k2 wa wb h1
    · by_cases h2 : wrap64 (cutI (wholeK k) a) = wrap64 (cutI (wholeK k) b)
      · exact order_eq k a b w k0 k1 k2 wa wb h2
      · exact order_gt k a b w k0 k1 k2 wa wb (by omega)
  · have k3 : 200 < k := by omega
    have va : Hid (word (cutI 5 a)) := cut5_word a wa
    have vb : Hid (word (cutI 5 b)) := cut5_word b wb
    by_cases hx : Ieee.double.order (cutI 5 a).toNat (cutI 5 a).toNat = some .eq
    · by_cases hy : Ieee.double.order (cutI 5 b).toNat (cutI 5 b).toNat = some .eq
      · obtain ⟨c, hc⟩ := order_some _ _ hx hy
        have h1 : (FloatKind.f64.format.order (cutI 5 a).toNat (cutI 5 a).toNat != some .eq) = false := by
          show (Ieee.double.order _ _ != _) = false
          rw [hx]; rfl
        have h2 : (FloatKind.f64.format.order (cutI 5 b).toNat (cutI 5 b).toNat != some .eq) = false := by
          show (Ieee.double.order _ _ != _) = false
          rw [hy]; rfl
        cases c
        · exact order_flt k a b w k0 k1 k3 wa wb va vb h1 h2 hc
        · exact order_feq k a b w k0 k1 k3 wa wb va vb h1 h2 hc
        · exact order_fgt k a b w k0 k1 k3 wa wb va vb h1 h2 hc
      · have g : Ieee.double.order (cutI 5 a).toNat (cutI 5 b).toNat = none := by
          rw [order_swap, order_none _ _ hy]; rfl
        refine order_isnan k a b w k0 k1 k3 wa wb va vb (Or.inr ⟨?_, ?_⟩) g
        · show (Ieee.double.order _ _ != _) = false
          rw [hx]; rfl
        · show (Ieee.double.order _ _ != _) = true
          simpa using hy
    · refine order_isnan k a b w k0 k1 k3 wa wb va vb (Or.inl ?_) (order_none _ _ hx)
      show (Ieee.double.order _ _ != _) = true
      simpa using hx
end Go.Proofs.Ytekgedphjbhalaa
