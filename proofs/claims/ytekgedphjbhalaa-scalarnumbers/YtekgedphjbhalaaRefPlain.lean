/- What the document's answer reckons on whole numbers is what package scalar reckons: plain arithmetic. -/
import Derived.Test.YtekgedphjbhalaaRingPlain
namespace Go.Proofs.Ytekgedphjbhalaa
open Go.RowKit

def sizeN (x : Int) : Int := if 9223372036854775808 ≤ x then IntKind.u64.wrap (0 - x) else x
def negB (x : Int) : Bool := decide (9223372036854775808 ≤ x)
def overQ (a b : Int) : Int := if b = 0 then 0 else if (negB a != negB b) = true then IntKind.u64.wrap (-IntKind.u64.wrap ((sizeN a).tdiv (sizeN b))) else IntKind.u64.wrap ((sizeN a).tdiv (sizeN b))
def overR (a b : Int) : Int := if b = 0 then 0 else if negB a = true then IntKind.u64.wrap (-(sizeN a).tmod (sizeN b)) else (sizeN a).tmod (sizeN b)

theorem sizeN_abs {x : Int} (h : word x) : sizeN x = (wrap64 x).natAbs := by
  obtain ⟨h0, h1⟩ := h
  unfold sizeN; rw [wrapu]; unfold wrap64; split <;> omega
theorem negB_iff {x : Int} (h : word x) : negB x = true ↔ wrap64 x < 0 := by
  obtain ⟨h0, h1⟩ := h
  simp only [negB, decide_eq_true_eq]; unfold wrap64; omega
theorem u_w64 (n : Int) : IntKind.u64.wrap (wrap64 n) = IntKind.u64.wrap n := by rw [wrapu, wrapu]; unfold wrap64; omega

theorem tdiv_abs (a b : Int) : a.tdiv b = if (decide (a < 0) != decide (b < 0)) = true then -((a.natAbs : Int).tdiv (b.natAbs : Int)) else (a.natAbs : Int).tdiv (b.natAbs : Int) := by
  by_cases h1 : a < 0 <;> by_cases h2 : b < 0
  · have e1 : (a.natAbs : Int) = -a := by omega
    have e2 : (b.natAbs : Int) = -b := by omega
    simp [h1, h2, e1, e2, Int.neg_tdiv, Int.tdiv_neg]
  · have e1 : (a.natAbs : Int) = -a := by omega
    have e2 : (b.natAbs : Int) = b := by omega
    simp [h1, h2, e1, e2, Int.neg_tdiv]
  · have e1 : (a.natAbs : Int) = a := by omega
    have e2 : (b.natAbs : Int) = -b := by omega
    simp [h1, h2, e1, e2, Int.tdiv_neg]
  · have e1 : (a.natAbs : Int) = a := by omega
    have e2 : (b.natAbs : Int) = b := by omega
    simp [h1, h2, e1, e2]
theorem tmod_absn (a b : Int) : a.tmod b = if a < 0 then -((a.natAbs : Int).tmod (b.natAbs : Int)) else (a.natAbs : Int).tmod (b.natAbs : Int) := by
  have hb : (b.natAbs : Int) = b ∨ (b.natAbs : Int) = -b := by omega
  by_cases h1 : a < 0
  · have e1 : (a.natAbs : Int) = -a := by omega
    rcases hb with e2 | e2 <;> simp [h1, e1, e2, Int.neg_tmod, Int.tmod_neg]
  · have e1 : (a.natAbs : Int) = a := by omega
    rcases hb with e2 | e2 <;> simp [h1, e1, e2, Int.tmod_neg]
theorem ule {n m : Int} (h : 0 ≤ n) (g : n ≤ m) (hm : m ≤ 9223372036854775808) : IntKind.u64.wrap n = n := by rw [wrapu]; omega
theorem w64_abs (a : Int) : ((wrap64 a).natAbs : Int) ≤ 9223372036854775808 := by unfold wrap64; omega
theorem nn_tdiv (n m : Nat) : 0 ≤ (n : Int).tdiv (m : Int) ∧ (n : Int).tdiv (m : Int) ≤ n := by
  rw [Int.tdiv_eq_ediv_of_nonneg (by omega)]
  have h := Nat.div_le_self n m
  have e : (n : Int) / (m : Int) = ((n / m : Nat) : Int) := by simp
  rw [e]; exact ⟨Int.natCast_nonneg _, by exact_mod_cast h⟩
theorem nn_tmod (n m : Nat) : 0 ≤ (n : Int).tmod (m : Int) ∧ (n : Int).tmod (m : Int) ≤ n := by
  rw [Int.tmod_eq_emod_of_nonneg (by omega)]
  have h := Nat.mod_le n m
  have e : (n : Int) % (m : Int) = ((n % m : Nat) : Int) := by simp
  rw [e]; exact ⟨Int.natCast_nonneg _, by exact_mod_cast h⟩
theorem overQ_is {a b : Int} (ha : word a) (hb : word b) (hz : b ≠ 0) : overQ a b = IntKind.u64.wrap ((wrap64 a).tdiv (wrap64 b)) := by
  have n1 := negB_iff ha
  have n2 := negB_iff hb
  rw [overQ, if_neg hz, sizeN_abs ha, sizeN_abs hb, tdiv_abs (wrap64 a) (wrap64 b)]
  have k1 : negB a = decide (wrap64 a < 0) := by rw [Bool.eq_iff_iff]; simp [n1]
  have k2 : negB b = decide (wrap64 b < 0) := by rw [Bool.eq_iff_iff]; simp [n2]
  rw [k1, k2]
  have hq := nn_tdiv (wrap64 a).natAbs (wrap64 b).natAbs
  have hw := w64_abs a
  split
  · rw [ule hq.1 (by omega) (Int.le_refl _)]
  · rfl
theorem overR_is {a b : Int} (ha : word a) (hb : word b) (hz : b ≠ 0) : overR a b = IntKind.u64.wrap ((wrap64 a).tmod (wrap64 b)) := by
  have n1 := negB_iff ha
  rw [overR, if_neg hz, sizeN_abs ha, sizeN_abs hb, tmod_absn (wrap64 a) (wrap64 b)]
  have hq := nn_tmod (wrap64 a).natAbs (wrap64 b).natAbs
  have hw := w64_abs a
  by_cases h : wrap64 a < 0
  · rw [if_pos (n1.2 h), if_pos h]
  · rw [if_neg (fun g => h (n1.1 g)), if_neg h, ule hq.1 (by omega) (Int.le_refl _)]
theorem div_over {a b : Int} (t : Int) (ha : word a) (hb : word b) (h0 : cutI t 0 = 0) : bitsI 4 t a b = cutI t (overQ a b) ∧ bitsI 5 t a b = cutI t (overR a b) := by
  by_cases hz : b = 0
  · subst hz; rw [b4, b5]; simp [divI, overQ, overR, wrap64, h0]
  · have hz' := nz hb hz
    rw [overQ_is ha hb hz, overR_is ha hb hz]
    refine ⟨?_, e5 t a b hz'⟩
    rw [b4]; simp only [divI, if_neg hz']
    rw [if_neg (by decide), u_w64]

def lessB (a b : Int) : Bool := decide (wrap64 a < wrap64 b)
theorem less_is {a b : Int} (ha : word a) (hb : word b) : decide (IntKind.u64.wrap (a + 9223372036854775808) < IntKind.u64.wrap (b + 9223372036854775808)) = lessB a b := by
  obtain ⟨h0, h1⟩ := ha; obtain ⟨g0, g1⟩ := hb
  rw [wrapu, wrapu, lessB, decide_eq_decide]; unfold wrap64; omega
theorem w64_inj {a b : Int} (ha : word a) (hb : word b) : (wrap64 a == wrap64 b) = (a == b) := by
  obtain ⟨h0, h1⟩ := ha; obtain ⟨g0, g1⟩ := hb
  rw [Bool.eq_iff_iff]; simp only [beq_iff_eq]; unfold wrap64; omega

def downI (a s : Int) : Int := IntKind.u64.wrap (wrap64 a / 2 ^ s.toNat)
theorem down_zero {a : Int} (ha : word a) : downI a 0 = a := by
  obtain ⟨h0, h1⟩ := ha
  have : downI a 0 = IntKind.u64.wrap (wrap64 a) := by simp [downI]
  rw [this, wrapu]; unfold wrap64; omega
theorem top_is {x : Int} (hx : word x) : bits .andNot .u64 x 9223372036854775807 = if 9223372036854775808 ≤ x then 9223372036854775808 else 0 := by
  obtain ⟨h0, h1⟩ := hx
  rw [u64_andNot x _ h0 h1 (by omega) (by omega)]
  have e : (18446744073709551615 - (9223372036854775807 : Int).toNat) = 2 ^ 63 := by decide
  rw [e, nat_bit]
  split <;> omega
theorem word_down (a s : Int) : word (downI a s) := word_wrapu _
theorem half_step (y : Int) (h1 : -9223372036854775808 ≤ y) (h2 : y ≤ 9223372036854775807) :
    IntKind.u64.wrap ((IntKind.u64.wrap y).tdiv 2 + (if 9223372036854775808 ≤ IntKind.u64.wrap y then 9223372036854775808 else 0)) = IntKind.u64.wrap (y / 2) := by
  rw [wrapu, wrapu, wrapu, Int.tdiv_eq_ediv_of_nonneg (by omega)]
  split <;> omega
theorem pow_pos (n : Nat) : (0 : Int) < 2 ^ n := Int.pow_pos (by omega)
theorem shr_in (x : Int) (n : Nat) (lo hi : Int) (h0 : lo ≤ x) (h1 : x ≤ hi) (hl : lo ≤ 0) (hh : 0 ≤ hi) : lo ≤ x / 2 ^ n ∧ x / 2 ^ n ≤ hi := by
  have hp : (1 : Int) ≤ 2 ^ n := by have := pow_pos n; omega
  constructor
  · rw [Int.le_ediv_iff_mul_le (by omega)]
    have : lo * 2 ^ n ≤ lo * 1 := Int.mul_le_mul_of_nonpos_left hl hp
    omega
  · refine Int.le_trans (Int.ediv_le_ediv (by omega) h1) ?_
    exact Int.ediv_le_self _ hh
theorem down_step {a : Int} (s : Nat) : IntKind.u64.wrap ((downI a s).tdiv 2 + bits .andNot .u64 (downI a s) 9223372036854775807) = downI a ((s + 1 : Nat) : Int) := by
  rw [top_is (word_down a s)]
  have hr : -9223372036854775808 ≤ wrap64 a ∧ wrap64 a ≤ 9223372036854775807 := by unfold wrap64; omega
  have hs := shr_in (wrap64 a) s _ _ hr.1 hr.2 (by omega) (by omega)
  have e : downI a s = IntKind.u64.wrap (wrap64 a / 2 ^ s) := by simp [downI]
  have e2 : downI a ((s + 1 : Nat) : Int) = IntKind.u64.wrap (wrap64 a / 2 ^ s / 2) := by
    have : ((s + 1 : Nat) : Int).toNat = s + 1 := by omega
    rw [downI, this, Int.pow_succ, Int.ediv_ediv_of_nonneg (by have := pow_pos s; omega)]
  rw [e, e2]
  exact half_step _ hs.1 hs.2
end Go.Proofs.Ytekgedphjbhalaa
