/- And, or, xor of words of a type are words of that type: plain facts on bits. -/
import Derived.Test.YtekgedphjbhalaaRefPlain
namespace Go.Proofs.Ytekgedphjbhalaa
open Go.RowKit

theorem sx_iff (n : Nat) (hn : n < 2 ^ 64) : (n < 2 ^ 31 ∨ 2 ^ 64 - 2 ^ 31 ≤ n) ↔ ∀ i, 31 ≤ i → i < 64 → n.testBit i = n.testBit 31 := by
  constructor
  · rintro (h | h) i h1 h2
    · rw [Nat.testBit_lt_two_pow (Nat.lt_of_lt_of_le h (Nat.pow_le_pow_right (by omega) h1)), Nat.testBit_lt_two_pow h]
    · have e : n / 2 ^ 31 = 2 ^ 33 - 1 := by omega
      have key : ∀ j, j < 33 → n.testBit (j + 31) = true := by
        intro j hj
        have : n.testBit (j + 31) = (n / 2 ^ 31).testBit j := by rw [Nat.testBit_div_two_pow]
        rw [this, e, Nat.testBit_two_pow_sub_one]; simp [hj]
      have a1 := key (i - 31) (by omega)
      have a2 := key 0 (by omega)
      have e3 : (i - 31) + 31 = i := by omega
      rw [e3] at a1
      rw [a1]; exact a2.symm
  · intro h
    have e : n / 2 ^ 31 = 0 ∨ n / 2 ^ 31 = 2 ^ 33 - 1 := by
      cases hb : n.testBit 31 with
      | false =>
        left
        apply Nat.eq_of_testBit_eq
        intro j
        rw [Nat.testBit_div_two_pow]
        simp only [Nat.zero_testBit]
        by_cases hj : j + 31 < 64
        · rw [h (j + 31) (by omega) hj, hb]
        · exact Nat.testBit_lt_two_pow (Nat.lt_of_lt_of_le hn (Nat.pow_le_pow_right (by omega) (by omega)))
      | true =>
        right
        apply Nat.eq_of_testBit_eq
        intro j
        rw [Nat.testBit_div_two_pow, Nat.testBit_two_pow_sub_one]
        by_cases hj : j < 33
        · rw [h (j + 31) (by omega) (by omega), hb]; simp [hj]
        · rw [Nat.testBit_lt_two_pow (Nat.lt_of_lt_of_le hn (Nat.pow_le_pow_right (by omega) (by omega)))]; simp [hj]
    rcases e with e | e <;> omega

theorem cut3_iff {x : Int} (hx : word x) : cutI 3 x = x ↔ (x.toNat < 2 ^ 31 ∨ 2 ^ 64 - 2 ^ 31 ≤ x.toNat) := by
  obtain ⟨h0, h1⟩ := hx
  rw [cut3, wrapu]; unfold wrap32; omega
theorem cut1 (x : Int) : cutI 1 x = x % 2 := by simp [cutI]

theorem bit_closed (f : Nat → Nat → Nat) (g : Bool → Bool → Bool) (hf : ∀ x y i, (f x y).testBit i = g (x.testBit i) (y.testBit i)) (hlt : ∀ x y n, x < 2 ^ n → y < 2 ^ n → f x y < 2 ^ n)
    {t a b : Int} (ht : t = 1 ∨ t = 2 ∨ t = 3 ∨ t = 4) (ha : fitW t a) (hb : fitW t b) : cutI t ((f a.toNat b.toNat : Nat) : Int) = ((f a.toNat b.toNat : Nat) : Int) := by
  obtain ⟨wa, ha⟩ := ha
  obtain ⟨wb, hb⟩ := hb
  have wa' := wa
  have wb' := wb
  obtain ⟨a0, a1⟩ := wa
  obtain ⟨b0, b1⟩ := wb
  rcases ht with rfl | rfl | rfl | rfl
  · rw [cut1] at *
    have := hlt a.toNat b.toNat 1 (by omega) (by omega)
    omega
  · rw [cut2] at *
    have := hlt a.toNat b.toNat 8 (by omega) (by omega)
    omega
  · have hl := hlt a.toNat b.toNat 64 (by omega) (by omega)
    rw [cut3_iff wa'] at ha
    rw [cut3_iff wb'] at hb
    rw [cut3_iff ⟨by omega, by omega⟩, Int.toNat_natCast, sx_iff _ hl]
    rw [sx_iff _ (by omega)] at ha hb
    intro i h1 h2
    rw [hf, hf, ha i h1 h2, hb i h1 h2]
  · rw [cut4]

theorem and_closed {t a b : Int} (ht : t = 1 ∨ t = 2 ∨ t = 3 ∨ t = 4) (ha : fitW t a) (hb : fitW t b) : cutI t (bits .and .u64 a b) = bits .and .u64 a b := by
  rw [u64_and a b ha.1.1 ha.1.2 hb.1.1 hb.1.2]
  exact bit_closed (· &&& ·) (· && ·) (fun x y i => Nat.testBit_and x y i) (fun x y n _ h => Nat.and_lt_two_pow x h) ht ha hb
theorem or_closed {t a b : Int} (ht : t = 1 ∨ t = 2 ∨ t = 3 ∨ t = 4) (ha : fitW t a) (hb : fitW t b) : cutI t (bits .or .u64 a b) = bits .or .u64 a b := by
  rw [u64_or a b ha.1.1 ha.1.2 hb.1.1 hb.1.2]
  exact bit_closed (· ||| ·) (· || ·) (fun x y i => Nat.testBit_or x y i) (fun x y n g h => Nat.or_lt_two_pow g h) ht ha hb
theorem xor_closed {t a b : Int} (ht : t = 1 ∨ t = 2 ∨ t = 3 ∨ t = 4) (ha : fitW t a) (hb : fitW t b) : cutI t (bits .xor .u64 a b) = bits .xor .u64 a b := by
  rw [u64_xor a b ha.1.1 ha.1.2 hb.1.1 hb.1.2]
  exact bit_closed (· ^^^ ·) (· ^^ ·) (fun x y i => Nat.testBit_xor x y i) (fun x y n g h => Nat.xor_lt_two_pow g h) ht ha hb

theorem cut_in {t n : Int} (h : wh t) (hn : inT t n) : cutI t (IntKind.u64.wrap n) = IntKind.u64.wrap n := by
  rcases h with rfl | rfl | rfl
  · rw [inT2] at hn; rw [cut2, wrapu]; omega
  · rw [inT3] at hn; rw [cut3, wrapu, wrapu]; unfold wrap32; omega
  · rw [cut4]
theorem shr_closed {t a : Int} (h : wh t) (ha : fitW t a) (s : Int) : cutI t (downI a s) = downI a s := by
  refine cut_in h ?_
  have hi := in_of_fit h ha
  rcases h with rfl | rfl | rfl
  · rw [inT2] at *; have := shr_in (wrap64 a) s.toNat 0 255 (by omega) (by omega) (by omega) (by omega); omega
  · rw [inT3] at *; have := shr_in (wrap64 a) s.toNat (-2147483648) 2147483647 (by omega) (by omega) (by omega) (by omega); omega
  · rw [inT4] at *; have := shr_in (wrap64 a) s.toNat (-9223372036854775808) 9223372036854775807 (by omega) (by omega) (by omega) (by omega); omega

def wholeW (o t a b : Int) : Int :=
  if o = 1 then IntKind.u64.wrap (a + b) else if o = 2 then IntKind.u64.wrap (a - b) else if o = 3 then IntKind.u64.wrap (a * b)
  else if o = 4 then overQ a b else if o = 5 then overR a b else if o = 6 then bits .and .u64 a b else if o = 7 then bits .or .u64 a b else if o = 8 then bits .xor .u64 a b
  else if o = 9 then IntKind.u64.wrap (a * 2 ^ (placesI t b).toNat) else if o = 10 then downI a (placesI t b)
  else if o = 11 then truthI (a == b) else if o = 12 then truthI (a != b) else if o = 13 then truthI (lessB a b) else if o = 14 then truthI (!lessB b a)
  else if o = 15 then truthI (lessB b a) else truthI (!lessB a b)
theorem cut_truth (x : Bool) : cutI 1 (truthI x) = truthI x := by cases x <;> decide
theorem fit_of_right {t a : Int} (hw : word a) (h : rightB t a = true) : fitW t a := by
  refine ⟨hw, ?_⟩
  simp [rightB] at h; exact h.2

theorem whole_same {o t a b : Int} (wa : word a) (wb : word b) (hof : ofB o t = true) (h1 : oneB o = false) (ha : rightB t a = true) (hb : rightB t b = true) (h5 : t ≠ 5) :
    bitsI o t a b = cutI (ofT o t) (wholeW o t a b) := by
  have fa := fit_of_right wa ha
  have fb := fit_of_right wb hb
  have ty : typedB t = true := by simp [rightB] at ha; exact ha.1
  have ht : t = 1 ∨ t = 2 ∨ t = 3 ∨ t = 4 := by
    simp [typedB, numberB, wholeB] at ty; omega
  have hlt : (wrap64 a == wrap64 b) = (a == b) := w64_inj wa wb
  have c0 : cutI t 0 = 0 := by rcases ht with rfl | rfl | rfl | rfl <;> (first | decide | (rw [cut3, wrapu]; unfold wrap32; decide))
  have ho : o = 1 ∨ o = 2 ∨ o = 3 ∨ o = 4 ∨ o = 5 ∨ o = 6 ∨ o = 7 ∨ o = 8 ∨ o = 9 ∨ o = 10 ∨ o = 11 ∨ o = 12 ∨ o = 13 ∨ o = 14 ∨ o = 15 ∨ o = 16 := by
    have : o ≠ 17 ∧ o ≠ 18 := by simp [oneB] at h1; exact h1
    unfold ofB at hof
    by_cases q1 : o = 11 ∨ o = 12
    · omega
    rw [if_neg q1] at hof
    by_cases q2 : o = 13 ∨ o = 14 ∨ o = 15 ∨ o = 16
    · omega
    rw [if_neg q2] at hof
    by_cases q3 : o = 1 ∨ o = 2 ∨ o = 3 ∨ o = 4 ∨ o = 17
    · omega
    rw [if_neg q3] at hof
    by_cases q4 : o = 6 ∨ o = 7 ∨ o = 8 ∨ o = 18
    · omega
    rw [if_neg q4] at hof
    by_cases q5 : o = 5 ∨ o = 9 ∨ o = 10
    · omega
    rw [if_neg q5] at hof
    cases hof
  rcases ho with rfl | rfl | rfl | rfl | rfl | rfl | rfl | rfl | rfl | rfl | rfl | rfl | rfl | rfl | rfl | rfl
  · have e : ofT 1 t = t := by simp [ofT, ofB] at hof ⊢; exact fun h => absurd h (by simp [hof])
    rw [e, b1]; simp [wholeW]
  · have e : ofT 2 t = t := by simp [ofT, ofB] at hof ⊢; exact fun h => absurd h (by simp [hof])
    rw [e, b2]; simp [wholeW]
  · have e : ofT 3 t = t := by simp [ofT, ofB] at hof ⊢; exact fun h => absurd h (by simp [hof])
    rw [e, b3]; simp [wholeW]
  · have e : ofT 4 t = t := by simp [ofT, ofB] at hof ⊢; exact fun h => absurd h (by simp [hof])
    rw [e, (div_over t wa wb c0).1]; simp [wholeW]
  · have e : ofT 5 t = t := by simp [ofT, ofB] at hof ⊢; exact fun h => absurd h (by simp [hof])
    rw [e, (div_over t wa wb c0).2]; simp [wholeW]
  · have e : ofT 6 t = t := by
      have hof' : t = 1 ∨ wholeB t = true := by simpa [ofB] using hof
      simp [ofT, hof']
    rw [e]; simp [wholeW, bitsI, and_closed ht fa fb]
  · have e : ofT 7 t = t := by
      have hof' : t = 1 ∨ wholeB t = true := by simpa [ofB] using hof
      simp [ofT, hof']
    rw [e]; simp [wholeW, bitsI, or_closed ht fa fb]
  · have e : ofT 8 t = t := by
      have hof' : t = 1 ∨ wholeB t = true := by simpa [ofB] using hof
      simp [ofT, hof']
    rw [e]; simp [wholeW, bitsI, xor_closed ht fa fb]
  · have e : ofT 9 t = t := by simp [ofT, ofB] at hof ⊢; exact fun h => absurd h (by simp [hof])
    rw [e]; simp [wholeW, bitsI]
  · have e : ofT 10 t = t := by simp [ofT, ofB] at hof ⊢; exact fun h => absurd h (by simp [hof])
    have hw : wh t := by simp [ofB, wholeB] at hof; unfold wh; omega
    rw [e]; simp only [wholeW]; simp [bitsI, shr_closed hw fa]; simp [downI]
  · have e : ofT 11 t = 1 := by simp [ofT, ty]
    rw [e]; simp [wholeW, bitsI, cmpB, cut_truth, hlt]
  · have e : ofT 12 t = 1 := by simp [ofT, ty]
    have hne : (wrap64 a != wrap64 b) = (a != b) := by simp [bne, hlt]
    rw [e]; simp [wholeW, bitsI, cmpB, cut_truth, hne]
  · have e : ofT 13 t = 1 := by simp [ofT, ofB] at hof ⊢; exact hof
    rw [e]; simp [wholeW, bitsI, cmpB, cut_truth, lessB]
  · have e : ofT 14 t = 1 := by simp [ofT, ofB] at hof ⊢; exact hof
    have hg : decide (wrap64 a ≤ wrap64 b) = !lessB b a := by rw [lessB, ← decide_not, decide_eq_decide]; omega
    rw [e]; simp [wholeW, bitsI, cmpB, cut_truth, hg]
  · have e : ofT 15 t = 1 := by simp [ofT, ofB] at hof ⊢; exact hof
    rw [e]; simp [wholeW, bitsI, cmpB, cut_truth, lessB]
  · have e : ofT 16 t = 1 := by simp [ofT, ofB] at hof ⊢; exact hof
    have hg : decide (wrap64 b ≤ wrap64 a) = !lessB a b := by rw [lessB, ← decide_not, decide_eq_decide]; omega
    rw [e]; simp [wholeW, bitsI, cmpB, cut_truth, hg]
end Go.Proofs.Ytekgedphjbhalaa
