/- Each is led to the last one that has the same nearest one. -/
import Derived.Test.YtogjjmbcbnceoaaGreatDCnt
import Derived.Test.YtogjjmbcbnceoaaGreatDFoM
import Derived.WalkMore
namespace Go.Proofs.YtogjjmbcbnceoaaGreat
open Go.RowKit Lt

def sumN (l : List Int) : Nat := (l.map Int.toNat).sum
theorem sumN_set : ∀ {l : List Int} {i j k : Nat}, l[i]? = some (j : Int) → k < j → sumN (l.set i (k : Int)) < sumN l
  | [], i, j, k, h, _ => by simp at h
  | x :: l, 0, j, k, h, hk => by
    simp at h
    subst h
    simp [sumN]
    omega
  | x :: l, i + 1, j, k, h, hk => by
    have := sumN_set (l := l) (i := i) (by simpa using h) hk
    simp [sumN] at this ⊢
    omega
theorem Lt.SI.val {m : Nat} {E : Nat → Nat → Prop} {hi al : List Int} (H : SI m E hi al) {i : Nat} (h : i < m) : ∃ j : Nat, al[i]? = some (j : Int) ∧ j < m := by
  rcases Nat.eq_zero_or_pos i with rfl | h0
  · exact ⟨0, H.zero h, h⟩
  · obtain ⟨u, h1, h2⟩ := H.each i h0 h
    exact ⟨u, h1, by omega⟩
/-- What settle leaves. -/
structure Setl (m : Nat) (E : Nat → Nat → Prop) (hi : List Int) (base g : Nat) (w w' : World) (al' : List Int) : Prop where
  own : w'.ownsRow base 3 1 (.slice (some ⟨g, 0, none⟩) m m) m (al'.map intV)
  grown : w.grownBy w' (some g)
  si : SI m E hi al'
theorem grown_set {w w1 : World} {g : Nat} (h : w.grownBy w1 (some g)) (j : Nat) (u : Value) : w.grownBy (w1.setCell ⟨g, j, none⟩ u) (some g) :=
  ⟨h.os, h.tape, h.output, by simpa [World.setCell] using h.size, fun k hk hne => (Below.heap_setCell _ _ _ _ (by simp at hne; simpa using fun e => hne e)).trans (h.block k hk hne)⟩
theorem Setl.cell {m : Nat} {E : Nat → Nat → Prop} {hi : List Int} {base g : Nat} {w w' : World} {al' : List Int} (h : Setl m E hi base g w w' al') {i : Nat} {x : Int} (hx : al'[i]? = some x) : w'.cell? ⟨g, i, none⟩ = some (.int .i64 x) := by
  have hl : i < m := by have := (List.getElem?_eq_some_iff.1 hx).1; rw [h.si.la] at this; exact this
  rw [h.own.cellAt i (by omega), List.getElem?_map, hx]
  rfl
theorem Setl.step {m : Nat} {E : Nat → Nat → Prop} {hi : List Int} {base g : Nat} {w w' : World} {al' : List Int} (h : Setl m E hi base g w w' al') {i j k : Nat} (him : i < m) (h1 : al'[i]? = some (j : Int)) (h2 : al'[j]? = some (k : Int)) (hne : k ≠ j) : Setl m E hi base g w (w'.setCell ⟨g, i, none⟩ (.int .i64 (k : Int))) (al'.set i (k : Int)) ∧ sumN (al'.set i (k : Int)) < sumN al' := by
  obtain ⟨s1, s2⟩ := h.si.step him h1 h2 hne
  refine ⟨⟨?_, grown_set h.grown _ _, s1⟩, sumN_set h1 s2⟩
  have := (World.ownsRow.stored h.own i (.int .i64 (k : Int))).1
  rw [List.map_set]
  exact this
set_option maxRecDepth 100000 in
set_option maxHeartbeats 1000000 in
theorem settle_any (m : Nat) (E : Nat → Nat → Prop) (hi al : List Int) (base g : Nat) (hm : m ≤ 10000000) (w : World) (ho : w.ownsRow base 3 1 (.slice (some ⟨g, 0, none⟩) m m) m (al.map intV)) (hs : SI m E hi al) :
    Calls Tryz.prog 54 #[.slice (some ⟨g, 0, none⟩) m m] w fun e w' => e = .returned (.tuple #[]) ∧ ∃ al', Setl m E hi base g w w' al' ∧ ∀ i : Nat, i < m → ∀ j k : Nat, al'[i]? = some (j : Int) → al'[j]? = some (k : Int) → k = j := by
  have H0 : Hid (Setl m E hi base g w w al) := ⟨ho, grownBy_refl _ _, hs⟩
  clear ho hs
  go_enter Tryz.func54, Tryz.ntmps54
  go_wp2
  go_step3
  go_wp2
  go_step3
  go_wp2
  go_loopg [2] (sumN al) (fun gm _ wr => ∃ al, Hid (Setl m E hi base g w wr al ∧ sumN al ≤ gm))
  case atStart => exact ⟨al, H0.out, Nat.le_refl _⟩
  case round =>
    obtain ⟨al0, hq⟩ := hrel
    clear H0
    generalize wr = wo at *
    go_wp2
    go_loopw [2, 7] (fun vc vi wr => ∃ (i : Nat) (c : Bool) (al1 : List Int), vi = .int .i64 i ∧ i ≤ m ∧ vc = .bool c ∧ Hid (Setl m E hi base g w wr al1 ∧ sumN al1 ≤ sumN al0 ∧ (c = true → sumN al1 < sumN al0) ∧ (c = false → ∀ x : Nat, x < i → ∀ j k : Nat, al1[x]? = some (j : Int) → al1[j]? = some (k : Int) → k = j))) (fun _ vi _ => m - (intOf vi).toNat)
    case atStart => exact ⟨0, false, al0, rfl, by omega, rfl, hq.out.1, Nat.le_refl _, fun h => (by cases h), fun _ x hx => by omega⟩
    case round =>
      obtain ⟨i, c, al1, rfl, hi', rfl, hr⟩ := hrel
      by_cases hin : i < m
      · have hin' : (i : Int) < m := by omega
        obtain ⟨j, hj, hjm⟩ := hr.out.1.si.val hin
        obtain ⟨k, hk, hkm⟩ := hr.out.1.si.val hjm
        have hjm' : (j : Int) < m := by omega
        have c1 := hr.out.1.cell hj
        have c2 := hr.out.1.cell hk
        have f1 : wr.frozen? ⟨g, i, none⟩ = false := hr.out.1.own.frozenAt i
        have HJ : Hid _ := hj
        have HK : Hid _ := hk
        clear hj hk
        by_cases hne : k = j
        · subst hne
          have HN : Hid (c = false → ∀ x : Nat, x < i + 1 → ∀ j k : Nat, al1[x]? = some (j : Int) → al1[j]? = some (k : Int) → k = j) := fun hc x hx j2 k2 h1 h2 => by
            rcases Nat.lt_or_ge x i with h | h
            · exact hr.out.2.2.2 hc x h j2 k2 h1 h2
            · have : x = i := by omega
              subst this
              have h3 := HJ.out
              have h4 := HK.out
              rw [h1] at h3
              have e1 : j2 = k := by cases h3; rfl
              subst e1
              rw [h2] at h4
              cases h4
              rfl
          go_wp2
          go_roundw
          case rel => exact ⟨i + 1, c, al1, by first | rfl | (congr 1; omega), by omega, rfl, hr.out.1, hr.out.2.1, hr.out.2.2.1, HN.out⟩
          case measure => simp [intOf]; omega
        · have hne' : ¬ (k : Int) = j := by omega
          have HS : Hid _ := hr.out.1.step hin HJ.out HK.out hne
          have HL : Hid (sumN al1 ≤ sumN al0) := hr.out.2.1
          clear hr
          go_wp2
          go_roundw
          case rel => exact ⟨i + 1, true, al1.set i (k : Int), by first | rfl | (congr 1; omega), by omega, rfl, HS.out.1, by have := HS.out.2; have := HL.out; omega, fun _ => by have := HS.out.2; have := HL.out; omega, fun h => (by cases h)⟩
          case measure => simp [intOf]; omega
      · obtain rfl : i = m := by omega
        cases c with
        | true =>
          have HL : Hid (sumN al1 < sumN al0) := hr.out.2.2.1 rfl
          go_wp2
          go_roundg (sumN al1)
          case measure => have := HL.out; have := hq.out.2; omega
          case rel => exact ⟨al1, hr.out.1, Nat.le_refl _⟩
        | false =>
          have HN : Hid _ := hr.out.2.2.2 rfl
          go_wp2
          go_end0
          exact ⟨rfl, al1, hr.out.1, HN.out⟩
end Go.Proofs.YtogjjmbcbnceoaaGreat
