/- What is right of a graph: sizes, types, parameters. -/
import Derived.Test.YtkgjcjakadofpaaDoorGScal
import Derived.Test.YtkgjcjakadofpaaDoorGBox
import Derived.Test.YtkgjcjakadofpaaDoorShelf
namespace Go.Proofs.YtkgjcjakadofpaaDoor
open Go.RowKit

theorem nan_zero : nanI 0 = false := by decide
theorem right_zero (t : Int) : rightB t 0 = typedB t := by
  have hc : cutI t 0 = 0 := by
    unfold cutI
    rw [nan_zero]
    repeat' split
    all_goals first | rfl | (simp [IntKind.wrap, IntKind.bits, IntKind.signed, wrap32]; done) | simp_all
  simp [rightB, hc]
theorem isType_any (t : Int) (w : World) : Calls Tryd.prog 45 #[.int .u8 t] w fun e w' => e = .returned (.bool (typedB t)) ∧ w' = w := by
  have hr : ∀ W, Calls Tryd.prog 40 #[.int .u8 t, .int .u64 0] W fun e w' => e = .returned (.bool (typedB t)) ∧ w' = W := fun W => by
    rw [← right_zero]; exact right_any t 0 W ⟨by omega, by omega⟩
  have HR : Hid _ := hr
  clear hr
  go_enter Tryd.func45, Tryd.ntmps45
  go_wp2_with (go_at_call 40; refine Calls.mono (HR.out _) ?_; rintro e wx ⟨rfl, hwx⟩; subst wx)
  go_ret
  exact ⟨rfl, rfl⟩
def isOfB (vars : List Int) (v t : Int) : Bool := inB v vars.length && (vars.getD v.toNat 0 == t) && typedB t
theorem GrAt.openF {w : World} {pv vv av bv : Value} {G : Gr} (h : GrAt w pv vv av bv G) : ∃ pa pc va vc aa ac ba bc, pv = .slice pa G.params.length pc ∧ vv = .slice va G.vars.length vc ∧ av = .slice aa G.arrs.length ac ∧ bv = .slice ba G.blocks.length bc ∧ G.params.length ≤ 140737488355328 ∧ G.vars.length ≤ 140737488355328 ∧ G.arrs.length ≤ 140737488355328 ∧ G.blocks.length ≤ 140737488355328 := by
  obtain ⟨pa, pc, h1, b1⟩ := h.ps.form
  obtain ⟨va, vc, h2, b2, _⟩ := h.vs
  obtain ⟨aa, ac, h3, b3, _⟩ := h.ars
  obtain ⟨ba, bc, h4, b4⟩ := h.bs.form
  exact ⟨pa, pc, va, vc, aa, ac, ba, bc, h1, h2, h3, h4, b1, b2.2, b3.2, b4⟩
set_option maxRecDepth 100000 in
theorem isOf_any (G : Gr) (pv vv av bv : Value) (v t : Int) (w : World) (h : GrAt w pv vv av bv G) :
    Calls Tryd.prog 69 #[.agg #[.string G.name, pv, .int .u8 G.result, vv, av, bv], .int .i64 v, .int .u8 t] w fun e w' => e = .returned (.bool (isOfB G.vars v t)) ∧ Below w.heap.size w w' := by
  obtain ⟨pa, pc, va, vc, aa, ac, ba, bc, rfl, rfl, rfl, rfl, _, hvl, _, _⟩ := h.openF
  have HPL : Hid (∀ W, Calls Tryd.prog 20 #[.int .i64 v, .int .i64 (G.vars.length : Int)] W fun e w' => e = .returned (.bool (inB v G.vars.length)) ∧ w' = W) := fun W => isPlace_any v _ W
  have HT : Hid (∀ W, _) := fun W => isType_any t W
  unfold isOfB
  by_cases hb : inB v G.vars.length = true
  · obtain ⟨k, hk⟩ : ∃ k : Nat, v = (k : Int) := Int.eq_ofNat_of_zero_le (inB_iff.1 hb).1
    subst hk
    have hkn : k < G.vars.length := by have := (inB_iff.1 hb).2; omega
    have hkn' : (k : Int) < G.vars.length := by omega
    obtain ⟨g, o, rfl, hg, cv⟩ := h.vs.get hkn
    rw [hb] at HPL ⊢
    rw [Int.toNat_natCast]
    generalize G.vars.getD k 0 = tv at *
    clear h hb
    generalize G.vars.length = n at *
    by_cases ht : tv = t
    · subst ht
      go_enter Tryd.func69, Tryd.ntmps69
      go_wp2_with (first
        | (go_at_call 20; refine Calls.mono (HPL.out _) ?_; rintro e wx ⟨rfl, hwx⟩; subst wx)
        | (go_at_call 45; refine Calls.mono (HT.out _) ?_; rintro e wx ⟨rfl, hwx⟩; subst wx))
      go_ret
      exact ⟨ret_bool (by simp), below_alloc (Below.refl _ _) _⟩
    · have ht' : (tv == t) = false := beq_false_of_ne ht
      go_enter Tryd.func69, Tryd.ntmps69
      go_wp2_with (first
        | (go_at_call 20; refine Calls.mono (HPL.out _) ?_; rintro e wx ⟨rfl, hwx⟩; subst wx)
        | (go_at_call 45; refine Calls.mono (HT.out _) ?_; rintro e wx ⟨rfl, hwx⟩; subst wx))
      go_ret
      exact ⟨ret_bool (by simp [ht']), below_alloc (Below.refl _ _) _⟩
  · have hb' : inB v G.vars.length = false := by simpa using hb
    rw [hb'] at HPL ⊢
    clear h hb hb'
    generalize G.vars.length = n at *
    go_enter Tryd.func69, Tryd.ntmps69
    go_wp2_with (go_at_call 20; refine Calls.mono (HPL.out _) ?_; rintro e wx ⟨rfl, hwx⟩; subst wx)
    go_ret
    exact ⟨ret_bool (by simp), below_alloc (Below.refl _ _) _⟩
def behindB (n : Nat) (to : Int) : Bool := (to != 0) && inB to n
set_option maxRecDepth 100000 in
theorem behind_any (G : Gr) (pv vv av bv : Value) (to : Int) (w : World) (h : GrAt w pv vv av bv G) :
    Calls Tryd.prog 71 #[.agg #[.string G.name, pv, .int .u8 G.result, vv, av, bv], .int .i64 to] w fun e w' => e = .returned (.bool (behindB G.blocks.length to)) ∧ Below w.heap.size w w' := by
  obtain ⟨pa, pc, va, vc, aa, ac, ba, bc, rfl, rfl, rfl, rfl, _, _, _, hbl⟩ := h.openF
  have HPL : Hid (∀ W, Calls Tryd.prog 20 #[.int .i64 to, .int .i64 (G.blocks.length : Int)] W fun e w' => e = .returned (.bool (inB to G.blocks.length)) ∧ w' = W) := fun W => isPlace_any to _ W
  unfold behindB
  clear h
  generalize inB to G.blocks.length = ib at *
  generalize G.blocks.length = n at *
  by_cases h0 : to = 0
  · subst h0
    go_enter Tryd.func71, Tryd.ntmps71
    go_wp2
    go_ret
    exact ⟨ret_bool (by simp), below_alloc (Below.refl _ _) _⟩
  · have h0' : (to != 0) = true := by simpa using h0
    go_enter Tryd.func71, Tryd.ntmps71
    go_wp2_with (go_at_call 20; refine Calls.mono (HPL.out _) ?_; rintro e wx ⟨rfl, hwx⟩; subst wx)
    go_ret
    exact ⟨ret_bool (by simp [h0']), below_alloc (Below.refl _ _) _⟩
def sizesB (G : Gr) : Bool := decide (0 < G.blocks.length) && decide (G.blocks.length ≤ 1048576) && decide (G.vars.length ≤ 1048576) && decide (G.arrs.length ≤ 1048576)
set_option maxRecDepth 100000 in
theorem sizes_any (G : Gr) (pv vv av bv : Value) (w : World) (h : GrAt w pv vv av bv G) :
    Calls Tryd.prog 29 #[.agg #[.string G.name, pv, .int .u8 G.result, vv, av, bv]] w fun e w' => e = .returned (.bool (sizesB G)) ∧ Below w.heap.size w w' := by
  obtain ⟨pa, pc, va, vc, aa, ac, ba, bc, rfl, rfl, rfl, rfl, _, hvl, hal, hbl⟩ := h.openF
  unfold sizesB
  clear h
  generalize G.blocks.length = n at *
  generalize G.vars.length = m at *
  generalize G.arrs.length = k at *
  by_cases h1 : 0 < n
  · by_cases h2 : n ≤ 1048576
    · by_cases h3 : m ≤ 1048576
      · have h1' : (0 : Int) < n := by omega
        have h2' : (n : Int) ≤ 1048576 := by omega
        have h3' : (m : Int) ≤ 1048576 := by omega
        go_enter Tryd.func29, Tryd.ntmps29
        go_wp2
        go_ret
        exact ⟨ret_bool (by simp [h1, h2, h3]; omega), below_alloc (Below.refl _ _) _⟩
      · have h1' : (0 : Int) < n := by omega
        have h2' : (n : Int) ≤ 1048576 := by omega
        have h3' : ¬ (m : Int) ≤ 1048576 := by omega
        go_enter Tryd.func29, Tryd.ntmps29
        go_wp2
        go_ret
        exact ⟨ret_bool (by simp), below_alloc (Below.refl _ _) _⟩
    · have h1' : (0 : Int) < n := by omega
      have h2' : ¬ (n : Int) ≤ 1048576 := by omega
      go_enter Tryd.func29, Tryd.ntmps29
      go_wp2
      go_ret
      exact ⟨ret_bool (by simp), below_alloc (Below.refl _ _) _⟩
  · have h1' : ¬ (0 : Int) < n := by omega
    go_enter Tryd.func29, Tryd.ntmps29
    go_wp2
    go_ret
    exact ⟨ret_bool (by simp), below_alloc (Below.refl _ _) _⟩
end Go.Proofs.YtkgjcjakadofpaaDoor
