/- The document's side: may a block end so? -/
import Derived.Test.YtdibkfiffdbfnaaDoorGFit4M
import Derived.Test.YtdibkfiffdbfnaaDoorGFit2M
namespace Go.Proofs.YtdibkfiffdbfnaaDoor
open Go.RowKit

def rendB (G : Gr) (t : Tm) : Bool :=
  if t.kind = 1 then innerB t.t0 G.blocks.length && (t.arg == 0 && t.t1 == 0 && t.trap == 0)
  else if t.kind = 2 then innerB t.t0 G.blocks.length && (innerB t.t1 G.blocks.length && (inB t.arg G.vars.length && (varT G.vars t.arg == 1 && t.trap == 0)))
  else if t.kind = 3 then inB t.arg G.vars.length && (varT G.vars t.arg == G.result && (t.t0 == 0 && t.t1 == 0 && t.trap == 0))
  else if t.kind = 4 then decide (1 ≤ t.trap) && (decide (t.trap ≤ 3) && (t.arg == 0 && t.t0 == 0 && t.t1 == 0))
  else false
set_option maxRecDepth 100000 in
set_option maxHeartbeats 4000000 in
theorem rend_any (G : Gr) (pv vv av bv : Value) (t : Tm) (w : World) (h : GrAt w pv vv av bv G) :
    Calls Tryd.prog 42 #[.agg #[.string G.name, pv, .int .u8 G.result, vv, av, bv], tmV t] w fun e w' => e = .returned (.bool (rendB G t)) ∧ Below w.heap.size w w' := by
  have HIN : Hid (∀ k W, Calls Tryd.prog 57 #[.int .i64 k, .int .i64 (G.blocks.length : Int)] W fun e w' => e = .returned (.bool (innerB k G.blocks.length)) ∧ w' = W) := fun k W => rinner_any k _ W
  have HI : Hid (∀ k W, Calls Tryd.prog 45 #[.int .i64 k, .int .i64 (G.vars.length : Int)] W fun e w' => e = .returned (.bool (inB k G.vars.length)) ∧ w' = W) := fun k W => rin_any k _ W
  obtain ⟨pa, pc, va, vc, aa, ac, ba, bc, rfl, rfl, rfl, rfl, _, _, _, _⟩ := h.openF
  have HVV : Hid (∀ v, inB v G.vars.length = true → _) := fun v hv => TysAt.var h.vs hv
  have heq := eql_term
  obtain ⟨R, hR⟩ : ∃ R, R = rendB G t := ⟨_, rfl⟩
  rw [← hR]
  unfold rendB at hR
  clear h
  generalize G.name = nm at *
  generalize G.params.length = pl at *
  generalize G.vars.length = m at *
  generalize G.arrs.length = al at *
  generalize G.blocks.length = n at *
  generalize G.result = r at *
  obtain ⟨k, a, x, y, z⟩ := t
  dsimp only at hR
  have HX := HIN.out x
  have HY := HIN.out y
  have HAI := HI.out a
  clear HIN HI
  have B0 : Hid (∀ (c d : Array Value), Below w.heap.size w ((w.alloc (.cells c 35)).alloc (.cells d 53))) := fun c d => below_alloc (below_alloc (Below.refl _ _) _) _
  generalize innerB x n = bx at *
  generalize innerB y n = byy at *
  have HXJ : Hid _ := HX
  have HYJ : Hid _ := HY
  clear HX HY
  by_cases k1 : k = 1
  · subst k1
    rw [if_pos rfl] at hR
    have HR : Hid _ := hR
    clear hR HAI HVV
    cases bx
    all_goals cases byy
    all_goals
      go_enter Tryd.func42, Tryd.ntmps42
      go_wp2_with (first | (go_at_call 57; refine Calls.mono (by with_reducible exact HXJ.out _) ?_; rintro e wx ⟨rfl, hwx⟩; subst wx) | (go_at_call 57; refine Calls.mono (by with_reducible exact HYJ.out _) ?_; rintro e wx ⟨rfl, hwx⟩; subst wx))
      go_ret
      exact ⟨ret_bool (by rw [HR.out]; simp), B0.out _ _⟩
  by_cases k2 : k = 2
  · subst k2
    rw [if_neg (by decide), if_pos rfl] at hR
    cases hia : inB a m with
    | false =>
      rw [hia] at hR HAI
      have HAJ : Hid _ := HAI
      have HR : Hid (R = false) := by show _ = _; rw [hR]; simp
      clear hR HAI HVV hia
      cases bx
      all_goals cases byy
      all_goals
        go_enter Tryd.func42, Tryd.ntmps42
        go_wp2_with (first | (go_at_call 57; refine Calls.mono (by with_reducible exact HXJ.out _) ?_; rintro e wx ⟨rfl, hwx⟩; subst wx) | (go_at_call 57; refine Calls.mono (by with_reducible exact HYJ.out _) ?_; rintro e wx ⟨rfl, hwx⟩; subst wx) | (go_at_call 45; refine Calls.mono (by with_reducible exact HAJ.out _) ?_; rintro e wx ⟨rfl, hwx⟩; subst wx))
        go_ret
        exact ⟨ret_bool (by rw [HR.out]), B0.out _ _⟩
    | true =>
      obtain ⟨g, o, kd, rfl, rfl, hkn, hg, cd⟩ := HVV.out a hia
      rw [hia] at hR HAI
      have HAJ : Hid _ := HAI
      clear HAI HVV hia
      generalize varT G.vars (kd : Int) = tv at *
      by_cases ht : tv = 1
      · subst ht
        have HR : Hid _ := hR
        clear hR
        cases bx
        all_goals cases byy
        all_goals
          go_enter Tryd.func42, Tryd.ntmps42
          go_wp2_with (first | (go_at_call 57; refine Calls.mono (by with_reducible exact HXJ.out _) ?_; rintro e wx ⟨rfl, hwx⟩; subst wx) | (go_at_call 57; refine Calls.mono (by with_reducible exact HYJ.out _) ?_; rintro e wx ⟨rfl, hwx⟩; subst wx) | (go_at_call 45; refine Calls.mono (by with_reducible exact HAJ.out _) ?_; rintro e wx ⟨rfl, hwx⟩; subst wx))
          go_ret
          exact ⟨ret_bool (by rw [HR.out]; simp), B0.out _ _⟩
      · have htf : (tv == 1) = false := beq_false_of_ne ht
        have HR : Hid (R = false) := by show _ = _; rw [hR, htf]; simp
        clear hR ht
        cases bx
        all_goals cases byy
        all_goals
          go_enter Tryd.func42, Tryd.ntmps42
          go_wp2_with (first | (go_at_call 57; refine Calls.mono (by with_reducible exact HXJ.out _) ?_; rintro e wx ⟨rfl, hwx⟩; subst wx) | (go_at_call 57; refine Calls.mono (by with_reducible exact HYJ.out _) ?_; rintro e wx ⟨rfl, hwx⟩; subst wx) | (go_at_call 45; refine Calls.mono (by with_reducible exact HAJ.out _) ?_; rintro e wx ⟨rfl, hwx⟩; subst wx))
          go_ret
          exact ⟨ret_bool (by rw [HR.out]), B0.out _ _⟩
  by_cases k3 : k = 3
  · subst k3
    rw [if_neg (by decide), if_neg (by decide), if_pos rfl] at hR
    cases hia : inB a m with
    | false =>
      rw [hia] at hR HAI
      have HAJ : Hid _ := HAI
      have HR : Hid (R = false) := by show _ = _; rw [hR]; simp
      clear hR HAI HVV hia
      cases bx
      all_goals cases byy
      all_goals
        go_enter Tryd.func42, Tryd.ntmps42
        go_wp2_with (first | (go_at_call 57; refine Calls.mono (by with_reducible exact HXJ.out _) ?_; rintro e wx ⟨rfl, hwx⟩; subst wx) | (go_at_call 57; refine Calls.mono (by with_reducible exact HYJ.out _) ?_; rintro e wx ⟨rfl, hwx⟩; subst wx))
        go_quiet ((go_at_call 45; exact Calls.quiet_of_same (HAJ.out _)))
        go_wp2
        go_ret
        exact ⟨ret_bool (by rw [HR.out]), below_drewN (B0.out _ _) _⟩
    | true =>
      obtain ⟨g, o, kd, rfl, rfl, hkn, hg, cd⟩ := HVV.out a hia
      rw [hia] at hR HAI
      have HAJ : Hid _ := HAI
      clear HAI HVV hia
      generalize varT G.vars (kd : Int) = tv at *
      by_cases ht : tv = r
      · subst ht
        have HR : Hid _ := hR
        clear hR
        cases bx
        all_goals cases byy
        all_goals
          go_enter Tryd.func42, Tryd.ntmps42
          go_wp2_with (first | (go_at_call 57; refine Calls.mono (by with_reducible exact HXJ.out _) ?_; rintro e wx ⟨rfl, hwx⟩; subst wx) | (go_at_call 57; refine Calls.mono (by with_reducible exact HYJ.out _) ?_; rintro e wx ⟨rfl, hwx⟩; subst wx))
          go_quiet ((go_at_call 45; exact Calls.quiet_of_same (HAJ.out _)))
          go_wp2
          go_ret
          exact ⟨ret_bool (by rw [HR.out]; simp), below_drewN (B0.out _ _) _⟩
      · have htf : (tv == r) = false := beq_false_of_ne ht
        have HR : Hid (R = false) := by show _ = _; rw [hR, htf]; simp
        clear hR ht
        cases bx
        all_goals cases byy
        all_goals
          go_enter Tryd.func42, Tryd.ntmps42
          go_wp2_with (first | (go_at_call 57; refine Calls.mono (by with_reducible exact HXJ.out _) ?_; rintro e wx ⟨rfl, hwx⟩; subst wx) | (go_at_call 57; refine Calls.mono (by with_reducible exact HYJ.out _) ?_; rintro e wx ⟨rfl, hwx⟩; subst wx))
          go_quiet ((go_at_call 45; exact Calls.quiet_of_same (HAJ.out _)))
          go_wp2
          go_ret
          exact ⟨ret_bool (by rw [HR.out]), below_drewN (B0.out _ _) _⟩
  by_cases k4 : k = 4
  · subst k4
    rw [if_neg (by decide), if_neg (by decide), if_neg (by decide), if_pos rfl] at hR
    have HR : Hid _ := hR
    clear hR HAI HVV
    by_cases hz1 : 1 ≤ z
    · by_cases hz3 : z ≤ 3
      · skip
        cases bx
        all_goals cases byy
        all_goals
          go_enter Tryd.func42, Tryd.ntmps42
          go_wp2_with (first | (go_at_call 57; refine Calls.mono (by with_reducible exact HXJ.out _) ?_; rintro e wx ⟨rfl, hwx⟩; subst wx) | (go_at_call 57; refine Calls.mono (by with_reducible exact HYJ.out _) ?_; rintro e wx ⟨rfl, hwx⟩; subst wx))
          go_ret
          exact ⟨ret_bool (by rw [HR.out]; simp [hz1, hz3]), B0.out _ _⟩
      · skip
        cases bx
        all_goals cases byy
        all_goals
          go_enter Tryd.func42, Tryd.ntmps42
          go_wp2_with (first | (go_at_call 57; refine Calls.mono (by with_reducible exact HXJ.out _) ?_; rintro e wx ⟨rfl, hwx⟩; subst wx) | (go_at_call 57; refine Calls.mono (by with_reducible exact HYJ.out _) ?_; rintro e wx ⟨rfl, hwx⟩; subst wx))
          go_ret
          exact ⟨ret_bool (by rw [HR.out]; first | (simp; omega) | simp), B0.out _ _⟩
    · skip
      cases bx
      all_goals cases byy
      all_goals
        go_enter Tryd.func42, Tryd.ntmps42
        go_wp2_with (first | (go_at_call 57; refine Calls.mono (by with_reducible exact HXJ.out _) ?_; rintro e wx ⟨rfl, hwx⟩; subst wx) | (go_at_call 57; refine Calls.mono (by with_reducible exact HYJ.out _) ?_; rintro e wx ⟨rfl, hwx⟩; subst wx))
        go_ret
        exact ⟨ret_bool (by rw [HR.out]; first | (simp; omega) | simp), B0.out _ _⟩
  rw [if_neg k1, if_neg k2, if_neg k3, if_neg k4] at hR
  have HR : Hid _ := hR
  have f1 : (k == 1) = false := beq_false_of_ne k1
  have f2 : (k == 2) = false := beq_false_of_ne k2
  have f3 : (k == 3) = false := beq_false_of_ne k3
  have f4 : (k == 4) = false := beq_false_of_ne k4
  clear hR HAI HVV k1 k2 k3 k4
  cases bx
  all_goals cases byy
  all_goals
    go_enter Tryd.func42, Tryd.ntmps42
    go_wp2_with (first | (go_at_call 57; refine Calls.mono (by with_reducible exact HXJ.out _) ?_; rintro e wx ⟨rfl, hwx⟩; subst wx) | (go_at_call 57; refine Calls.mono (by with_reducible exact HYJ.out _) ?_; rintro e wx ⟨rfl, hwx⟩; subst wx))
    go_ret
    exact ⟨ret_bool (by rw [HR.out]), B0.out _ _⟩
end Go.Proofs.YtdibkfiffdbfnaaDoor
