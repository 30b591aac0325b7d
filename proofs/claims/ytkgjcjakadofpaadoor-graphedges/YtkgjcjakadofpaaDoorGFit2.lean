/- Types of an operation. -/
import Derived.Test.YtkgjcjakadofpaaDoorGFit1
namespace Go.Proofs.YtkgjcjakadofpaaDoor
open Go.RowKit

def nOp (op : Int) : Int := if op = 17 ∨ op = 18 then 1 else 2
def opOkB (vars : List Int) (x : In) : Bool := ofB x.op (varT vars (x.args.getD 0 0)) && ((x.args.length : Int) == nOp x.op) && (varT vars (x.args.getD (x.args.length - 1) 0) == varT vars (x.args.getD 0 0)) && (varT vars x.dst == ofT x.op (varT vars (x.args.getD 0 0)))
set_option maxRecDepth 100000 in
set_option maxHeartbeats 2000000 in
theorem fitsOp_any (G : Gr) (pv vv av bv : Value) (x : In) (xv : Value) (w : World) (h : GrAt w pv vv av bv G) (hA : IntsAt w xv x.args) (hd : inB x.dst G.vars.length = true) (hal : x.args.all (inB · G.vars.length) = true) (h1 : 1 ≤ x.args.length) (h2 : x.args.length ≤ 2) :
    Calls Tryd.prog 41 #[.agg #[.string G.name, pv, .int .u8 G.result, vv, av, bv], inV x xv] w fun e w' => e = .returned (.bool (opOkB G.vars x)) ∧ Below w.heap.size w w' := by
  obtain ⟨pa, pc, va, vc, aa, ac, ba, bc, rfl, rfl, rfl, rfl, _, hvl, _, _⟩ := h.openF
  obtain ⟨xa, xc, rfl, hxl⟩ := hA.form
  obtain ⟨kind, op, dst, args, bits, ref⟩ := x
  obtain ⟨nm, ps, r, vs, ars, bs⟩ := G
  dsimp only at *
  have HV := h.vs
  dsimp only at HV
  obtain ⟨g, o, k, rfl, rfl, hkn, hg, cd⟩ := HV.var hd
  have HVA : ∀ v, inB v vs.length = true → ∃ k : Nat, v = (k : Int) ∧ (k : Int) < vs.length ∧ w.cell? ⟨g, o + k, none⟩ = some (.int .u8 (varT vs v)) := fun v hv => by
    obtain ⟨g', o', k', e1, e2, e3, _, e5⟩ := HV.var hv
    cases e1
    exact ⟨k', e2, e3, e5⟩
  have HAL : ∀ i, i < args.length → inB (args.getD i 0) vs.length = true := fun i hi => by
    have := List.all_eq_true.1 hal (args.getD i 0) (by rw [List.getD, List.getElem?_eq_getElem hi]; exact List.getElem_mem hi)
    exact this
  obtain ⟨ga, oa, rfl, hga, ca⟩ := hA.get (i := 0) (by omega)
  obtain ⟨ga2, oa2, he2, _, cb⟩ := hA.get (i := args.length - 1) (by omega)
  cases he2
  obtain ⟨k0, hk0, hk0n, c0⟩ := HVA _ (HAL 0 (by omega))
  obtain ⟨k1, hk1, hk1n, c1⟩ := HVA _ (HAL (args.length - 1) (by omega))
  unfold opOkB
  dsimp only
  rw [hk0] at ca c0 ⊢
  rw [hk1] at cb c1 ⊢
  have HOF : Hid (∀ W, Calls Tryd.prog 67 #[.int .u8 op, .int .u8 (varT vs (k0 : Int))] W fun e w' => e = .returned (.tuple #[.int .u8 (ofT op (varT vs (k0 : Int))), .bool (ofB op (varT vs (k0 : Int)))]) ∧ w' = W) := fun W => of_any op _ W
  generalize varT vs (k : Int) = td at *
  generalize varT vs (k0 : Int) = t0 at *
  generalize varT vs (k1 : Int) = t1 at *
  generalize ofT op t0 = told at *
  generalize ofB op t0 = ok at *
  have hm : ∃ m, args.length = m + 1 := ⟨args.length - 1, by omega⟩
  obtain ⟨m, hm⟩ := hm
  rw [hm] at cb hxl ⊢
  rw [show m + 1 - 1 = m by omega] at cb
  have HB : Hid (∀ W, Below w.heap.size w W → Below w.heap.size w W) := fun W hW => hW
  have hm' : (m : Int) ≤ 1 := by omega
  rw [Nat.add_zero] at ca
  clear h hA hd hal HV HVA HAL hk0 hk1 h1 hm hxl hvl h2
  have HB0 : Hid (Below w.heap.size w ((w.alloc (.cells #[.string nm, .slice pa ps.length pc, .int .u8 r, .slice (some ⟨g, o, none⟩) vs.length vc, .slice aa ars.length ac, .slice ba bs.length bc] 34)).alloc (.cells #[.int .u8 kind, .int .u8 op, .int .i64 (k : Int), .slice (some ⟨ga, oa, none⟩) (m + 1) xc, .int .u64 bits, .int .i64 ref] 56))) := below_alloc (below_alloc (Below.refl _ _) _) _
  by_cases o17 : op = 17
  · subst o17
    have hnop : nOp 17 = 1 := rfl
    rw [hnop]
    clear hnop
    cases ok with
    | false =>
      go_enter Tryd.func41, Tryd.ntmps41
      go_wp2
      go_quiet (fail)
      go_wp2
      go_quiet ((go_at_call 67; exact quiet_add (HOF.out _)))
      go_wp2
      go_quiet (fail)
      go_wp2
      go_ret
      exact ⟨ret_bool (by first | rfl | simp), by repeat (first | exact HB0.out | refine below_drewN ?_ _ | refine below_drew ?_)⟩
    | true =>
      by_cases hN : m = 0
      · subst hN
        by_cases ht : t1 = t0
        · subst ht
          go_enter Tryd.func41, Tryd.ntmps41
          go_wp2
          go_quiet (fail)
          go_wp2
          go_quiet ((go_at_call 67; exact quiet_add (HOF.out _)))
          go_wp2
          go_quiet (fail)
          go_wp2
          go_ret
          exact ⟨ret_bool (by first | rfl | simp), by repeat (first | exact HB0.out | refine below_drewN ?_ _ | refine below_drew ?_)⟩
        · exfalso
          rw [Nat.add_zero] at cb
          have e1 := ca.symm.trans cb
          simp only [Option.some.injEq, Value.int.injEq, true_and] at e1
          obtain rfl : k0 = k1 := by omega
          have e2 := c0.symm.trans c1
          simp only [Option.some.injEq, Value.int.injEq, true_and] at e2
          exact ht e2.symm
      · have hN' : (((m + 1 : Nat) : Int) == 1) = false := beq_false_of_ne (by omega)
        rw [hN']
        have hN2 : ((m : Int) + 1 == 1) = false := beq_false_of_ne (by omega)
        go_enter Tryd.func41, Tryd.ntmps41
        go_wp2
        go_quiet (fail)
        go_wp2
        go_quiet ((go_at_call 67; exact quiet_add (HOF.out _)))
        go_wp2
        go_quiet (fail)
        go_wp2
        go_ret
        exact ⟨ret_bool (by simp), by repeat (first | exact HB0.out | refine below_drewN ?_ _ | refine below_drew ?_)⟩
  by_cases o18 : op = 18
  · subst o18
    have hnop : nOp 18 = 1 := rfl
    rw [hnop]
    clear hnop
    cases ok with
    | false =>
      go_enter Tryd.func41, Tryd.ntmps41
      go_wp2
      go_quiet (fail)
      go_wp2
      go_quiet ((go_at_call 67; exact quiet_add (HOF.out _)))
      go_wp2
      go_quiet (fail)
      go_wp2
      go_ret
      exact ⟨ret_bool (by first | rfl | simp), by repeat (first | exact HB0.out | refine below_drewN ?_ _ | refine below_drew ?_)⟩
    | true =>
      by_cases hN : m = 0
      · subst hN
        by_cases ht : t1 = t0
        · subst ht
          go_enter Tryd.func41, Tryd.ntmps41
          go_wp2
          go_quiet (fail)
          go_wp2
          go_quiet ((go_at_call 67; exact quiet_add (HOF.out _)))
          go_wp2
          go_quiet (fail)
          go_wp2
          go_ret
          exact ⟨ret_bool (by first | rfl | simp), by repeat (first | exact HB0.out | refine below_drewN ?_ _ | refine below_drew ?_)⟩
        · exfalso
          rw [Nat.add_zero] at cb
          have e1 := ca.symm.trans cb
          simp only [Option.some.injEq, Value.int.injEq, true_and] at e1
          obtain rfl : k0 = k1 := by omega
          have e2 := c0.symm.trans c1
          simp only [Option.some.injEq, Value.int.injEq, true_and] at e2
          exact ht e2.symm
      · have hN' : (((m + 1 : Nat) : Int) == 1) = false := beq_false_of_ne (by omega)
        rw [hN']
        have hN2 : ((m : Int) + 1 == 1) = false := beq_false_of_ne (by omega)
        go_enter Tryd.func41, Tryd.ntmps41
        go_wp2
        go_quiet (fail)
        go_wp2
        go_quiet ((go_at_call 67; exact quiet_add (HOF.out _)))
        go_wp2
        go_quiet (fail)
        go_wp2
        go_ret
        exact ⟨ret_bool (by simp), by repeat (first | exact HB0.out | refine below_drewN ?_ _ | refine below_drew ?_)⟩
  have hnop : nOp op = 2 := by simp [nOp, o17, o18]
  have p17 : (op == 17) = false := beq_false_of_ne o17
  have p18 : (op == 18) = false := beq_false_of_ne o18
  rw [hnop]
  clear hnop
  cases ok with
  | false =>
    go_enter Tryd.func41, Tryd.ntmps41
    go_wp2
    go_quiet (fail)
    go_wp2
    go_quiet ((go_at_call 67; exact quiet_add (HOF.out _)))
    go_wp2
    go_quiet (fail)
    go_wp2
    go_ret
    exact ⟨ret_bool (by first | rfl | simp), by repeat (first | exact HB0.out | refine below_drewN ?_ _ | refine below_drew ?_)⟩
  | true =>
    by_cases hN : m = 1
    · subst hN
      by_cases ht : t1 = t0
      · subst ht
        go_enter Tryd.func41, Tryd.ntmps41
        go_wp2
        go_quiet (fail)
        go_wp2
        go_quiet ((go_at_call 67; exact quiet_add (HOF.out _)))
        go_wp2
        go_quiet (fail)
        go_wp2
        go_ret
        exact ⟨ret_bool (by first | rfl | simp), by repeat (first | exact HB0.out | refine below_drewN ?_ _ | refine below_drew ?_)⟩
      · have ht' : (t1 == t0) = false := beq_false_of_ne ht
        rw [ht']
        go_enter Tryd.func41, Tryd.ntmps41
        go_wp2
        go_quiet (fail)
        go_wp2
        go_quiet ((go_at_call 67; exact quiet_add (HOF.out _)))
        go_wp2
        go_quiet (fail)
        go_wp2
        go_ret
        exact ⟨ret_bool (by simp), by repeat (first | exact HB0.out | refine below_drewN ?_ _ | refine below_drew ?_)⟩
    · have hN' : (((m + 1 : Nat) : Int) == 2) = false := beq_false_of_ne (by omega)
      rw [hN']
      have hN2 : ((m : Int) + 1 == 2) = false := beq_false_of_ne (by omega)
      go_enter Tryd.func41, Tryd.ntmps41
      go_wp2
      go_quiet (fail)
      go_wp2
      go_quiet ((go_at_call 67; exact quiet_add (HOF.out _)))
      go_wp2
      go_quiet (fail)
      go_wp2
      go_ret
      exact ⟨ret_bool (by simp), by repeat (first | exact HB0.out | refine below_drewN ?_ _ | refine below_drew ?_)⟩
end Go.Proofs.YtkgjcjakadofpaaDoor
