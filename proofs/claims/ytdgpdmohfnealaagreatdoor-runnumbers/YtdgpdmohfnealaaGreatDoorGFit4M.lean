/- Types of an operation. -/
import Derived.Test.YtdgpdmohfnealaaGreatDoorGFit1M
import Derived.Lib.QuietBelow
namespace Go.Proofs.YtdgpdmohfnealaaGreatDoor
open Go.RowKit

def nOp (op : Int) : Int := if op = 17 ∨ op = 18 then 1 else 2
def opOkB (vars : List Int) (x : In) : Bool := ofB x.op (varT vars (x.args.getD 0 0)) && ((x.args.length : Int) == nOp x.op) && (varT vars (x.args.getD (x.args.length - 1) 0) == varT vars (x.args.getD 0 0)) && (varT vars x.dst == ofT x.op (varT vars (x.args.getD 0 0)))
set_option maxRecDepth 100000 in
set_option maxHeartbeats 2000000 in
theorem fitsOp_any (G : Gr) (pv vv av bv : Value) (x : In) (xv : Value) (w : World) (h : GrAt w pv vv av bv G) (hA : IntsAt w xv x.args) (hd : inB x.dst G.vars.length = true) (hal : x.args.all (inB · G.vars.length) = true) (h1 : 1 ≤ x.args.length) (h2 : x.args.length ≤ 2) :
    Calls Tryz.prog 78 #[.agg #[.string G.name, pv, .int .u8 G.result, vv, av, bv], inV x xv] w fun e w' => e = .returned (.bool (opOkB G.vars x)) ∧ Below w.heap.size w w' := by
  obtain ⟨pa, pc, va, vc, aa, ac, ba, bc, rfl, rfl, rfl, rfl, _, hvl, _, _⟩ := h.openF
  obtain ⟨xa, xc, rfl, hxl⟩ := hA.form
  obtain ⟨kind, op, dst, args, bits, ref⟩ := x
  obtain ⟨nm, ps, r, vs, ars, bs⟩ := G
  dsimp only at *
  have HV := h.vs
  dsimp only at HV
  obtain ⟨g, o, k, rfl, rfl, hkn, hg, cd⟩ := HV.var hd
  have HVA : ∀ v, inB v vs.length = true → ∃ k : Nat, v = (k : Int) ∧ (k : Int) < vs.length ∧ w.cell? ⟨g, o + k, none⟩ = some (.int .u8 (varT vs v)) := fun v hv => by
    obtain ⟨g', o', k', e1, e2, e3, _, e5⟩ := HV.var hv
    cases e1
    exact ⟨k', e2, e3, e5⟩
  have HAL : ∀ i, i < args.length → inB (args.getD i 0) vs.length = true := fun i hi => by
    have := List.all_eq_true.1 hal (args.getD i 0) (by rw [List.getD, List.getElem?_eq_getElem hi]; exact List.getElem_mem hi)
    exact this
  obtain ⟨ga, oa, rfl, hga, ca⟩ := hA.get (i := 0) (by omega)
  obtain ⟨ga2, oa2, he2, _, cb⟩ := hA.get (i := args.length - 1) (by omega)
  cases he2
  obtain ⟨k0, hk0, hk0n, c0⟩ := HVA _ (HAL 0 (by omega))
  obtain ⟨k1, hk1, hk1n, c1⟩ := HVA _ (HAL (args.length - 1) (by omega))
  unfold opOkB
  dsimp only
  rw [hk0] at ca c0 ⊢
  rw [hk1] at cb c1 ⊢
  have HOF : Hid (∀ W, Calls Tryz.prog 70 #[.int .u8 op, .int .u8 (varT vs (k0 : Int))] W fun e w' => e = .returned (.tuple #[.int .u8 (ofT op (varT vs (k0 : Int))), .bool (ofB op (varT vs (k0 : Int)))]) ∧ w' = W) := fun W => of_any op _ W
  generalize varT vs (k : Int) = td at *
  generalize varT vs (k0 : Int) = t0 at *
  generalize varT vs (k1 : Int) = t1 at *
  generalize ofT op t0 = told at *
  generalize ofB op t0 = ok at *
  have hm : ∃ m, args.length = m + 1 := ⟨args.length - 1, by omega⟩
  obtain ⟨m, hm⟩ := hm
  rw [hm] at cb hxl ⊢
  rw [show m + 1 - 1 = m by omega] at cb
  have HB : Hid (∀ W, Below w.heap.size w W → Below w.heap.size w W) := fun W hW => hW
  have hm' : (m : Int) ≤ 1 := by omega
  rw [Nat.add_zero] at ca
  clear h hA hd hal HV HVA HAL hk0 hk1 h1 hm hxl hvl h2
  have HB0 : Hid (Below w.heap.size w ((w.alloc (.cells #[.string nm, .slice pa ps.length pc, .int .u8 r, .slice (some ⟨g, o, none⟩) vs.length vc, .slice aa ars.length ac, .slice ba bs.length bc] 40)).alloc (.cells #[.int .u8 kind, .int .u8 op, .int .i64 (k : Int), .slice (some ⟨ga, oa, none⟩) (m + 1) xc, .int .u64 bits, .int .i64 ref] 52))) := below_alloc (below_alloc (Below.refl _ _) _) _
  by_cases o17 : op = 17
  · subst o17
    have hnop : nOp 17 = 1 := rfl
    rw [hnop]
    clear hnop
    cases ok with
    | false =>
      go_enter Tryz.func78, Tryz.ntmps78
      go_wp2
      go_quiet (fail)
      go_wp2
      go_quiet ((go_at_call 70; exact quiet_add (HOF.out _)))
      go_wp2
      go_quiet (fail)
      go_wp2
      go_ret
      exact ⟨ret_bool (by first | rfl | simp), by repeat (first | exact HB0.out | refine below_drewN ?_ _ | refine below_drew ?_)⟩
    | true =>
      by_cases hN : m = 0
      · subst hN
        by_cases ht : t1 = t0
        · subst ht
          go_enter Tryz.func78, Tryz.ntmps78
          go_wp2
          go_quiet (fail)
          go_wp2
          go_quiet ((go_at_call 70; exact quiet_add (HOF.out _)))
          go_wp2
          go_quiet (fail)
          go_wp2
          go_ret
          exact ⟨ret_bool (by first | rfl | simp), by repeat (first | exact HB0.out | refine below_drewN ?_ _ | refine below_drew ?_)⟩
        · exfalso
          rw [Nat.add_zero] at cb
          have e1 := ca.symm.trans cb
          simp only [Option.some.injEq, Value.int.injEq, true_and] at e1
          obtain rfl : k0 = k1 := by omega
          have e2 := c0.symm.trans c1
          simp only [Option.some.injEq, Value.int.injEq, true_and] at e2
          exact ht e2.symm
      · have hN' : (((m + 1 : Nat) : Int) == 1) = false := beq_false_of_ne (by omega)
        rw [hN']
        have hN2 : ((m : Int) + 1 == 1) = false := beq_false_of_ne (by omega)
        go_enter Tryz.func78, Tryz.ntmps78
        go_wp2
        go_quiet (fail)
        go_wp2
        go_quiet ((go_at_call 70; exact quiet_add (HOF.out _)))
        go_wp2
        go_quiet (fail)
        go_wp2
        go_ret
        exact ⟨ret_bool (by simp), by repeat (first | exact HB0.out | refine below_drewN ?_ _ | refine below_drew ?_)⟩
  by_cases o18 : op = 18
  · subst o18
    have hnop : nOp 18 = 1 := rfl
    rw [hnop]
    clear hnop
    cases ok with
    | false =>
      go_enter Tryz.func78, Tryz.ntmps78
      go_wp2
      go_quiet (fail)
      go_wp2
      go_quiet ((go_at_call 70; exact quiet_add (HOF.out _)))
      go_wp2
      go_quiet (fail)
      go_wp2
      go_ret
      exact ⟨ret_bool (by first | rfl | simp), by repeat (first | exact HB0.out | refine below_drewN ?_ _ | refine below_drew ?_)⟩
    | true =>
      by_cases hN : m = 0
      · subst hN
        by_cases ht : t1 = t0
        · subst ht
          go_enter Tryz.func78, Tryz.ntmps78
          go_wp2
          go_quiet (fail)
          go_wp2
          go_quiet ((go_at_call 70; exact quiet_add (HOF.out _)))
          go_wp2
          go_quiet (fail)
          go_wp2
          go_ret
          exact ⟨ret_bool (by first | rfl | simp), by repeat (first | exact HB0.out | refine below_drewN ?_ _ | refine below_drew ?_)⟩
        · exfalso
          rw [Nat.add_zero] at cb
          have e1 := ca.symm.trans cb
          simp only [Option.some.injEq, Value.int.injEq, true_and] at e1
          obtain rfl : k0 = k1 := by omega
          have e2 := c0.symm.trans c1
          simp only [Option.some.injEq, Value.int.injEq, true_and] at e2
          exact ht e2.symm
      · have hN' : (((m + 1 : Nat) : Int) == 1) = false := beq_false_of_ne (by omega)
        rw [hN']
        have hN2 : ((m : Int) + 1 == 1) = false := beq_false_of_ne (by omega)
        go_enter Tryz.func78, Tryz.ntmps78
        go_wp2
        go_quiet (fail)
        go_wp2
        go_quiet ((go_at_call 70; exact quiet_add (HOF.out _)))
        go_wp2
        go_quiet (fail)
        go_wp2
        go_ret
        exact ⟨ret_bool (by simp), by repeat (first | exact HB0.out | refine below_drewN ?_ _ | refine below_drew ?_)⟩
  have hnop : nOp op = 2 := by simp [nOp, o17, o18]
  have p17 : (op == 17) = false := beq_false_of_ne o17
  have p18 : (op == 18) = false := beq_false_of_ne o18
  rw [hnop]
  clear hnop
  cases ok with
  | false =>
    go_enter Tryz.func78, Tryz.ntmps78
    go_wp2
    go_quiet (fail)
    go_wp2
    go_quiet ((go_at_call 70; exact quiet_add (HOF.out _)))
    go_wp2
    go_quiet (fail)
    go_wp2
    go_ret
    exact ⟨ret_bool (by first | rfl | simp), by repeat (first | exact HB0.out | refine below_drewN ?_ _ | refine below_drew ?_)⟩
  | true =>
    by_cases hN : m = 1
    · subst hN
      by_cases ht : t1 = t0
      · subst ht
        go_enter Tryz.func78, Tryz.ntmps78
        go_wp2
        go_quiet (fail)
        go_wp2
        go_quiet ((go_at_call 70; exact quiet_add (HOF.out _)))
        go_wp2
        go_quiet (fail)
        go_wp2
        go_ret
        exact ⟨ret_bool (by first | rfl | simp), by repeat (first | exact HB0.out | refine below_drewN ?_ _ | refine below_drew ?_)⟩
      · have ht' : (t1 == t0) = false := beq_false_of_ne ht
        rw [ht']
        go_enter Tryz.func78, Tryz.ntmps78
        go_wp2
        go_quiet (fail)
        go_wp2
        go_quiet ((go_at_call 70; exact quiet_add (HOF.out _)))
        go_wp2
        go_quiet (fail)
        go_wp2
        go_ret
        exact ⟨ret_bool (by simp), by repeat (first | exact HB0.out | refine below_drewN ?_ _ | refine below_drew ?_)⟩
    · have hN' : (((m + 1 : Nat) : Int) == 2) = false := beq_false_of_ne (by omega)
      rw [hN']
      have hN2 : ((m : Int) + 1 == 2) = false := beq_false_of_ne (by omega)
      go_enter Tryz.func78, Tryz.ntmps78
      go_wp2
      go_quiet (fail)
      go_wp2
      go_quiet ((go_at_call 70; exact quiet_add (HOF.out _)))
      go_wp2
      go_quiet (fail)
      go_wp2
      go_ret
      exact ⟨ret_bool (by simp), by repeat (first | exact HB0.out | refine below_drewN ?_ _ | refine below_drew ?_)⟩
end Go.Proofs.YtdgpdmohfnealaaGreatDoor
/- Types of loads, stores and clears. -/
namespace Go.Proofs.YtdgpdmohfnealaaGreatDoor
open Go.RowKit Go.Sort

def arrOkB (vars : List Int) (t : Int) (x : In) : Bool :=
  if x.kind = 6 then isOfB vars (x.args.getD 0 0) 4 && isOfB vars x.dst t
  else if x.kind = 7 then isOfB vars (x.args.getD 0 0) 4 && isOfB vars (x.args.getD 1 0) t
  else true
set_option maxRecDepth 100000 in
set_option maxHeartbeats 2000000 in
theorem fitsArr_any (G : Gr) (pv vv av bv : Value) (x : In) (xv : Value) (t : Int) (w : World) (h : GrAt w pv vv av bv G) (hA : IntsAt w xv x.args) (h6 : x.kind = 6 → x.args.length = 1) (h7 : x.kind = 7 → x.args.length = 2) :
    Calls Tryz.prog 79 #[.agg #[.string G.name, pv, .int .u8 G.result, vv, av, bv], inV x xv, .int .u8 t] w fun e w' => e = .returned (.bool (arrOkB G.vars t x)) ∧ Below w.heap.size w w' := by
  have HOF : Hid (∀ v t W, Below w.heap.size w W → Calls Tryz.prog 63 #[.agg #[.string G.name, pv, .int .u8 G.result, vv, av, bv], .int .i64 v, .int .u8 t] W fun e w' => e = .returned (.bool (isOfB G.vars v t)) ∧ Below W.heap.size W w') := fun v t W hb => isOf_any G pv vv av bv v t W (h.below hb)
  obtain ⟨pa, pc, va, vc, aa, ac, ba, bc, rfl, rfl, rfl, rfl, _, _, _, _⟩ := h.openF
  obtain ⟨xa, xc, rfl, hxl⟩ := hA.form
  obtain ⟨kind, op, dst, args, bits, ref⟩ := x
  dsimp only at *
  unfold arrOkB
  dsimp only
  clear h
  generalize G.name = nm at *
  generalize G.params.length = pl at *
  generalize G.vars.length = vl at *
  generalize G.arrs.length = al at *
  generalize G.blocks.length = bl at *
  generalize G.result = r at *
  by_cases k6 : kind = 6
  · subst k6
    simp only [if_true]
    obtain ⟨ga, oa, rfl, hga, ca⟩ := hA.get (i := 0) (by have := h6 rfl; omega)
    rw [Nat.add_zero] at ca
    have hl0 : (0 : Int) < args.length := by have := h6 rfl; omega
    have HO1 : Hid _ := HOF.out (args.getD 0 0) 4
    have HO2 : Hid _ := HOF.out dst t
    generalize args.getD 0 0 = v0 at *
    have hm := h6 rfl
    rw [hm]
    clear hm hl0
    have HB0 : Hid (Below w.heap.size w ((w.alloc (.cells #[.string nm, .slice pa pl pc, .int .u8 r, .slice va vl vc, .slice aa al ac, .slice ba bl bc] 40)).alloc (.cells #[.int .u8 6, .int .u8 op, .int .i64 dst, .slice (some ⟨ga, oa, none⟩) 1 xc, .int .u64 bits, .int .i64 ref] 52)) ∧ Duo w.heap.size [.string nm, .slice pa pl pc, .int .u8 r, .slice va vl vc, .slice aa al ac, .slice ba bl bc] [.int .u8 6, .int .u8 op, .int .i64 dst, .slice (some ⟨ga, oa, none⟩) 1 xc, .int .u64 bits, .int .i64 ref] ((w.alloc (.cells #[.string nm, .slice pa pl pc, .int .u8 r, .slice va vl vc, .slice aa al ac, .slice ba bl bc] 40)).alloc (.cells #[.int .u8 6, .int .u8 op, .int .i64 dst, .slice (some ⟨ga, oa, none⟩) 1 xc, .int .u64 bits, .int .i64 ref] 52))) := ⟨below_alloc (below_alloc (Below.refl _ _) _) _, Duo.new w [.string nm, .slice pa pl pc, .int .u8 r, .slice va vl vc, .slice aa al ac, .slice ba bl bc] [.int .u8 6, .int .u8 op, .int .i64 dst, .slice (some ⟨ga, oa, none⟩) 1 xc, .int .u64 bits, .int .i64 ref] 40 52⟩
    generalize isOfB G.vars v0 4 = b1 at *
    generalize isOfB G.vars dst t = b2 at *
    clear h6 h7 hA HOF hxl
    cases b1 with
    | false =>
      go_enter Tryz.func79, Tryz.ntmps79
      go_wp2
      obtain ⟨W, hW⟩ : ∃ W, W = ((w.alloc (.cells #[.string nm, .slice pa pl pc, .int .u8 r, .slice va vl vc, .slice aa al ac, .slice ba bl bc] 40)).alloc (.cells #[.int .u8 6, .int .u8 op, .int .i64 dst, .slice (some ⟨ga, oa, none⟩) 1 xc, .int .u64 bits, .int .i64 ref] 52)) := ⟨_, rfl⟩
      rw [← hW] at HB0 ⊢
      clear hW
      obtain ⟨e0, e1, e2, e3, e4, e5⟩ := box6 HB0.out.2.g
      obtain ⟨x0, x1, x2, x3, x4, x5⟩ := box6 HB0.out.2.t
      have ke0 := cell_regrown e0
      have ke1 := cell_regrown e1
      have ke2 := cell_regrown e2
      have ke3 := cell_regrown e3
      have ke4 := cell_regrown e4
      have ke5 := cell_regrown e5
      have kx0 := cell_regrown x0
      have kx1 := cell_regrown x1
      have kx2 := cell_regrown x2
      have kx3 := cell_regrown x3
      have kx4 := cell_regrown x4
      have kx5 := cell_regrown x5
      have kca := cell_regrown ((HB0.out.1.cell (p := ⟨ga, oa, none⟩) hga).trans ca)
      have C1 : ∀ d os, _ := fun d os => Calls.regrown_of (HO1.out _ (below_trans HB0.out.1 (below_regrown W d os)))
      have C2 : ∀ d os, _ := fun d os => Calls.regrown_of (HO2.out _ (below_trans HB0.out.1 (below_regrown W d os)))
      have D1 : Hid _ := C1
      have D2 : Hid _ := C2
      clear C1 C2 e0 e1 e2 e3 e4 e5 x0 x1 x2 x3 x4 x5 ca
      refine wp_region_quiet_below (by kernel_rfl) (by kernel_rfl) ?_
      repeat (go_big_quiet_step ((with_reducible exact D1.out _ _)))
      refine wpQuiet_nil ?_
      intro _ hw'
      obtain ⟨⟨dq, osq⟩, hw''⟩ := hw'
      subst hw''
      go_wp2
      go_ret
      exact ⟨ret_bool (by simp), below_trans HB0.out.1 (below_regrown W dq osq)⟩
    | true =>
      go_enter Tryz.func79, Tryz.ntmps79
      go_wp2
      obtain ⟨W, hW⟩ : ∃ W, W = ((w.alloc (.cells #[.string nm, .slice pa pl pc, .int .u8 r, .slice va vl vc, .slice aa al ac, .slice ba bl bc] 40)).alloc (.cells #[.int .u8 6, .int .u8 op, .int .i64 dst, .slice (some ⟨ga, oa, none⟩) 1 xc, .int .u64 bits, .int .i64 ref] 52)) := ⟨_, rfl⟩
      rw [← hW] at HB0 ⊢
      clear hW
      obtain ⟨e0, e1, e2, e3, e4, e5⟩ := box6 HB0.out.2.g
      obtain ⟨x0, x1, x2, x3, x4, x5⟩ := box6 HB0.out.2.t
      have ke0 := cell_regrown e0
      have ke1 := cell_regrown e1
      have ke2 := cell_regrown e2
      have ke3 := cell_regrown e3
      have ke4 := cell_regrown e4
      have ke5 := cell_regrown e5
      have kx0 := cell_regrown x0
      have kx1 := cell_regrown x1
      have kx2 := cell_regrown x2
      have kx3 := cell_regrown x3
      have kx4 := cell_regrown x4
      have kx5 := cell_regrown x5
      have kca := cell_regrown ((HB0.out.1.cell (p := ⟨ga, oa, none⟩) hga).trans ca)
      have C1 : ∀ d os, _ := fun d os => Calls.regrown_of (HO1.out _ (below_trans HB0.out.1 (below_regrown W d os)))
      have C2 : ∀ d os, _ := fun d os => Calls.regrown_of (HO2.out _ (below_trans HB0.out.1 (below_regrown W d os)))
      have D1 : Hid _ := C1
      have D2 : Hid _ := C2
      clear C1 C2 e0 e1 e2 e3 e4 e5 x0 x1 x2 x3 x4 x5 ca
      refine wp_region_quiet_below (by kernel_rfl) (by kernel_rfl) ?_
      repeat (go_big_quiet_step ((first | with_reducible exact D1.out _ _ | with_reducible exact D2.out _ _)))
      refine wpQuiet_nil ?_
      intro _ hw'
      obtain ⟨⟨dq, osq⟩, hw''⟩ := hw'
      subst hw''
      go_wp2
      go_ret
      exact ⟨ret_bool (by simp), below_trans HB0.out.1 (below_regrown W dq osq)⟩
  by_cases k7 : kind = 7
  · subst k7
    simp only [if_true, show ¬ ((7 : Int) = 6) by omega, if_false]
    obtain ⟨ga, oa, rfl, hga, ca⟩ := hA.get (i := 0) (by have := h7 rfl; omega)
    obtain ⟨ga2, oa2, he2, _, cb⟩ := hA.get (i := 1) (by have := h7 rfl; omega)
    cases he2
    rw [Nat.add_zero] at ca
    have hl0 : (0 : Int) < args.length := by have := h7 rfl; omega
    have hl1 : (1 : Int) < args.length := by have := h7 rfl; omega
    have HO1 : Hid _ := HOF.out (args.getD 0 0) 4
    have HO2 : Hid _ := HOF.out (args.getD 1 0) t
    generalize args.getD 0 0 = v0 at *
    generalize args.getD 1 0 = v1 at *
    have hm := h7 rfl
    rw [hm]
    clear hm hl0 hl1
    have HB0 : Hid (Below w.heap.size w ((w.alloc (.cells #[.string nm, .slice pa pl pc, .int .u8 r, .slice va vl vc, .slice aa al ac, .slice ba bl bc] 40)).alloc (.cells #[.int .u8 7, .int .u8 op, .int .i64 dst, .slice (some ⟨ga, oa, none⟩) 2 xc, .int .u64 bits, .int .i64 ref] 52)) ∧ Duo w.heap.size [.string nm, .slice pa pl pc, .int .u8 r, .slice va vl vc, .slice aa al ac, .slice ba bl bc] [.int .u8 7, .int .u8 op, .int .i64 dst, .slice (some ⟨ga, oa, none⟩) 2 xc, .int .u64 bits, .int .i64 ref] ((w.alloc (.cells #[.string nm, .slice pa pl pc, .int .u8 r, .slice va vl vc, .slice aa al ac, .slice ba bl bc] 40)).alloc (.cells #[.int .u8 7, .int .u8 op, .int .i64 dst, .slice (some ⟨ga, oa, none⟩) 2 xc, .int .u64 bits, .int .i64 ref] 52))) := ⟨below_alloc (below_alloc (Below.refl _ _) _) _, Duo.new w [.string nm, .slice pa pl pc, .int .u8 r, .slice va vl vc, .slice aa al ac, .slice ba bl bc] [.int .u8 7, .int .u8 op, .int .i64 dst, .slice (some ⟨ga, oa, none⟩) 2 xc, .int .u64 bits, .int .i64 ref] 40 52⟩
    generalize isOfB G.vars v0 4 = b1 at *
    generalize isOfB G.vars v1 t = b2 at *
    clear h6 h7 hA HOF hxl
    cases b1 with
    | false =>
      go_enter Tryz.func79, Tryz.ntmps79
      go_wp2
      obtain ⟨W, hW⟩ : ∃ W, W = ((w.alloc (.cells #[.string nm, .slice pa pl pc, .int .u8 r, .slice va vl vc, .slice aa al ac, .slice ba bl bc] 40)).alloc (.cells #[.int .u8 7, .int .u8 op, .int .i64 dst, .slice (some ⟨ga, oa, none⟩) 2 xc, .int .u64 bits, .int .i64 ref] 52)) := ⟨_, rfl⟩
      rw [← hW] at HB0 ⊢
      clear hW
      obtain ⟨e0, e1, e2, e3, e4, e5⟩ := box6 HB0.out.2.g
      obtain ⟨x0, x1, x2, x3, x4, x5⟩ := box6 HB0.out.2.t
      have ke0 := cell_regrown e0
      have ke1 := cell_regrown e1
      have ke2 := cell_regrown e2
      have ke3 := cell_regrown e3
      have ke4 := cell_regrown e4
      have ke5 := cell_regrown e5
      have kx0 := cell_regrown x0
      have kx1 := cell_regrown x1
      have kx2 := cell_regrown x2
      have kx3 := cell_regrown x3
      have kx4 := cell_regrown x4
      have kx5 := cell_regrown x5
      have kca := cell_regrown ((HB0.out.1.cell (p := ⟨ga, oa, none⟩) hga).trans ca)
      have kcb := cell_regrown ((HB0.out.1.cell (p := ⟨ga, oa + 1, none⟩) hga).trans cb)
      have C1 : ∀ d os, _ := fun d os => Calls.regrown_of (HO1.out _ (below_trans HB0.out.1 (below_regrown W d os)))
      have C2 : ∀ d os, _ := fun d os => Calls.regrown_of (HO2.out _ (below_trans HB0.out.1 (below_regrown W d os)))
      have D1 : Hid _ := C1
      have D2 : Hid _ := C2
      clear C1 C2 e0 e1 e2 e3 e4 e5 x0 x1 x2 x3 x4 x5 ca cb
      refine wp_region_quiet_below (by kernel_rfl) (by kernel_rfl) ?_
      repeat (go_big_quiet_step ((with_reducible exact D1.out _ _)))
      refine wpQuiet_nil ?_
      intro _ hw'
      obtain ⟨⟨dq, osq⟩, hw''⟩ := hw'
      subst hw''
      go_wp2
      go_ret
      exact ⟨ret_bool (by simp), below_trans HB0.out.1 (below_regrown W dq osq)⟩
    | true =>
      go_enter Tryz.func79, Tryz.ntmps79
      go_wp2
      obtain ⟨W, hW⟩ : ∃ W, W = ((w.alloc (.cells #[.string nm, .slice pa pl pc, .int .u8 r, .slice va vl vc, .slice aa al ac, .slice ba bl bc] 40)).alloc (.cells #[.int .u8 7, .int .u8 op, .int .i64 dst, .slice (some ⟨ga, oa, none⟩) 2 xc, .int .u64 bits, .int .i64 ref] 52)) := ⟨_, rfl⟩
      rw [← hW] at HB0 ⊢
      clear hW
      obtain ⟨e0, e1, e2, e3, e4, e5⟩ := box6 HB0.out.2.g
      obtain ⟨x0, x1, x2, x3, x4, x5⟩ := box6 HB0.out.2.t
      have ke0 := cell_regrown e0
      have ke1 := cell_regrown e1
      have ke2 := cell_regrown e2
      have ke3 := cell_regrown e3
      have ke4 := cell_regrown e4
      have ke5 := cell_regrown e5
      have kx0 := cell_regrown x0
      have kx1 := cell_regrown x1
      have kx2 := cell_regrown x2
      have kx3 := cell_regrown x3
      have kx4 := cell_regrown x4
      have kx5 := cell_regrown x5
      have kca := cell_regrown ((HB0.out.1.cell (p := ⟨ga, oa, none⟩) hga).trans ca)
      have kcb := cell_regrown ((HB0.out.1.cell (p := ⟨ga, oa + 1, none⟩) hga).trans cb)
      have C1 : ∀ d os, _ := fun d os => Calls.regrown_of (HO1.out _ (below_trans HB0.out.1 (below_regrown W d os)))
      have C2 : ∀ d os, _ := fun d os => Calls.regrown_of (HO2.out _ (below_trans HB0.out.1 (below_regrown W d os)))
      have D1 : Hid _ := C1
      have D2 : Hid _ := C2
      clear C1 C2 e0 e1 e2 e3 e4 e5 x0 x1 x2 x3 x4 x5 ca cb
      refine wp_region_quiet_below (by kernel_rfl) (by kernel_rfl) ?_
      repeat (go_big_quiet_step ((first | with_reducible exact D1.out _ _ | with_reducible exact D2.out _ _)))
      refine wpQuiet_nil ?_
      intro _ hw'
      obtain ⟨⟨dq, osq⟩, hw''⟩ := hw'
      subst hw''
      go_wp2
      go_ret
      exact ⟨ret_bool (by simp), below_trans HB0.out.1 (below_regrown W dq osq)⟩
  simp only [k6, k7, if_false]
  have p6 : (kind == 6) = false := beq_false_of_ne k6
  have p7 : (kind == 7) = false := beq_false_of_ne k7
  clear h6 h7 hA HOF hxl
  go_enter Tryz.func79, Tryz.ntmps79
  go_wp2
  go_ret
  exact ⟨rfl, below_alloc (below_alloc (Below.refl _ _) _) _⟩
end Go.Proofs.YtdgpdmohfnealaaGreatDoor
/- Types of a call. -/
namespace Go.Proofs.YtdgpdmohfnealaaGreatDoor
open Go.RowKit Go.Sort

def callOk (vars : List Int) (x : In) (f : Gr) (i : Nat) : Bool := inB (f.params.getD i 0) f.vars.length && isOfB vars (x.args.getD i 0) (varT f.vars (f.params.getD i 0))
def callOkB (vars : List Int) (x : In) (f : Gr) : Bool := ((x.args.length : Int) == (f.params.length : Int)) && ((List.range f.params.length).all (callOk vars x f) && isOfB vars x.dst f.result)
set_option maxRecDepth 100000 in
set_option maxHeartbeats 2000000 in
theorem fitsCall_any (G : Gr) (pv vv av bv : Value) (x : In) (xv : Value) (F : Gr) (fpv fvv fav fbv : Value) (w : World) (h : GrAt w pv vv av bv G) (hA : IntsAt w xv x.args) (hF : GrAt w fpv fvv fav fbv F) :
    Calls Tryz.prog 80 #[.agg #[.string G.name, pv, .int .u8 G.result, vv, av, bv], inV x xv, .agg #[.string F.name, fpv, .int .u8 F.result, fvv, fav, fbv]] w fun e w' => e = .returned (.bool (callOkB G.vars x F)) ∧ Below w.heap.size w w' := by
  have HOF : Hid (∀ v t W, Below w.heap.size w W → Calls Tryz.prog 63 #[.agg #[.string G.name, pv, .int .u8 G.result, vv, av, bv], .int .i64 v, .int .u8 t] W fun e w' => e = .returned (.bool (isOfB G.vars v t)) ∧ Below W.heap.size W w') := fun v t W hb => isOf_any G pv vv av bv v t W (h.below hb)
  obtain ⟨pa, pc, va, vc, aa, ac, ba, bc, rfl, rfl, rfl, rfl, _, _, _, _⟩ := h.openF
  obtain ⟨fpa, fpc, fva, fvc, faa, fac, fba, fbc, rfl, rfl, rfl, rfl, hfpl, _, _, _⟩ := hF.openF
  obtain ⟨xa, xc, rfl, hxl⟩ := hA.form
  obtain ⟨kind, op, dst, args, bits, ref⟩ := x
  have HFP : Hid (∀ i, i < F.params.length → _) := fun i hi => hF.ps.get (i := i) hi
  have HFV : Hid (∀ v, inB v F.vars.length = true → _) := fun v hv => TysAt.var hF.vs hv
  have HXA : Hid (∀ i, i < args.length → _) := fun i hi => hA.get (i := i) hi
  have HPL : Hid (∀ v W, Calls Tryz.prog 43 #[.int .i64 v, .int .i64 (F.vars.length : Int)] W fun e w' => e = .returned (.bool (inB v F.vars.length)) ∧ w' = W) := fun v W => isPlace_any v _ W
  unfold callOkB
  dsimp only at *
  obtain ⟨fps, hfps⟩ : ∃ l, l = F.params := ⟨_, rfl⟩
  have HCO : Hid (∀ i, callOk G.vars ⟨kind, op, dst, args, bits, ref⟩ F i = (inB (F.params.getD i 0) F.vars.length && isOfB G.vars (args.getD i 0) (varT F.vars (F.params.getD i 0)))) := fun i => rfl
  rw [← hfps] at HFP HCO hfpl ⊢
  clear h hF hA hfps
  generalize callOk G.vars ⟨kind, op, dst, args, bits, ref⟩ F = co at *
  generalize G.name = nm at *
  generalize G.params.length = pl at *
  generalize G.vars.length = vl at *
  generalize G.arrs.length = al at *
  generalize G.blocks.length = bl at *
  generalize G.result = r at *
  generalize F.name = fnm at *
  generalize F.result = fr at *
  generalize F.vars.length = fvl at *
  generalize F.arrs.length = fal at *
  generalize F.blocks.length = fbl at *
  have HB0 : Hid (Below w.heap.size w (((w.alloc (.cells #[.string nm, .slice pa pl pc, .int .u8 r, .slice va vl vc, .slice aa al ac, .slice ba bl bc] 40)).alloc (.cells #[.int .u8 kind, .int .u8 op, .int .i64 dst, .slice xa args.length xc, .int .u64 bits, .int .i64 ref] 52)).alloc (.cells #[.string fnm, .slice fpa fps.length fpc, .int .u8 fr, .slice fva fvl fvc, .slice faa fal fac, .slice fba fbl fbc] 40)) ∧ Trio w.heap.size [.string nm, .slice pa pl pc, .int .u8 r, .slice va vl vc, .slice aa al ac, .slice ba bl bc] [.int .u8 kind, .int .u8 op, .int .i64 dst, .slice xa args.length xc, .int .u64 bits, .int .i64 ref] [.string fnm, .slice fpa fps.length fpc, .int .u8 fr, .slice fva fvl fvc, .slice faa fal fac, .slice fba fbl fbc] (((w.alloc (.cells #[.string nm, .slice pa pl pc, .int .u8 r, .slice va vl vc, .slice aa al ac, .slice ba bl bc] 40)).alloc (.cells #[.int .u8 kind, .int .u8 op, .int .i64 dst, .slice xa args.length xc, .int .u64 bits, .int .i64 ref] 52)).alloc (.cells #[.string fnm, .slice fpa fps.length fpc, .int .u8 fr, .slice fva fvl fvc, .slice faa fal fac, .slice fba fbl fbc] 40))) := ⟨below_alloc (below_alloc (below_alloc (Below.refl _ _) _) _) _, Trio.new w [.string nm, .slice pa pl pc, .int .u8 r, .slice va vl vc, .slice aa al ac, .slice ba bl bc] [.int .u8 kind, .int .u8 op, .int .i64 dst, .slice xa args.length xc, .int .u64 bits, .int .i64 ref] [.string fnm, .slice fpa fps.length fpc, .int .u8 fr, .slice fva fvl fvc, .slice faa fal fac, .slice fba fbl fbc] 40 52 40⟩
  by_cases hl : args.length = fps.length
  · rw [hl] at HB0 HXA ⊢
    clear hl hxl
    obtain ⟨R, hR⟩ : ∃ R, R = (((fps.length : Int) == (fps.length : Int)) && ((List.range fps.length).all co && isOfB G.vars dst fr)) := ⟨_, rfl⟩
    rw [← hR]
    have HR : Hid (R = (((List.range fps.length).drop 0).all co && isOfB G.vars dst fr)) := by show _ = _; rw [hR]; simp
    clear hR
    go_enter Tryz.func80, Tryz.ntmps80
    go_wp2
    go_loopw [19] (fun vi wr => ∃ i : Nat, vi = .int .i64 i ∧ i ≤ fps.length ∧ Hid (R = (((List.range fps.length).drop i).all co && isOfB G.vars dst fr) ∧ Below w.heap.size w wr ∧ Trio w.heap.size [.string nm, .slice pa pl pc, .int .u8 r, .slice va vl vc, .slice aa al ac, .slice ba bl bc] [.int .u8 kind, .int .u8 op, .int .i64 dst, .slice xa fps.length xc, .int .u64 bits, .int .i64 ref] [.string fnm, .slice fpa fps.length fpc, .int .u8 fr, .slice fva fvl fvc, .slice faa fal fac, .slice fba fbl fbc] wr)) (fun vi _ => fps.length - (intOf vi).toNat)
    case atStart => exact ⟨0, rfl, by omega, HR.out, HB0.out.1, HB0.out.2⟩
    case round =>
      obtain ⟨i, rfl, hi, hr⟩ := hrel
      clear HR HB0
      obtain ⟨e0, e1, e2, e3, e4, e5⟩ := box6 hr.out.2.2.g
      obtain ⟨x0, x1, x2, x3, x4, x5⟩ := box6 hr.out.2.2.t
      obtain ⟨o0, o1, o2, o3, o4, o5⟩ := box6 hr.out.2.2.o
      by_cases hin : i < fps.length
      · obtain ⟨gp, op', rfl, hgp, cp⟩ := HFP.out i hin
        obtain ⟨ga, oa, rfl, hga, ca⟩ := HXA.out i hin
        have hin' : (i : Int) < fps.length := by omega
        have hd : R = (co i && ((List.range fps.length).drop (i + 1)).all co && isOfB G.vars dst fr) := by
          rw [hr.out.1, all_drop (d := 0) (by simpa using hin)]
          congr 3
          simp [List.getD, hin]
        rw [HCO.out i] at hd
        have cp' := (hr.out.2.1.cell (p := ⟨gp, op' + i, none⟩) hgp).trans cp
        have ca' := (hr.out.2.1.cell (p := ⟨ga, oa + i, none⟩) hga).trans ca
        have HPI := HPL.out (fps.getD i 0)
        have HVI := HFV.out (fps.getD i 0)
        have HOI := HOF.out (args.getD i 0)
        generalize fps.getD i 0 = fv at *
        generalize args.getD i 0 = xv at *
        clear cp ca HXA HFP HFV
        cases hb : inB fv fvl with
        | false =>
          rw [hb] at hd HPI
          simp only [Bool.false_and] at hd
          have HD : Hid (R = false) := hd
          have D1 : Hid (∀ W, Calls Tryz.prog 43 #[.int .i64 fv, .int .i64 (fvl : Int)] W fun e w' => e = .returned (.bool false) ∧ Below W.heap.size W w') := fun W => (HPI W).mono fun e w' ⟨he, hw⟩ => ⟨he, by rw [hw]; exact Below.refl _ _⟩
          have ko3 := cell_regrown o3
          have c1 : ∀ d os, _ := fun d os => Calls.regrown_of (D1.out (grow (redrawn wr d) os))
          have E1 : Hid _ := c1
          clear hd HPI HVI HOI hb c1 D1
          go_wp2
          refine wp_region_quiet_below (by kernel_rfl) (by kernel_rfl) ?_
          repeat (go_big_quiet_step ((with_reducible exact E1.out _ _)))
          refine wpQuiet_nil ?_
          intro _ hw'
          obtain ⟨⟨dq, osq⟩, hw''⟩ := hw'
          subst hw''
          go_wp2
          go_ret
          exact ⟨ret_bool HD.out.symm, below_trans hr.out.2.1 (below_regrown wr dq osq)⟩
        | true =>
          obtain ⟨gv, ov, k, rfl, rfl, hkn, hgv, cv⟩ := HVI hb
          rw [hb] at hd HPI
          have cv' := (hr.out.2.1.cell (p := ⟨gv, ov + k, none⟩) hgv).trans cv
          have HOJ := HOI (varT F.vars (k : Int))
          generalize varT F.vars (k : Int) = ty at *
          have D1 : Hid (∀ W, Calls Tryz.prog 43 #[.int .i64 (k : Int), .int .i64 (fvl : Int)] W fun e w' => e = .returned (.bool true) ∧ Below W.heap.size W w') := fun W => (HPI W).mono fun e w' ⟨he, hw⟩ => ⟨he, by rw [hw]; exact Below.refl _ _⟩
          have ke0 := cell_regrown e0
          have ke1 := cell_regrown e1
          have ke2 := cell_regrown e2
          have ke3 := cell_regrown e3
          have ke4 := cell_regrown e4
          have ke5 := cell_regrown e5
          have kx3 := cell_regrown x3
          have ko3 := cell_regrown o3
          have kca := cell_regrown ca'
          have kcv := cell_regrown cv'
          have HBR : Hid (Below w.heap.size w wr) := hr.out.2.1
          cases hc : isOfB G.vars xv ty with
          | true =>
            rw [hc] at hd HOJ
            simp only [Bool.true_and] at hd
            have HD : Hid _ := hd
            have c1 : ∀ d os, _ := fun d os => Calls.regrown_of (D1.out (grow (redrawn wr d) os))
            have c2 : ∀ d os, _ := fun d os => Calls.regrown_of (HOJ _ (below_trans HBR.out (below_regrown wr d os)))
            have E1 : Hid _ := c1
            have E2 : Hid _ := c2
            clear hd HPI HVI HOI hb hc HOJ cv c1 c2 D1
            go_wp2
            refine wp_region_quiet_below (by kernel_rfl) (by kernel_rfl) ?_
            repeat (go_big_quiet_step ((first | with_reducible exact E1.out _ _ | with_reducible exact E2.out _ _)))
            refine wpQuiet_nil ?_
            intro _ hw'
            obtain ⟨⟨dq, osq⟩, hw''⟩ := hw'
            subst hw''
            go_wp2
            go_roundw
            case rel => exact ⟨i + 1, by first | rfl | (congr 1; omega), by omega, HD.out, below_trans HBR.out (below_regrown wr dq osq), hr.out.2.2.below (below_regrown wr dq osq)⟩
            case measure => simp [intOf]; omega
          | false =>
            rw [hc] at hd HOJ
            simp only [Bool.false_and, Bool.and_false] at hd
            have HD : Hid (R = false) := hd
            have c1 : ∀ d os, _ := fun d os => Calls.regrown_of (D1.out (grow (redrawn wr d) os))
            have c2 : ∀ d os, _ := fun d os => Calls.regrown_of (HOJ _ (below_trans HBR.out (below_regrown wr d os)))
            have E1 : Hid _ := c1
            have E2 : Hid _ := c2
            clear hd HPI HVI HOI hb hc HOJ cv c1 c2 D1
            go_wp2
            refine wp_region_quiet_below (by kernel_rfl) (by kernel_rfl) ?_
            repeat (go_big_quiet_step ((first | with_reducible exact E1.out _ _ | with_reducible exact E2.out _ _)))
            refine wpQuiet_nil ?_
            intro _ hw'
            obtain ⟨⟨dq, osq⟩, hw''⟩ := hw'
            subst hw''
            go_wp2
            go_ret
            exact ⟨ret_bool HD.out.symm, below_trans HBR.out (below_regrown wr dq osq)⟩
      · obtain rfl : i = fps.length := by omega
        have hd : R = isOfB G.vars dst fr := by rw [hr.out.1, List.drop_eq_nil_of_le (by simp)]; simp
        have HD : Hid _ := hd
        have HOJ : Hid _ := HOF.out dst fr wr hr.out.2.1
        have HBR : Hid (Below w.heap.size w wr) := hr.out.2.1
        clear hd HFP HXA HFV HOF HPL hr
        go_wp2_with (go_at_call 63; go_loud (refine Calls.mono (by exact HOJ.out) ?_; rintro e w1 ⟨rfl, hb1⟩))
        go_ret
        exact ⟨ret_bool HD.out.symm, below_trans HBR.out hb1⟩
  · have hl1 : ((args.length : Int) == (fps.length : Int)) = false := beq_false_of_ne (by omega)
    have hl2 : ((args.length : Int) != (fps.length : Int)) = true := by simp; omega
    rw [hl1]
    clear HFP HXA HFV HOF HPL hl
    go_enter Tryz.func80, Tryz.ntmps80
    go_wp2
    go_ret
    exact ⟨rfl, HB0.out.1⟩
end Go.Proofs.YtdgpdmohfnealaaGreatDoor
