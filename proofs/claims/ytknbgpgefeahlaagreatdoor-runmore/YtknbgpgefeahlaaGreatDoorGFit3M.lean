/- Types of an operation. -/
import Derived.Test.YtknbgpgefeahlaaGreatDoorGFit1M
import Derived.Lib.QuietBelow
namespace Go.Proofs.YtknbgpgefeahlaaGreatDoor
open Go.RowKit

def nOp (op : Int) : Int := if op = 17 ∨ op = 18 then 1 else 2
def opOkB (vars : List Int) (x : In) : Bool := ofB x.op (varT vars (x.args.getD 0 0)) && ((x.args.length : Int) == nOp x.op) && (varT vars (x.args.getD (x.args.length - 1) 0) == varT vars (x.args.getD 0 0)) && (varT vars x.dst == ofT x.op (varT vars (x.args.getD 0 0)))
set_option maxRecDepth 100000 in
set_option maxHeartbeats 2000000 in
theorem fitsOp_any (G : Gr) (pv vv av bv : Value) (x : In) (xv : Value) (w : World) (h : GrAt w pv vv av bv G) (hA : IntsAt w xv x.args) (hd : inB x.dst G.vars.length = true) (hal : x.args.all (inB · G.vars.length) = true) (h1 : 1 ≤ x.args.length) (h2 : x.args.length ≤ 2) :
    Calls Tryz.prog 114 #[.agg #[.string G.name, pv, .int .u8 G.result, vv, av, bv], inV x xv] w fun e w' => e = .returned (.bool (opOkB G.vars x)) ∧ Below w.heap.size w w' := by
  obtain ⟨pa, pc, va, vc, aa, ac, ba, bc, rfl, rfl, rfl, rfl, _, hvl, _, _⟩ := h.openF
  obtain ⟨xa, xc, rfl, hxl⟩ := hA.form
  obtain ⟨kind, op, dst, args, bits, ref⟩ := x
  obtain ⟨nm, ps, r, vs, ars, bs⟩ := G
  dsimp only at *
  have HV := h.vs
  dsimp only at HV
  obtain ⟨g, o, k, rfl, rfl, hkn, hg, cd⟩ := HV.var hd
  have HVA : ∀ v, inB v vs.length = true → ∃ k : Nat, v = (k : Int) ∧ (k : Int) < vs.length ∧ w.cell? ⟨g, o + k, none⟩ = some (.int .u8 (varT vs v)) := fun v hv => by
    obtain ⟨g', o', k', e1, e2, e3, _, e5⟩ := HV.var hv
    cases e1
    exact ⟨k', e2, e3, e5⟩
  have HAL : ∀ i, i < args.length → inB (args.getD i 0) vs.length = true := fun i hi => by
    have := List.all_eq_true.1 hal (args.getD i 0) (by rw [List.getD, List.getElem?_eq_getElem hi]; exact List.getElem_mem hi)
    exact this
  obtain ⟨ga, oa, rfl, hga, ca⟩ := hA.get (i := 0) (by omega)
  obtain ⟨ga2, oa2, he2, _, cb⟩ := hA.get (i := args.length - 1) (by omega)
  cases he2
  obtain ⟨k0, hk0, hk0n, c0⟩ := HVA _ (HAL 0 (by omega))
  obtain ⟨k1, hk1, hk1n, c1⟩ := HVA _ (HAL (args.length - 1) (by omega))
  unfold opOkB
  dsimp only
  rw [hk0] at ca c0 ⊢
  rw [hk1] at cb c1 ⊢
  have HOF : Hid (∀ W, Calls Tryz.prog 96 #[.int .u8 op, .int .u8 (varT vs (k0 : Int))] W fun e w' => e = .returned (.tuple #[.int .u8 (ofT op (varT vs (k0 : Int))), .bool (ofB op (varT vs (k0 : Int)))]) ∧ w' = W) := fun W => of_any op _ W
  generalize varT vs (k : Int) = td at *
  generalize varT vs (k0 : Int) = t0 at *
  generalize varT vs (k1 : Int) = t1 at *
  generalize ofT op t0 = told at *
  generalize ofB op t0 = ok at *
  have hm : ∃ m, args.length = m + 1 := ⟨args.length - 1, by omega⟩
  obtain ⟨m, hm⟩ := hm
  rw [hm] at cb hxl ⊢
  rw [show m + 1 - 1 = m by omega] at cb
  have HB : Hid (∀ W, Below w.heap.size w W → Below w.heap.size w W) := fun W hW => hW
  have hm' : (m : Int) ≤ 1 := by omega
  rw [Nat.add_zero] at ca
  clear h hA hd hal HV HVA HAL hk0 hk1 h1 hm hxl hvl h2
  have HB0 : Hid (Below w.heap.size w ((w.alloc (.cells #[.string nm, .slice pa ps.length pc, .int .u8 r, .slice (some ⟨g, o, none⟩) vs.length vc, .slice aa ars.length ac, .slice ba bs.length bc] 46)).alloc (.cells #[.int .u8 kind, .int .u8 op, .int .i64 (k : Int), .slice (some ⟨ga, oa, none⟩) (m + 1) xc, .int .u64 bits, .int .i64 ref] 75))) := below_alloc (below_alloc (Below.refl _ _) _) _
  by_cases o17 : op = 17
  · subst o17
    have hnop : nOp 17 = 1 := rfl
    rw [hnop]
    clear hnop
    cases ok with
    | false =>
      go_enter Tryz.func114, Tryz.ntmps114
      go_wp2
      go_quiet (fail)
      go_wp2
      go_quiet ((go_at_call 96; exact quiet_add (HOF.out _)))
      go_wp2
      go_quiet (fail)
      go_wp2
      go_ret
      exact ⟨ret_bool (by first | rfl | simp), by repeat (first | exact HB0.out | refine below_drewN ?_ _ | refine below_drew ?_)⟩
    | true =>
      by_cases hN : m = 0
      · subst hN
        by_cases ht : t1 = t0
        · subst ht
          go_enter Tryz.func114, Tryz.ntmps114
          go_wp2
          go_quiet (fail)
          go_wp2
          go_quiet ((go_at_call 96; exact quiet_add (HOF.out _)))
          go_wp2
          go_quiet (fail)
          go_wp2
          go_ret
          exact ⟨ret_bool (by first | rfl | simp), by repeat (first | exact HB0.out | refine below_drewN ?_ _ | refine below_drew ?_)⟩
        · exfalso
          rw [Nat.add_zero] at cb
          have e1 := ca.symm.trans cb
          simp only [Option.some.injEq, Value.int.injEq, true_and] at e1
          obtain rfl : k0 = k1 := by omega
          have e2 := c0.symm.trans c1
          simp only [Option.some.injEq, Value.int.injEq, true_and] at e2
          exact ht e2.symm
      · have hN' : (((m + 1 : Nat) : Int) == 1) = false := beq_false_of_ne (by omega)
        rw [hN']
        have hN2 : ((m : Int) + 1 == 1) = false := beq_false_of_ne (by omega)
        go_enter Tryz.func114, Tryz.ntmps114
        go_wp2
        go_quiet (fail)
        go_wp2
        go_quiet ((go_at_call 96; exact quiet_add (HOF.out _)))
        go_wp2
        go_quiet (fail)
        go_wp2
        go_ret
        exact ⟨ret_bool (by simp), by repeat (first | exact HB0.out | refine below_drewN ?_ _ | refine below_drew ?_)⟩
  by_cases o18 : op = 18
  · subst o18
    have hnop : nOp 18 = 1 := rfl
    rw [hnop]
    clear hnop
    cases ok with
    | false =>
      go_enter Tryz.func114, Tryz.ntmps114
      go_wp2
      go_quiet (fail)
      go_wp2
      go_quiet ((go_at_call 96; exact quiet_add (HOF.out _)))
      go_wp2
      go_quiet (fail)
      go_wp2
      go_ret
      exact ⟨ret_bool (by first | rfl | simp), by repeat (first | exact HB0.out | refine below_drewN ?_ _ | refine below_drew ?_)⟩
    | true =>
      by_cases hN : m = 0
      · subst hN
        by_cases ht : t1 = t0
        · subst ht
          go_enter Tryz.func114, Tryz.ntmps114
          go_wp2
          go_quiet (fail)
          go_wp2
          go_quiet ((go_at_call 96; exact quiet_add (HOF.out _)))
          go_wp2
          go_quiet (fail)
          go_wp2
          go_ret
          exact ⟨ret_bool (by first | rfl | simp), by repeat (first | exact HB0.out | refine below_drewN ?_ _ | refine below_drew ?_)⟩
        · exfalso
          rw [Nat.add_zero] at cb
          have e1 := ca.symm.trans cb
          simp only [Option.some.injEq, Value.int.injEq, true_and] at e1
          obtain rfl : k0 = k1 := by omega
          have e2 := c0.symm.trans c1
          simp only [Option.some.injEq, Value.int.injEq, true_and] at e2
          exact ht e2.symm
      · have hN' : (((m + 1 : Nat) : Int) == 1) = false := beq_false_of_ne (by omega)
        rw [hN']
        have hN2 : ((m : Int) + 1 == 1) = false := beq_false_of_ne (by omega)
        go_enter Tryz.func114, Tryz.ntmps114
        go_wp2
        go_quiet (fail)
        go_wp2
        go_quiet ((go_at_call 96; exact quiet_add (HOF.out _)))
        go_wp2
        go_quiet (fail)
        go_wp2
        go_ret
        exact ⟨ret_bool (by simp), by repeat (first | exact HB0.out | refine below_drewN ?_ _ | refine below_drew ?_)⟩
  have hnop : nOp op = 2 := by simp [nOp, o17, o18]
  have p17 : (op == 17) = false := beq_false_of_ne o17
  have p18 : (op == 18) = false := beq_false_of_ne o18
  rw [hnop]
  clear hnop
  cases ok with
  | false =>
    go_enter Tryz.func114, Tryz.ntmps114
    go_wp2
    go_quiet (fail)
    go_wp2
    go_quiet ((go_at_call 96; exact quiet_add (HOF.out _)))
    go_wp2
    go_quiet (fail)
    go_wp2
    go_ret
    exact ⟨ret_bool (by first | rfl | simp), by repeat (first | exact HB0.out | refine below_drewN ?_ _ | refine below_drew ?_)⟩
  | true =>
    by_cases hN : m = 1
    · subst hN
      by_cases ht : t1 = t0
      · subst ht
        go_enter Tryz.func114, Tryz.ntmps114
        go_wp2
        go_quiet (fail)
        go_wp2
        go_quiet ((go_at_call 96; exact quiet_add (HOF.out _)))
        go_wp2
        go_quiet (fail)
        go_wp2
        go_ret
        exact ⟨ret_bool (by first | rfl | simp), by repeat (first | exact HB0.out | refine below_drewN ?_ _ | refine below_drew ?_)⟩
      · have ht' : (t1 == t0) = false := beq_false_of_ne ht
        rw [ht']
        go_enter Tryz.func114, Tryz.ntmps114
        go_wp2
        go_quiet (fail)
        go_wp2
        go_quiet ((go_at_call 96; exact quiet_add (HOF.out _)))
        go_wp2
        go_quiet (fail)
        go_wp2
        go_ret
        exact ⟨ret_bool (by simp), by repeat (first | exact HB0.out | refine below_drewN ?_ _ | refine below_drew ?_)⟩
    · have hN' : (((m + 1 : Nat) : Int) == 2) = false := beq_false_of_ne (by omega)
      rw [hN']
      have hN2 : ((m : Int) + 1 == 2) = false := beq_false_of_ne (by omega)
      go_enter Tryz.func114, Tryz.ntmps114
      go_wp2
      go_quiet (fail)
      go_wp2
      go_quiet ((go_at_call 96; exact quiet_add (HOF.out _)))
      go_wp2
      go_quiet (fail)
      go_wp2
      go_ret
      exact ⟨ret_bool (by simp), by repeat (first | exact HB0.out | refine below_drewN ?_ _ | refine below_drew ?_)⟩
end Go.Proofs.YtknbgpgefeahlaaGreatDoor
/- Types of loads, stores and clears. -/
namespace Go.Proofs.YtknbgpgefeahlaaGreatDoor
open Go.RowKit Go.Sort

def arrOkB (vars : List Int) (t : Int) (x : In) : Bool :=
  if x.kind = 6 then isOfB vars (x.args.getD 0 0) 4 && isOfB vars x.dst t
  else if x.kind = 7 then isOfB vars (x.args.getD 0 0) 4 && isOfB vars (x.args.getD 1 0) t
  else true
set_option maxRecDepth 100000 in
set_option maxHeartbeats 2000000 in
theorem fitsArr_any (G : Gr) (pv vv av bv : Value) (x : In) (xv : Value) (t : Int) (w : World) (h : GrAt w pv vv av bv G) (hA : IntsAt w xv x.args) (h6 : x.kind = 6 → x.args.length = 1) (h7 : x.kind = 7 → x.args.length = 2) :
    Calls Tryz.prog 115 #[.agg #[.string G.name, pv, .int .u8 G.result, vv, av, bv], inV x xv, .int .u8 t] w fun e w' => e = .returned (.bool (arrOkB G.vars t x)) ∧ Below w.heap.size w w' := by
  have HOF : Hid (∀ v t W, Below w.heap.size w W → Calls Tryz.prog 89 #[.agg #[.string G.name, pv, .int .u8 G.result, vv, av, bv], .int .i64 v, .int .u8 t] W fun e w' => e = .returned (.bool (isOfB G.vars v t)) ∧ Below W.heap.size W w') := fun v t W hb => isOf_any G pv vv av bv v t W (h.below hb)
  obtain ⟨pa, pc, va, vc, aa, ac, ba, bc, rfl, rfl, rfl, rfl, _, _, _, _⟩ := h.openF
  obtain ⟨xa, xc, rfl, hxl⟩ := hA.form
  obtain ⟨kind, op, dst, args, bits, ref⟩ := x
  dsimp only at *
  unfold arrOkB
  dsimp only
  clear h
  generalize G.name = nm at *
  generalize G.params.length = pl at *
  generalize G.vars.length = vl at *
  generalize G.arrs.length = al at *
  generalize G.blocks.length = bl at *
  generalize G.result = r at *
  by_cases k6 : kind = 6
  · subst k6
    simp only [if_true]
    obtain ⟨ga, oa, rfl, hga, ca⟩ := hA.get (i := 0) (by have := h6 rfl; omega)
    rw [Nat.add_zero] at ca
    have hl0 : (0 : Int) < args.length := by have := h6 rfl; omega
    have HO1 : Hid _ := HOF.out (args.getD 0 0) 4
    have HO2 : Hid _ := HOF.out dst t
    generalize args.getD 0 0 = v0 at *
    have hm := h6 rfl
    rw [hm]
    clear hm hl0
    have HB0 : Hid (Below w.heap.size w ((w.alloc (.cells #[.string nm, .slice pa pl pc, .int .u8 r, .slice va vl vc, .slice aa al ac, .slice ba bl bc] 46)).alloc (.cells #[.int .u8 6, .int .u8 op, .int .i64 dst, .slice (some ⟨ga, oa, none⟩) 1 xc, .int .u64 bits, .int .i64 ref] 75)) ∧ Duo w.heap.size [.string nm, .slice pa pl pc, .int .u8 r, .slice va vl vc, .slice aa al ac, .slice ba bl bc] [.int .u8 6, .int .u8 op, .int .i64 dst, .slice (some ⟨ga, oa, none⟩) 1 xc, .int .u64 bits, .int .i64 ref] ((w.alloc (.cells #[.string nm, .slice pa pl pc, .int .u8 r, .slice va vl vc, .slice aa al ac, .slice ba bl bc] 46)).alloc (.cells #[.int .u8 6, .int .u8 op, .int .i64 dst, .slice (some ⟨ga, oa, none⟩) 1 xc, .int .u64 bits, .int .i64 ref] 75))) := ⟨below_alloc (below_alloc (Below.refl _ _) _) _, Duo.new w [.string nm, .slice pa pl pc, .int .u8 r, .slice va vl vc, .slice aa al ac, .slice ba bl bc] [.int .u8 6, .int .u8 op, .int .i64 dst, .slice (some ⟨ga, oa, none⟩) 1 xc, .int .u64 bits, .int .i64 ref] 46 75⟩
    generalize isOfB G.vars v0 4 = b1 at *
    generalize isOfB G.vars dst t = b2 at *
    clear h6 h7 hA HOF hxl
    cases b1 with
    | false =>
      go_enter Tryz.func115, Tryz.ntmps115
      go_wp2
      obtain ⟨W, hW⟩ : ∃ W, W = ((w.alloc (.cells #[.string nm, .slice pa pl pc, .int .u8 r, .slice va vl vc, .slice aa al ac, .slice ba bl bc] 46)).alloc (.cells #[.int .u8 6, .int .u8 op, .int .i64 dst, .slice (some ⟨ga, oa, none⟩) 1 xc, .int .u64 bits, .int .i64 ref] 75)) := ⟨_, rfl⟩
      rw [← hW] at HB0 ⊢
      clear hW
      obtain ⟨e0, e1, e2, e3, e4, e5⟩ := box6 HB0.out.2.g
      obtain ⟨x0, x1, x2, x3, x4, x5⟩ := box6 HB0.out.2.t
      have ke0 := cell_regrown e0
      have ke1 := cell_regrown e1
      have ke2 := cell_regrown e2
      have ke3 := cell_regrown e3
      have ke4 := cell_regrown e4
      have ke5 := cell_regrown e5
      have kx0 := cell_regrown x0
      have kx1 := cell_regrown x1
      have kx2 := cell_regrown x2
      have kx3 := cell_regrown x3
      have kx4 := cell_regrown x4
      have kx5 := cell_regrown x5
      have kca := cell_regrown ((HB0.out.1.cell (p := ⟨ga, oa, none⟩) hga).trans ca)
      have C1 : ∀ d os, _ := fun d os => Calls.regrown_of (HO1.out _ (below_trans HB0.out.1 (below_regrown W d os)))
      have C2 : ∀ d os, _ := fun d os => Calls.regrown_of (HO2.out _ (below_trans HB0.out.1 (below_regrown W d os)))
      have D1 : Hid _ := C1
      have D2 : Hid _ := C2
      clear C1 C2 e0 e1 e2 e3 e4 e5 x0 x1 x2 x3 x4 x5 ca
      refine wp_region_quiet_below (by kernel_rfl) (by kernel_rfl) ?_
      repeat (go_big_quiet_step ((with_reducible exact D1.out _ _)))
      refine wpQuiet_nil ?_
      intro _ hw'
      obtain ⟨⟨dq, osq⟩, hw''⟩ := hw'
      subst hw''
      go_wp2
      go_ret
      exact ⟨ret_bool (by simp), below_trans HB0.out.1 (below_regrown W dq osq)⟩
    | true =>
      go_enter Tryz.func115, Tryz.ntmps115
      go_wp2
      obtain ⟨W, hW⟩ : ∃ W, W = ((w.alloc (.cells #[.string nm, .slice pa pl pc, .int .u8 r, .slice va vl vc, .slice aa al ac, .slice ba bl bc] 46)).alloc (.cells #[.int .u8 6, .int .u8 op, .int .i64 dst, .slice (some ⟨ga, oa, none⟩) 1 xc, .int .u64 bits, .int .i64 ref] 75)) := ⟨_, rfl⟩
      rw [← hW] at HB0 ⊢
      clear hW
      obtain ⟨e0, e1, e2, e3, e4, e5⟩ := box6 HB0.out.2.g
      obtain ⟨x0, x1, x2, x3, x4, x5⟩ := box6 HB0.out.2.t
      have ke0 := cell_regrown e0
      have ke1 := cell_regrown e1
      have ke2 := cell_regrown e2
      have ke3 := cell_regrown e3
      have ke4 := cell_regrown e4
      have ke5 := cell_regrown e5
      have kx0 := cell_regrown x0
      have kx1 := cell_regrown x1
      have kx2 := cell_regrown x2
      have kx3 := cell_regrown x3
      have kx4 := cell_regrown x4
      have kx5 := cell_regrown x5
      have kca := cell_regrown ((HB0.out.1.cell (p := ⟨ga, oa, none⟩) hga).trans ca)
      have C1 : ∀ d os, _ := fun d os => Calls.regrown_of (HO1.out _ (below_trans HB0.out.1 (below_regrown W d os)))
      have C2 : ∀ d os, _ := fun d os => Calls.regrown_of (HO2.out _ (below_trans HB0.out.1 (below_regrown W d os)))
      have D1 : Hid _ := C1
      have D2 : Hid _ := C2
      clear C1 C2 e0 e1 e2 e3 e4 e5 x0 x1 x2 x3 x4 x5 ca
      refine wp_region_quiet_below (by kernel_rfl) (by kernel_rfl) ?_
      repeat (go_big_quiet_step ((first | with_reducible exact D1.out _ _ | with_reducible exact D2.out _ _)))
      refine wpQuiet_nil ?_
      intro _ hw'
      obtain ⟨⟨dq, osq⟩, hw''⟩ := hw'
      subst hw''
      go_wp2
      go_ret
      exact ⟨ret_bool (by simp), below_trans HB0.out.1 (below_regrown W dq osq)⟩
  by_cases k7 : kind = 7
  · subst k7
    simp only [if_true, show ¬ ((7 : Int) = 6) by omega, if_false]
    obtain ⟨ga, oa, rfl, hga, ca⟩ := hA.get (i := 0) (by have := h7 rfl; omega)
    obtain ⟨ga2, oa2, he2, _, cb⟩ := hA.get (i := 1) (by have := h7 rfl; omega)
    cases he2
    rw [Nat.add_zero] at ca
    have hl0 : (0 : Int) < args.length := by have := h7 rfl; omega
    have hl1 : (1 : Int) < args.length := by have := h7 rfl; omega
    have HO1 : Hid _ := HOF.out (args.getD 0 0) 4
    have HO2 : Hid _ := HOF.out (args.getD 1 0) t
    generalize args.getD 0 0 = v0 at *
    generalize args.getD 1 0 = v1 at *
    have hm := h7 rfl
    rw [hm]
    clear hm hl0 hl1
    have HB0 : Hid (Below w.heap.size w ((w.alloc (.cells #[.string nm, .slice pa pl pc, .int .u8 r, .slice va vl vc, .slice aa al ac, .slice ba bl bc] 46)).alloc (.cells #[.int .u8 7, .int .u8 op, .int .i64 dst, .slice (some ⟨ga, oa, none⟩) 2 xc, .int .u64 bits, .int .i64 ref] 75)) ∧ Duo w.heap.size [.string nm, .slice pa pl pc, .int .u8 r, .slice va vl vc, .slice aa al ac, .slice ba bl bc] [.int .u8 7, .int .u8 op, .int .i64 dst, .slice (some ⟨ga, oa, none⟩) 2 xc, .int .u64 bits, .int .i64 ref] ((w.alloc (.cells #[.string nm, .slice pa pl pc, .int .u8 r, .slice va vl vc, .slice aa al ac, .slice ba bl bc] 46)).alloc (.cells #[.int .u8 7, .int .u8 op, .int .i64 dst, .slice (some ⟨ga, oa, none⟩) 2 xc, .int .u64 bits, .int .i64 ref] 75))) := ⟨below_alloc (below_alloc (Below.refl _ _) _) _, Duo.new w [.string nm, .slice pa pl pc, .int .u8 r, .slice va vl vc, .slice aa al ac, .slice ba bl bc] [.int .u8 7, .int .u8 op, .int .i64 dst, .slice (some ⟨ga, oa, none⟩) 2 xc, .int .u64 bits, .int .i64 ref] 46 75⟩
    generalize isOfB G.vars v0 4 = b1 at *
    generalize isOfB G.vars v1 t = b2 at *
    clear h6 h7 hA HOF hxl
    cases b1 with
    | false =>
      go_enter Tryz.func115, Tryz.ntmps115
      go_wp2
      obtain ⟨W, hW⟩ : ∃ W, W = ((w.alloc (.cells #[.string nm, .slice pa pl pc, .int .u8 r, .slice va vl vc, .slice aa al ac, .slice ba bl bc] 46)).alloc (.cells #[.int .u8 7, .int .u8 op, .int .i64 dst, .slice (some ⟨ga, oa, none⟩) 2 xc, .int .u64 bits, .int .i64 ref] 75)) := ⟨_, rfl⟩
      rw [← hW] at HB0 ⊢
      clear hW
      obtain ⟨e0, e1, e2, e3, e4, e5⟩ := box6 HB0.out.2.g
      obtain ⟨x0, x1, x2, x3, x4, x5⟩ := box6 HB0.out.2.t
      have ke0 := cell_regrown e0
      have ke1 := cell_regrown e1
      have ke2 := cell_regrown e2
      have ke3 := cell_regrown e3
      have ke4 := cell_regrown e4
      have ke5 := cell_regrown e5
      have kx0 := cell_regrown x0
      have kx1 := cell_regrown x1
      have kx2 := cell_regrown x2
      have kx3 := cell_regrown x3
      have kx4 := cell_regrown x4
      have kx5 := cell_regrown x5
      have kca := cell_regrown ((HB0.out.1.cell (p := ⟨ga, oa, none⟩) hga).trans ca)
      have kcb := cell_regrown ((HB0.out.1.cell (p := ⟨ga, oa + 1, none⟩) hga).trans cb)
      have C1 : ∀ d os, _ := fun d os => Calls.regrown_of (HO1.out _ (below_trans HB0.out.1 (below_regrown W d os)))
      have C2 : ∀ d os, _ := fun d os => Calls.regrown_of (HO2.out _ (below_trans HB0.out.1 (below_regrown W d os)))
      have D1 : Hid _ := C1
      have D2 : Hid _ := C2
      clear C1 C2 e0 e1 e2 e3 e4 e5 x0 x1 x2 x3 x4 x5 ca cb
      refine wp_region_quiet_below (by kernel_rfl) (by kernel_rfl) ?_
      repeat (go_big_quiet_step ((with_reducible exact D1.out _ _)))
      refine wpQuiet_nil ?_
      intro _ hw'
      obtain ⟨⟨dq, osq⟩, hw''⟩ := hw'
      subst hw''
      go_wp2
      go_ret
      exact ⟨ret_bool (by simp), below_trans HB0.out.1 (below_regrown W dq osq)⟩
    | true =>
      go_enter Tryz.func115, Tryz.ntmps115
      go_wp2
      obtain ⟨W, hW⟩ : ∃ W, W = ((w.alloc (.cells #[.string nm, .slice pa pl pc, .int .u8 r, .slice va vl vc, .slice aa al ac, .slice ba bl bc] 46)).alloc (.cells #[.int .u8 7, .int .u8 op, .int .i64 dst, .slice (some ⟨ga, oa, none⟩) 2 xc, .int .u64 bits, .int .i64 ref] 75)) := ⟨_, rfl⟩
      rw [← hW] at HB0 ⊢
      clear hW
      obtain ⟨e0, e1, e2, e3, e4, e5⟩ := box6 HB0.out.2.g
      obtain ⟨x0, x1, x2, x3, x4, x5⟩ := box6 HB0.out.2.t
      have ke0 := cell_regrown e0
      have ke1 := cell_regrown e1
      have ke2 := cell_regrown e2
      have ke3 := cell_regrown e3
      have ke4 := cell_regrown e4
      have ke5 := cell_regrown e5
      have kx0 := cell_regrown x0
      have kx1 := cell_regrown x1
      have kx2 := cell_regrown x2
      have kx3 := cell_regrown x3
      have kx4 := cell_regrown x4
      have kx5 := cell_regrown x5
      have kca := cell_regrown ((HB0.out.1.cell (p := ⟨ga, oa, none⟩) hga).trans ca)
      have kcb := cell_regrown ((HB0.out.1.cell (p := ⟨ga, oa + 1, none⟩) hga).trans cb)
      have C1 : ∀ d os, _ := fun d os => Calls.regrown_of (HO1.out _ (below_trans HB0.out.1 (below_regrown W d os)))
      have C2 : ∀ d os, _ := fun d os => Calls.regrown_of (HO2.out _ (below_trans HB0.out.1 (below_regrown W d os)))
      have D1 : Hid _ := C1
      have D2 : Hid _ := C2
      clear C1 C2 e0 e1 e2 e3 e4 e5 x0 x1 x2 x3 x4 x5 ca cb
      refine wp_region_quiet_below (by kernel_rfl) (by kernel_rfl) ?_
      repeat (go_big_quiet_step ((first | with_reducible exact D1.out _ _ | with_reducible exact D2.out _ _)))
      refine wpQuiet_nil ?_
      intro _ hw'
      obtain ⟨⟨dq, osq⟩, hw''⟩ := hw'
      subst hw''
      go_wp2
      go_ret
      exact ⟨ret_bool (by simp), below_trans HB0.out.1 (below_regrown W dq osq)⟩
  simp only [k6, k7, if_false]
  have p6 : (kind == 6) = false := beq_false_of_ne k6
  have p7 : (kind == 7) = false := beq_false_of_ne k7
  clear h6 h7 hA HOF hxl
  go_enter Tryz.func115, Tryz.ntmps115
  go_wp2
  go_ret
  exact ⟨rfl, below_alloc (below_alloc (Below.refl _ _) _) _⟩
end Go.Proofs.YtknbgpgefeahlaaGreatDoor
