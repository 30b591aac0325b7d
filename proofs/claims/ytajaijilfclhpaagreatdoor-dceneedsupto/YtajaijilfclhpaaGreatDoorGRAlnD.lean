/- The document's side: may an instruction stand, calls but for what they call?  -/
import Derived.Test.YtajaijilfclhpaaGreatDoorGRAlnA
namespace Go.Proofs.YtajaijilfclhpaaGreatDoor
open Go.RowKit Go.Sort

theorem aloneK_8 (G : Gr) (op dst : Int) (args : List Int) (bits ref : Int) : aloneR G ⟨8, op, dst, args, bits, ref⟩ = (plainB ⟨8, op, dst, args, bits, ref⟩ && (args.all (inB · G.vars.length) && (inB ref G.arrs.length && true))) := by
 unfold aloneR kindR
 simp
set_option maxRecDepth 100000 in
set_option maxHeartbeats 4000000 in
theorem alone_8 (G : Gr) (pv vv av bv : Value) (op dst : Int) (args : List Int) (bits ref : Int) (xv : Value) (w : World) (h : GrAt w pv vv av bv G) (hA : IntsAt w xv args) (_hbits : 0 ≤ bits ∧ bits < 18446744073709551616) :
  Calls Tryz.prog 61 #[.agg #[.string G.name, pv, .int .u8 G.result, vv, av, bv], inV ⟨8, op, dst, args, bits, ref⟩ xv] w fun e w' => e = .returned (.bool (aloneR G ⟨8, op, dst, args, bits, ref⟩)) ∧ Below w.heap.size w w' := by
 have HPN : Hid (∀ W, Below w.heap.size w W → Calls Tryz.prog 119 #[inV ⟨8, op, dst, args, bits, ref⟩ xv] W fun e w' => e = .returned (.bool (plainB ⟨8, op, dst, args, bits, ref⟩)) ∧ Below W.heap.size W w') := fun W hb => rplain_any ⟨8, op, dst, args, bits, ref⟩ xv W (hA.below hb) (show (1 : Int) ≤ 8 by decide) (show (8 : Int) ≤ 10 by decide)
 have HVR : Hid (∀ W, Below w.heap.size w W → Calls Tryz.prog 115 #[.agg #[.string G.name, pv, .int .u8 G.result, vv, av, bv], xv] W fun e w' => e = .returned (.bool (args.all (inB · G.vars.length))) ∧ Below W.heap.size W w') := fun W hb => rvars_any G pv vv av bv args xv W (h.below hb) (hA.below hb)
 obtain ⟨pa, pc, va, vc, aa, ac, ba, bc, rfl, rfl, rfl, rfl, _, _, _, _⟩ := h.openF
 obtain ⟨xa, xc, rfl, hxl⟩ := hA.form
 have HIR : Hid (∀ W, Calls Tryz.prog 118 #[.int .i64 ref, .int .i64 (G.arrs.length : Int)] W fun e w' => e = .returned (.bool (inB ref G.arrs.length)) ∧ w' = W) := fun W => rin_any ref _ W
 have HAA : Hid (∀ i, i < G.arrs.length → _) := fun i hi => ArrsAt.get h.ars (i := i) hi
 obtain ⟨R, hR⟩ : ∃ R, R = aloneR G ⟨8, op, dst, args, bits, ref⟩ := ⟨_, rfl⟩
 rw [← hR]
 rw [aloneK_8] at hR
 clear h hA
 generalize plainB ⟨8, op, dst, args, bits, ref⟩ = bp at *
 generalize hva : args.all (inB · G.vars.length) = bv' at *
 generalize hxn : args.length = xn at *
 generalize hvl : G.vars.length = vl at *
 generalize hal : G.arrs.length = al at *
 generalize G.name = nm at *
 generalize G.params.length = pl at *
 generalize G.blocks.length = bl at *
 generalize G.result = r at *
 clear hva hxn hvl hal
 have H0 : Hid (Below w.heap.size w ((w.alloc (.cells #[.string nm, .slice pa pl pc, .int .u8 r, .slice va vl vc, .slice aa al ac, .slice ba bl bc] 28)).alloc (.cells #[.int .u8 8, .int .u8 op, .int .i64 dst, .slice xa xn xc, .int .u64 bits, .int .i64 ref] 55)) ∧ Duo w.heap.size [.string nm, .slice pa pl pc, .int .u8 r, .slice va vl vc, .slice aa al ac, .slice ba bl bc] [.int .u8 8, .int .u8 op, .int .i64 dst, .slice xa xn xc, .int .u64 bits, .int .i64 ref] ((w.alloc (.cells #[.string nm, .slice pa pl pc, .int .u8 r, .slice va vl vc, .slice aa al ac, .slice ba bl bc] 28)).alloc (.cells #[.int .u8 8, .int .u8 op, .int .i64 dst, .slice xa xn xc, .int .u64 bits, .int .i64 ref] 55))) := ⟨below_alloc (below_alloc (Below.refl _ _) _) _, Duo.new w [.string nm, .slice pa pl pc, .int .u8 r, .slice va vl vc, .slice aa al ac, .slice ba bl bc] [.int .u8 8, .int .u8 op, .int .i64 dst, .slice xa xn xc, .int .u64 bits, .int .i64 ref] 28 55⟩
 cases bp with
 | false =>
  have HR : Hid (R = false) := by show _ = _; rw [hR]; simp
  clear hR HAA
  go_enter Tryz.func61, Tryz.ntmps61
  go_wp2_with (first
   | (go_at_call 119; go_loud (refine Calls.mono (by exact HPN.out _ H0.out.1) ?_; rintro e w1 ⟨rfl, hb⟩; have H1 : Hid (Below w.heap.size w w1 ∧ Duo w.heap.size [.string nm, .slice pa pl pc, .int .u8 r, .slice va vl vc, .slice aa al ac, .slice ba bl bc] [.int .u8 8, .int .u8 op, .int .i64 dst, .slice xa xn xc, .int .u64 bits, .int .i64 ref] w1) := ⟨below_trans H0.out.1 hb, H0.out.2.below hb⟩; obtain ⟨f0, f1, f2, f3, f4, f5⟩ := box6 H1.out.2.g; obtain ⟨y0, y1, y2, y3, y4, y5⟩ := box6 H1.out.2.t; clear hb)))
  go_ret
  exact ⟨ret_bool HR.out.symm, H1.out.1⟩
 | true =>
  cases bv' with
  | false =>
   have HR : Hid (R = false) := by show _ = _; rw [hR]; simp
   clear hR HAA
   go_enter Tryz.func61, Tryz.ntmps61
   go_wp2_with (first
    | (go_at_call 119; go_loud (refine Calls.mono (by exact HPN.out _ H0.out.1) ?_; rintro e w1 ⟨rfl, hb⟩; have H1 : Hid (Below w.heap.size w w1 ∧ Duo w.heap.size [.string nm, .slice pa pl pc, .int .u8 r, .slice va vl vc, .slice aa al ac, .slice ba bl bc] [.int .u8 8, .int .u8 op, .int .i64 dst, .slice xa xn xc, .int .u64 bits, .int .i64 ref] w1) := ⟨below_trans H0.out.1 hb, H0.out.2.below hb⟩; obtain ⟨f0, f1, f2, f3, f4, f5⟩ := box6 H1.out.2.g; obtain ⟨y0, y1, y2, y3, y4, y5⟩ := box6 H1.out.2.t; clear hb))
    | (go_at_call 115; go_loud (refine Calls.mono (by exact HVR.out _ H1.out.1) ?_; rintro e w2 ⟨rfl, hb⟩; have H2 : Hid (Below w.heap.size w w2 ∧ Duo w.heap.size [.string nm, .slice pa pl pc, .int .u8 r, .slice va vl vc, .slice aa al ac, .slice ba bl bc] [.int .u8 8, .int .u8 op, .int .i64 dst, .slice xa xn xc, .int .u64 bits, .int .i64 ref] w2) := ⟨below_trans H1.out.1 hb, H1.out.2.below hb⟩; clear f0 f1 f2 f3 f4 f5 y0 y1 y2 y3 y4 y5; obtain ⟨g0, g1, g2, g3, g4, g5⟩ := box6 H2.out.2.g; obtain ⟨z0, z1, z2, z3, z4, z5⟩ := box6 H2.out.2.t; clear hb)))
   go_ret
   exact ⟨ret_bool HR.out.symm, H2.out.1⟩
  | true =>
   simp only [Bool.true_and] at hR
   cases hir : inB ref al with
   | false =>
    rw [hir] at hR HIR
    have HR : Hid (R = false) := by show _ = _; rw [hR]; simp
    clear hR HAA
    clear hir
    go_enter Tryz.func61, Tryz.ntmps61
    go_wp2_with (first
     | (go_at_call 119; go_loud (refine Calls.mono (by exact HPN.out _ H0.out.1) ?_; rintro e w1 ⟨rfl, hb⟩; have H1 : Hid (Below w.heap.size w w1 ∧ Duo w.heap.size [.string nm, .slice pa pl pc, .int .u8 r, .slice va vl vc, .slice aa al ac, .slice ba bl bc] [.int .u8 8, .int .u8 op, .int .i64 dst, .slice xa xn xc, .int .u64 bits, .int .i64 ref] w1) := ⟨below_trans H0.out.1 hb, H0.out.2.below hb⟩; obtain ⟨f0, f1, f2, f3, f4, f5⟩ := box6 H1.out.2.g; obtain ⟨y0, y1, y2, y3, y4, y5⟩ := box6 H1.out.2.t; clear hb))
     | (go_at_call 115; go_loud (refine Calls.mono (by exact HVR.out _ H1.out.1) ?_; rintro e w2 ⟨rfl, hb⟩; have H2 : Hid (Below w.heap.size w w2 ∧ Duo w.heap.size [.string nm, .slice pa pl pc, .int .u8 r, .slice va vl vc, .slice aa al ac, .slice ba bl bc] [.int .u8 8, .int .u8 op, .int .i64 dst, .slice xa xn xc, .int .u64 bits, .int .i64 ref] w2) := ⟨below_trans H1.out.1 hb, H1.out.2.below hb⟩; clear f0 f1 f2 f3 f4 f5 y0 y1 y2 y3 y4 y5; obtain ⟨g0, g1, g2, g3, g4, g5⟩ := box6 H2.out.2.g; obtain ⟨z0, z1, z2, z3, z4, z5⟩ := box6 H2.out.2.t; clear hb))
     | (go_at_call 118; refine Calls.mono (by with_reducible exact HIR.out _) ?_; rintro e wx ⟨rfl, hwx⟩; subst wx))
    go_ret
    exact ⟨ret_bool HR.out.symm, H2.out.1⟩
   | true =>
    rw [hir, Bool.true_and] at hR
    rw [hir] at HIR
    have HR : Hid (R = true) := hR
    clear hR HAA
    clear hir
    go_enter Tryz.func61, Tryz.ntmps61
    go_wp2_with (first
     | (go_at_call 119; go_loud (refine Calls.mono (by exact HPN.out _ H0.out.1) ?_; rintro e w1 ⟨rfl, hb⟩; have H1 : Hid (Below w.heap.size w w1 ∧ Duo w.heap.size [.string nm, .slice pa pl pc, .int .u8 r, .slice va vl vc, .slice aa al ac, .slice ba bl bc] [.int .u8 8, .int .u8 op, .int .i64 dst, .slice xa xn xc, .int .u64 bits, .int .i64 ref] w1) := ⟨below_trans H0.out.1 hb, H0.out.2.below hb⟩; obtain ⟨f0, f1, f2, f3, f4, f5⟩ := box6 H1.out.2.g; obtain ⟨y0, y1, y2, y3, y4, y5⟩ := box6 H1.out.2.t; clear hb))
     | (go_at_call 115; go_loud (refine Calls.mono (by exact HVR.out _ H1.out.1) ?_; rintro e w2 ⟨rfl, hb⟩; have H2 : Hid (Below w.heap.size w w2 ∧ Duo w.heap.size [.string nm, .slice pa pl pc, .int .u8 r, .slice va vl vc, .slice aa al ac, .slice ba bl bc] [.int .u8 8, .int .u8 op, .int .i64 dst, .slice xa xn xc, .int .u64 bits, .int .i64 ref] w2) := ⟨below_trans H1.out.1 hb, H1.out.2.below hb⟩; clear f0 f1 f2 f3 f4 f5 y0 y1 y2 y3 y4 y5; obtain ⟨g0, g1, g2, g3, g4, g5⟩ := box6 H2.out.2.g; obtain ⟨z0, z1, z2, z3, z4, z5⟩ := box6 H2.out.2.t; clear hb))
     | (go_at_call 118; refine Calls.mono (by with_reducible exact HIR.out _) ?_; rintro e wx ⟨rfl, hwx⟩; subst wx))
    go_ret
    exact ⟨ret_bool HR.out.symm, H2.out.1⟩
theorem aloneK_9 (G : Gr) (op dst : Int) (args : List Int) (bits ref : Int) : aloneR G ⟨9, op, dst, args, bits, ref⟩ = (plainB ⟨9, op, dst, args, bits, ref⟩ && (args.all (inB · G.vars.length) && (inB dst G.vars.length && decide (0 ≤ ref)))) := by
 unfold aloneR kindR
 simp
set_option maxRecDepth 100000 in
set_option maxHeartbeats 4000000 in
theorem alone_9 (G : Gr) (pv vv av bv : Value) (op dst : Int) (args : List Int) (bits ref : Int) (xv : Value) (w : World) (h : GrAt w pv vv av bv G) (hA : IntsAt w xv args) (_hbits : 0 ≤ bits ∧ bits < 18446744073709551616) :
  Calls Tryz.prog 61 #[.agg #[.string G.name, pv, .int .u8 G.result, vv, av, bv], inV ⟨9, op, dst, args, bits, ref⟩ xv] w fun e w' => e = .returned (.bool (aloneR G ⟨9, op, dst, args, bits, ref⟩)) ∧ Below w.heap.size w w' := by
 have HPN : Hid (∀ W, Below w.heap.size w W → Calls Tryz.prog 119 #[inV ⟨9, op, dst, args, bits, ref⟩ xv] W fun e w' => e = .returned (.bool (plainB ⟨9, op, dst, args, bits, ref⟩)) ∧ Below W.heap.size W w') := fun W hb => rplain_any ⟨9, op, dst, args, bits, ref⟩ xv W (hA.below hb) (show (1 : Int) ≤ 9 by decide) (show (9 : Int) ≤ 10 by decide)
 have HVR : Hid (∀ W, Below w.heap.size w W → Calls Tryz.prog 115 #[.agg #[.string G.name, pv, .int .u8 G.result, vv, av, bv], xv] W fun e w' => e = .returned (.bool (args.all (inB · G.vars.length))) ∧ Below W.heap.size W w') := fun W hb => rvars_any G pv vv av bv args xv W (h.below hb) (hA.below hb)
 obtain ⟨pa, pc, va, vc, aa, ac, ba, bc, rfl, rfl, rfl, rfl, _, _, _, _⟩ := h.openF
 obtain ⟨xa, xc, rfl, hxl⟩ := hA.form
 have HID : Hid (∀ W, Calls Tryz.prog 118 #[.int .i64 dst, .int .i64 (G.vars.length : Int)] W fun e w' => e = .returned (.bool (inB dst G.vars.length)) ∧ w' = W) := fun W => rin_any dst _ W
 obtain ⟨R, hR⟩ : ∃ R, R = aloneR G ⟨9, op, dst, args, bits, ref⟩ := ⟨_, rfl⟩
 rw [← hR]
 rw [aloneK_9] at hR
 clear h hA
 generalize plainB ⟨9, op, dst, args, bits, ref⟩ = bp at *
 generalize hva : args.all (inB · G.vars.length) = bv' at *
 generalize hxn : args.length = xn at *
 generalize hvl : G.vars.length = vl at *
 generalize hal : G.arrs.length = al at *
 generalize G.name = nm at *
 generalize G.params.length = pl at *
 generalize G.blocks.length = bl at *
 generalize G.result = r at *
 clear hva hxn hvl hal
 have H0 : Hid (Below w.heap.size w ((w.alloc (.cells #[.string nm, .slice pa pl pc, .int .u8 r, .slice va vl vc, .slice aa al ac, .slice ba bl bc] 28)).alloc (.cells #[.int .u8 9, .int .u8 op, .int .i64 dst, .slice xa xn xc, .int .u64 bits, .int .i64 ref] 55)) ∧ Duo w.heap.size [.string nm, .slice pa pl pc, .int .u8 r, .slice va vl vc, .slice aa al ac, .slice ba bl bc] [.int .u8 9, .int .u8 op, .int .i64 dst, .slice xa xn xc, .int .u64 bits, .int .i64 ref] ((w.alloc (.cells #[.string nm, .slice pa pl pc, .int .u8 r, .slice va vl vc, .slice aa al ac, .slice ba bl bc] 28)).alloc (.cells #[.int .u8 9, .int .u8 op, .int .i64 dst, .slice xa xn xc, .int .u64 bits, .int .i64 ref] 55))) := ⟨below_alloc (below_alloc (Below.refl _ _) _) _, Duo.new w [.string nm, .slice pa pl pc, .int .u8 r, .slice va vl vc, .slice aa al ac, .slice ba bl bc] [.int .u8 9, .int .u8 op, .int .i64 dst, .slice xa xn xc, .int .u64 bits, .int .i64 ref] 28 55⟩
 cases bp with
 | false =>
  have HR : Hid (R = false) := by show _ = _; rw [hR]; simp
  clear hR
  go_enter Tryz.func61, Tryz.ntmps61
  go_wp2_with (first
   | (go_at_call 119; go_loud (refine Calls.mono (by exact HPN.out _ H0.out.1) ?_; rintro e w1 ⟨rfl, hb⟩; have H1 : Hid (Below w.heap.size w w1 ∧ Duo w.heap.size [.string nm, .slice pa pl pc, .int .u8 r, .slice va vl vc, .slice aa al ac, .slice ba bl bc] [.int .u8 9, .int .u8 op, .int .i64 dst, .slice xa xn xc, .int .u64 bits, .int .i64 ref] w1) := ⟨below_trans H0.out.1 hb, H0.out.2.below hb⟩; obtain ⟨f0, f1, f2, f3, f4, f5⟩ := box6 H1.out.2.g; obtain ⟨y0, y1, y2, y3, y4, y5⟩ := box6 H1.out.2.t; clear hb)))
  go_ret
  exact ⟨ret_bool HR.out.symm, H1.out.1⟩
 | true =>
  cases bv' with
  | false =>
   have HR : Hid (R = false) := by show _ = _; rw [hR]; simp
   clear hR
   go_enter Tryz.func61, Tryz.ntmps61
   go_wp2_with (first
    | (go_at_call 119; go_loud (refine Calls.mono (by exact HPN.out _ H0.out.1) ?_; rintro e w1 ⟨rfl, hb⟩; have H1 : Hid (Below w.heap.size w w1 ∧ Duo w.heap.size [.string nm, .slice pa pl pc, .int .u8 r, .slice va vl vc, .slice aa al ac, .slice ba bl bc] [.int .u8 9, .int .u8 op, .int .i64 dst, .slice xa xn xc, .int .u64 bits, .int .i64 ref] w1) := ⟨below_trans H0.out.1 hb, H0.out.2.below hb⟩; obtain ⟨f0, f1, f2, f3, f4, f5⟩ := box6 H1.out.2.g; obtain ⟨y0, y1, y2, y3, y4, y5⟩ := box6 H1.out.2.t; clear hb))
    | (go_at_call 115; go_loud (refine Calls.mono (by exact HVR.out _ H1.out.1) ?_; rintro e w2 ⟨rfl, hb⟩; have H2 : Hid (Below w.heap.size w w2 ∧ Duo w.heap.size [.string nm, .slice pa pl pc, .int .u8 r, .slice va vl vc, .slice aa al ac, .slice ba bl bc] [.int .u8 9, .int .u8 op, .int .i64 dst, .slice xa xn xc, .int .u64 bits, .int .i64 ref] w2) := ⟨below_trans H1.out.1 hb, H1.out.2.below hb⟩; clear f0 f1 f2 f3 f4 f5 y0 y1 y2 y3 y4 y5; obtain ⟨g0, g1, g2, g3, g4, g5⟩ := box6 H2.out.2.g; obtain ⟨z0, z1, z2, z3, z4, z5⟩ := box6 H2.out.2.t; clear hb)))
   go_ret
   exact ⟨ret_bool HR.out.symm, H2.out.1⟩
  | true =>
   simp only [Bool.true_and] at hR
   cases hid : inB dst vl with
   | false =>
    rw [hid] at hR HID
    have HR : Hid (R = false) := by show _ = _; rw [hR]; simp
    clear hR
    clear hid
    go_enter Tryz.func61, Tryz.ntmps61
    go_wp2_with (first
     | (go_at_call 119; go_loud (refine Calls.mono (by exact HPN.out _ H0.out.1) ?_; rintro e w1 ⟨rfl, hb⟩; have H1 : Hid (Below w.heap.size w w1 ∧ Duo w.heap.size [.string nm, .slice pa pl pc, .int .u8 r, .slice va vl vc, .slice aa al ac, .slice ba bl bc] [.int .u8 9, .int .u8 op, .int .i64 dst, .slice xa xn xc, .int .u64 bits, .int .i64 ref] w1) := ⟨below_trans H0.out.1 hb, H0.out.2.below hb⟩; obtain ⟨f0, f1, f2, f3, f4, f5⟩ := box6 H1.out.2.g; obtain ⟨y0, y1, y2, y3, y4, y5⟩ := box6 H1.out.2.t; clear hb))
     | (go_at_call 115; go_loud (refine Calls.mono (by exact HVR.out _ H1.out.1) ?_; rintro e w2 ⟨rfl, hb⟩; have H2 : Hid (Below w.heap.size w w2 ∧ Duo w.heap.size [.string nm, .slice pa pl pc, .int .u8 r, .slice va vl vc, .slice aa al ac, .slice ba bl bc] [.int .u8 9, .int .u8 op, .int .i64 dst, .slice xa xn xc, .int .u64 bits, .int .i64 ref] w2) := ⟨below_trans H1.out.1 hb, H1.out.2.below hb⟩; clear f0 f1 f2 f3 f4 f5 y0 y1 y2 y3 y4 y5; obtain ⟨g0, g1, g2, g3, g4, g5⟩ := box6 H2.out.2.g; obtain ⟨z0, z1, z2, z3, z4, z5⟩ := box6 H2.out.2.t; clear hb))
     | (go_at_call 118; refine Calls.mono (by with_reducible exact HID.out _) ?_; rintro e wx ⟨rfl, hwx⟩; subst wx))
    go_ret
    exact ⟨ret_bool HR.out.symm, H2.out.1⟩
   | true =>
    rw [hid, Bool.true_and] at hR
    rw [hid] at HID
    have HR : Hid (R = decide (0 ≤ ref)) := hR
    clear hR
    clear hid
    go_enter Tryz.func61, Tryz.ntmps61
    go_wp2_with (first
     | (go_at_call 119; go_loud (refine Calls.mono (by exact HPN.out _ H0.out.1) ?_; rintro e w1 ⟨rfl, hb⟩; have H1 : Hid (Below w.heap.size w w1 ∧ Duo w.heap.size [.string nm, .slice pa pl pc, .int .u8 r, .slice va vl vc, .slice aa al ac, .slice ba bl bc] [.int .u8 9, .int .u8 op, .int .i64 dst, .slice xa xn xc, .int .u64 bits, .int .i64 ref] w1) := ⟨below_trans H0.out.1 hb, H0.out.2.below hb⟩; obtain ⟨f0, f1, f2, f3, f4, f5⟩ := box6 H1.out.2.g; obtain ⟨y0, y1, y2, y3, y4, y5⟩ := box6 H1.out.2.t; clear hb))
     | (go_at_call 115; go_loud (refine Calls.mono (by exact HVR.out _ H1.out.1) ?_; rintro e w2 ⟨rfl, hb⟩; have H2 : Hid (Below w.heap.size w w2 ∧ Duo w.heap.size [.string nm, .slice pa pl pc, .int .u8 r, .slice va vl vc, .slice aa al ac, .slice ba bl bc] [.int .u8 9, .int .u8 op, .int .i64 dst, .slice xa xn xc, .int .u64 bits, .int .i64 ref] w2) := ⟨below_trans H1.out.1 hb, H1.out.2.below hb⟩; clear f0 f1 f2 f3 f4 f5 y0 y1 y2 y3 y4 y5; obtain ⟨g0, g1, g2, g3, g4, g5⟩ := box6 H2.out.2.g; obtain ⟨z0, z1, z2, z3, z4, z5⟩ := box6 H2.out.2.t; clear hb))
     | (go_at_call 118; refine Calls.mono (by with_reducible exact HID.out _) ?_; rintro e wx ⟨rfl, hwx⟩; subst wx))
    go_ret
    exact ⟨ret_bool (by rw [HR.out]), H2.out.1⟩
theorem aloneK_10 (G : Gr) (op dst : Int) (args : List Int) (bits ref : Int) : aloneR G ⟨10, op, dst, args, bits, ref⟩ = (plainB ⟨10, op, dst, args, bits, ref⟩ && (args.all (inB · G.vars.length) && ((args.length : Int) == 1))) := by
 unfold aloneR kindR
 simp
set_option maxRecDepth 100000 in
set_option maxHeartbeats 4000000 in
theorem alone_10 (G : Gr) (pv vv av bv : Value) (op dst : Int) (args : List Int) (bits ref : Int) (xv : Value) (w : World) (h : GrAt w pv vv av bv G) (hA : IntsAt w xv args) (_hbits : 0 ≤ bits ∧ bits < 18446744073709551616) :
  Calls Tryz.prog 61 #[.agg #[.string G.name, pv, .int .u8 G.result, vv, av, bv], inV ⟨10, op, dst, args, bits, ref⟩ xv] w fun e w' => e = .returned (.bool (aloneR G ⟨10, op, dst, args, bits, ref⟩)) ∧ Below w.heap.size w w' := by
 have HPN : Hid (∀ W, Below w.heap.size w W → Calls Tryz.prog 119 #[inV ⟨10, op, dst, args, bits, ref⟩ xv] W fun e w' => e = .returned (.bool (plainB ⟨10, op, dst, args, bits, ref⟩)) ∧ Below W.heap.size W w') := fun W hb => rplain_any ⟨10, op, dst, args, bits, ref⟩ xv W (hA.below hb) (show (1 : Int) ≤ 10 by decide) (show (10 : Int) ≤ 10 by decide)
 have HVR : Hid (∀ W, Below w.heap.size w W → Calls Tryz.prog 115 #[.agg #[.string G.name, pv, .int .u8 G.result, vv, av, bv], xv] W fun e w' => e = .returned (.bool (args.all (inB · G.vars.length))) ∧ Below W.heap.size W w') := fun W hb => rvars_any G pv vv av bv args xv W (h.below hb) (hA.below hb)
 obtain ⟨pa, pc, va, vc, aa, ac, ba, bc, rfl, rfl, rfl, rfl, _, _, _, _⟩ := h.openF
 obtain ⟨xa, xc, rfl, hxl⟩ := hA.form
 obtain ⟨R, hR⟩ : ∃ R, R = aloneR G ⟨10, op, dst, args, bits, ref⟩ := ⟨_, rfl⟩
 rw [← hR]
 rw [aloneK_10] at hR
 clear h hA
 generalize plainB ⟨10, op, dst, args, bits, ref⟩ = bp at *
 generalize hva : args.all (inB · G.vars.length) = bv' at *
 generalize hxn : args.length = xn at *
 generalize hvl : G.vars.length = vl at *
 generalize hal : G.arrs.length = al at *
 generalize G.name = nm at *
 generalize G.params.length = pl at *
 generalize G.blocks.length = bl at *
 generalize G.result = r at *
 clear hva hxn hvl hal
 have H0 : Hid (Below w.heap.size w ((w.alloc (.cells #[.string nm, .slice pa pl pc, .int .u8 r, .slice va vl vc, .slice aa al ac, .slice ba bl bc] 28)).alloc (.cells #[.int .u8 10, .int .u8 op, .int .i64 dst, .slice xa xn xc, .int .u64 bits, .int .i64 ref] 55)) ∧ Duo w.heap.size [.string nm, .slice pa pl pc, .int .u8 r, .slice va vl vc, .slice aa al ac, .slice ba bl bc] [.int .u8 10, .int .u8 op, .int .i64 dst, .slice xa xn xc, .int .u64 bits, .int .i64 ref] ((w.alloc (.cells #[.string nm, .slice pa pl pc, .int .u8 r, .slice va vl vc, .slice aa al ac, .slice ba bl bc] 28)).alloc (.cells #[.int .u8 10, .int .u8 op, .int .i64 dst, .slice xa xn xc, .int .u64 bits, .int .i64 ref] 55))) := ⟨below_alloc (below_alloc (Below.refl _ _) _) _, Duo.new w [.string nm, .slice pa pl pc, .int .u8 r, .slice va vl vc, .slice aa al ac, .slice ba bl bc] [.int .u8 10, .int .u8 op, .int .i64 dst, .slice xa xn xc, .int .u64 bits, .int .i64 ref] 28 55⟩
 cases bp with
 | false =>
  have HR : Hid (R = false) := by show _ = _; rw [hR]; simp
  clear hR
  go_enter Tryz.func61, Tryz.ntmps61
  go_wp2_with (first
   | (go_at_call 119; go_loud (refine Calls.mono (by exact HPN.out _ H0.out.1) ?_; rintro e w1 ⟨rfl, hb⟩; have H1 : Hid (Below w.heap.size w w1 ∧ Duo w.heap.size [.string nm, .slice pa pl pc, .int .u8 r, .slice va vl vc, .slice aa al ac, .slice ba bl bc] [.int .u8 10, .int .u8 op, .int .i64 dst, .slice xa xn xc, .int .u64 bits, .int .i64 ref] w1) := ⟨below_trans H0.out.1 hb, H0.out.2.below hb⟩; obtain ⟨f0, f1, f2, f3, f4, f5⟩ := box6 H1.out.2.g; obtain ⟨y0, y1, y2, y3, y4, y5⟩ := box6 H1.out.2.t; clear hb)))
  go_ret
  exact ⟨ret_bool HR.out.symm, H1.out.1⟩
 | true =>
  cases bv' with
  | false =>
   have HR : Hid (R = false) := by show _ = _; rw [hR]; simp
   clear hR
   go_enter Tryz.func61, Tryz.ntmps61
   go_wp2_with (first
    | (go_at_call 119; go_loud (refine Calls.mono (by exact HPN.out _ H0.out.1) ?_; rintro e w1 ⟨rfl, hb⟩; have H1 : Hid (Below w.heap.size w w1 ∧ Duo w.heap.size [.string nm, .slice pa pl pc, .int .u8 r, .slice va vl vc, .slice aa al ac, .slice ba bl bc] [.int .u8 10, .int .u8 op, .int .i64 dst, .slice xa xn xc, .int .u64 bits, .int .i64 ref] w1) := ⟨below_trans H0.out.1 hb, H0.out.2.below hb⟩; obtain ⟨f0, f1, f2, f3, f4, f5⟩ := box6 H1.out.2.g; obtain ⟨y0, y1, y2, y3, y4, y5⟩ := box6 H1.out.2.t; clear hb))
    | (go_at_call 115; go_loud (refine Calls.mono (by exact HVR.out _ H1.out.1) ?_; rintro e w2 ⟨rfl, hb⟩; have H2 : Hid (Below w.heap.size w w2 ∧ Duo w.heap.size [.string nm, .slice pa pl pc, .int .u8 r, .slice va vl vc, .slice aa al ac, .slice ba bl bc] [.int .u8 10, .int .u8 op, .int .i64 dst, .slice xa xn xc, .int .u64 bits, .int .i64 ref] w2) := ⟨below_trans H1.out.1 hb, H1.out.2.below hb⟩; clear f0 f1 f2 f3 f4 f5 y0 y1 y2 y3 y4 y5; obtain ⟨g0, g1, g2, g3, g4, g5⟩ := box6 H2.out.2.g; obtain ⟨z0, z1, z2, z3, z4, z5⟩ := box6 H2.out.2.t; clear hb)))
   go_ret
   exact ⟨ret_bool HR.out.symm, H2.out.1⟩
  | true =>
   simp only [Bool.true_and] at hR
   have HR : Hid (R = ((xn : Int) == 1)) := hR
   clear hR
   go_enter Tryz.func61, Tryz.ntmps61
   go_wp2_with (first
    | (go_at_call 119; go_loud (refine Calls.mono (by exact HPN.out _ H0.out.1) ?_; rintro e w1 ⟨rfl, hb⟩; have H1 : Hid (Below w.heap.size w w1 ∧ Duo w.heap.size [.string nm, .slice pa pl pc, .int .u8 r, .slice va vl vc, .slice aa al ac, .slice ba bl bc] [.int .u8 10, .int .u8 op, .int .i64 dst, .slice xa xn xc, .int .u64 bits, .int .i64 ref] w1) := ⟨below_trans H0.out.1 hb, H0.out.2.below hb⟩; obtain ⟨f0, f1, f2, f3, f4, f5⟩ := box6 H1.out.2.g; obtain ⟨y0, y1, y2, y3, y4, y5⟩ := box6 H1.out.2.t; clear hb))
    | (go_at_call 115; go_loud (refine Calls.mono (by exact HVR.out _ H1.out.1) ?_; rintro e w2 ⟨rfl, hb⟩; have H2 : Hid (Below w.heap.size w w2 ∧ Duo w.heap.size [.string nm, .slice pa pl pc, .int .u8 r, .slice va vl vc, .slice aa al ac, .slice ba bl bc] [.int .u8 10, .int .u8 op, .int .i64 dst, .slice xa xn xc, .int .u64 bits, .int .i64 ref] w2) := ⟨below_trans H1.out.1 hb, H1.out.2.below hb⟩; clear f0 f1 f2 f3 f4 f5 y0 y1 y2 y3 y4 y5; obtain ⟨g0, g1, g2, g3, g4, g5⟩ := box6 H2.out.2.g; obtain ⟨z0, z1, z2, z3, z4, z5⟩ := box6 H2.out.2.t; clear hb)))
   go_ret
   exact ⟨ret_bool (by rw [HR.out]), H2.out.1⟩
end Go.Proofs.YtajaijilfclhpaaGreatDoor
