/- The document's side: may an instruction stand, calls but for what they call?  -/
import Derived.Test.YtcggbedjhglmmaaGreatDoorGRAlnA
import Derived.Test.YtcggbedjhglmmaaGreatDoorGRAlnB
import Derived.Test.YtcggbedjhglmmaaGreatDoorGRAlnC
import Derived.Test.YtcggbedjhglmmaaGreatDoorGFit2M
import Derived.Lib.QuietBelow
namespace Go.Proofs.YtcggbedjhglmmaaGreatDoor
open Go.RowKit Go.Sort

theorem aloneK_8 (G : Gr) (op dst : Int) (args : List Int) (bits ref : Int) : aloneR G ⟨8, op, dst, args, bits, ref⟩ = (plainB ⟨8, op, dst, args, bits, ref⟩ && (args.all (inB · G.vars.length) && (inB ref G.arrs.length && true))) := by
  unfold aloneR kindR
  simp
set_option maxRecDepth 100000 in
set_option maxHeartbeats 4000000 in
theorem alone_8 (G : Gr) (pv vv av bv : Value) (op dst : Int) (args : List Int) (bits ref : Int) (xv : Value) (w : World) (h : GrAt w pv vv av bv G) (hA : IntsAt w xv args) (_hbits : 0 ≤ bits ∧ bits < 18446744073709551616) :
    Calls Tryz.prog 46 #[.agg #[.string G.name, pv, .int .u8 G.result, vv, av, bv], inV ⟨8, op, dst, args, bits, ref⟩ xv] w fun e w' => e = .returned (.bool (aloneR G ⟨8, op, dst, args, bits, ref⟩)) ∧ Below w.heap.size w w' := by
  have HPN : Hid (∀ W, Below w.heap.size w W → Calls Tryz.prog 80 #[inV ⟨8, op, dst, args, bits, ref⟩ xv] W fun e w' => e = .returned (.bool (plainB ⟨8, op, dst, args, bits, ref⟩)) ∧ Below W.heap.size W w') := fun W hb => rplain_any ⟨8, op, dst, args, bits, ref⟩ xv W (hA.below hb) (show (1 : Int) ≤ 8 by decide) (show (8 : Int) ≤ 10 by decide)
  have HVR : Hid (∀ W, Below w.heap.size w W → Calls Tryz.prog 77 #[.agg #[.string G.name, pv, .int .u8 G.result, vv, av, bv], xv] W fun e w' => e = .returned (.bool (args.all (inB · G.vars.length))) ∧ Below W.heap.size W w') := fun W hb => rvars_any G pv vv av bv args xv W (h.below hb) (hA.below hb)
  obtain ⟨pa, pc, va, vc, aa, ac, ba, bc, rfl, rfl, rfl, rfl, _, _, _, _⟩ := h.openF
  obtain ⟨xa, xc, rfl, hxl⟩ := hA.form
  have HIR : Hid (∀ W, Calls Tryz.prog 49 #[.int .i64 ref, .int .i64 (G.arrs.length : Int)] W fun e w' => e = .returned (.bool (inB ref G.arrs.length)) ∧ w' = W) := fun W => rin_any ref _ W
  have HAA : Hid (∀ i, i < G.arrs.length → _) := fun i hi => ArrsAt.get h.ars (i := i) hi
  obtain ⟨R, hR⟩ : ∃ R, R = aloneR G ⟨8, op, dst, args, bits, ref⟩ := ⟨_, rfl⟩
  rw [← hR]
  rw [aloneK_8] at hR
  clear h hA
  generalize plainB ⟨8, op, dst, args, bits, ref⟩ = bp at *
  generalize hva : args.all (inB · G.vars.length) = bv' at *
  generalize hxn : args.length = xn at *
  generalize hvl : G.vars.length = vl at *
  generalize hal : G.arrs.length = al at *
  generalize G.name = nm at *
  generalize G.params.length = pl at *
  generalize G.blocks.length = bl at *
  generalize G.result = r at *
  clear hva hxn hvl hal
  have H0 : Hid (Below w.heap.size w ((w.alloc (.cells #[.string nm, .slice pa pl pc, .int .u8 r, .slice va vl vc, .slice aa al ac, .slice ba bl bc] 28)).alloc (.cells #[.int .u8 8, .int .u8 op, .int .i64 dst, .slice xa xn xc, .int .u64 bits, .int .i64 ref] 54)) ∧ Duo w.heap.size [.string nm, .slice pa pl pc, .int .u8 r, .slice va vl vc, .slice aa al ac, .slice ba bl bc] [.int .u8 8, .int .u8 op, .int .i64 dst, .slice xa xn xc, .int .u64 bits, .int .i64 ref] ((w.alloc (.cells #[.string nm, .slice pa pl pc, .int .u8 r, .slice va vl vc, .slice aa al ac, .slice ba bl bc] 28)).alloc (.cells #[.int .u8 8, .int .u8 op, .int .i64 dst, .slice xa xn xc, .int .u64 bits, .int .i64 ref] 54))) := ⟨below_alloc (below_alloc (Below.refl _ _) _) _, Duo.new w [.string nm, .slice pa pl pc, .int .u8 r, .slice va vl vc, .slice aa al ac, .slice ba bl bc] [.int .u8 8, .int .u8 op, .int .i64 dst, .slice xa xn xc, .int .u64 bits, .int .i64 ref] 28 54⟩
  cases bp with
  | false =>
    have HR : Hid (R = false) := by show _ = _; rw [hR]; simp
    clear hR HAA
    go_enter Tryz.func46, Tryz.ntmps46
    go_wp2_with (first
      | (go_at_call 80; go_loud (refine Calls.mono (by exact HPN.out _ H0.out.1) ?_; rintro e w1 ⟨rfl, hb⟩; have H1 : Hid (Below w.heap.size w w1 ∧ Duo w.heap.size [.string nm, .slice pa pl pc, .int .u8 r, .slice va vl vc, .slice aa al ac, .slice ba bl bc] [.int .u8 8, .int .u8 op, .int .i64 dst, .slice xa xn xc, .int .u64 bits, .int .i64 ref] w1) := ⟨below_trans H0.out.1 hb, H0.out.2.below hb⟩; obtain ⟨f0, f1, f2, f3, f4, f5⟩ := box6 H1.out.2.g; obtain ⟨y0, y1, y2, y3, y4, y5⟩ := box6 H1.out.2.t; clear hb)))
    go_ret
    exact ⟨ret_bool HR.out.symm, H1.out.1⟩
  | true =>
    cases bv' with
    | false =>
      have HR : Hid (R = false) := by show _ = _; rw [hR]; simp
      clear hR HAA
      go_enter Tryz.func46, Tryz.ntmps46
      go_wp2_with (first
        | (go_at_call 80; go_loud (refine Calls.mono (by exact HPN.out _ H0.out.1) ?_; rintro e w1 ⟨rfl, hb⟩; have H1 : Hid (Below w.heap.size w w1 ∧ Duo w.heap.size [.string nm, .slice pa pl pc, .int .u8 r, .slice va vl vc, .slice aa al ac, .slice ba bl bc] [.int .u8 8, .int .u8 op, .int .i64 dst, .slice xa xn xc, .int .u64 bits, .int .i64 ref] w1) := ⟨below_trans H0.out.1 hb, H0.out.2.below hb⟩; obtain ⟨f0, f1, f2, f3, f4, f5⟩ := box6 H1.out.2.g; obtain ⟨y0, y1, y2, y3, y4, y5⟩ := box6 H1.out.2.t; clear hb))
        | (go_at_call 77; go_loud (refine Calls.mono (by exact HVR.out _ H1.out.1) ?_; rintro e w2 ⟨rfl, hb⟩; have H2 : Hid (Below w.heap.size w w2 ∧ Duo w.heap.size [.string nm, .slice pa pl pc, .int .u8 r, .slice va vl vc, .slice aa al ac, .slice ba bl bc] [.int .u8 8, .int .u8 op, .int .i64 dst, .slice xa xn xc, .int .u64 bits, .int .i64 ref] w2) := ⟨below_trans H1.out.1 hb, H1.out.2.below hb⟩; clear f0 f1 f2 f3 f4 f5 y0 y1 y2 y3 y4 y5; obtain ⟨g0, g1, g2, g3, g4, g5⟩ := box6 H2.out.2.g; obtain ⟨z0, z1, z2, z3, z4, z5⟩ := box6 H2.out.2.t; clear hb)))
      go_ret
      exact ⟨ret_bool HR.out.symm, H2.out.1⟩
    | true =>
      simp only [Bool.true_and] at hR
      cases hir : inB ref al with
      | false =>
        rw [hir] at hR HIR
        have HR : Hid (R = false) := by show _ = _; rw [hR]; simp
        clear hR HAA
        clear hir
        go_enter Tryz.func46, Tryz.ntmps46
        go_wp2_with (first
          | (go_at_call 80; go_loud (refine Calls.mono (by exact HPN.out _ H0.out.1) ?_; rintro e w1 ⟨rfl, hb⟩; have H1 : Hid (Below w.heap.size w w1 ∧ Duo w.heap.size [.string nm, .slice pa pl pc, .int .u8 r, .slice va vl vc, .slice aa al ac, .slice ba bl bc] [.int .u8 8, .int .u8 op, .int .i64 dst, .slice xa xn xc, .int .u64 bits, .int .i64 ref] w1) := ⟨below_trans H0.out.1 hb, H0.out.2.below hb⟩; obtain ⟨f0, f1, f2, f3, f4, f5⟩ := box6 H1.out.2.g; obtain ⟨y0, y1, y2, y3, y4, y5⟩ := box6 H1.out.2.t; clear hb))
          | (go_at_call 77; go_loud (refine Calls.mono (by exact HVR.out _ H1.out.1) ?_; rintro e w2 ⟨rfl, hb⟩; have H2 : Hid (Below w.heap.size w w2 ∧ Duo w.heap.size [.string nm, .slice pa pl pc, .int .u8 r, .slice va vl vc, .slice aa al ac, .slice ba bl bc] [.int .u8 8, .int .u8 op, .int .i64 dst, .slice xa xn xc, .int .u64 bits, .int .i64 ref] w2) := ⟨below_trans H1.out.1 hb, H1.out.2.below hb⟩; clear f0 f1 f2 f3 f4 f5 y0 y1 y2 y3 y4 y5; obtain ⟨g0, g1, g2, g3, g4, g5⟩ := box6 H2.out.2.g; obtain ⟨z0, z1, z2, z3, z4, z5⟩ := box6 H2.out.2.t; clear hb))
          | (go_at_call 49; refine Calls.mono (by with_reducible exact HIR.out _) ?_; rintro e wx ⟨rfl, hwx⟩; subst wx))
        go_ret
        exact ⟨ret_bool HR.out.symm, H2.out.1⟩
      | true =>
        rw [hir, Bool.true_and] at hR
        rw [hir] at HIR
        have HR : Hid (R = true) := hR
        clear hR HAA
        clear hir
        go_enter Tryz.func46, Tryz.ntmps46
        go_wp2_with (first
          | (go_at_call 80; go_loud (refine Calls.mono (by exact HPN.out _ H0.out.1) ?_; rintro e w1 ⟨rfl, hb⟩; have H1 : Hid (Below w.heap.size w w1 ∧ Duo w.heap.size [.string nm, .slice pa pl pc, .int .u8 r, .slice va vl vc, .slice aa al ac, .slice ba bl bc] [.int .u8 8, .int .u8 op, .int .i64 dst, .slice xa xn xc, .int .u64 bits, .int .i64 ref] w1) := ⟨below_trans H0.out.1 hb, H0.out.2.below hb⟩; obtain ⟨f0, f1, f2, f3, f4, f5⟩ := box6 H1.out.2.g; obtain ⟨y0, y1, y2, y3, y4, y5⟩ := box6 H1.out.2.t; clear hb))
          | (go_at_call 77; go_loud (refine Calls.mono (by exact HVR.out _ H1.out.1) ?_; rintro e w2 ⟨rfl, hb⟩; have H2 : Hid (Below w.heap.size w w2 ∧ Duo w.heap.size [.string nm, .slice pa pl pc, .int .u8 r, .slice va vl vc, .slice aa al ac, .slice ba bl bc] [.int .u8 8, .int .u8 op, .int .i64 dst, .slice xa xn xc, .int .u64 bits, .int .i64 ref] w2) := ⟨below_trans H1.out.1 hb, H1.out.2.below hb⟩; clear f0 f1 f2 f3 f4 f5 y0 y1 y2 y3 y4 y5; obtain ⟨g0, g1, g2, g3, g4, g5⟩ := box6 H2.out.2.g; obtain ⟨z0, z1, z2, z3, z4, z5⟩ := box6 H2.out.2.t; clear hb))
          | (go_at_call 49; refine Calls.mono (by with_reducible exact HIR.out _) ?_; rintro e wx ⟨rfl, hwx⟩; subst wx))
        go_ret
        exact ⟨ret_bool HR.out.symm, H2.out.1⟩
theorem aloneK_9 (G : Gr) (op dst : Int) (args : List Int) (bits ref : Int) : aloneR G ⟨9, op, dst, args, bits, ref⟩ = (plainB ⟨9, op, dst, args, bits, ref⟩ && (args.all (inB · G.vars.length) && (inB dst G.vars.length && decide (0 ≤ ref)))) := by
  unfold aloneR kindR
  simp
set_option maxRecDepth 100000 in
set_option maxHeartbeats 4000000 in
theorem alone_9 (G : Gr) (pv vv av bv : Value) (op dst : Int) (args : List Int) (bits ref : Int) (xv : Value) (w : World) (h : GrAt w pv vv av bv G) (hA : IntsAt w xv args) (_hbits : 0 ≤ bits ∧ bits < 18446744073709551616) :
    Calls Tryz.prog 46 #[.agg #[.string G.name, pv, .int .u8 G.result, vv, av, bv], inV ⟨9, op, dst, args, bits, ref⟩ xv] w fun e w' => e = .returned (.bool (aloneR G ⟨9, op, dst, args, bits, ref⟩)) ∧ Below w.heap.size w w' := by
  have HPN : Hid (∀ W, Below w.heap.size w W → Calls Tryz.prog 80 #[inV ⟨9, op, dst, args, bits, ref⟩ xv] W fun e w' => e = .returned (.bool (plainB ⟨9, op, dst, args, bits, ref⟩)) ∧ Below W.heap.size W w') := fun W hb => rplain_any ⟨9, op, dst, args, bits, ref⟩ xv W (hA.below hb) (show (1 : Int) ≤ 9 by decide) (show (9 : Int) ≤ 10 by decide)
  have HVR : Hid (∀ W, Below w.heap.size w W → Calls Tryz.prog 77 #[.agg #[.string G.name, pv, .int .u8 G.result, vv, av, bv], xv] W fun e w' => e = .returned (.bool (args.all (inB · G.vars.length))) ∧ Below W.heap.size W w') := fun W hb => rvars_any G pv vv av bv args xv W (h.below hb) (hA.below hb)
  obtain ⟨pa, pc, va, vc, aa, ac, ba, bc, rfl, rfl, rfl, rfl, _, _, _, _⟩ := h.openF
  obtain ⟨xa, xc, rfl, hxl⟩ := hA.form
  have HID : Hid (∀ W, Calls Tryz.prog 49 #[.int .i64 dst, .int .i64 (G.vars.length : Int)] W fun e w' => e = .returned (.bool (inB dst G.vars.length)) ∧ w' = W) := fun W => rin_any dst _ W
  obtain ⟨R, hR⟩ : ∃ R, R = aloneR G ⟨9, op, dst, args, bits, ref⟩ := ⟨_, rfl⟩
  rw [← hR]
  rw [aloneK_9] at hR
  clear h hA
  generalize plainB ⟨9, op, dst, args, bits, ref⟩ = bp at *
  generalize hva : args.all (inB · G.vars.length) = bv' at *
  generalize hxn : args.length = xn at *
  generalize hvl : G.vars.length = vl at *
  generalize hal : G.arrs.length = al at *
  generalize G.name = nm at *
  generalize G.params.length = pl at *
  generalize G.blocks.length = bl at *
  generalize G.result = r at *
  clear hva hxn hvl hal
  have H0 : Hid (Below w.heap.size w ((w.alloc (.cells #[.string nm, .slice pa pl pc, .int .u8 r, .slice va vl vc, .slice aa al ac, .slice ba bl bc] 28)).alloc (.cells #[.int .u8 9, .int .u8 op, .int .i64 dst, .slice xa xn xc, .int .u64 bits, .int .i64 ref] 54)) ∧ Duo w.heap.size [.string nm, .slice pa pl pc, .int .u8 r, .slice va vl vc, .slice aa al ac, .slice ba bl bc] [.int .u8 9, .int .u8 op, .int .i64 dst, .slice xa xn xc, .int .u64 bits, .int .i64 ref] ((w.alloc (.cells #[.string nm, .slice pa pl pc, .int .u8 r, .slice va vl vc, .slice aa al ac, .slice ba bl bc] 28)).alloc (.cells #[.int .u8 9, .int .u8 op, .int .i64 dst, .slice xa xn xc, .int .u64 bits, .int .i64 ref] 54))) := ⟨below_alloc (below_alloc (Below.refl _ _) _) _, Duo.new w [.string nm, .slice pa pl pc, .int .u8 r, .slice va vl vc, .slice aa al ac, .slice ba bl bc] [.int .u8 9, .int .u8 op, .int .i64 dst, .slice xa xn xc, .int .u64 bits, .int .i64 ref] 28 54⟩
  cases bp with
  | false =>
    have HR : Hid (R = false) := by show _ = _; rw [hR]; simp
    clear hR
    go_enter Tryz.func46, Tryz.ntmps46
    go_wp2_with (first
      | (go_at_call 80; go_loud (refine Calls.mono (by exact HPN.out _ H0.out.1) ?_; rintro e w1 ⟨rfl, hb⟩; have H1 : Hid (Below w.heap.size w w1 ∧ Duo w.heap.size [.string nm, .slice pa pl pc, .int .u8 r, .slice va vl vc, .slice aa al ac, .slice ba bl bc] [.int .u8 9, .int .u8 op, .int .i64 dst, .slice xa xn xc, .int .u64 bits, .int .i64 ref] w1) := ⟨below_trans H0.out.1 hb, H0.out.2.below hb⟩; obtain ⟨f0, f1, f2, f3, f4, f5⟩ := box6 H1.out.2.g; obtain ⟨y0, y1, y2, y3, y4, y5⟩ := box6 H1.out.2.t; clear hb)))
    go_ret
    exact ⟨ret_bool HR.out.symm, H1.out.1⟩
  | true =>
    cases bv' with
    | false =>
      have HR : Hid (R = false) := by show _ = _; rw [hR]; simp
      clear hR
      go_enter Tryz.func46, Tryz.ntmps46
      go_wp2_with (first
        | (go_at_call 80; go_loud (refine Calls.mono (by exact HPN.out _ H0.out.1) ?_; rintro e w1 ⟨rfl, hb⟩; have H1 : Hid (Below w.heap.size w w1 ∧ Duo w.heap.size [.string nm, .slice pa pl pc, .int .u8 r, .slice va vl vc, .slice aa al ac, .slice ba bl bc] [.int .u8 9, .int .u8 op, .int .i64 dst, .slice xa xn xc, .int .u64 bits, .int .i64 ref] w1) := ⟨below_trans H0.out.1 hb, H0.out.2.below hb⟩; obtain ⟨f0, f1, f2, f3, f4, f5⟩ := box6 H1.out.2.g; obtain ⟨y0, y1, y2, y3, y4, y5⟩ := box6 H1.out.2.t; clear hb))
        | (go_at_call 77; go_loud (refine Calls.mono (by exact HVR.out _ H1.out.1) ?_; rintro e w2 ⟨rfl, hb⟩; have H2 : Hid (Below w.heap.size w w2 ∧ Duo w.heap.size [.string nm, .slice pa pl pc, .int .u8 r, .slice va vl vc, .slice aa al ac, .slice ba bl bc] [.int .u8 9, .int .u8 op, .int .i64 dst, .slice xa xn xc, .int .u64 bits, .int .i64 ref] w2) := ⟨below_trans H1.out.1 hb, H1.out.2.below hb⟩; clear f0 f1 f2 f3 f4 f5 y0 y1 y2 y3 y4 y5; obtain ⟨g0, g1, g2, g3, g4, g5⟩ := box6 H2.out.2.g; obtain ⟨z0, z1, z2, z3, z4, z5⟩ := box6 H2.out.2.t; clear hb)))
      go_ret
      exact ⟨ret_bool HR.out.symm, H2.out.1⟩
    | true =>
      simp only [Bool.true_and] at hR
      cases hid : inB dst vl with
      | false =>
        rw [hid] at hR HID
        have HR : Hid (R = false) := by show _ = _; rw [hR]; simp
        clear hR
        clear hid
        go_enter Tryz.func46, Tryz.ntmps46
        go_wp2_with (first
          | (go_at_call 80; go_loud (refine Calls.mono (by exact HPN.out _ H0.out.1) ?_; rintro e w1 ⟨rfl, hb⟩; have H1 : Hid (Below w.heap.size w w1 ∧ Duo w.heap.size [.string nm, .slice pa pl pc, .int .u8 r, .slice va vl vc, .slice aa al ac, .slice ba bl bc] [.int .u8 9, .int .u8 op, .int .i64 dst, .slice xa xn xc, .int .u64 bits, .int .i64 ref] w1) := ⟨below_trans H0.out.1 hb, H0.out.2.below hb⟩; obtain ⟨f0, f1, f2, f3, f4, f5⟩ := box6 H1.out.2.g; obtain ⟨y0, y1, y2, y3, y4, y5⟩ := box6 H1.out.2.t; clear hb))
          | (go_at_call 77; go_loud (refine Calls.mono (by exact HVR.out _ H1.out.1) ?_; rintro e w2 ⟨rfl, hb⟩; have H2 : Hid (Below w.heap.size w w2 ∧ Duo w.heap.size [.string nm, .slice pa pl pc, .int .u8 r, .slice va vl vc, .slice aa al ac, .slice ba bl bc] [.int .u8 9, .int .u8 op, .int .i64 dst, .slice xa xn xc, .int .u64 bits, .int .i64 ref] w2) := ⟨below_trans H1.out.1 hb, H1.out.2.below hb⟩; clear f0 f1 f2 f3 f4 f5 y0 y1 y2 y3 y4 y5; obtain ⟨g0, g1, g2, g3, g4, g5⟩ := box6 H2.out.2.g; obtain ⟨z0, z1, z2, z3, z4, z5⟩ := box6 H2.out.2.t; clear hb))
          | (go_at_call 49; refine Calls.mono (by with_reducible exact HID.out _) ?_; rintro e wx ⟨rfl, hwx⟩; subst wx))
        go_ret
        exact ⟨ret_bool HR.out.symm, H2.out.1⟩
      | true =>
        rw [hid, Bool.true_and] at hR
        rw [hid] at HID
        have HR : Hid (R = decide (0 ≤ ref)) := hR
        clear hR
        clear hid
        go_enter Tryz.func46, Tryz.ntmps46
        go_wp2_with (first
          | (go_at_call 80; go_loud (refine Calls.mono (by exact HPN.out _ H0.out.1) ?_; rintro e w1 ⟨rfl, hb⟩; have H1 : Hid (Below w.heap.size w w1 ∧ Duo w.heap.size [.string nm, .slice pa pl pc, .int .u8 r, .slice va vl vc, .slice aa al ac, .slice ba bl bc] [.int .u8 9, .int .u8 op, .int .i64 dst, .slice xa xn xc, .int .u64 bits, .int .i64 ref] w1) := ⟨below_trans H0.out.1 hb, H0.out.2.below hb⟩; obtain ⟨f0, f1, f2, f3, f4, f5⟩ := box6 H1.out.2.g; obtain ⟨y0, y1, y2, y3, y4, y5⟩ := box6 H1.out.2.t; clear hb))
          | (go_at_call 77; go_loud (refine Calls.mono (by exact HVR.out _ H1.out.1) ?_; rintro e w2 ⟨rfl, hb⟩; have H2 : Hid (Below w.heap.size w w2 ∧ Duo w.heap.size [.string nm, .slice pa pl pc, .int .u8 r, .slice va vl vc, .slice aa al ac, .slice ba bl bc] [.int .u8 9, .int .u8 op, .int .i64 dst, .slice xa xn xc, .int .u64 bits, .int .i64 ref] w2) := ⟨below_trans H1.out.1 hb, H1.out.2.below hb⟩; clear f0 f1 f2 f3 f4 f5 y0 y1 y2 y3 y4 y5; obtain ⟨g0, g1, g2, g3, g4, g5⟩ := box6 H2.out.2.g; obtain ⟨z0, z1, z2, z3, z4, z5⟩ := box6 H2.out.2.t; clear hb))
          | (go_at_call 49; refine Calls.mono (by with_reducible exact HID.out _) ?_; rintro e wx ⟨rfl, hwx⟩; subst wx))
        go_ret
        exact ⟨ret_bool (by rw [HR.out]), H2.out.1⟩
theorem aloneK_10 (G : Gr) (op dst : Int) (args : List Int) (bits ref : Int) : aloneR G ⟨10, op, dst, args, bits, ref⟩ = (plainB ⟨10, op, dst, args, bits, ref⟩ && (args.all (inB · G.vars.length) && ((args.length : Int) == 1))) := by
  unfold aloneR kindR
  simp
set_option maxRecDepth 100000 in
set_option maxHeartbeats 4000000 in
theorem alone_10 (G : Gr) (pv vv av bv : Value) (op dst : Int) (args : List Int) (bits ref : Int) (xv : Value) (w : World) (h : GrAt w pv vv av bv G) (hA : IntsAt w xv args) (_hbits : 0 ≤ bits ∧ bits < 18446744073709551616) :
    Calls Tryz.prog 46 #[.agg #[.string G.name, pv, .int .u8 G.result, vv, av, bv], inV ⟨10, op, dst, args, bits, ref⟩ xv] w fun e w' => e = .returned (.bool (aloneR G ⟨10, op, dst, args, bits, ref⟩)) ∧ Below w.heap.size w w' := by
  have HPN : Hid (∀ W, Below w.heap.size w W → Calls Tryz.prog 80 #[inV ⟨10, op, dst, args, bits, ref⟩ xv] W fun e w' => e = .returned (.bool (plainB ⟨10, op, dst, args, bits, ref⟩)) ∧ Below W.heap.size W w') := fun W hb => rplain_any ⟨10, op, dst, args, bits, ref⟩ xv W (hA.below hb) (show (1 : Int) ≤ 10 by decide) (show (10 : Int) ≤ 10 by decide)
  have HVR : Hid (∀ W, Below w.heap.size w W → Calls Tryz.prog 77 #[.agg #[.string G.name, pv, .int .u8 G.result, vv, av, bv], xv] W fun e w' => e = .returned (.bool (args.all (inB · G.vars.length))) ∧ Below W.heap.size W w') := fun W hb => rvars_any G pv vv av bv args xv W (h.below hb) (hA.below hb)
  obtain ⟨pa, pc, va, vc, aa, ac, ba, bc, rfl, rfl, rfl, rfl, _, _, _, _⟩ := h.openF
  obtain ⟨xa, xc, rfl, hxl⟩ := hA.form
  obtain ⟨R, hR⟩ : ∃ R, R = aloneR G ⟨10, op, dst, args, bits, ref⟩ := ⟨_, rfl⟩
  rw [← hR]
  rw [aloneK_10] at hR
  clear h hA
  generalize plainB ⟨10, op, dst, args, bits, ref⟩ = bp at *
  generalize hva : args.all (inB · G.vars.length) = bv' at *
  generalize hxn : args.length = xn at *
  generalize hvl : G.vars.length = vl at *
  generalize hal : G.arrs.length = al at *
  generalize G.name = nm at *
  generalize G.params.length = pl at *
  generalize G.blocks.length = bl at *
  generalize G.result = r at *
  clear hva hxn hvl hal
  have H0 : Hid (Below w.heap.size w ((w.alloc (.cells #[.string nm, .slice pa pl pc, .int .u8 r, .slice va vl vc, .slice aa al ac, .slice ba bl bc] 28)).alloc (.cells #[.int .u8 10, .int .u8 op, .int .i64 dst, .slice xa xn xc, .int .u64 bits, .int .i64 ref] 54)) ∧ Duo w.heap.size [.string nm, .slice pa pl pc, .int .u8 r, .slice va vl vc, .slice aa al ac, .slice ba bl bc] [.int .u8 10, .int .u8 op, .int .i64 dst, .slice xa xn xc, .int .u64 bits, .int .i64 ref] ((w.alloc (.cells #[.string nm, .slice pa pl pc, .int .u8 r, .slice va vl vc, .slice aa al ac, .slice ba bl bc] 28)).alloc (.cells #[.int .u8 10, .int .u8 op, .int .i64 dst, .slice xa xn xc, .int .u64 bits, .int .i64 ref] 54))) := ⟨below_alloc (below_alloc (Below.refl _ _) _) _, Duo.new w [.string nm, .slice pa pl pc, .int .u8 r, .slice va vl vc, .slice aa al ac, .slice ba bl bc] [.int .u8 10, .int .u8 op, .int .i64 dst, .slice xa xn xc, .int .u64 bits, .int .i64 ref] 28 54⟩
  cases bp with
  | false =>
    have HR : Hid (R = false) := by show _ = _; rw [hR]; simp
    clear hR
    go_enter Tryz.func46, Tryz.ntmps46
    go_wp2_with (first
      | (go_at_call 80; go_loud (refine Calls.mono (by exact HPN.out _ H0.out.1) ?_; rintro e w1 ⟨rfl, hb⟩; have H1 : Hid (Below w.heap.size w w1 ∧ Duo w.heap.size [.string nm, .slice pa pl pc, .int .u8 r, .slice va vl vc, .slice aa al ac, .slice ba bl bc] [.int .u8 10, .int .u8 op, .int .i64 dst, .slice xa xn xc, .int .u64 bits, .int .i64 ref] w1) := ⟨below_trans H0.out.1 hb, H0.out.2.below hb⟩; obtain ⟨f0, f1, f2, f3, f4, f5⟩ := box6 H1.out.2.g; obtain ⟨y0, y1, y2, y3, y4, y5⟩ := box6 H1.out.2.t; clear hb)))
    go_ret
    exact ⟨ret_bool HR.out.symm, H1.out.1⟩
  | true =>
    cases bv' with
    | false =>
      have HR : Hid (R = false) := by show _ = _; rw [hR]; simp
      clear hR
      go_enter Tryz.func46, Tryz.ntmps46
      go_wp2_with (first
        | (go_at_call 80; go_loud (refine Calls.mono (by exact HPN.out _ H0.out.1) ?_; rintro e w1 ⟨rfl, hb⟩; have H1 : Hid (Below w.heap.size w w1 ∧ Duo w.heap.size [.string nm, .slice pa pl pc, .int .u8 r, .slice va vl vc, .slice aa al ac, .slice ba bl bc] [.int .u8 10, .int .u8 op, .int .i64 dst, .slice xa xn xc, .int .u64 bits, .int .i64 ref] w1) := ⟨below_trans H0.out.1 hb, H0.out.2.below hb⟩; obtain ⟨f0, f1, f2, f3, f4, f5⟩ := box6 H1.out.2.g; obtain ⟨y0, y1, y2, y3, y4, y5⟩ := box6 H1.out.2.t; clear hb))
        | (go_at_call 77; go_loud (refine Calls.mono (by exact HVR.out _ H1.out.1) ?_; rintro e w2 ⟨rfl, hb⟩; have H2 : Hid (Below w.heap.size w w2 ∧ Duo w.heap.size [.string nm, .slice pa pl pc, .int .u8 r, .slice va vl vc, .slice aa al ac, .slice ba bl bc] [.int .u8 10, .int .u8 op, .int .i64 dst, .slice xa xn xc, .int .u64 bits, .int .i64 ref] w2) := ⟨below_trans H1.out.1 hb, H1.out.2.below hb⟩; clear f0 f1 f2 f3 f4 f5 y0 y1 y2 y3 y4 y5; obtain ⟨g0, g1, g2, g3, g4, g5⟩ := box6 H2.out.2.g; obtain ⟨z0, z1, z2, z3, z4, z5⟩ := box6 H2.out.2.t; clear hb)))
      go_ret
      exact ⟨ret_bool HR.out.symm, H2.out.1⟩
    | true =>
      simp only [Bool.true_and] at hR
      have HR : Hid (R = ((xn : Int) == 1)) := hR
      clear hR
      go_enter Tryz.func46, Tryz.ntmps46
      go_wp2_with (first
        | (go_at_call 80; go_loud (refine Calls.mono (by exact HPN.out _ H0.out.1) ?_; rintro e w1 ⟨rfl, hb⟩; have H1 : Hid (Below w.heap.size w w1 ∧ Duo w.heap.size [.string nm, .slice pa pl pc, .int .u8 r, .slice va vl vc, .slice aa al ac, .slice ba bl bc] [.int .u8 10, .int .u8 op, .int .i64 dst, .slice xa xn xc, .int .u64 bits, .int .i64 ref] w1) := ⟨below_trans H0.out.1 hb, H0.out.2.below hb⟩; obtain ⟨f0, f1, f2, f3, f4, f5⟩ := box6 H1.out.2.g; obtain ⟨y0, y1, y2, y3, y4, y5⟩ := box6 H1.out.2.t; clear hb))
        | (go_at_call 77; go_loud (refine Calls.mono (by exact HVR.out _ H1.out.1) ?_; rintro e w2 ⟨rfl, hb⟩; have H2 : Hid (Below w.heap.size w w2 ∧ Duo w.heap.size [.string nm, .slice pa pl pc, .int .u8 r, .slice va vl vc, .slice aa al ac, .slice ba bl bc] [.int .u8 10, .int .u8 op, .int .i64 dst, .slice xa xn xc, .int .u64 bits, .int .i64 ref] w2) := ⟨below_trans H1.out.1 hb, H1.out.2.below hb⟩; clear f0 f1 f2 f3 f4 f5 y0 y1 y2 y3 y4 y5; obtain ⟨g0, g1, g2, g3, g4, g5⟩ := box6 H2.out.2.g; obtain ⟨z0, z1, z2, z3, z4, z5⟩ := box6 H2.out.2.t; clear hb)))
      go_ret
      exact ⟨ret_bool (by rw [HR.out]), H2.out.1⟩
end Go.Proofs.YtcggbedjhglmmaaGreatDoor
/- The document's side: may an instruction stand, calls but for what they call? All kinds. -/
namespace Go.Proofs.YtcggbedjhglmmaaGreatDoor
open Go.RowKit Go.Sort

set_option maxRecDepth 100000 in
theorem ralone_any (G : Gr) (pv vv av bv : Value) (x : In) (xv : Value) (w : World) (h : GrAt w pv vv av bv G) (hA : IntsAt w xv x.args) (hbits : 0 ≤ x.bits ∧ x.bits < 18446744073709551616) :
    Calls Tryz.prog 46 #[.agg #[.string G.name, pv, .int .u8 G.result, vv, av, bv], inV x xv] w fun e w' => e = .returned (.bool (aloneR G x)) ∧ Below w.heap.size w w' := by
  obtain ⟨k, op, dst, args, bits, ref⟩ := x
  dsimp only at hA hbits
  by_cases h1 : 1 ≤ k
  rotate_left
  · obtain ⟨pa, pc, va, vc, aa, ac, ba, bc, rfl, rfl, rfl, rfl, _, _, _, _⟩ := h.openF
    obtain ⟨xa, xc, rfl, hxl⟩ := hA.form
    have h1' : k < 1 := by omega
    have HR : Hid (aloneR G ⟨k, op, dst, args, bits, ref⟩ = false) := by show _ = _; unfold aloneR; rw [decide_eq_false h1]; rfl
    clear h hA h1
    generalize aloneR G ⟨k, op, dst, args, bits, ref⟩ = R at *
    go_enter Tryz.func46, Tryz.ntmps46
    go_wp2
    go_ret
    exact ⟨ret_bool HR.out.symm, below_alloc (below_alloc (Below.refl _ _) _) _⟩
  by_cases h10 : k ≤ 10
  rotate_left
  · obtain ⟨pa, pc, va, vc, aa, ac, ba, bc, rfl, rfl, rfl, rfl, _, _, _, _⟩ := h.openF
    obtain ⟨xa, xc, rfl, hxl⟩ := hA.form
    have h10' : 10 < k := by omega
    have HR : Hid (aloneR G ⟨k, op, dst, args, bits, ref⟩ = false) := by show _ = _; unfold aloneR; rw [decide_eq_false h10]; simp
    clear h hA h10
    generalize aloneR G ⟨k, op, dst, args, bits, ref⟩ = R at *
    go_enter Tryz.func46, Tryz.ntmps46
    go_wp2
    go_ret
    exact ⟨ret_bool HR.out.symm, below_alloc (below_alloc (Below.refl _ _) _) _⟩
  have hk : k = 1 ∨ k = 2 ∨ k = 3 ∨ k = 4 ∨ k = 5 ∨ k = 6 ∨ k = 7 ∨ k = 8 ∨ k = 9 ∨ k = 10 := by omega
  rcases hk with rfl | rfl | rfl | rfl | rfl | rfl | rfl | rfl | rfl | rfl
  · exact alone_1 G pv vv av bv op dst args bits ref xv w h hA hbits
  · exact alone_2 G pv vv av bv op dst args bits ref xv w h hA hbits
  · exact alone_3 G pv vv av bv op dst args bits ref xv w h hA hbits
  · exact alone_4 G pv vv av bv op dst args bits ref xv w h hA hbits
  · exact alone_5 G pv vv av bv op dst args bits ref xv w h hA hbits
  · exact alone_6 G pv vv av bv op dst args bits ref xv w h hA hbits
  · exact alone_7 G pv vv av bv op dst args bits ref xv w h hA hbits
  · exact alone_8 G pv vv av bv op dst args bits ref xv w h hA hbits
  · exact alone_9 G pv vv av bv op dst args bits ref xv w h hA hbits
  · exact alone_10 G pv vv av bv op dst args bits ref xv w h hA hbits
end Go.Proofs.YtcggbedjhglmmaaGreatDoor
/- Types of loads, stores and clears. -/
namespace Go.Proofs.YtcggbedjhglmmaaGreatDoor
open Go.RowKit Go.Sort

def arrOkB (vars : List Int) (t : Int) (x : In) : Bool :=
  if x.kind = 6 then isOfB vars (x.args.getD 0 0) 4 && isOfB vars x.dst t
  else if x.kind = 7 then isOfB vars (x.args.getD 0 0) 4 && isOfB vars (x.args.getD 1 0) t
  else true
set_option maxRecDepth 100000 in
set_option maxHeartbeats 2000000 in
theorem fitsArr_any (G : Gr) (pv vv av bv : Value) (x : In) (xv : Value) (t : Int) (w : World) (h : GrAt w pv vv av bv G) (hA : IntsAt w xv x.args) (h6 : x.kind = 6 → x.args.length = 1) (h7 : x.kind = 7 → x.args.length = 2) :
    Calls Tryz.prog 128 #[.agg #[.string G.name, pv, .int .u8 G.result, vv, av, bv], inV x xv, .int .u8 t] w fun e w' => e = .returned (.bool (arrOkB G.vars t x)) ∧ Below w.heap.size w w' := by
  have HOF : Hid (∀ v t W, Below w.heap.size w W → Calls Tryz.prog 111 #[.agg #[.string G.name, pv, .int .u8 G.result, vv, av, bv], .int .i64 v, .int .u8 t] W fun e w' => e = .returned (.bool (isOfB G.vars v t)) ∧ Below W.heap.size W w') := fun v t W hb => isOf_any G pv vv av bv v t W (h.below hb)
  obtain ⟨pa, pc, va, vc, aa, ac, ba, bc, rfl, rfl, rfl, rfl, _, _, _, _⟩ := h.openF
  obtain ⟨xa, xc, rfl, hxl⟩ := hA.form
  obtain ⟨kind, op, dst, args, bits, ref⟩ := x
  dsimp only at *
  unfold arrOkB
  dsimp only
  clear h
  generalize G.name = nm at *
  generalize G.params.length = pl at *
  generalize G.vars.length = vl at *
  generalize G.arrs.length = al at *
  generalize G.blocks.length = bl at *
  generalize G.result = r at *
  by_cases k6 : kind = 6
  · subst k6
    simp only [if_true]
    obtain ⟨ga, oa, rfl, hga, ca⟩ := hA.get (i := 0) (by have := h6 rfl; omega)
    rw [Nat.add_zero] at ca
    have hl0 : (0 : Int) < args.length := by have := h6 rfl; omega
    have HO1 : Hid _ := HOF.out (args.getD 0 0) 4
    have HO2 : Hid _ := HOF.out dst t
    generalize args.getD 0 0 = v0 at *
    have hm := h6 rfl
    rw [hm]
    clear hm hl0
    have HB0 : Hid (Below w.heap.size w ((w.alloc (.cells #[.string nm, .slice pa pl pc, .int .u8 r, .slice va vl vc, .slice aa al ac, .slice ba bl bc] 28)).alloc (.cells #[.int .u8 6, .int .u8 op, .int .i64 dst, .slice (some ⟨ga, oa, none⟩) 1 xc, .int .u64 bits, .int .i64 ref] 54)) ∧ Duo w.heap.size [.string nm, .slice pa pl pc, .int .u8 r, .slice va vl vc, .slice aa al ac, .slice ba bl bc] [.int .u8 6, .int .u8 op, .int .i64 dst, .slice (some ⟨ga, oa, none⟩) 1 xc, .int .u64 bits, .int .i64 ref] ((w.alloc (.cells #[.string nm, .slice pa pl pc, .int .u8 r, .slice va vl vc, .slice aa al ac, .slice ba bl bc] 28)).alloc (.cells #[.int .u8 6, .int .u8 op, .int .i64 dst, .slice (some ⟨ga, oa, none⟩) 1 xc, .int .u64 bits, .int .i64 ref] 54))) := ⟨below_alloc (below_alloc (Below.refl _ _) _) _, Duo.new w [.string nm, .slice pa pl pc, .int .u8 r, .slice va vl vc, .slice aa al ac, .slice ba bl bc] [.int .u8 6, .int .u8 op, .int .i64 dst, .slice (some ⟨ga, oa, none⟩) 1 xc, .int .u64 bits, .int .i64 ref] 28 54⟩
    generalize isOfB G.vars v0 4 = b1 at *
    generalize isOfB G.vars dst t = b2 at *
    clear h6 h7 hA HOF hxl
    cases b1 with
    | false =>
      go_enter Tryz.func128, Tryz.ntmps128
      go_wp2
      obtain ⟨W, hW⟩ : ∃ W, W = ((w.alloc (.cells #[.string nm, .slice pa pl pc, .int .u8 r, .slice va vl vc, .slice aa al ac, .slice ba bl bc] 28)).alloc (.cells #[.int .u8 6, .int .u8 op, .int .i64 dst, .slice (some ⟨ga, oa, none⟩) 1 xc, .int .u64 bits, .int .i64 ref] 54)) := ⟨_, rfl⟩
      rw [← hW] at HB0 ⊢
      clear hW
      obtain ⟨e0, e1, e2, e3, e4, e5⟩ := box6 HB0.out.2.g
      obtain ⟨x0, x1, x2, x3, x4, x5⟩ := box6 HB0.out.2.t
      have ke0 := cell_regrown e0
      have ke1 := cell_regrown e1
      have ke2 := cell_regrown e2
      have ke3 := cell_regrown e3
      have ke4 := cell_regrown e4
      have ke5 := cell_regrown e5
      have kx0 := cell_regrown x0
      have kx1 := cell_regrown x1
      have kx2 := cell_regrown x2
      have kx3 := cell_regrown x3
      have kx4 := cell_regrown x4
      have kx5 := cell_regrown x5
      have kca := cell_regrown ((HB0.out.1.cell (p := ⟨ga, oa, none⟩) hga).trans ca)
      have C1 : ∀ d os, _ := fun d os => Calls.regrown_of (HO1.out _ (below_trans HB0.out.1 (below_regrown W d os)))
      have C2 : ∀ d os, _ := fun d os => Calls.regrown_of (HO2.out _ (below_trans HB0.out.1 (below_regrown W d os)))
      have D1 : Hid _ := C1
      have D2 : Hid _ := C2
      clear C1 C2 e0 e1 e2 e3 e4 e5 x0 x1 x2 x3 x4 x5 ca
      refine wp_region_quiet_below (by kernel_rfl) (by kernel_rfl) ?_
      repeat (go_big_quiet_step ((with_reducible exact D1.out _ _)))
      refine wpQuiet_nil ?_
      intro _ hw'
      obtain ⟨⟨dq, osq⟩, hw''⟩ := hw'
      subst hw''
      go_wp2
      go_ret
      exact ⟨ret_bool (by simp), below_trans HB0.out.1 (below_regrown W dq osq)⟩
    | true =>
      go_enter Tryz.func128, Tryz.ntmps128
      go_wp2
      obtain ⟨W, hW⟩ : ∃ W, W = ((w.alloc (.cells #[.string nm, .slice pa pl pc, .int .u8 r, .slice va vl vc, .slice aa al ac, .slice ba bl bc] 28)).alloc (.cells #[.int .u8 6, .int .u8 op, .int .i64 dst, .slice (some ⟨ga, oa, none⟩) 1 xc, .int .u64 bits, .int .i64 ref] 54)) := ⟨_, rfl⟩
      rw [← hW] at HB0 ⊢
      clear hW
      obtain ⟨e0, e1, e2, e3, e4, e5⟩ := box6 HB0.out.2.g
      obtain ⟨x0, x1, x2, x3, x4, x5⟩ := box6 HB0.out.2.t
      have ke0 := cell_regrown e0
      have ke1 := cell_regrown e1
      have ke2 := cell_regrown e2
      have ke3 := cell_regrown e3
      have ke4 := cell_regrown e4
      have ke5 := cell_regrown e5
      have kx0 := cell_regrown x0
      have kx1 := cell_regrown x1
      have kx2 := cell_regrown x2
      have kx3 := cell_regrown x3
      have kx4 := cell_regrown x4
      have kx5 := cell_regrown x5
      have kca := cell_regrown ((HB0.out.1.cell (p := ⟨ga, oa, none⟩) hga).trans ca)
      have C1 : ∀ d os, _ := fun d os => Calls.regrown_of (HO1.out _ (below_trans HB0.out.1 (below_regrown W d os)))
      have C2 : ∀ d os, _ := fun d os => Calls.regrown_of (HO2.out _ (below_trans HB0.out.1 (below_regrown W d os)))
      have D1 : Hid _ := C1
      have D2 : Hid _ := C2
      clear C1 C2 e0 e1 e2 e3 e4 e5 x0 x1 x2 x3 x4 x5 ca
      refine wp_region_quiet_below (by kernel_rfl) (by kernel_rfl) ?_
      repeat (go_big_quiet_step ((first | with_reducible exact D1.out _ _ | with_reducible exact D2.out _ _)))
      refine wpQuiet_nil ?_
      intro _ hw'
      obtain ⟨⟨dq, osq⟩, hw''⟩ := hw'
      subst hw''
      go_wp2
      go_ret
      exact ⟨ret_bool (by simp), below_trans HB0.out.1 (below_regrown W dq osq)⟩
  by_cases k7 : kind = 7
  · subst k7
    simp only [if_true, show ¬ ((7 : Int) = 6) by omega, if_false]
    obtain ⟨ga, oa, rfl, hga, ca⟩ := hA.get (i := 0) (by have := h7 rfl; omega)
    obtain ⟨ga2, oa2, he2, _, cb⟩ := hA.get (i := 1) (by have := h7 rfl; omega)
    cases he2
    rw [Nat.add_zero] at ca
    have hl0 : (0 : Int) < args.length := by have := h7 rfl; omega
    have hl1 : (1 : Int) < args.length := by have := h7 rfl; omega
    have HO1 : Hid _ := HOF.out (args.getD 0 0) 4
    have HO2 : Hid _ := HOF.out (args.getD 1 0) t
    generalize args.getD 0 0 = v0 at *
    generalize args.getD 1 0 = v1 at *
    have hm := h7 rfl
    rw [hm]
    clear hm hl0 hl1
    have HB0 : Hid (Below w.heap.size w ((w.alloc (.cells #[.string nm, .slice pa pl pc, .int .u8 r, .slice va vl vc, .slice aa al ac, .slice ba bl bc] 28)).alloc (.cells #[.int .u8 7, .int .u8 op, .int .i64 dst, .slice (some ⟨ga, oa, none⟩) 2 xc, .int .u64 bits, .int .i64 ref] 54)) ∧ Duo w.heap.size [.string nm, .slice pa pl pc, .int .u8 r, .slice va vl vc, .slice aa al ac, .slice ba bl bc] [.int .u8 7, .int .u8 op, .int .i64 dst, .slice (some ⟨ga, oa, none⟩) 2 xc, .int .u64 bits, .int .i64 ref] ((w.alloc (.cells #[.string nm, .slice pa pl pc, .int .u8 r, .slice va vl vc, .slice aa al ac, .slice ba bl bc] 28)).alloc (.cells #[.int .u8 7, .int .u8 op, .int .i64 dst, .slice (some ⟨ga, oa, none⟩) 2 xc, .int .u64 bits, .int .i64 ref] 54))) := ⟨below_alloc (below_alloc (Below.refl _ _) _) _, Duo.new w [.string nm, .slice pa pl pc, .int .u8 r, .slice va vl vc, .slice aa al ac, .slice ba bl bc] [.int .u8 7, .int .u8 op, .int .i64 dst, .slice (some ⟨ga, oa, none⟩) 2 xc, .int .u64 bits, .int .i64 ref] 28 54⟩
    generalize isOfB G.vars v0 4 = b1 at *
    generalize isOfB G.vars v1 t = b2 at *
    clear h6 h7 hA HOF hxl
    cases b1 with
    | false =>
      go_enter Tryz.func128, Tryz.ntmps128
      go_wp2
      obtain ⟨W, hW⟩ : ∃ W, W = ((w.alloc (.cells #[.string nm, .slice pa pl pc, .int .u8 r, .slice va vl vc, .slice aa al ac, .slice ba bl bc] 28)).alloc (.cells #[.int .u8 7, .int .u8 op, .int .i64 dst, .slice (some ⟨ga, oa, none⟩) 2 xc, .int .u64 bits, .int .i64 ref] 54)) := ⟨_, rfl⟩
      rw [← hW] at HB0 ⊢
      clear hW
      obtain ⟨e0, e1, e2, e3, e4, e5⟩ := box6 HB0.out.2.g
      obtain ⟨x0, x1, x2, x3, x4, x5⟩ := box6 HB0.out.2.t
      have ke0 := cell_regrown e0
      have ke1 := cell_regrown e1
      have ke2 := cell_regrown e2
      have ke3 := cell_regrown e3
      have ke4 := cell_regrown e4
      have ke5 := cell_regrown e5
      have kx0 := cell_regrown x0
      have kx1 := cell_regrown x1
      have kx2 := cell_regrown x2
      have kx3 := cell_regrown x3
      have kx4 := cell_regrown x4
      have kx5 := cell_regrown x5
      have kca := cell_regrown ((HB0.out.1.cell (p := ⟨ga, oa, none⟩) hga).trans ca)
      have kcb := cell_regrown ((HB0.out.1.cell (p := ⟨ga, oa + 1, none⟩) hga).trans cb)
      have C1 : ∀ d os, _ := fun d os => Calls.regrown_of (HO1.out _ (below_trans HB0.out.1 (below_regrown W d os)))
      have C2 : ∀ d os, _ := fun d os => Calls.regrown_of (HO2.out _ (below_trans HB0.out.1 (below_regrown W d os)))
      have D1 : Hid _ := C1
      have D2 : Hid _ := C2
      clear C1 C2 e0 e1 e2 e3 e4 e5 x0 x1 x2 x3 x4 x5 ca cb
      refine wp_region_quiet_below (by kernel_rfl) (by kernel_rfl) ?_
      repeat (go_big_quiet_step ((with_reducible exact D1.out _ _)))
      refine wpQuiet_nil ?_
      intro _ hw'
      obtain ⟨⟨dq, osq⟩, hw''⟩ := hw'
      subst hw''
      go_wp2
      go_ret
      exact ⟨ret_bool (by simp), below_trans HB0.out.1 (below_regrown W dq osq)⟩
    | true =>
      go_enter Tryz.func128, Tryz.ntmps128
      go_wp2
      obtain ⟨W, hW⟩ : ∃ W, W = ((w.alloc (.cells #[.string nm, .slice pa pl pc, .int .u8 r, .slice va vl vc, .slice aa al ac, .slice ba bl bc] 28)).alloc (.cells #[.int .u8 7, .int .u8 op, .int .i64 dst, .slice (some ⟨ga, oa, none⟩) 2 xc, .int .u64 bits, .int .i64 ref] 54)) := ⟨_, rfl⟩
      rw [← hW] at HB0 ⊢
      clear hW
      obtain ⟨e0, e1, e2, e3, e4, e5⟩ := box6 HB0.out.2.g
      obtain ⟨x0, x1, x2, x3, x4, x5⟩ := box6 HB0.out.2.t
      have ke0 := cell_regrown e0
      have ke1 := cell_regrown e1
      have ke2 := cell_regrown e2
      have ke3 := cell_regrown e3
      have ke4 := cell_regrown e4
      have ke5 := cell_regrown e5
      have kx0 := cell_regrown x0
      have kx1 := cell_regrown x1
      have kx2 := cell_regrown x2
      have kx3 := cell_regrown x3
      have kx4 := cell_regrown x4
      have kx5 := cell_regrown x5
      have kca := cell_regrown ((HB0.out.1.cell (p := ⟨ga, oa, none⟩) hga).trans ca)
      have kcb := cell_regrown ((HB0.out.1.cell (p := ⟨ga, oa + 1, none⟩) hga).trans cb)
      have C1 : ∀ d os, _ := fun d os => Calls.regrown_of (HO1.out _ (below_trans HB0.out.1 (below_regrown W d os)))
      have C2 : ∀ d os, _ := fun d os => Calls.regrown_of (HO2.out _ (below_trans HB0.out.1 (below_regrown W d os)))
      have D1 : Hid _ := C1
      have D2 : Hid _ := C2
      clear C1 C2 e0 e1 e2 e3 e4 e5 x0 x1 x2 x3 x4 x5 ca cb
      refine wp_region_quiet_below (by kernel_rfl) (by kernel_rfl) ?_
      repeat (go_big_quiet_step ((first | with_reducible exact D1.out _ _ | with_reducible exact D2.out _ _)))
      refine wpQuiet_nil ?_
      intro _ hw'
      obtain ⟨⟨dq, osq⟩, hw''⟩ := hw'
      subst hw''
      go_wp2
      go_ret
      exact ⟨ret_bool (by simp), below_trans HB0.out.1 (below_regrown W dq osq)⟩
  simp only [k6, k7, if_false]
  have p6 : (kind == 6) = false := beq_false_of_ne k6
  have p7 : (kind == 7) = false := beq_false_of_ne k7
  clear h6 h7 hA HOF hxl
  go_enter Tryz.func128, Tryz.ntmps128
  go_wp2
  go_ret
  exact ⟨rfl, below_alloc (below_alloc (Below.refl _ _) _) _⟩
end Go.Proofs.YtcggbedjhglmmaaGreatDoor
