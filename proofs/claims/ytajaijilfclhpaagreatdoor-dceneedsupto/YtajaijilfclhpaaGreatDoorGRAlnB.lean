/- The document's side: may an instruction stand, calls but for what they call?  -/
import Derived.Test.YtajaijilfclhpaaGreatDoorGRAlnA
namespace Go.Proofs.YtajaijilfclhpaaGreatDoor
open Go.RowKit Go.Sort

theorem aloneK_3 (G : Gr) (op dst : Int) (args : List Int) (bits ref : Int) : aloneR G ⟨3, op, dst, args, bits, ref⟩ = (plainB ⟨3, op, dst, args, bits, ref⟩ && (args.all (inB · G.vars.length) && (inB dst G.vars.length && ((args.length : Int) == 1 && varT G.vars (args.getD 0 0) == varT G.vars dst)))) := by
 unfold aloneR kindR
 simp
set_option maxRecDepth 100000 in
set_option maxHeartbeats 4000000 in
theorem alone_3 (G : Gr) (pv vv av bv : Value) (op dst : Int) (args : List Int) (bits ref : Int) (xv : Value) (w : World) (h : GrAt w pv vv av bv G) (hA : IntsAt w xv args) (_hbits : 0 ≤ bits ∧ bits < 18446744073709551616) :
  Calls Tryz.prog 61 #[.agg #[.string G.name, pv, .int .u8 G.result, vv, av, bv], inV ⟨3, op, dst, args, bits, ref⟩ xv] w fun e w' => e = .returned (.bool (aloneR G ⟨3, op, dst, args, bits, ref⟩)) ∧ Below w.heap.size w w' := by
 have HPN : Hid (∀ W, Below w.heap.size w W → Calls Tryz.prog 119 #[inV ⟨3, op, dst, args, bits, ref⟩ xv] W fun e w' => e = .returned (.bool (plainB ⟨3, op, dst, args, bits, ref⟩)) ∧ Below W.heap.size W w') := fun W hb => rplain_any ⟨3, op, dst, args, bits, ref⟩ xv W (hA.below hb) (show (1 : Int) ≤ 3 by decide) (show (3 : Int) ≤ 10 by decide)
 have HVR : Hid (∀ W, Below w.heap.size w W → Calls Tryz.prog 115 #[.agg #[.string G.name, pv, .int .u8 G.result, vv, av, bv], xv] W fun e w' => e = .returned (.bool (args.all (inB · G.vars.length))) ∧ Below W.heap.size W w') := fun W hb => rvars_any G pv vv av bv args xv W (h.below hb) (hA.below hb)
 obtain ⟨pa, pc, va, vc, aa, ac, ba, bc, rfl, rfl, rfl, rfl, _, _, _, _⟩ := h.openF
 obtain ⟨xa, xc, rfl, hxl⟩ := hA.form
 have HID : Hid (∀ W, Calls Tryz.prog 118 #[.int .i64 dst, .int .i64 (G.vars.length : Int)] W fun e w' => e = .returned (.bool (inB dst G.vars.length)) ∧ w' = W) := fun W => rin_any dst _ W
 have HVV : Hid (∀ v, inB v G.vars.length = true → _) := fun v hv => TysAt.var h.vs hv
 have HAL : Hid (args.all (inB · G.vars.length) = true → ∀ i, i < args.length → inB (args.getD i 0) G.vars.length = true) := fun ha i hi => List.all_eq_true.1 ha (args.getD i 0) (by rw [List.getD, List.getElem?_eq_getElem hi]; exact List.getElem_mem hi)
 have HXX : Hid (∀ i, i < args.length → _) := fun i hi => hA.get (i := i) hi
 obtain ⟨R, hR⟩ : ∃ R, R = aloneR G ⟨3, op, dst, args, bits, ref⟩ := ⟨_, rfl⟩
 rw [← hR]
 rw [aloneK_3] at hR
 clear h hA
 generalize plainB ⟨3, op, dst, args, bits, ref⟩ = bp at *
 generalize hva : args.all (inB · G.vars.length) = bv' at *
 generalize hxn : args.length = xn at *
 generalize hvl : G.vars.length = vl at *
 generalize hal : G.arrs.length = al at *
 generalize G.name = nm at *
 generalize G.params.length = pl at *
 generalize G.blocks.length = bl at *
 generalize G.result = r at *
 clear hva hxn hvl hal
 have H0 : Hid (Below w.heap.size w ((w.alloc (.cells #[.string nm, .slice pa pl pc, .int .u8 r, .slice va vl vc, .slice aa al ac, .slice ba bl bc] 28)).alloc (.cells #[.int .u8 3, .int .u8 op, .int .i64 dst, .slice xa xn xc, .int .u64 bits, .int .i64 ref] 55)) ∧ Duo w.heap.size [.string nm, .slice pa pl pc, .int .u8 r, .slice va vl vc, .slice aa al ac, .slice ba bl bc] [.int .u8 3, .int .u8 op, .int .i64 dst, .slice xa xn xc, .int .u64 bits, .int .i64 ref] ((w.alloc (.cells #[.string nm, .slice pa pl pc, .int .u8 r, .slice va vl vc, .slice aa al ac, .slice ba bl bc] 28)).alloc (.cells #[.int .u8 3, .int .u8 op, .int .i64 dst, .slice xa xn xc, .int .u64 bits, .int .i64 ref] 55))) := ⟨below_alloc (below_alloc (Below.refl _ _) _) _, Duo.new w [.string nm, .slice pa pl pc, .int .u8 r, .slice va vl vc, .slice aa al ac, .slice ba bl bc] [.int .u8 3, .int .u8 op, .int .i64 dst, .slice xa xn xc, .int .u64 bits, .int .i64 ref] 28 55⟩
 cases bp with
 | false =>
  have HR : Hid (R = false) := by show _ = _; rw [hR]; simp
  clear hR HVV HAL HXX
  go_enter Tryz.func61, Tryz.ntmps61
  go_wp2_with (first
   | (go_at_call 119; go_loud (refine Calls.mono (by exact HPN.out _ H0.out.1) ?_; rintro e w1 ⟨rfl, hb⟩; have H1 : Hid (Below w.heap.size w w1 ∧ Duo w.heap.size [.string nm, .slice pa pl pc, .int .u8 r, .slice va vl vc, .slice aa al ac, .slice ba bl bc] [.int .u8 3, .int .u8 op, .int .i64 dst, .slice xa xn xc, .int .u64 bits, .int .i64 ref] w1) := ⟨below_trans H0.out.1 hb, H0.out.2.below hb⟩; obtain ⟨f0, f1, f2, f3, f4, f5⟩ := box6 H1.out.2.g; obtain ⟨y0, y1, y2, y3, y4, y5⟩ := box6 H1.out.2.t; clear hb)))
  go_ret
  exact ⟨ret_bool HR.out.symm, H1.out.1⟩
 | true =>
  cases bv' with
  | false =>
   have HR : Hid (R = false) := by show _ = _; rw [hR]; simp
   clear hR HVV HAL HXX
   go_enter Tryz.func61, Tryz.ntmps61
   go_wp2_with (first
    | (go_at_call 119; go_loud (refine Calls.mono (by exact HPN.out _ H0.out.1) ?_; rintro e w1 ⟨rfl, hb⟩; have H1 : Hid (Below w.heap.size w w1 ∧ Duo w.heap.size [.string nm, .slice pa pl pc, .int .u8 r, .slice va vl vc, .slice aa al ac, .slice ba bl bc] [.int .u8 3, .int .u8 op, .int .i64 dst, .slice xa xn xc, .int .u64 bits, .int .i64 ref] w1) := ⟨below_trans H0.out.1 hb, H0.out.2.below hb⟩; obtain ⟨f0, f1, f2, f3, f4, f5⟩ := box6 H1.out.2.g; obtain ⟨y0, y1, y2, y3, y4, y5⟩ := box6 H1.out.2.t; clear hb))
    | (go_at_call 115; go_loud (refine Calls.mono (by exact HVR.out _ H1.out.1) ?_; rintro e w2 ⟨rfl, hb⟩; have H2 : Hid (Below w.heap.size w w2 ∧ Duo w.heap.size [.string nm, .slice pa pl pc, .int .u8 r, .slice va vl vc, .slice aa al ac, .slice ba bl bc] [.int .u8 3, .int .u8 op, .int .i64 dst, .slice xa xn xc, .int .u64 bits, .int .i64 ref] w2) := ⟨below_trans H1.out.1 hb, H1.out.2.below hb⟩; clear f0 f1 f2 f3 f4 f5 y0 y1 y2 y3 y4 y5; obtain ⟨g0, g1, g2, g3, g4, g5⟩ := box6 H2.out.2.g; obtain ⟨z0, z1, z2, z3, z4, z5⟩ := box6 H2.out.2.t; clear hb)))
   go_ret
   exact ⟨ret_bool HR.out.symm, H2.out.1⟩
  | true =>
   have HAM := HAL.out rfl
   clear HAL
   simp only [Bool.true_and] at hR
   cases hid : inB dst vl with
   | false =>
    rw [hid] at hR HID
    have HR : Hid (R = false) := by show _ = _; rw [hR]; simp
    clear hR HVV HAM HXX
    clear hid
    go_enter Tryz.func61, Tryz.ntmps61
    go_wp2_with (first
     | (go_at_call 119; go_loud (refine Calls.mono (by exact HPN.out _ H0.out.1) ?_; rintro e w1 ⟨rfl, hb⟩; have H1 : Hid (Below w.heap.size w w1 ∧ Duo w.heap.size [.string nm, .slice pa pl pc, .int .u8 r, .slice va vl vc, .slice aa al ac, .slice ba bl bc] [.int .u8 3, .int .u8 op, .int .i64 dst, .slice xa xn xc, .int .u64 bits, .int .i64 ref] w1) := ⟨below_trans H0.out.1 hb, H0.out.2.below hb⟩; obtain ⟨f0, f1, f2, f3, f4, f5⟩ := box6 H1.out.2.g; obtain ⟨y0, y1, y2, y3, y4, y5⟩ := box6 H1.out.2.t; clear hb))
     | (go_at_call 115; go_loud (refine Calls.mono (by exact HVR.out _ H1.out.1) ?_; rintro e w2 ⟨rfl, hb⟩; have H2 : Hid (Below w.heap.size w w2 ∧ Duo w.heap.size [.string nm, .slice pa pl pc, .int .u8 r, .slice va vl vc, .slice aa al ac, .slice ba bl bc] [.int .u8 3, .int .u8 op, .int .i64 dst, .slice xa xn xc, .int .u64 bits, .int .i64 ref] w2) := ⟨below_trans H1.out.1 hb, H1.out.2.below hb⟩; clear f0 f1 f2 f3 f4 f5 y0 y1 y2 y3 y4 y5; obtain ⟨g0, g1, g2, g3, g4, g5⟩ := box6 H2.out.2.g; obtain ⟨z0, z1, z2, z3, z4, z5⟩ := box6 H2.out.2.t; clear hb))
     | (go_at_call 118; refine Calls.mono (by with_reducible exact HID.out _) ?_; rintro e wx ⟨rfl, hwx⟩; subst wx))
    go_ret
    exact ⟨ret_bool HR.out.symm, H2.out.1⟩
   | true =>
    rw [hid, Bool.true_and] at hR
    rw [hid] at HID
    obtain ⟨gd, od, kd, e9, rfl, hkd, hgd, cd⟩ := HVV.out dst hid
    subst e9
    clear hid
    have HVA : Hid (∀ v, inB v vl = true → ∃ k : Nat, v = (k : Int) ∧ (k : Int) < (vl : Int) ∧ w.cell? ⟨gd, od + k, none⟩ = some (.int .u8 (varT G.vars v))) := fun v hv => by
     obtain ⟨g', o', k', e1, e2, e3, _, e5⟩ := HVV.out v hv
     cases e1
     exact ⟨k', e2, e3, e5⟩
    clear HVV
    by_cases hln : xn = 1
    rotate_left
    ·have hlf : ((xn : Int) == 1) = false := beq_false_of_ne (by omega)
     have HR : Hid (R = false) := by show _ = _; rw [hR, hlf]; rfl
     clear hR HXX HAM hln HVA
     go_enter Tryz.func61, Tryz.ntmps61
     go_wp2_with (first
      | (go_at_call 119; go_loud (refine Calls.mono (by exact HPN.out _ H0.out.1) ?_; rintro e w1 ⟨rfl, hb⟩; have H1 : Hid (Below w.heap.size w w1 ∧ Duo w.heap.size [.string nm, .slice pa pl pc, .int .u8 r, .slice (some ⟨gd, od, none⟩) vl vc, .slice aa al ac, .slice ba bl bc] [.int .u8 3, .int .u8 op, .int .i64 (kd : Int), .slice xa xn xc, .int .u64 bits, .int .i64 ref] w1) := ⟨below_trans H0.out.1 hb, H0.out.2.below hb⟩; obtain ⟨f0, f1, f2, f3, f4, f5⟩ := box6 H1.out.2.g; obtain ⟨y0, y1, y2, y3, y4, y5⟩ := box6 H1.out.2.t; clear hb))
      | (go_at_call 115; go_loud (refine Calls.mono (by exact HVR.out _ H1.out.1) ?_; rintro e w2 ⟨rfl, hb⟩; have H2 : Hid (Below w.heap.size w w2 ∧ Duo w.heap.size [.string nm, .slice pa pl pc, .int .u8 r, .slice (some ⟨gd, od, none⟩) vl vc, .slice aa al ac, .slice ba bl bc] [.int .u8 3, .int .u8 op, .int .i64 (kd : Int), .slice xa xn xc, .int .u64 bits, .int .i64 ref] w2) := ⟨below_trans H1.out.1 hb, H1.out.2.below hb⟩; clear f0 f1 f2 f3 f4 f5 y0 y1 y2 y3 y4 y5; obtain ⟨g0, g1, g2, g3, g4, g5⟩ := box6 H2.out.2.g; obtain ⟨z0, z1, z2, z3, z4, z5⟩ := box6 H2.out.2.t; clear hb))
      | (go_at_call 118; refine Calls.mono (by with_reducible exact HID.out _) ?_; rintro e wx ⟨rfl, hwx⟩; subst wx))
     go_quiet (fail)
     go_wp2
     go_ret
     exact ⟨ret_bool HR.out.symm, (by repeat (first | exact H2.out.1 | refine below_drewN ?_ _ | refine below_drew ?_))⟩
    subst hln
    obtain ⟨gx, ox, e7, hgx, cx⟩ := HXX.out 0 (by omega)
    subst e7
    obtain ⟨ka, hka, hkan, cka⟩ := HVA.out _ (HAM 0 (by omega))
    rw [hka] at cx cka hR
    rw [Nat.add_zero] at cx
    clear HXX HAM HVA hka
    generalize varT G.vars (ka : Int) = ta at *
    generalize varT G.vars (kd : Int) = td at *
    have HR : Hid (R = (ta == td)) := by show _ = _; rw [hR]; simp
    clear hR
    go_enter Tryz.func61, Tryz.ntmps61
    go_wp2_with (first
     | (go_at_call 119; go_loud (refine Calls.mono (by exact HPN.out _ H0.out.1) ?_; rintro e w1 ⟨rfl, hb⟩; have H1 : Hid (Below w.heap.size w w1 ∧ Duo w.heap.size [.string nm, .slice pa pl pc, .int .u8 r, .slice (some ⟨gd, od, none⟩) vl vc, .slice aa al ac, .slice ba bl bc] [.int .u8 3, .int .u8 op, .int .i64 (kd : Int), .slice (some ⟨gx, ox, none⟩) 1 xc, .int .u64 bits, .int .i64 ref] w1) := ⟨below_trans H0.out.1 hb, H0.out.2.below hb⟩; obtain ⟨f0, f1, f2, f3, f4, f5⟩ := box6 H1.out.2.g; obtain ⟨y0, y1, y2, y3, y4, y5⟩ := box6 H1.out.2.t; clear hb))
     | (go_at_call 115; go_loud (refine Calls.mono (by exact HVR.out _ H1.out.1) ?_; rintro e w2 ⟨rfl, hb⟩; have H2 : Hid (Below w.heap.size w w2 ∧ Duo w.heap.size [.string nm, .slice pa pl pc, .int .u8 r, .slice (some ⟨gd, od, none⟩) vl vc, .slice aa al ac, .slice ba bl bc] [.int .u8 3, .int .u8 op, .int .i64 (kd : Int), .slice (some ⟨gx, ox, none⟩) 1 xc, .int .u64 bits, .int .i64 ref] w2) := ⟨below_trans H1.out.1 hb, H1.out.2.below hb⟩; clear f0 f1 f2 f3 f4 f5 y0 y1 y2 y3 y4 y5; obtain ⟨g0, g1, g2, g3, g4, g5⟩ := box6 H2.out.2.g; obtain ⟨z0, z1, z2, z3, z4, z5⟩ := box6 H2.out.2.t; clear hb))
     | (go_at_call 118; refine Calls.mono (by with_reducible exact HID.out _) ?_; rintro e wx ⟨rfl, hwx⟩; subst wx))
    have cxx := (H2.out.1.cell (p := ⟨gx, ox, none⟩) hgx).trans cx
    have caa := (H2.out.1.cell (p := ⟨gd, od + ka, none⟩) hgd).trans cka
    have cdd := (H2.out.1.cell (p := ⟨gd, od + kd, none⟩) hgd).trans cd
    go_quiet (fail)
    go_wp2
    go_ret
    exact ⟨ret_bool (by rw [HR.out]), (by repeat (first | exact H2.out.1 | refine below_drewN ?_ _ | refine below_drew ?_))⟩
theorem aloneK_4 (G : Gr) (op dst : Int) (args : List Int) (bits ref : Int) : aloneR G ⟨4, op, dst, args, bits, ref⟩ = (plainB ⟨4, op, dst, args, bits, ref⟩ && (args.all (inB · G.vars.length) && (inB dst G.vars.length && opR G.vars ⟨4, op, dst, args, bits, ref⟩))) := by
 unfold aloneR kindR
 simp
set_option maxRecDepth 100000 in
set_option maxHeartbeats 4000000 in
theorem alone_4 (G : Gr) (pv vv av bv : Value) (op dst : Int) (args : List Int) (bits ref : Int) (xv : Value) (w : World) (h : GrAt w pv vv av bv G) (hA : IntsAt w xv args) (_hbits : 0 ≤ bits ∧ bits < 18446744073709551616) :
  Calls Tryz.prog 61 #[.agg #[.string G.name, pv, .int .u8 G.result, vv, av, bv], inV ⟨4, op, dst, args, bits, ref⟩ xv] w fun e w' => e = .returned (.bool (aloneR G ⟨4, op, dst, args, bits, ref⟩)) ∧ Below w.heap.size w w' := by
 have HPN : Hid (∀ W, Below w.heap.size w W → Calls Tryz.prog 119 #[inV ⟨4, op, dst, args, bits, ref⟩ xv] W fun e w' => e = .returned (.bool (plainB ⟨4, op, dst, args, bits, ref⟩)) ∧ Below W.heap.size W w') := fun W hb => rplain_any ⟨4, op, dst, args, bits, ref⟩ xv W (hA.below hb) (show (1 : Int) ≤ 4 by decide) (show (4 : Int) ≤ 10 by decide)
 have HVR : Hid (∀ W, Below w.heap.size w W → Calls Tryz.prog 115 #[.agg #[.string G.name, pv, .int .u8 G.result, vv, av, bv], xv] W fun e w' => e = .returned (.bool (args.all (inB · G.vars.length))) ∧ Below W.heap.size W w') := fun W hb => rvars_any G pv vv av bv args xv W (h.below hb) (hA.below hb)
 have HOP : Hid (∀ W, Below w.heap.size w W → inB dst G.vars.length = true → args.all (inB · G.vars.length) = true → Calls Tryz.prog 121 #[.agg #[.string G.name, pv, .int .u8 G.result, vv, av, bv], inV ⟨4, op, dst, args, bits, ref⟩ xv] W fun e w' => e = .returned (.bool (opR G.vars ⟨4, op, dst, args, bits, ref⟩)) ∧ Below W.heap.size W w') := fun W hb hd ha => rop_any G pv vv av bv ⟨4, op, dst, args, bits, ref⟩ xv W (h.below hb) (hA.below hb) hd ha
 obtain ⟨pa, pc, va, vc, aa, ac, ba, bc, rfl, rfl, rfl, rfl, _, _, _, _⟩ := h.openF
 obtain ⟨xa, xc, rfl, hxl⟩ := hA.form
 have HID : Hid (∀ W, Calls Tryz.prog 118 #[.int .i64 dst, .int .i64 (G.vars.length : Int)] W fun e w' => e = .returned (.bool (inB dst G.vars.length)) ∧ w' = W) := fun W => rin_any dst _ W
 obtain ⟨R, hR⟩ : ∃ R, R = aloneR G ⟨4, op, dst, args, bits, ref⟩ := ⟨_, rfl⟩
 rw [← hR]
 rw [aloneK_4] at hR
 clear h hA
 generalize plainB ⟨4, op, dst, args, bits, ref⟩ = bp at *
 generalize hva : args.all (inB · G.vars.length) = bv' at *
 generalize hxn : args.length = xn at *
 generalize hvl : G.vars.length = vl at *
 generalize hal : G.arrs.length = al at *
 generalize G.name = nm at *
 generalize G.params.length = pl at *
 generalize G.blocks.length = bl at *
 generalize G.result = r at *
 clear hva hxn hvl hal
 have H0 : Hid (Below w.heap.size w ((w.alloc (.cells #[.string nm, .slice pa pl pc, .int .u8 r, .slice va vl vc, .slice aa al ac, .slice ba bl bc] 28)).alloc (.cells #[.int .u8 4, .int .u8 op, .int .i64 dst, .slice xa xn xc, .int .u64 bits, .int .i64 ref] 55)) ∧ Duo w.heap.size [.string nm, .slice pa pl pc, .int .u8 r, .slice va vl vc, .slice aa al ac, .slice ba bl bc] [.int .u8 4, .int .u8 op, .int .i64 dst, .slice xa xn xc, .int .u64 bits, .int .i64 ref] ((w.alloc (.cells #[.string nm, .slice pa pl pc, .int .u8 r, .slice va vl vc, .slice aa al ac, .slice ba bl bc] 28)).alloc (.cells #[.int .u8 4, .int .u8 op, .int .i64 dst, .slice xa xn xc, .int .u64 bits, .int .i64 ref] 55))) := ⟨below_alloc (below_alloc (Below.refl _ _) _) _, Duo.new w [.string nm, .slice pa pl pc, .int .u8 r, .slice va vl vc, .slice aa al ac, .slice ba bl bc] [.int .u8 4, .int .u8 op, .int .i64 dst, .slice xa xn xc, .int .u64 bits, .int .i64 ref] 28 55⟩
 cases bp with
 | false =>
  have HR : Hid (R = false) := by show _ = _; rw [hR]; simp
  clear hR HOP
  go_enter Tryz.func61, Tryz.ntmps61
  go_wp2_with (first
   | (go_at_call 119; go_loud (refine Calls.mono (by exact HPN.out _ H0.out.1) ?_; rintro e w1 ⟨rfl, hb⟩; have H1 : Hid (Below w.heap.size w w1 ∧ Duo w.heap.size [.string nm, .slice pa pl pc, .int .u8 r, .slice va vl vc, .slice aa al ac, .slice ba bl bc] [.int .u8 4, .int .u8 op, .int .i64 dst, .slice xa xn xc, .int .u64 bits, .int .i64 ref] w1) := ⟨below_trans H0.out.1 hb, H0.out.2.below hb⟩; obtain ⟨f0, f1, f2, f3, f4, f5⟩ := box6 H1.out.2.g; obtain ⟨y0, y1, y2, y3, y4, y5⟩ := box6 H1.out.2.t; clear hb)))
  go_ret
  exact ⟨ret_bool HR.out.symm, H1.out.1⟩
 | true =>
  cases bv' with
  | false =>
   have HR : Hid (R = false) := by show _ = _; rw [hR]; simp
   clear hR HOP
   go_enter Tryz.func61, Tryz.ntmps61
   go_wp2_with (first
    | (go_at_call 119; go_loud (refine Calls.mono (by exact HPN.out _ H0.out.1) ?_; rintro e w1 ⟨rfl, hb⟩; have H1 : Hid (Below w.heap.size w w1 ∧ Duo w.heap.size [.string nm, .slice pa pl pc, .int .u8 r, .slice va vl vc, .slice aa al ac, .slice ba bl bc] [.int .u8 4, .int .u8 op, .int .i64 dst, .slice xa xn xc, .int .u64 bits, .int .i64 ref] w1) := ⟨below_trans H0.out.1 hb, H0.out.2.below hb⟩; obtain ⟨f0, f1, f2, f3, f4, f5⟩ := box6 H1.out.2.g; obtain ⟨y0, y1, y2, y3, y4, y5⟩ := box6 H1.out.2.t; clear hb))
    | (go_at_call 115; go_loud (refine Calls.mono (by exact HVR.out _ H1.out.1) ?_; rintro e w2 ⟨rfl, hb⟩; have H2 : Hid (Below w.heap.size w w2 ∧ Duo w.heap.size [.string nm, .slice pa pl pc, .int .u8 r, .slice va vl vc, .slice aa al ac, .slice ba bl bc] [.int .u8 4, .int .u8 op, .int .i64 dst, .slice xa xn xc, .int .u64 bits, .int .i64 ref] w2) := ⟨below_trans H1.out.1 hb, H1.out.2.below hb⟩; clear f0 f1 f2 f3 f4 f5 y0 y1 y2 y3 y4 y5; obtain ⟨g0, g1, g2, g3, g4, g5⟩ := box6 H2.out.2.g; obtain ⟨z0, z1, z2, z3, z4, z5⟩ := box6 H2.out.2.t; clear hb)))
   go_ret
   exact ⟨ret_bool HR.out.symm, H2.out.1⟩
  | true =>
   simp only [Bool.true_and] at hR
   cases hid : inB dst vl with
   | false =>
    rw [hid] at hR HID
    have HR : Hid (R = false) := by show _ = _; rw [hR]; simp
    clear hR HOP
    clear hid
    go_enter Tryz.func61, Tryz.ntmps61
    go_wp2_with (first
     | (go_at_call 119; go_loud (refine Calls.mono (by exact HPN.out _ H0.out.1) ?_; rintro e w1 ⟨rfl, hb⟩; have H1 : Hid (Below w.heap.size w w1 ∧ Duo w.heap.size [.string nm, .slice pa pl pc, .int .u8 r, .slice va vl vc, .slice aa al ac, .slice ba bl bc] [.int .u8 4, .int .u8 op, .int .i64 dst, .slice xa xn xc, .int .u64 bits, .int .i64 ref] w1) := ⟨below_trans H0.out.1 hb, H0.out.2.below hb⟩; obtain ⟨f0, f1, f2, f3, f4, f5⟩ := box6 H1.out.2.g; obtain ⟨y0, y1, y2, y3, y4, y5⟩ := box6 H1.out.2.t; clear hb))
     | (go_at_call 115; go_loud (refine Calls.mono (by exact HVR.out _ H1.out.1) ?_; rintro e w2 ⟨rfl, hb⟩; have H2 : Hid (Below w.heap.size w w2 ∧ Duo w.heap.size [.string nm, .slice pa pl pc, .int .u8 r, .slice va vl vc, .slice aa al ac, .slice ba bl bc] [.int .u8 4, .int .u8 op, .int .i64 dst, .slice xa xn xc, .int .u64 bits, .int .i64 ref] w2) := ⟨below_trans H1.out.1 hb, H1.out.2.below hb⟩; clear f0 f1 f2 f3 f4 f5 y0 y1 y2 y3 y4 y5; obtain ⟨g0, g1, g2, g3, g4, g5⟩ := box6 H2.out.2.g; obtain ⟨z0, z1, z2, z3, z4, z5⟩ := box6 H2.out.2.t; clear hb))
     | (go_at_call 118; refine Calls.mono (by with_reducible exact HID.out _) ?_; rintro e wx ⟨rfl, hwx⟩; subst wx))
    go_ret
    exact ⟨ret_bool HR.out.symm, H2.out.1⟩
   | true =>
    rw [hid, Bool.true_and] at hR
    rw [hid] at HID
    have HR : Hid (R = opR G.vars ⟨4, op, dst, args, bits, ref⟩) := hR
    have HOQ0 := fun W hb => HOP.out W hb hid rfl
    have HOQ : Hid _ := HOQ0
    clear hR HOP hid HOQ0
    go_enter Tryz.func61, Tryz.ntmps61
    go_wp2_with (first
     | (go_at_call 119; go_loud (refine Calls.mono (by exact HPN.out _ H0.out.1) ?_; rintro e w1 ⟨rfl, hb⟩; have H1 : Hid (Below w.heap.size w w1 ∧ Duo w.heap.size [.string nm, .slice pa pl pc, .int .u8 r, .slice va vl vc, .slice aa al ac, .slice ba bl bc] [.int .u8 4, .int .u8 op, .int .i64 dst, .slice xa xn xc, .int .u64 bits, .int .i64 ref] w1) := ⟨below_trans H0.out.1 hb, H0.out.2.below hb⟩; obtain ⟨f0, f1, f2, f3, f4, f5⟩ := box6 H1.out.2.g; obtain ⟨y0, y1, y2, y3, y4, y5⟩ := box6 H1.out.2.t; clear hb))
     | (go_at_call 115; go_loud (refine Calls.mono (by exact HVR.out _ H1.out.1) ?_; rintro e w2 ⟨rfl, hb⟩; have H2 : Hid (Below w.heap.size w w2 ∧ Duo w.heap.size [.string nm, .slice pa pl pc, .int .u8 r, .slice va vl vc, .slice aa al ac, .slice ba bl bc] [.int .u8 4, .int .u8 op, .int .i64 dst, .slice xa xn xc, .int .u64 bits, .int .i64 ref] w2) := ⟨below_trans H1.out.1 hb, H1.out.2.below hb⟩; clear f0 f1 f2 f3 f4 f5 y0 y1 y2 y3 y4 y5; obtain ⟨g0, g1, g2, g3, g4, g5⟩ := box6 H2.out.2.g; obtain ⟨z0, z1, z2, z3, z4, z5⟩ := box6 H2.out.2.t; clear hb))
     | (go_at_call 118; refine Calls.mono (by with_reducible exact HID.out _) ?_; rintro e wx ⟨rfl, hwx⟩; subst wx)
     | (go_at_call 121; go_loud (refine Calls.mono (by exact HOQ.out _ H2.out.1) ?_; rintro e w3 ⟨rfl, hb⟩; have H3 : Hid (Below w.heap.size w w3) := below_trans H2.out.1 hb; clear hb)))
    go_ret
    exact ⟨ret_bool (by rw [HR.out]), H3.out⟩
theorem aloneK_5 (G : Gr) (op dst : Int) (args : List Int) (bits ref : Int) : aloneR G ⟨5, op, dst, args, bits, ref⟩ = (plainB ⟨5, op, dst, args, bits, ref⟩ && (args.all (inB · G.vars.length) && (inB dst G.vars.length && ((args.length : Int) == 1 && turnsB (varT G.vars dst) (varT G.vars (args.getD 0 0)))))) := by
 unfold aloneR kindR
 simp
set_option maxRecDepth 100000 in
set_option maxHeartbeats 4000000 in
theorem alone_5 (G : Gr) (pv vv av bv : Value) (op dst : Int) (args : List Int) (bits ref : Int) (xv : Value) (w : World) (h : GrAt w pv vv av bv G) (hA : IntsAt w xv args) (_hbits : 0 ≤ bits ∧ bits < 18446744073709551616) :
  Calls Tryz.prog 61 #[.agg #[.string G.name, pv, .int .u8 G.result, vv, av, bv], inV ⟨5, op, dst, args, bits, ref⟩ xv] w fun e w' => e = .returned (.bool (aloneR G ⟨5, op, dst, args, bits, ref⟩)) ∧ Below w.heap.size w w' := by
 have HPN : Hid (∀ W, Below w.heap.size w W → Calls Tryz.prog 119 #[inV ⟨5, op, dst, args, bits, ref⟩ xv] W fun e w' => e = .returned (.bool (plainB ⟨5, op, dst, args, bits, ref⟩)) ∧ Below W.heap.size W w') := fun W hb => rplain_any ⟨5, op, dst, args, bits, ref⟩ xv W (hA.below hb) (show (1 : Int) ≤ 5 by decide) (show (5 : Int) ≤ 10 by decide)
 have HVR : Hid (∀ W, Below w.heap.size w W → Calls Tryz.prog 115 #[.agg #[.string G.name, pv, .int .u8 G.result, vv, av, bv], xv] W fun e w' => e = .returned (.bool (args.all (inB · G.vars.length))) ∧ Below W.heap.size W w') := fun W hb => rvars_any G pv vv av bv args xv W (h.below hb) (hA.below hb)
 obtain ⟨pa, pc, va, vc, aa, ac, ba, bc, rfl, rfl, rfl, rfl, _, _, _, _⟩ := h.openF
 obtain ⟨xa, xc, rfl, hxl⟩ := hA.form
 have HID : Hid (∀ W, Calls Tryz.prog 118 #[.int .i64 dst, .int .i64 (G.vars.length : Int)] W fun e w' => e = .returned (.bool (inB dst G.vars.length)) ∧ w' = W) := fun W => rin_any dst _ W
 have HVV : Hid (∀ v, inB v G.vars.length = true → _) := fun v hv => TysAt.var h.vs hv
 have HAL : Hid (args.all (inB · G.vars.length) = true → ∀ i, i < args.length → inB (args.getD i 0) G.vars.length = true) := fun ha i hi => List.all_eq_true.1 ha (args.getD i 0) (by rw [List.getD, List.getElem?_eq_getElem hi]; exact List.getElem_mem hi)
 have HXX : Hid (∀ i, i < args.length → _) := fun i hi => hA.get (i := i) hi
 obtain ⟨R, hR⟩ : ∃ R, R = aloneR G ⟨5, op, dst, args, bits, ref⟩ := ⟨_, rfl⟩
 rw [← hR]
 rw [aloneK_5] at hR
 clear h hA
 generalize plainB ⟨5, op, dst, args, bits, ref⟩ = bp at *
 generalize hva : args.all (inB · G.vars.length) = bv' at *
 generalize hxn : args.length = xn at *
 generalize hvl : G.vars.length = vl at *
 generalize hal : G.arrs.length = al at *
 generalize G.name = nm at *
 generalize G.params.length = pl at *
 generalize G.blocks.length = bl at *
 generalize G.result = r at *
 clear hva hxn hvl hal
 have H0 : Hid (Below w.heap.size w ((w.alloc (.cells #[.string nm, .slice pa pl pc, .int .u8 r, .slice va vl vc, .slice aa al ac, .slice ba bl bc] 28)).alloc (.cells #[.int .u8 5, .int .u8 op, .int .i64 dst, .slice xa xn xc, .int .u64 bits, .int .i64 ref] 55)) ∧ Duo w.heap.size [.string nm, .slice pa pl pc, .int .u8 r, .slice va vl vc, .slice aa al ac, .slice ba bl bc] [.int .u8 5, .int .u8 op, .int .i64 dst, .slice xa xn xc, .int .u64 bits, .int .i64 ref] ((w.alloc (.cells #[.string nm, .slice pa pl pc, .int .u8 r, .slice va vl vc, .slice aa al ac, .slice ba bl bc] 28)).alloc (.cells #[.int .u8 5, .int .u8 op, .int .i64 dst, .slice xa xn xc, .int .u64 bits, .int .i64 ref] 55))) := ⟨below_alloc (below_alloc (Below.refl _ _) _) _, Duo.new w [.string nm, .slice pa pl pc, .int .u8 r, .slice va vl vc, .slice aa al ac, .slice ba bl bc] [.int .u8 5, .int .u8 op, .int .i64 dst, .slice xa xn xc, .int .u64 bits, .int .i64 ref] 28 55⟩
 cases bp with
 | false =>
  have HR : Hid (R = false) := by show _ = _; rw [hR]; simp
  clear hR HVV HAL HXX
  go_enter Tryz.func61, Tryz.ntmps61
  go_wp2_with (first
   | (go_at_call 119; go_loud (refine Calls.mono (by exact HPN.out _ H0.out.1) ?_; rintro e w1 ⟨rfl, hb⟩; have H1 : Hid (Below w.heap.size w w1 ∧ Duo w.heap.size [.string nm, .slice pa pl pc, .int .u8 r, .slice va vl vc, .slice aa al ac, .slice ba bl bc] [.int .u8 5, .int .u8 op, .int .i64 dst, .slice xa xn xc, .int .u64 bits, .int .i64 ref] w1) := ⟨below_trans H0.out.1 hb, H0.out.2.below hb⟩; obtain ⟨f0, f1, f2, f3, f4, f5⟩ := box6 H1.out.2.g; obtain ⟨y0, y1, y2, y3, y4, y5⟩ := box6 H1.out.2.t; clear hb)))
  go_ret
  exact ⟨ret_bool HR.out.symm, H1.out.1⟩
 | true =>
  cases bv' with
  | false =>
   have HR : Hid (R = false) := by show _ = _; rw [hR]; simp
   clear hR HVV HAL HXX
   go_enter Tryz.func61, Tryz.ntmps61
   go_wp2_with (first
    | (go_at_call 119; go_loud (refine Calls.mono (by exact HPN.out _ H0.out.1) ?_; rintro e w1 ⟨rfl, hb⟩; have H1 : Hid (Below w.heap.size w w1 ∧ Duo w.heap.size [.string nm, .slice pa pl pc, .int .u8 r, .slice va vl vc, .slice aa al ac, .slice ba bl bc] [.int .u8 5, .int .u8 op, .int .i64 dst, .slice xa xn xc, .int .u64 bits, .int .i64 ref] w1) := ⟨below_trans H0.out.1 hb, H0.out.2.below hb⟩; obtain ⟨f0, f1, f2, f3, f4, f5⟩ := box6 H1.out.2.g; obtain ⟨y0, y1, y2, y3, y4, y5⟩ := box6 H1.out.2.t; clear hb))
    | (go_at_call 115; go_loud (refine Calls.mono (by exact HVR.out _ H1.out.1) ?_; rintro e w2 ⟨rfl, hb⟩; have H2 : Hid (Below w.heap.size w w2 ∧ Duo w.heap.size [.string nm, .slice pa pl pc, .int .u8 r, .slice va vl vc, .slice aa al ac, .slice ba bl bc] [.int .u8 5, .int .u8 op, .int .i64 dst, .slice xa xn xc, .int .u64 bits, .int .i64 ref] w2) := ⟨below_trans H1.out.1 hb, H1.out.2.below hb⟩; clear f0 f1 f2 f3 f4 f5 y0 y1 y2 y3 y4 y5; obtain ⟨g0, g1, g2, g3, g4, g5⟩ := box6 H2.out.2.g; obtain ⟨z0, z1, z2, z3, z4, z5⟩ := box6 H2.out.2.t; clear hb)))
   go_ret
   exact ⟨ret_bool HR.out.symm, H2.out.1⟩
  | true =>
   have HAM := HAL.out rfl
   clear HAL
   simp only [Bool.true_and] at hR
   cases hid : inB dst vl with
   | false =>
    rw [hid] at hR HID
    have HR : Hid (R = false) := by show _ = _; rw [hR]; simp
    clear hR HVV HAM HXX
    clear hid
    go_enter Tryz.func61, Tryz.ntmps61
    go_wp2_with (first
     | (go_at_call 119; go_loud (refine Calls.mono (by exact HPN.out _ H0.out.1) ?_; rintro e w1 ⟨rfl, hb⟩; have H1 : Hid (Below w.heap.size w w1 ∧ Duo w.heap.size [.string nm, .slice pa pl pc, .int .u8 r, .slice va vl vc, .slice aa al ac, .slice ba bl bc] [.int .u8 5, .int .u8 op, .int .i64 dst, .slice xa xn xc, .int .u64 bits, .int .i64 ref] w1) := ⟨below_trans H0.out.1 hb, H0.out.2.below hb⟩; obtain ⟨f0, f1, f2, f3, f4, f5⟩ := box6 H1.out.2.g; obtain ⟨y0, y1, y2, y3, y4, y5⟩ := box6 H1.out.2.t; clear hb))
     | (go_at_call 115; go_loud (refine Calls.mono (by exact HVR.out _ H1.out.1) ?_; rintro e w2 ⟨rfl, hb⟩; have H2 : Hid (Below w.heap.size w w2 ∧ Duo w.heap.size [.string nm, .slice pa pl pc, .int .u8 r, .slice va vl vc, .slice aa al ac, .slice ba bl bc] [.int .u8 5, .int .u8 op, .int .i64 dst, .slice xa xn xc, .int .u64 bits, .int .i64 ref] w2) := ⟨below_trans H1.out.1 hb, H1.out.2.below hb⟩; clear f0 f1 f2 f3 f4 f5 y0 y1 y2 y3 y4 y5; obtain ⟨g0, g1, g2, g3, g4, g5⟩ := box6 H2.out.2.g; obtain ⟨z0, z1, z2, z3, z4, z5⟩ := box6 H2.out.2.t; clear hb))
     | (go_at_call 118; refine Calls.mono (by with_reducible exact HID.out _) ?_; rintro e wx ⟨rfl, hwx⟩; subst wx))
    go_ret
    exact ⟨ret_bool HR.out.symm, H2.out.1⟩
   | true =>
    rw [hid, Bool.true_and] at hR
    rw [hid] at HID
    obtain ⟨gd, od, kd, e9, rfl, hkd, hgd, cd⟩ := HVV.out dst hid
    subst e9
    clear hid
    have HVA : Hid (∀ v, inB v vl = true → ∃ k : Nat, v = (k : Int) ∧ (k : Int) < (vl : Int) ∧ w.cell? ⟨gd, od + k, none⟩ = some (.int .u8 (varT G.vars v))) := fun v hv => by
     obtain ⟨g', o', k', e1, e2, e3, _, e5⟩ := HVV.out v hv
     cases e1
     exact ⟨k', e2, e3, e5⟩
    clear HVV
    by_cases hln : xn = 1
    rotate_left
    ·have hlf : ((xn : Int) == 1) = false := beq_false_of_ne (by omega)
     have HR : Hid (R = false) := by show _ = _; rw [hR, hlf]; rfl
     clear hR HXX HAM hln HVA
     go_enter Tryz.func61, Tryz.ntmps61
     go_wp2_with (first
      | (go_at_call 119; go_loud (refine Calls.mono (by exact HPN.out _ H0.out.1) ?_; rintro e w1 ⟨rfl, hb⟩; have H1 : Hid (Below w.heap.size w w1 ∧ Duo w.heap.size [.string nm, .slice pa pl pc, .int .u8 r, .slice (some ⟨gd, od, none⟩) vl vc, .slice aa al ac, .slice ba bl bc] [.int .u8 5, .int .u8 op, .int .i64 (kd : Int), .slice xa xn xc, .int .u64 bits, .int .i64 ref] w1) := ⟨below_trans H0.out.1 hb, H0.out.2.below hb⟩; obtain ⟨f0, f1, f2, f3, f4, f5⟩ := box6 H1.out.2.g; obtain ⟨y0, y1, y2, y3, y4, y5⟩ := box6 H1.out.2.t; clear hb))
      | (go_at_call 115; go_loud (refine Calls.mono (by exact HVR.out _ H1.out.1) ?_; rintro e w2 ⟨rfl, hb⟩; have H2 : Hid (Below w.heap.size w w2 ∧ Duo w.heap.size [.string nm, .slice pa pl pc, .int .u8 r, .slice (some ⟨gd, od, none⟩) vl vc, .slice aa al ac, .slice ba bl bc] [.int .u8 5, .int .u8 op, .int .i64 (kd : Int), .slice xa xn xc, .int .u64 bits, .int .i64 ref] w2) := ⟨below_trans H1.out.1 hb, H1.out.2.below hb⟩; clear f0 f1 f2 f3 f4 f5 y0 y1 y2 y3 y4 y5; obtain ⟨g0, g1, g2, g3, g4, g5⟩ := box6 H2.out.2.g; obtain ⟨z0, z1, z2, z3, z4, z5⟩ := box6 H2.out.2.t; clear hb))
      | (go_at_call 118; refine Calls.mono (by with_reducible exact HID.out _) ?_; rintro e wx ⟨rfl, hwx⟩; subst wx))
     go_quiet (fail)
     go_wp2
     go_ret
     exact ⟨ret_bool HR.out.symm, (by repeat (first | exact H2.out.1 | refine below_drewN ?_ _ | refine below_drew ?_))⟩
    subst hln
    obtain ⟨gx, ox, e7, hgx, cx⟩ := HXX.out 0 (by omega)
    subst e7
    obtain ⟨ka, hka, hkan, cka⟩ := HVA.out _ (HAM 0 (by omega))
    rw [hka] at cx cka hR
    rw [Nat.add_zero] at cx
    clear HXX HAM HVA hka
    have HTU : Hid (∀ W, Calls Tryz.prog 122 #[.int .u8 (varT G.vars (kd : Int)), .int .u8 (varT G.vars (ka : Int))] W fun e w' => e = .returned (.bool (turnsB (varT G.vars (kd : Int)) (varT G.vars (ka : Int)))) ∧ w' = W) := fun W => rturns_any _ _ W
    generalize varT G.vars (ka : Int) = ta at *
    generalize varT G.vars (kd : Int) = td at *
    have HR : Hid (R = turnsB td ta) := by show _ = _; rw [hR]; simp
    clear hR
    go_enter Tryz.func61, Tryz.ntmps61
    go_wp2_with (first
     | (go_at_call 119; go_loud (refine Calls.mono (by exact HPN.out _ H0.out.1) ?_; rintro e w1 ⟨rfl, hb⟩; have H1 : Hid (Below w.heap.size w w1 ∧ Duo w.heap.size [.string nm, .slice pa pl pc, .int .u8 r, .slice (some ⟨gd, od, none⟩) vl vc, .slice aa al ac, .slice ba bl bc] [.int .u8 5, .int .u8 op, .int .i64 (kd : Int), .slice (some ⟨gx, ox, none⟩) 1 xc, .int .u64 bits, .int .i64 ref] w1) := ⟨below_trans H0.out.1 hb, H0.out.2.below hb⟩; obtain ⟨f0, f1, f2, f3, f4, f5⟩ := box6 H1.out.2.g; obtain ⟨y0, y1, y2, y3, y4, y5⟩ := box6 H1.out.2.t; clear hb))
     | (go_at_call 115; go_loud (refine Calls.mono (by exact HVR.out _ H1.out.1) ?_; rintro e w2 ⟨rfl, hb⟩; have H2 : Hid (Below w.heap.size w w2 ∧ Duo w.heap.size [.string nm, .slice pa pl pc, .int .u8 r, .slice (some ⟨gd, od, none⟩) vl vc, .slice aa al ac, .slice ba bl bc] [.int .u8 5, .int .u8 op, .int .i64 (kd : Int), .slice (some ⟨gx, ox, none⟩) 1 xc, .int .u64 bits, .int .i64 ref] w2) := ⟨below_trans H1.out.1 hb, H1.out.2.below hb⟩; clear f0 f1 f2 f3 f4 f5 y0 y1 y2 y3 y4 y5; obtain ⟨g0, g1, g2, g3, g4, g5⟩ := box6 H2.out.2.g; obtain ⟨z0, z1, z2, z3, z4, z5⟩ := box6 H2.out.2.t; clear hb))
     | (go_at_call 118; refine Calls.mono (by with_reducible exact HID.out _) ?_; rintro e wx ⟨rfl, hwx⟩; subst wx))
    have cxx := (H2.out.1.cell (p := ⟨gx, ox, none⟩) hgx).trans cx
    have caa := (H2.out.1.cell (p := ⟨gd, od + ka, none⟩) hgd).trans cka
    have cdd := (H2.out.1.cell (p := ⟨gd, od + kd, none⟩) hgd).trans cd
    go_quiet ((go_at_call 122; exact Calls.quiet_of_same (HTU.out _)))
    go_wp2
    go_ret
    exact ⟨ret_bool (by rw [HR.out]), (by repeat (first | exact H2.out.1 | refine below_drewN ?_ _ | refine below_drew ?_))⟩
end Go.Proofs.YtajaijilfclhpaaGreatDoor
