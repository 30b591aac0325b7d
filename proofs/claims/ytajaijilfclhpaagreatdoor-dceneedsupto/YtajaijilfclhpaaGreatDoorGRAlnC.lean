/- The document's side: may an instruction stand, calls but for what they call?  -/
import Derived.Test.YtajaijilfclhpaaGreatDoorGRAlnA
namespace Go.Proofs.YtajaijilfclhpaaGreatDoor
open Go.RowKit Go.Sort

theorem aloneK_6 (G : Gr) (op dst : Int) (args : List Int) (bits ref : Int) : aloneR G ⟨6, op, dst, args, bits, ref⟩ = (plainB ⟨6, op, dst, args, bits, ref⟩ && (args.all (inB · G.vars.length) && (inB dst G.vars.length && (inB ref G.arrs.length && ((args.length : Int) == 1 && (varT G.vars (args.getD 0 0) == 4 && varT G.vars dst == (G.arrs.getD ref.toNat default).1)))))) := by
 unfold aloneR kindR
 simp
set_option maxRecDepth 100000 in
set_option maxHeartbeats 4000000 in
theorem alone_6 (G : Gr) (pv vv av bv : Value) (op dst : Int) (args : List Int) (bits ref : Int) (xv : Value) (w : World) (h : GrAt w pv vv av bv G) (hA : IntsAt w xv args) (_hbits : 0 ≤ bits ∧ bits < 18446744073709551616) :
  Calls Tryz.prog 61 #[.agg #[.string G.name, pv, .int .u8 G.result, vv, av, bv], inV ⟨6, op, dst, args, bits, ref⟩ xv] w fun e w' => e = .returned (.bool (aloneR G ⟨6, op, dst, args, bits, ref⟩)) ∧ Below w.heap.size w w' := by
 have HPN : Hid (∀ W, Below w.heap.size w W → Calls Tryz.prog 119 #[inV ⟨6, op, dst, args, bits, ref⟩ xv] W fun e w' => e = .returned (.bool (plainB ⟨6, op, dst, args, bits, ref⟩)) ∧ Below W.heap.size W w') := fun W hb => rplain_any ⟨6, op, dst, args, bits, ref⟩ xv W (hA.below hb) (show (1 : Int) ≤ 6 by decide) (show (6 : Int) ≤ 10 by decide)
 have HVR : Hid (∀ W, Below w.heap.size w W → Calls Tryz.prog 115 #[.agg #[.string G.name, pv, .int .u8 G.result, vv, av, bv], xv] W fun e w' => e = .returned (.bool (args.all (inB · G.vars.length))) ∧ Below W.heap.size W w') := fun W hb => rvars_any G pv vv av bv args xv W (h.below hb) (hA.below hb)
 obtain ⟨pa, pc, va, vc, aa, ac, ba, bc, rfl, rfl, rfl, rfl, _, _, _, _⟩ := h.openF
 obtain ⟨xa, xc, rfl, hxl⟩ := hA.form
 have HID : Hid (∀ W, Calls Tryz.prog 118 #[.int .i64 dst, .int .i64 (G.vars.length : Int)] W fun e w' => e = .returned (.bool (inB dst G.vars.length)) ∧ w' = W) := fun W => rin_any dst _ W
 have HIR : Hid (∀ W, Calls Tryz.prog 118 #[.int .i64 ref, .int .i64 (G.arrs.length : Int)] W fun e w' => e = .returned (.bool (inB ref G.arrs.length)) ∧ w' = W) := fun W => rin_any ref _ W
 have HVV : Hid (∀ v, inB v G.vars.length = true → _) := fun v hv => TysAt.var h.vs hv
 have HAL : Hid (args.all (inB · G.vars.length) = true → ∀ i, i < args.length → inB (args.getD i 0) G.vars.length = true) := fun ha i hi => List.all_eq_true.1 ha (args.getD i 0) (by rw [List.getD, List.getElem?_eq_getElem hi]; exact List.getElem_mem hi)
 have HXX : Hid (∀ i, i < args.length → _) := fun i hi => hA.get (i := i) hi
 have HAA : Hid (∀ i, i < G.arrs.length → _) := fun i hi => ArrsAt.get h.ars (i := i) hi
 obtain ⟨R, hR⟩ : ∃ R, R = aloneR G ⟨6, op, dst, args, bits, ref⟩ := ⟨_, rfl⟩
 rw [← hR]
 rw [aloneK_6] at hR
 clear h hA
 generalize plainB ⟨6, op, dst, args, bits, ref⟩ = bp at *
 generalize hva : args.all (inB · G.vars.length) = bv' at *
 generalize hxn : args.length = xn at *
 generalize hvl : G.vars.length = vl at *
 generalize hal : G.arrs.length = al at *
 generalize G.name = nm at *
 generalize G.params.length = pl at *
 generalize G.blocks.length = bl at *
 generalize G.result = r at *
 clear hva hxn hvl hal
 have H0 : Hid (Below w.heap.size w ((w.alloc (.cells #[.string nm, .slice pa pl pc, .int .u8 r, .slice va vl vc, .slice aa al ac, .slice ba bl bc] 28)).alloc (.cells #[.int .u8 6, .int .u8 op, .int .i64 dst, .slice xa xn xc, .int .u64 bits, .int .i64 ref] 55)) ∧ Duo w.heap.size [.string nm, .slice pa pl pc, .int .u8 r, .slice va vl vc, .slice aa al ac, .slice ba bl bc] [.int .u8 6, .int .u8 op, .int .i64 dst, .slice xa xn xc, .int .u64 bits, .int .i64 ref] ((w.alloc (.cells #[.string nm, .slice pa pl pc, .int .u8 r, .slice va vl vc, .slice aa al ac, .slice ba bl bc] 28)).alloc (.cells #[.int .u8 6, .int .u8 op, .int .i64 dst, .slice xa xn xc, .int .u64 bits, .int .i64 ref] 55))) := ⟨below_alloc (below_alloc (Below.refl _ _) _) _, Duo.new w [.string nm, .slice pa pl pc, .int .u8 r, .slice va vl vc, .slice aa al ac, .slice ba bl bc] [.int .u8 6, .int .u8 op, .int .i64 dst, .slice xa xn xc, .int .u64 bits, .int .i64 ref] 28 55⟩
 cases bp with
 | false =>
  have HR : Hid (R = false) := by show _ = _; rw [hR]; simp
  clear hR HVV HAL HXX HAA
  go_enter Tryz.func61, Tryz.ntmps61
  go_wp2_with (first
   | (go_at_call 119; go_loud (refine Calls.mono (by exact HPN.out _ H0.out.1) ?_; rintro e w1 ⟨rfl, hb⟩; have H1 : Hid (Below w.heap.size w w1 ∧ Duo w.heap.size [.string nm, .slice pa pl pc, .int .u8 r, .slice va vl vc, .slice aa al ac, .slice ba bl bc] [.int .u8 6, .int .u8 op, .int .i64 dst, .slice xa xn xc, .int .u64 bits, .int .i64 ref] w1) := ⟨below_trans H0.out.1 hb, H0.out.2.below hb⟩; obtain ⟨f0, f1, f2, f3, f4, f5⟩ := box6 H1.out.2.g; obtain ⟨y0, y1, y2, y3, y4, y5⟩ := box6 H1.out.2.t; clear hb)))
  go_ret
  exact ⟨ret_bool HR.out.symm, H1.out.1⟩
 | true =>
  cases bv' with
  | false =>
   have HR : Hid (R = false) := by show _ = _; rw [hR]; simp
   clear hR HVV HAL HXX HAA
   go_enter Tryz.func61, Tryz.ntmps61
   go_wp2_with (first
    | (go_at_call 119; go_loud (refine Calls.mono (by exact HPN.out _ H0.out.1) ?_; rintro e w1 ⟨rfl, hb⟩; have H1 : Hid (Below w.heap.size w w1 ∧ Duo w.heap.size [.string nm, .slice pa pl pc, .int .u8 r, .slice va vl vc, .slice aa al ac, .slice ba bl bc] [.int .u8 6, .int .u8 op, .int .i64 dst, .slice xa xn xc, .int .u64 bits, .int .i64 ref] w1) := ⟨below_trans H0.out.1 hb, H0.out.2.below hb⟩; obtain ⟨f0, f1, f2, f3, f4, f5⟩ := box6 H1.out.2.g; obtain ⟨y0, y1, y2, y3, y4, y5⟩ := box6 H1.out.2.t; clear hb))
    | (go_at_call 115; go_loud (refine Calls.mono (by exact HVR.out _ H1.out.1) ?_; rintro e w2 ⟨rfl, hb⟩; have H2 : Hid (Below w.heap.size w w2 ∧ Duo w.heap.size [.string nm, .slice pa pl pc, .int .u8 r, .slice va vl vc, .slice aa al ac, .slice ba bl bc] [.int .u8 6, .int .u8 op, .int .i64 dst, .slice xa xn xc, .int .u64 bits, .int .i64 ref] w2) := ⟨below_trans H1.out.1 hb, H1.out.2.below hb⟩; clear f0 f1 f2 f3 f4 f5 y0 y1 y2 y3 y4 y5; obtain ⟨g0, g1, g2, g3, g4, g5⟩ := box6 H2.out.2.g; obtain ⟨z0, z1, z2, z3, z4, z5⟩ := box6 H2.out.2.t; clear hb)))
   go_ret
   exact ⟨ret_bool HR.out.symm, H2.out.1⟩
  | true =>
   have HAM := HAL.out rfl
   clear HAL
   simp only [Bool.true_and] at hR
   cases hid : inB dst vl with
   | false =>
    rw [hid] at hR HID
    have HR : Hid (R = false) := by show _ = _; rw [hR]; simp
    clear hR HVV HAM HXX HAA
    clear hid
    go_enter Tryz.func61, Tryz.ntmps61
    go_wp2_with (first
     | (go_at_call 119; go_loud (refine Calls.mono (by exact HPN.out _ H0.out.1) ?_; rintro e w1 ⟨rfl, hb⟩; have H1 : Hid (Below w.heap.size w w1 ∧ Duo w.heap.size [.string nm, .slice pa pl pc, .int .u8 r, .slice va vl vc, .slice aa al ac, .slice ba bl bc] [.int .u8 6, .int .u8 op, .int .i64 dst, .slice xa xn xc, .int .u64 bits, .int .i64 ref] w1) := ⟨below_trans H0.out.1 hb, H0.out.2.below hb⟩; obtain ⟨f0, f1, f2, f3, f4, f5⟩ := box6 H1.out.2.g; obtain ⟨y0, y1, y2, y3, y4, y5⟩ := box6 H1.out.2.t; clear hb))
     | (go_at_call 115; go_loud (refine Calls.mono (by exact HVR.out _ H1.out.1) ?_; rintro e w2 ⟨rfl, hb⟩; have H2 : Hid (Below w.heap.size w w2 ∧ Duo w.heap.size [.string nm, .slice pa pl pc, .int .u8 r, .slice va vl vc, .slice aa al ac, .slice ba bl bc] [.int .u8 6, .int .u8 op, .int .i64 dst, .slice xa xn xc, .int .u64 bits, .int .i64 ref] w2) := ⟨below_trans H1.out.1 hb, H1.out.2.below hb⟩; clear f0 f1 f2 f3 f4 f5 y0 y1 y2 y3 y4 y5; obtain ⟨g0, g1, g2, g3, g4, g5⟩ := box6 H2.out.2.g; obtain ⟨z0, z1, z2, z3, z4, z5⟩ := box6 H2.out.2.t; clear hb))
     | (go_at_call 118; refine Calls.mono (by with_reducible exact HID.out _) ?_; rintro e wx ⟨rfl, hwx⟩; subst wx)
     | (go_at_call 118; refine Calls.mono (by with_reducible exact HIR.out _) ?_; rintro e wx ⟨rfl, hwx⟩; subst wx))
    go_ret
    exact ⟨ret_bool HR.out.symm, H2.out.1⟩
   | true =>
    rw [hid, Bool.true_and] at hR
    rw [hid] at HID
    cases hir : inB ref al with
    | false =>
     rw [hir] at hR HIR
     have HR : Hid (R = false) := by show _ = _; rw [hR]; simp
     clear hR HVV HAM HXX HAA
     clear hir hid
     go_enter Tryz.func61, Tryz.ntmps61
     go_wp2_with (first
      | (go_at_call 119; go_loud (refine Calls.mono (by exact HPN.out _ H0.out.1) ?_; rintro e w1 ⟨rfl, hb⟩; have H1 : Hid (Below w.heap.size w w1 ∧ Duo w.heap.size [.string nm, .slice pa pl pc, .int .u8 r, .slice va vl vc, .slice aa al ac, .slice ba bl bc] [.int .u8 6, .int .u8 op, .int .i64 dst, .slice xa xn xc, .int .u64 bits, .int .i64 ref] w1) := ⟨below_trans H0.out.1 hb, H0.out.2.below hb⟩; obtain ⟨f0, f1, f2, f3, f4, f5⟩ := box6 H1.out.2.g; obtain ⟨y0, y1, y2, y3, y4, y5⟩ := box6 H1.out.2.t; clear hb))
      | (go_at_call 115; go_loud (refine Calls.mono (by exact HVR.out _ H1.out.1) ?_; rintro e w2 ⟨rfl, hb⟩; have H2 : Hid (Below w.heap.size w w2 ∧ Duo w.heap.size [.string nm, .slice pa pl pc, .int .u8 r, .slice va vl vc, .slice aa al ac, .slice ba bl bc] [.int .u8 6, .int .u8 op, .int .i64 dst, .slice xa xn xc, .int .u64 bits, .int .i64 ref] w2) := ⟨below_trans H1.out.1 hb, H1.out.2.below hb⟩; clear f0 f1 f2 f3 f4 f5 y0 y1 y2 y3 y4 y5; obtain ⟨g0, g1, g2, g3, g4, g5⟩ := box6 H2.out.2.g; obtain ⟨z0, z1, z2, z3, z4, z5⟩ := box6 H2.out.2.t; clear hb))
      | (go_at_call 118; refine Calls.mono (by with_reducible exact HID.out _) ?_; rintro e wx ⟨rfl, hwx⟩; subst wx)
      | (go_at_call 118; refine Calls.mono (by with_reducible exact HIR.out _) ?_; rintro e wx ⟨rfl, hwx⟩; subst wx))
     go_ret
     exact ⟨ret_bool HR.out.symm, H2.out.1⟩
    | true =>
     rw [hir, Bool.true_and] at hR
     rw [hir] at HIR
     obtain ⟨gd, od, kd, e9, rfl, hkd, hgd, cd⟩ := HVV.out dst hid
     subst e9
     clear hid
     have HVA : Hid (∀ v, inB v vl = true → ∃ k : Nat, v = (k : Int) ∧ (k : Int) < (vl : Int) ∧ w.cell? ⟨gd, od + k, none⟩ = some (.int .u8 (varT G.vars v))) := fun v hv => by
      obtain ⟨g', o', k', e1, e2, e3, _, e5⟩ := HVV.out v hv
      cases e1
      exact ⟨k', e2, e3, e5⟩
     clear HVV
     obtain ⟨k, hk⟩ : ∃ k : Nat, ref = (k : Int) := Int.eq_ofNat_of_zero_le (inB_iff.1 hir).1
     subst hk
     have hkp : k < al := by have := (inB_iff.1 hir).2; omega
     have hkp' : (k : Int) < al := by omega
     rw [Int.toNat_natCast] at hR
     obtain ⟨gq, oq, e8, hgq, cq, cq2⟩ := HAA.out k hkp
     subst e8
     clear hir HAA cq2 hkp
     generalize (G.arrs.getD k default).1 = at' at *
     by_cases hln : xn = 1
     rotate_left
     ·have hlf : ((xn : Int) == 1) = false := beq_false_of_ne (by omega)
      have HR : Hid (R = false) := by show _ = _; rw [hR, hlf]; rfl
      clear hR HXX HAM hln HVA
      go_enter Tryz.func61, Tryz.ntmps61
      go_wp2_with (first
       | (go_at_call 119; go_loud (refine Calls.mono (by exact HPN.out _ H0.out.1) ?_; rintro e w1 ⟨rfl, hb⟩; have H1 : Hid (Below w.heap.size w w1 ∧ Duo w.heap.size [.string nm, .slice pa pl pc, .int .u8 r, .slice (some ⟨gd, od, none⟩) vl vc, .slice (some ⟨gq, oq, none⟩) al ac, .slice ba bl bc] [.int .u8 6, .int .u8 op, .int .i64 (kd : Int), .slice xa xn xc, .int .u64 bits, .int .i64 (k : Int)] w1) := ⟨below_trans H0.out.1 hb, H0.out.2.below hb⟩; obtain ⟨f0, f1, f2, f3, f4, f5⟩ := box6 H1.out.2.g; obtain ⟨y0, y1, y2, y3, y4, y5⟩ := box6 H1.out.2.t; clear hb))
       | (go_at_call 115; go_loud (refine Calls.mono (by exact HVR.out _ H1.out.1) ?_; rintro e w2 ⟨rfl, hb⟩; have H2 : Hid (Below w.heap.size w w2 ∧ Duo w.heap.size [.string nm, .slice pa pl pc, .int .u8 r, .slice (some ⟨gd, od, none⟩) vl vc, .slice (some ⟨gq, oq, none⟩) al ac, .slice ba bl bc] [.int .u8 6, .int .u8 op, .int .i64 (kd : Int), .slice xa xn xc, .int .u64 bits, .int .i64 (k : Int)] w2) := ⟨below_trans H1.out.1 hb, H1.out.2.below hb⟩; clear f0 f1 f2 f3 f4 f5 y0 y1 y2 y3 y4 y5; obtain ⟨g0, g1, g2, g3, g4, g5⟩ := box6 H2.out.2.g; obtain ⟨z0, z1, z2, z3, z4, z5⟩ := box6 H2.out.2.t; clear hb))
       | (go_at_call 118; refine Calls.mono (by with_reducible exact HID.out _) ?_; rintro e wx ⟨rfl, hwx⟩; subst wx)
       | (go_at_call 118; refine Calls.mono (by with_reducible exact HIR.out _) ?_; rintro e wx ⟨rfl, hwx⟩; subst wx))
      go_quiet (fail)
      go_wp2
      go_ret
      exact ⟨ret_bool HR.out.symm, (by repeat (first | exact H2.out.1 | refine below_drewN ?_ _ | refine below_drew ?_))⟩
     subst hln
     obtain ⟨gx, ox, e7, hgx, cx⟩ := HXX.out 0 (by omega)
     subst e7
     obtain ⟨ka, hka, hkan, cka⟩ := HVA.out _ (HAM 0 (by omega))
     rw [hka] at cx cka hR
     rw [Nat.add_zero] at cx
     clear HXX HAM HVA hka
     generalize varT G.vars (ka : Int) = ta at *
     generalize varT G.vars (kd : Int) = td at *
     by_cases h4 : ta = 4
     rotate_left
     ·have h4f : (ta == 4) = false := beq_false_of_ne h4
      have HR : Hid (R = false) := by show _ = _; rw [hR, h4f]; simp
      clear hR h4
      go_enter Tryz.func61, Tryz.ntmps61
      go_wp2_with (first
       | (go_at_call 119; go_loud (refine Calls.mono (by exact HPN.out _ H0.out.1) ?_; rintro e w1 ⟨rfl, hb⟩; have H1 : Hid (Below w.heap.size w w1 ∧ Duo w.heap.size [.string nm, .slice pa pl pc, .int .u8 r, .slice (some ⟨gd, od, none⟩) vl vc, .slice (some ⟨gq, oq, none⟩) al ac, .slice ba bl bc] [.int .u8 6, .int .u8 op, .int .i64 (kd : Int), .slice (some ⟨gx, ox, none⟩) 1 xc, .int .u64 bits, .int .i64 (k : Int)] w1) := ⟨below_trans H0.out.1 hb, H0.out.2.below hb⟩; obtain ⟨f0, f1, f2, f3, f4, f5⟩ := box6 H1.out.2.g; obtain ⟨y0, y1, y2, y3, y4, y5⟩ := box6 H1.out.2.t; clear hb))
       | (go_at_call 115; go_loud (refine Calls.mono (by exact HVR.out _ H1.out.1) ?_; rintro e w2 ⟨rfl, hb⟩; have H2 : Hid (Below w.heap.size w w2 ∧ Duo w.heap.size [.string nm, .slice pa pl pc, .int .u8 r, .slice (some ⟨gd, od, none⟩) vl vc, .slice (some ⟨gq, oq, none⟩) al ac, .slice ba bl bc] [.int .u8 6, .int .u8 op, .int .i64 (kd : Int), .slice (some ⟨gx, ox, none⟩) 1 xc, .int .u64 bits, .int .i64 (k : Int)] w2) := ⟨below_trans H1.out.1 hb, H1.out.2.below hb⟩; clear f0 f1 f2 f3 f4 f5 y0 y1 y2 y3 y4 y5; obtain ⟨g0, g1, g2, g3, g4, g5⟩ := box6 H2.out.2.g; obtain ⟨z0, z1, z2, z3, z4, z5⟩ := box6 H2.out.2.t; clear hb))
       | (go_at_call 118; refine Calls.mono (by with_reducible exact HID.out _) ?_; rintro e wx ⟨rfl, hwx⟩; subst wx)
       | (go_at_call 118; refine Calls.mono (by with_reducible exact HIR.out _) ?_; rintro e wx ⟨rfl, hwx⟩; subst wx))
      have cxx := (H2.out.1.cell (p := ⟨gx, ox, none⟩) hgx).trans cx
      have caa := (H2.out.1.cell (p := ⟨gd, od + ka, none⟩) hgd).trans cka
      have cqq := (H2.out.1.cell (p := ⟨gq, oq + k * 2, none⟩) hgq).trans cq
      have cdd := (H2.out.1.cell (p := ⟨gd, od + kd, none⟩) hgd).trans cd
      go_quiet (fail)
      go_wp2
      go_ret
      exact ⟨ret_bool HR.out.symm, (by repeat (first | exact H2.out.1 | refine below_drewN ?_ _ | refine below_drew ?_))⟩
     subst h4
     have HR : Hid (R = (td == at')) := by show _ = _; rw [hR]; simp
     clear hR
     go_enter Tryz.func61, Tryz.ntmps61
     go_wp2_with (first
      | (go_at_call 119; go_loud (refine Calls.mono (by exact HPN.out _ H0.out.1) ?_; rintro e w1 ⟨rfl, hb⟩; have H1 : Hid (Below w.heap.size w w1 ∧ Duo w.heap.size [.string nm, .slice pa pl pc, .int .u8 r, .slice (some ⟨gd, od, none⟩) vl vc, .slice (some ⟨gq, oq, none⟩) al ac, .slice ba bl bc] [.int .u8 6, .int .u8 op, .int .i64 (kd : Int), .slice (some ⟨gx, ox, none⟩) 1 xc, .int .u64 bits, .int .i64 (k : Int)] w1) := ⟨below_trans H0.out.1 hb, H0.out.2.below hb⟩; obtain ⟨f0, f1, f2, f3, f4, f5⟩ := box6 H1.out.2.g; obtain ⟨y0, y1, y2, y3, y4, y5⟩ := box6 H1.out.2.t; clear hb))
      | (go_at_call 115; go_loud (refine Calls.mono (by exact HVR.out _ H1.out.1) ?_; rintro e w2 ⟨rfl, hb⟩; have H2 : Hid (Below w.heap.size w w2 ∧ Duo w.heap.size [.string nm, .slice pa pl pc, .int .u8 r, .slice (some ⟨gd, od, none⟩) vl vc, .slice (some ⟨gq, oq, none⟩) al ac, .slice ba bl bc] [.int .u8 6, .int .u8 op, .int .i64 (kd : Int), .slice (some ⟨gx, ox, none⟩) 1 xc, .int .u64 bits, .int .i64 (k : Int)] w2) := ⟨below_trans H1.out.1 hb, H1.out.2.below hb⟩; clear f0 f1 f2 f3 f4 f5 y0 y1 y2 y3 y4 y5; obtain ⟨g0, g1, g2, g3, g4, g5⟩ := box6 H2.out.2.g; obtain ⟨z0, z1, z2, z3, z4, z5⟩ := box6 H2.out.2.t; clear hb))
      | (go_at_call 118; refine Calls.mono (by with_reducible exact HID.out _) ?_; rintro e wx ⟨rfl, hwx⟩; subst wx)
      | (go_at_call 118; refine Calls.mono (by with_reducible exact HIR.out _) ?_; rintro e wx ⟨rfl, hwx⟩; subst wx))
     have cxx := (H2.out.1.cell (p := ⟨gx, ox, none⟩) hgx).trans cx
     have caa := (H2.out.1.cell (p := ⟨gd, od + ka, none⟩) hgd).trans cka
     have cqq := (H2.out.1.cell (p := ⟨gq, oq + k * 2, none⟩) hgq).trans cq
     have cdd := (H2.out.1.cell (p := ⟨gd, od + kd, none⟩) hgd).trans cd
     go_quiet (fail)
     go_wp2
     go_ret
     exact ⟨ret_bool (by rw [HR.out]), (by repeat (first | exact H2.out.1 | refine below_drewN ?_ _ | refine below_drew ?_))⟩
theorem aloneK_7 (G : Gr) (op dst : Int) (args : List Int) (bits ref : Int) : aloneR G ⟨7, op, dst, args, bits, ref⟩ = (plainB ⟨7, op, dst, args, bits, ref⟩ && (args.all (inB · G.vars.length) && (inB ref G.arrs.length && ((args.length : Int) == 2 && (varT G.vars (args.getD 0 0) == 4 && varT G.vars (args.getD 1 0) == (G.arrs.getD ref.toNat default).1))))) := by
 unfold aloneR kindR
 simp
set_option maxRecDepth 100000 in
set_option maxHeartbeats 4000000 in
theorem alone_7 (G : Gr) (pv vv av bv : Value) (op dst : Int) (args : List Int) (bits ref : Int) (xv : Value) (w : World) (h : GrAt w pv vv av bv G) (hA : IntsAt w xv args) (_hbits : 0 ≤ bits ∧ bits < 18446744073709551616) :
  Calls Tryz.prog 61 #[.agg #[.string G.name, pv, .int .u8 G.result, vv, av, bv], inV ⟨7, op, dst, args, bits, ref⟩ xv] w fun e w' => e = .returned (.bool (aloneR G ⟨7, op, dst, args, bits, ref⟩)) ∧ Below w.heap.size w w' := by
 have HPN : Hid (∀ W, Below w.heap.size w W → Calls Tryz.prog 119 #[inV ⟨7, op, dst, args, bits, ref⟩ xv] W fun e w' => e = .returned (.bool (plainB ⟨7, op, dst, args, bits, ref⟩)) ∧ Below W.heap.size W w') := fun W hb => rplain_any ⟨7, op, dst, args, bits, ref⟩ xv W (hA.below hb) (show (1 : Int) ≤ 7 by decide) (show (7 : Int) ≤ 10 by decide)
 have HVR : Hid (∀ W, Below w.heap.size w W → Calls Tryz.prog 115 #[.agg #[.string G.name, pv, .int .u8 G.result, vv, av, bv], xv] W fun e w' => e = .returned (.bool (args.all (inB · G.vars.length))) ∧ Below W.heap.size W w') := fun W hb => rvars_any G pv vv av bv args xv W (h.below hb) (hA.below hb)
 obtain ⟨pa, pc, va, vc, aa, ac, ba, bc, rfl, rfl, rfl, rfl, _, _, _, _⟩ := h.openF
 obtain ⟨xa, xc, rfl, hxl⟩ := hA.form
 have HIR : Hid (∀ W, Calls Tryz.prog 118 #[.int .i64 ref, .int .i64 (G.arrs.length : Int)] W fun e w' => e = .returned (.bool (inB ref G.arrs.length)) ∧ w' = W) := fun W => rin_any ref _ W
 have HVV : Hid (∀ v, inB v G.vars.length = true → _) := fun v hv => TysAt.var h.vs hv
 have HAL : Hid (args.all (inB · G.vars.length) = true → ∀ i, i < args.length → inB (args.getD i 0) G.vars.length = true) := fun ha i hi => List.all_eq_true.1 ha (args.getD i 0) (by rw [List.getD, List.getElem?_eq_getElem hi]; exact List.getElem_mem hi)
 have HXX : Hid (∀ i, i < args.length → _) := fun i hi => hA.get (i := i) hi
 have HAA : Hid (∀ i, i < G.arrs.length → _) := fun i hi => ArrsAt.get h.ars (i := i) hi
 obtain ⟨R, hR⟩ : ∃ R, R = aloneR G ⟨7, op, dst, args, bits, ref⟩ := ⟨_, rfl⟩
 rw [← hR]
 rw [aloneK_7] at hR
 clear h hA
 generalize plainB ⟨7, op, dst, args, bits, ref⟩ = bp at *
 generalize hva : args.all (inB · G.vars.length) = bv' at *
 generalize hxn : args.length = xn at *
 generalize hvl : G.vars.length = vl at *
 generalize hal : G.arrs.length = al at *
 generalize G.name = nm at *
 generalize G.params.length = pl at *
 generalize G.blocks.length = bl at *
 generalize G.result = r at *
 clear hva hxn hvl hal
 have H0 : Hid (Below w.heap.size w ((w.alloc (.cells #[.string nm, .slice pa pl pc, .int .u8 r, .slice va vl vc, .slice aa al ac, .slice ba bl bc] 28)).alloc (.cells #[.int .u8 7, .int .u8 op, .int .i64 dst, .slice xa xn xc, .int .u64 bits, .int .i64 ref] 55)) ∧ Duo w.heap.size [.string nm, .slice pa pl pc, .int .u8 r, .slice va vl vc, .slice aa al ac, .slice ba bl bc] [.int .u8 7, .int .u8 op, .int .i64 dst, .slice xa xn xc, .int .u64 bits, .int .i64 ref] ((w.alloc (.cells #[.string nm, .slice pa pl pc, .int .u8 r, .slice va vl vc, .slice aa al ac, .slice ba bl bc] 28)).alloc (.cells #[.int .u8 7, .int .u8 op, .int .i64 dst, .slice xa xn xc, .int .u64 bits, .int .i64 ref] 55))) := ⟨below_alloc (below_alloc (Below.refl _ _) _) _, Duo.new w [.string nm, .slice pa pl pc, .int .u8 r, .slice va vl vc, .slice aa al ac, .slice ba bl bc] [.int .u8 7, .int .u8 op, .int .i64 dst, .slice xa xn xc, .int .u64 bits, .int .i64 ref] 28 55⟩
 cases bp with
 | false =>
  have HR : Hid (R = false) := by show _ = _; rw [hR]; simp
  clear hR HVV HAL HXX HAA
  go_enter Tryz.func61, Tryz.ntmps61
  go_wp2_with (first
   | (go_at_call 119; go_loud (refine Calls.mono (by exact HPN.out _ H0.out.1) ?_; rintro e w1 ⟨rfl, hb⟩; have H1 : Hid (Below w.heap.size w w1 ∧ Duo w.heap.size [.string nm, .slice pa pl pc, .int .u8 r, .slice va vl vc, .slice aa al ac, .slice ba bl bc] [.int .u8 7, .int .u8 op, .int .i64 dst, .slice xa xn xc, .int .u64 bits, .int .i64 ref] w1) := ⟨below_trans H0.out.1 hb, H0.out.2.below hb⟩; obtain ⟨f0, f1, f2, f3, f4, f5⟩ := box6 H1.out.2.g; obtain ⟨y0, y1, y2, y3, y4, y5⟩ := box6 H1.out.2.t; clear hb)))
  go_ret
  exact ⟨ret_bool HR.out.symm, H1.out.1⟩
 | true =>
  cases bv' with
  | false =>
   have HR : Hid (R = false) := by show _ = _; rw [hR]; simp
   clear hR HVV HAL HXX HAA
   go_enter Tryz.func61, Tryz.ntmps61
   go_wp2_with (first
    | (go_at_call 119; go_loud (refine Calls.mono (by exact HPN.out _ H0.out.1) ?_; rintro e w1 ⟨rfl, hb⟩; have H1 : Hid (Below w.heap.size w w1 ∧ Duo w.heap.size [.string nm, .slice pa pl pc, .int .u8 r, .slice va vl vc, .slice aa al ac, .slice ba bl bc] [.int .u8 7, .int .u8 op, .int .i64 dst, .slice xa xn xc, .int .u64 bits, .int .i64 ref] w1) := ⟨below_trans H0.out.1 hb, H0.out.2.below hb⟩; obtain ⟨f0, f1, f2, f3, f4, f5⟩ := box6 H1.out.2.g; obtain ⟨y0, y1, y2, y3, y4, y5⟩ := box6 H1.out.2.t; clear hb))
    | (go_at_call 115; go_loud (refine Calls.mono (by exact HVR.out _ H1.out.1) ?_; rintro e w2 ⟨rfl, hb⟩; have H2 : Hid (Below w.heap.size w w2 ∧ Duo w.heap.size [.string nm, .slice pa pl pc, .int .u8 r, .slice va vl vc, .slice aa al ac, .slice ba bl bc] [.int .u8 7, .int .u8 op, .int .i64 dst, .slice xa xn xc, .int .u64 bits, .int .i64 ref] w2) := ⟨below_trans H1.out.1 hb, H1.out.2.below hb⟩; clear f0 f1 f2 f3 f4 f5 y0 y1 y2 y3 y4 y5; obtain ⟨g0, g1, g2, g3, g4, g5⟩ := box6 H2.out.2.g; obtain ⟨z0, z1, z2, z3, z4, z5⟩ := box6 H2.out.2.t; clear hb)))
   go_ret
   exact ⟨ret_bool HR.out.symm, H2.out.1⟩
  | true =>
   have HAM := HAL.out rfl
   clear HAL
   simp only [Bool.true_and] at hR
   cases hir : inB ref al with
   | false =>
    rw [hir] at hR HIR
    have HR : Hid (R = false) := by show _ = _; rw [hR]; simp
    clear hR HVV HAM HXX HAA
    clear hir
    go_enter Tryz.func61, Tryz.ntmps61
    go_wp2_with (first
     | (go_at_call 119; go_loud (refine Calls.mono (by exact HPN.out _ H0.out.1) ?_; rintro e w1 ⟨rfl, hb⟩; have H1 : Hid (Below w.heap.size w w1 ∧ Duo w.heap.size [.string nm, .slice pa pl pc, .int .u8 r, .slice va vl vc, .slice aa al ac, .slice ba bl bc] [.int .u8 7, .int .u8 op, .int .i64 dst, .slice xa xn xc, .int .u64 bits, .int .i64 ref] w1) := ⟨below_trans H0.out.1 hb, H0.out.2.below hb⟩; obtain ⟨f0, f1, f2, f3, f4, f5⟩ := box6 H1.out.2.g; obtain ⟨y0, y1, y2, y3, y4, y5⟩ := box6 H1.out.2.t; clear hb))
     | (go_at_call 115; go_loud (refine Calls.mono (by exact HVR.out _ H1.out.1) ?_; rintro e w2 ⟨rfl, hb⟩; have H2 : Hid (Below w.heap.size w w2 ∧ Duo w.heap.size [.string nm, .slice pa pl pc, .int .u8 r, .slice va vl vc, .slice aa al ac, .slice ba bl bc] [.int .u8 7, .int .u8 op, .int .i64 dst, .slice xa xn xc, .int .u64 bits, .int .i64 ref] w2) := ⟨below_trans H1.out.1 hb, H1.out.2.below hb⟩; clear f0 f1 f2 f3 f4 f5 y0 y1 y2 y3 y4 y5; obtain ⟨g0, g1, g2, g3, g4, g5⟩ := box6 H2.out.2.g; obtain ⟨z0, z1, z2, z3, z4, z5⟩ := box6 H2.out.2.t; clear hb))
     | (go_at_call 118; refine Calls.mono (by with_reducible exact HIR.out _) ?_; rintro e wx ⟨rfl, hwx⟩; subst wx))
    go_ret
    exact ⟨ret_bool HR.out.symm, H2.out.1⟩
   | true =>
    rw [hir, Bool.true_and] at hR
    rw [hir] at HIR
    obtain ⟨k, hk⟩ : ∃ k : Nat, ref = (k : Int) := Int.eq_ofNat_of_zero_le (inB_iff.1 hir).1
    subst hk
    have hkp : k < al := by have := (inB_iff.1 hir).2; omega
    have hkp' : (k : Int) < al := by omega
    rw [Int.toNat_natCast] at hR
    obtain ⟨gq, oq, e8, hgq, cq, cq2⟩ := HAA.out k hkp
    subst e8
    clear hir HAA cq2 hkp
    generalize (G.arrs.getD k default).1 = at' at *
    by_cases hln : xn = 2
    rotate_left
    ·have hlf : ((xn : Int) == 2) = false := beq_false_of_ne (by omega)
     have HR : Hid (R = false) := by show _ = _; rw [hR, hlf]; rfl
     clear hR HXX HAM hln HVV
     go_enter Tryz.func61, Tryz.ntmps61
     go_wp2_with (first
      | (go_at_call 119; go_loud (refine Calls.mono (by exact HPN.out _ H0.out.1) ?_; rintro e w1 ⟨rfl, hb⟩; have H1 : Hid (Below w.heap.size w w1 ∧ Duo w.heap.size [.string nm, .slice pa pl pc, .int .u8 r, .slice va vl vc, .slice (some ⟨gq, oq, none⟩) al ac, .slice ba bl bc] [.int .u8 7, .int .u8 op, .int .i64 dst, .slice xa xn xc, .int .u64 bits, .int .i64 (k : Int)] w1) := ⟨below_trans H0.out.1 hb, H0.out.2.below hb⟩; obtain ⟨f0, f1, f2, f3, f4, f5⟩ := box6 H1.out.2.g; obtain ⟨y0, y1, y2, y3, y4, y5⟩ := box6 H1.out.2.t; clear hb))
      | (go_at_call 115; go_loud (refine Calls.mono (by exact HVR.out _ H1.out.1) ?_; rintro e w2 ⟨rfl, hb⟩; have H2 : Hid (Below w.heap.size w w2 ∧ Duo w.heap.size [.string nm, .slice pa pl pc, .int .u8 r, .slice va vl vc, .slice (some ⟨gq, oq, none⟩) al ac, .slice ba bl bc] [.int .u8 7, .int .u8 op, .int .i64 dst, .slice xa xn xc, .int .u64 bits, .int .i64 (k : Int)] w2) := ⟨below_trans H1.out.1 hb, H1.out.2.below hb⟩; clear f0 f1 f2 f3 f4 f5 y0 y1 y2 y3 y4 y5; obtain ⟨g0, g1, g2, g3, g4, g5⟩ := box6 H2.out.2.g; obtain ⟨z0, z1, z2, z3, z4, z5⟩ := box6 H2.out.2.t; clear hb))
      | (go_at_call 118; refine Calls.mono (by with_reducible exact HIR.out _) ?_; rintro e wx ⟨rfl, hwx⟩; subst wx))
     go_quiet (fail)
     go_wp2
     go_ret
     exact ⟨ret_bool HR.out.symm, (by repeat (first | exact H2.out.1 | refine below_drewN ?_ _ | refine below_drew ?_))⟩
    subst hln
    obtain ⟨gx, ox, e7, hgx, cx⟩ := HXX.out 0 (by omega)
    subst e7
    obtain ⟨gx1, ox1, e7, _, cx1⟩ := HXX.out 1 (by omega)
    cases e7
    obtain ⟨gd, od, ka, e9, hka, hkan, hgd, cka⟩ := HVV.out _ (HAM 0 (by omega))
    subst e9
    obtain ⟨gd2, od2, kb, e9, hkb, hkbn, _, ckb⟩ := HVV.out _ (HAM 1 (by omega))
    cases e9
    rw [hka] at cx cka hR
    rw [hkb] at cx1 ckb hR
    rw [Nat.add_zero] at cx
    generalize varT G.vars (ka : Int) = ta at *
    generalize varT G.vars (kb : Int) = tb at *
    clear HXX HAM HVV hka hkb
    by_cases h4 : ta = 4
    rotate_left
    ·have h4f : (ta == 4) = false := beq_false_of_ne h4
     have HR : Hid (R = false) := by show _ = _; rw [hR, h4f]; simp
     clear hR h4
     go_enter Tryz.func61, Tryz.ntmps61
     go_wp2_with (first
      | (go_at_call 119; go_loud (refine Calls.mono (by exact HPN.out _ H0.out.1) ?_; rintro e w1 ⟨rfl, hb⟩; have H1 : Hid (Below w.heap.size w w1 ∧ Duo w.heap.size [.string nm, .slice pa pl pc, .int .u8 r, .slice (some ⟨gd, od, none⟩) vl vc, .slice (some ⟨gq, oq, none⟩) al ac, .slice ba bl bc] [.int .u8 7, .int .u8 op, .int .i64 dst, .slice (some ⟨gx, ox, none⟩) 2 xc, .int .u64 bits, .int .i64 (k : Int)] w1) := ⟨below_trans H0.out.1 hb, H0.out.2.below hb⟩; obtain ⟨f0, f1, f2, f3, f4, f5⟩ := box6 H1.out.2.g; obtain ⟨y0, y1, y2, y3, y4, y5⟩ := box6 H1.out.2.t; clear hb))
      | (go_at_call 115; go_loud (refine Calls.mono (by exact HVR.out _ H1.out.1) ?_; rintro e w2 ⟨rfl, hb⟩; have H2 : Hid (Below w.heap.size w w2 ∧ Duo w.heap.size [.string nm, .slice pa pl pc, .int .u8 r, .slice (some ⟨gd, od, none⟩) vl vc, .slice (some ⟨gq, oq, none⟩) al ac, .slice ba bl bc] [.int .u8 7, .int .u8 op, .int .i64 dst, .slice (some ⟨gx, ox, none⟩) 2 xc, .int .u64 bits, .int .i64 (k : Int)] w2) := ⟨below_trans H1.out.1 hb, H1.out.2.below hb⟩; clear f0 f1 f2 f3 f4 f5 y0 y1 y2 y3 y4 y5; obtain ⟨g0, g1, g2, g3, g4, g5⟩ := box6 H2.out.2.g; obtain ⟨z0, z1, z2, z3, z4, z5⟩ := box6 H2.out.2.t; clear hb))
      | (go_at_call 118; refine Calls.mono (by with_reducible exact HIR.out _) ?_; rintro e wx ⟨rfl, hwx⟩; subst wx))
     have cxx := (H2.out.1.cell (p := ⟨gx, ox, none⟩) hgx).trans cx
     have caa := (H2.out.1.cell (p := ⟨gd, od + ka, none⟩) hgd).trans cka
     have cqq := (H2.out.1.cell (p := ⟨gq, oq + k * 2, none⟩) hgq).trans cq
     have cxx1 := (H2.out.1.cell (p := ⟨gx, ox + 1, none⟩) hgx).trans cx1
     have cbb := (H2.out.1.cell (p := ⟨gd, od + kb, none⟩) hgd).trans ckb
     go_quiet (fail)
     go_wp2
     go_ret
     exact ⟨ret_bool HR.out.symm, (by repeat (first | exact H2.out.1 | refine below_drewN ?_ _ | refine below_drew ?_))⟩
    subst h4
    have HR : Hid (R = (tb == at')) := by show _ = _; rw [hR]; simp
    clear hR
    go_enter Tryz.func61, Tryz.ntmps61
    go_wp2_with (first
     | (go_at_call 119; go_loud (refine Calls.mono (by exact HPN.out _ H0.out.1) ?_; rintro e w1 ⟨rfl, hb⟩; have H1 : Hid (Below w.heap.size w w1 ∧ Duo w.heap.size [.string nm, .slice pa pl pc, .int .u8 r, .slice (some ⟨gd, od, none⟩) vl vc, .slice (some ⟨gq, oq, none⟩) al ac, .slice ba bl bc] [.int .u8 7, .int .u8 op, .int .i64 dst, .slice (some ⟨gx, ox, none⟩) 2 xc, .int .u64 bits, .int .i64 (k : Int)] w1) := ⟨below_trans H0.out.1 hb, H0.out.2.below hb⟩; obtain ⟨f0, f1, f2, f3, f4, f5⟩ := box6 H1.out.2.g; obtain ⟨y0, y1, y2, y3, y4, y5⟩ := box6 H1.out.2.t; clear hb))
     | (go_at_call 115; go_loud (refine Calls.mono (by exact HVR.out _ H1.out.1) ?_; rintro e w2 ⟨rfl, hb⟩; have H2 : Hid (Below w.heap.size w w2 ∧ Duo w.heap.size [.string nm, .slice pa pl pc, .int .u8 r, .slice (some ⟨gd, od, none⟩) vl vc, .slice (some ⟨gq, oq, none⟩) al ac, .slice ba bl bc] [.int .u8 7, .int .u8 op, .int .i64 dst, .slice (some ⟨gx, ox, none⟩) 2 xc, .int .u64 bits, .int .i64 (k : Int)] w2) := ⟨below_trans H1.out.1 hb, H1.out.2.below hb⟩; clear f0 f1 f2 f3 f4 f5 y0 y1 y2 y3 y4 y5; obtain ⟨g0, g1, g2, g3, g4, g5⟩ := box6 H2.out.2.g; obtain ⟨z0, z1, z2, z3, z4, z5⟩ := box6 H2.out.2.t; clear hb))
     | (go_at_call 118; refine Calls.mono (by with_reducible exact HIR.out _) ?_; rintro e wx ⟨rfl, hwx⟩; subst wx))
    have cxx := (H2.out.1.cell (p := ⟨gx, ox, none⟩) hgx).trans cx
    have caa := (H2.out.1.cell (p := ⟨gd, od + ka, none⟩) hgd).trans cka
    have cqq := (H2.out.1.cell (p := ⟨gq, oq + k * 2, none⟩) hgq).trans cq
    have cxx1 := (H2.out.1.cell (p := ⟨gx, ox + 1, none⟩) hgx).trans cx1
    have cbb := (H2.out.1.cell (p := ⟨gd, od + kb, none⟩) hgd).trans ckb
    go_quiet (fail)
    go_wp2
    go_ret
    exact ⟨ret_bool (by rw [HR.out]), (by repeat (first | exact H2.out.1 | refine below_drewN ?_ _ | refine below_drew ?_))⟩
end Go.Proofs.YtajaijilfclhpaaGreatDoor
