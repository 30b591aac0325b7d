/- The document's side: may an instruction stand, calls but for what they call?  -/
import Derived.Test.YtajaijilfclhpaaGreatDoorGRef3
import Derived.Test.YtajaijilfclhpaaGreatDoorGFit4M
namespace Go.Proofs.YtajaijilfclhpaaGreatDoor
open Go.RowKit Go.Sort

def kindR (G : Gr) (x : In) : Bool :=
 if x.kind = 1 then x.args.all (fun v => varT G.vars v == varT G.vars x.dst)
 else if x.kind = 2 then rightB (varT G.vars x.dst) x.bits
 else if x.kind = 3 then (x.args.length : Int) == 1 && varT G.vars (x.args.getD 0 0) == varT G.vars x.dst
 else if x.kind = 4 then opR G.vars x
 else if x.kind = 5 then (x.args.length : Int) == 1 && turnsB (varT G.vars x.dst) (varT G.vars (x.args.getD 0 0))
 else if x.kind = 6 then (x.args.length : Int) == 1 && (varT G.vars (x.args.getD 0 0) == 4 && varT G.vars x.dst == (G.arrs.getD x.ref.toNat default).1)
 else if x.kind = 7 then (x.args.length : Int) == 2 && (varT G.vars (x.args.getD 0 0) == 4 && varT G.vars (x.args.getD 1 0) == (G.arrs.getD x.ref.toNat default).1)
 else if x.kind = 9 then decide (0 ≤ x.ref)
 else if x.kind = 10 then (x.args.length : Int) == 1
 else true
def aloneR (G : Gr) (x : In) : Bool := decide (1 ≤ x.kind) && (decide (x.kind ≤ 10) && (plainB x && (x.args.all (inB · G.vars.length) && ((decide (6 < x.kind ∧ x.kind ≠ 9) || inB x.dst G.vars.length) && ((decide (x.kind < 6 ∨ 8 < x.kind) || inB x.ref G.arrs.length) && kindR G x)))))
theorem aloneK_1 (G : Gr) (op dst : Int) (args : List Int) (bits ref : Int) : aloneR G ⟨1, op, dst, args, bits, ref⟩ = (plainB ⟨1, op, dst, args, bits, ref⟩ && (args.all (inB · G.vars.length) && (inB dst G.vars.length && args.all (fun v => varT G.vars v == varT G.vars dst)))) := by
 unfold aloneR kindR
 simp
set_option maxRecDepth 100000 in
set_option maxHeartbeats 4000000 in
theorem alone_1 (G : Gr) (pv vv av bv : Value) (op dst : Int) (args : List Int) (bits ref : Int) (xv : Value) (w : World) (h : GrAt w pv vv av bv G) (hA : IntsAt w xv args) (_hbits : 0 ≤ bits ∧ bits < 18446744073709551616) :
  Calls Tryz.prog 61 #[.agg #[.string G.name, pv, .int .u8 G.result, vv, av, bv], inV ⟨1, op, dst, args, bits, ref⟩ xv] w fun e w' => e = .returned (.bool (aloneR G ⟨1, op, dst, args, bits, ref⟩)) ∧ Below w.heap.size w w' := by
 have HPN : Hid (∀ W, Below w.heap.size w W → Calls Tryz.prog 119 #[inV ⟨1, op, dst, args, bits, ref⟩ xv] W fun e w' => e = .returned (.bool (plainB ⟨1, op, dst, args, bits, ref⟩)) ∧ Below W.heap.size W w') := fun W hb => rplain_any ⟨1, op, dst, args, bits, ref⟩ xv W (hA.below hb) (show (1 : Int) ≤ 1 by decide) (show (1 : Int) ≤ 10 by decide)
 have HVR : Hid (∀ W, Below w.heap.size w W → Calls Tryz.prog 115 #[.agg #[.string G.name, pv, .int .u8 G.result, vv, av, bv], xv] W fun e w' => e = .returned (.bool (args.all (inB · G.vars.length))) ∧ Below W.heap.size W w') := fun W hb => rvars_any G pv vv av bv args xv W (h.below hb) (hA.below hb)
 obtain ⟨pa, pc, va, vc, aa, ac, ba, bc, rfl, rfl, rfl, rfl, _, _, _, _⟩ := h.openF
 obtain ⟨xa, xc, rfl, hxl⟩ := hA.form
 have HID : Hid (∀ W, Calls Tryz.prog 118 #[.int .i64 dst, .int .i64 (G.vars.length : Int)] W fun e w' => e = .returned (.bool (inB dst G.vars.length)) ∧ w' = W) := fun W => rin_any dst _ W
 have HVV : Hid (∀ v, inB v G.vars.length = true → _) := fun v hv => TysAt.var h.vs hv
 have HAL : Hid (args.all (inB · G.vars.length) = true → ∀ i, i < args.length → inB (args.getD i 0) G.vars.length = true) := fun ha i hi => List.all_eq_true.1 ha (args.getD i 0) (by rw [List.getD, List.getElem?_eq_getElem hi]; exact List.getElem_mem hi)
 have HXX : Hid (∀ i, i < args.length → _) := fun i hi => hA.get (i := i) hi
 have HDR : Hid (∀ i, i < args.length → (args.drop i).all (fun v => varT G.vars v == varT G.vars dst) = ((varT G.vars (args.getD i 0) == varT G.vars dst) && (args.drop (i + 1)).all (fun v => varT G.vars v == varT G.vars dst))) := fun i hi => all_drop (d := 0) hi
 have HZ : Hid ((args.drop args.length).all (fun v => varT G.vars v == varT G.vars dst) = true) := by show _ = _; rw [List.drop_length]; rfl
 obtain ⟨R, hR⟩ : ∃ R, R = aloneR G ⟨1, op, dst, args, bits, ref⟩ := ⟨_, rfl⟩
 rw [← hR]
 rw [aloneK_1] at hR
 rw [show args.all (fun v => varT G.vars v == varT G.vars dst) = (args.drop 0).all (fun v => varT G.vars v == varT G.vars dst) from rfl] at hR
 clear h hA
 generalize plainB ⟨1, op, dst, args, bits, ref⟩ = bp at *
 generalize hva : args.all (inB · G.vars.length) = bv' at *
 generalize hxn : args.length = xn at *
 generalize hvl : G.vars.length = vl at *
 generalize hal : G.arrs.length = al at *
 generalize G.name = nm at *
 generalize G.params.length = pl at *
 generalize G.blocks.length = bl at *
 generalize G.result = r at *
 clear hva hxn hvl hal
 have H0 : Hid (Below w.heap.size w ((w.alloc (.cells #[.string nm, .slice pa pl pc, .int .u8 r, .slice va vl vc, .slice aa al ac, .slice ba bl bc] 28)).alloc (.cells #[.int .u8 1, .int .u8 op, .int .i64 dst, .slice xa xn xc, .int .u64 bits, .int .i64 ref] 55)) ∧ Duo w.heap.size [.string nm, .slice pa pl pc, .int .u8 r, .slice va vl vc, .slice aa al ac, .slice ba bl bc] [.int .u8 1, .int .u8 op, .int .i64 dst, .slice xa xn xc, .int .u64 bits, .int .i64 ref] ((w.alloc (.cells #[.string nm, .slice pa pl pc, .int .u8 r, .slice va vl vc, .slice aa al ac, .slice ba bl bc] 28)).alloc (.cells #[.int .u8 1, .int .u8 op, .int .i64 dst, .slice xa xn xc, .int .u64 bits, .int .i64 ref] 55))) := ⟨below_alloc (below_alloc (Below.refl _ _) _) _, Duo.new w [.string nm, .slice pa pl pc, .int .u8 r, .slice va vl vc, .slice aa al ac, .slice ba bl bc] [.int .u8 1, .int .u8 op, .int .i64 dst, .slice xa xn xc, .int .u64 bits, .int .i64 ref] 28 55⟩
 cases bp with
 | false =>
  have HR : Hid (R = false) := by show _ = _; rw [hR]; simp
  clear hR HVV HAL HXX HDR HZ
  go_enter Tryz.func61, Tryz.ntmps61
  go_wp2_with (first
   | (go_at_call 119; go_loud (refine Calls.mono (by exact HPN.out _ H0.out.1) ?_; rintro e w1 ⟨rfl, hb⟩; have H1 : Hid (Below w.heap.size w w1 ∧ Duo w.heap.size [.string nm, .slice pa pl pc, .int .u8 r, .slice va vl vc, .slice aa al ac, .slice ba bl bc] [.int .u8 1, .int .u8 op, .int .i64 dst, .slice xa xn xc, .int .u64 bits, .int .i64 ref] w1) := ⟨below_trans H0.out.1 hb, H0.out.2.below hb⟩; obtain ⟨f0, f1, f2, f3, f4, f5⟩ := box6 H1.out.2.g; obtain ⟨y0, y1, y2, y3, y4, y5⟩ := box6 H1.out.2.t; clear hb)))
  go_ret
  exact ⟨ret_bool HR.out.symm, H1.out.1⟩
 | true =>
  cases bv' with
  | false =>
   have HR : Hid (R = false) := by show _ = _; rw [hR]; simp
   clear hR HVV HAL HXX HDR HZ
   go_enter Tryz.func61, Tryz.ntmps61
   go_wp2_with (first
    | (go_at_call 119; go_loud (refine Calls.mono (by exact HPN.out _ H0.out.1) ?_; rintro e w1 ⟨rfl, hb⟩; have H1 : Hid (Below w.heap.size w w1 ∧ Duo w.heap.size [.string nm, .slice pa pl pc, .int .u8 r, .slice va vl vc, .slice aa al ac, .slice ba bl bc] [.int .u8 1, .int .u8 op, .int .i64 dst, .slice xa xn xc, .int .u64 bits, .int .i64 ref] w1) := ⟨below_trans H0.out.1 hb, H0.out.2.below hb⟩; obtain ⟨f0, f1, f2, f3, f4, f5⟩ := box6 H1.out.2.g; obtain ⟨y0, y1, y2, y3, y4, y5⟩ := box6 H1.out.2.t; clear hb))
    | (go_at_call 115; go_loud (refine Calls.mono (by exact HVR.out _ H1.out.1) ?_; rintro e w2 ⟨rfl, hb⟩; have H2 : Hid (Below w.heap.size w w2 ∧ Duo w.heap.size [.string nm, .slice pa pl pc, .int .u8 r, .slice va vl vc, .slice aa al ac, .slice ba bl bc] [.int .u8 1, .int .u8 op, .int .i64 dst, .slice xa xn xc, .int .u64 bits, .int .i64 ref] w2) := ⟨below_trans H1.out.1 hb, H1.out.2.below hb⟩; clear f0 f1 f2 f3 f4 f5 y0 y1 y2 y3 y4 y5; obtain ⟨g0, g1, g2, g3, g4, g5⟩ := box6 H2.out.2.g; obtain ⟨z0, z1, z2, z3, z4, z5⟩ := box6 H2.out.2.t; clear hb)))
   go_ret
   exact ⟨ret_bool HR.out.symm, H2.out.1⟩
  | true =>
   have HAM := HAL.out rfl
   clear HAL
   simp only [Bool.true_and] at hR
   cases hid : inB dst vl with
   | false =>
    rw [hid] at hR HID
    have HR : Hid (R = false) := by show _ = _; rw [hR]; simp
    clear hR HVV HAM HXX HDR HZ
    clear hid
    go_enter Tryz.func61, Tryz.ntmps61
    go_wp2_with (first
     | (go_at_call 119; go_loud (refine Calls.mono (by exact HPN.out _ H0.out.1) ?_; rintro e w1 ⟨rfl, hb⟩; have H1 : Hid (Below w.heap.size w w1 ∧ Duo w.heap.size [.string nm, .slice pa pl pc, .int .u8 r, .slice va vl vc, .slice aa al ac, .slice ba bl bc] [.int .u8 1, .int .u8 op, .int .i64 dst, .slice xa xn xc, .int .u64 bits, .int .i64 ref] w1) := ⟨below_trans H0.out.1 hb, H0.out.2.below hb⟩; obtain ⟨f0, f1, f2, f3, f4, f5⟩ := box6 H1.out.2.g; obtain ⟨y0, y1, y2, y3, y4, y5⟩ := box6 H1.out.2.t; clear hb))
     | (go_at_call 115; go_loud (refine Calls.mono (by exact HVR.out _ H1.out.1) ?_; rintro e w2 ⟨rfl, hb⟩; have H2 : Hid (Below w.heap.size w w2 ∧ Duo w.heap.size [.string nm, .slice pa pl pc, .int .u8 r, .slice va vl vc, .slice aa al ac, .slice ba bl bc] [.int .u8 1, .int .u8 op, .int .i64 dst, .slice xa xn xc, .int .u64 bits, .int .i64 ref] w2) := ⟨below_trans H1.out.1 hb, H1.out.2.below hb⟩; clear f0 f1 f2 f3 f4 f5 y0 y1 y2 y3 y4 y5; obtain ⟨g0, g1, g2, g3, g4, g5⟩ := box6 H2.out.2.g; obtain ⟨z0, z1, z2, z3, z4, z5⟩ := box6 H2.out.2.t; clear hb))
     | (go_at_call 118; refine Calls.mono (by with_reducible exact HID.out _) ?_; rintro e wx ⟨rfl, hwx⟩; subst wx))
    go_ret
    exact ⟨ret_bool HR.out.symm, H2.out.1⟩
   | true =>
    rw [hid, Bool.true_and] at hR
    rw [hid] at HID
    obtain ⟨gd, od, kd, e9, rfl, hkd, hgd, cd⟩ := HVV.out dst hid
    subst e9
    clear hid
    have HVA : Hid (∀ v, inB v vl = true → ∃ k : Nat, v = (k : Int) ∧ (k : Int) < (vl : Int) ∧ w.cell? ⟨gd, od + k, none⟩ = some (.int .u8 (varT G.vars v))) := fun v hv => by
     obtain ⟨g', o', k', e1, e2, e3, _, e5⟩ := HVV.out v hv
     cases e1
     exact ⟨k', e2, e3, e5⟩
    clear HVV
    have HR : Hid (R = (args.drop 0).all (fun v => varT G.vars v == varT G.vars (kd : Int))) := hR
    have HAM2 : Hid _ := HAM
    clear hR HAM
    go_enter Tryz.func61, Tryz.ntmps61
    go_wp2_with (first
     | (go_at_call 119; go_loud (refine Calls.mono (by exact HPN.out _ H0.out.1) ?_; rintro e w1 ⟨rfl, hb⟩; have H1 : Hid (Below w.heap.size w w1 ∧ Duo w.heap.size [.string nm, .slice pa pl pc, .int .u8 r, .slice (some ⟨gd, od, none⟩) vl vc, .slice aa al ac, .slice ba bl bc] [.int .u8 1, .int .u8 op, .int .i64 (kd : Int), .slice xa xn xc, .int .u64 bits, .int .i64 ref] w1) := ⟨below_trans H0.out.1 hb, H0.out.2.below hb⟩; obtain ⟨f0, f1, f2, f3, f4, f5⟩ := box6 H1.out.2.g; obtain ⟨y0, y1, y2, y3, y4, y5⟩ := box6 H1.out.2.t; clear hb))
     | (go_at_call 115; go_loud (refine Calls.mono (by exact HVR.out _ H1.out.1) ?_; rintro e w2 ⟨rfl, hb⟩; have H2 : Hid (Below w.heap.size w w2 ∧ Duo w.heap.size [.string nm, .slice pa pl pc, .int .u8 r, .slice (some ⟨gd, od, none⟩) vl vc, .slice aa al ac, .slice ba bl bc] [.int .u8 1, .int .u8 op, .int .i64 (kd : Int), .slice xa xn xc, .int .u64 bits, .int .i64 ref] w2) := ⟨below_trans H1.out.1 hb, H1.out.2.below hb⟩; clear f0 f1 f2 f3 f4 f5 y0 y1 y2 y3 y4 y5; obtain ⟨g0, g1, g2, g3, g4, g5⟩ := box6 H2.out.2.g; obtain ⟨z0, z1, z2, z3, z4, z5⟩ := box6 H2.out.2.t; clear hb))
     | (go_at_call 118; refine Calls.mono (by with_reducible exact HID.out _) ?_; rintro e wx ⟨rfl, hwx⟩; subst wx))
    go_loopw [6] (fun vi wr => ∃ i : Nat, vi = .int .i64 i ∧ i ≤ xn ∧ Hid (R = (args.drop i).all (fun v => varT G.vars v == varT G.vars (kd : Int)) ∧ Below w.heap.size w wr ∧ Duo w.heap.size [.string nm, .slice pa pl pc, .int .u8 r, .slice (some ⟨gd, od, none⟩) vl vc, .slice aa al ac, .slice ba bl bc] [.int .u8 1, .int .u8 op, .int .i64 (kd : Int), .slice xa xn xc, .int .u64 bits, .int .i64 ref] wr)) (fun vi _ => xn - (intOf vi).toNat)
    case atStart => exact ⟨0, rfl, by omega, HR.out, H2.out.1, H2.out.2⟩
    case round =>
     obtain ⟨i, rfl, hi, hr⟩ := hrel
     clear HR H0 H1 H2 g0 g1 g2 g3 g4 g5 z0 z1 z2 z3 z4 z5 HPN HVR HID
     obtain ⟨g0, g1, g2, g3, g4, g5⟩ := box6 hr.out.2.2.g
     obtain ⟨z0, z1, z2, z3, z4, z5⟩ := box6 hr.out.2.2.t
     have hwl := hr.out.2.2.t.lt
     by_cases hin : i < xn
     ·obtain ⟨gx, ox, rfl, hgx, cx⟩ := HXX.out i hin
      have hin' : (i : Int) < xn := by omega
      have hd : R = _ := hr.out.1.trans (HDR.out i hin)
      obtain ⟨ka, hka, hkan, cka⟩ := HVA.out _ (HAM2.out i hin)
      have cx' := (hr.out.2.1.cell (p := ⟨gx, ox + i, none⟩) hgx).trans cx
      rw [hka] at cka cx' hd
      have cka' := (hr.out.2.1.cell (p := ⟨gd, od + ka, none⟩) hgd).trans cka
      have cd' := (hr.out.2.1.cell (p := ⟨gd, od + kd, none⟩) hgd).trans cd
      clear cx cka hka HXX HVA HAM2 HDR HZ
      generalize varT G.vars (ka : Int) = ta at *
      have HRB : Hid _ := hr.out.2
      by_cases he : ta = varT G.vars (kd : Int)
      ·have HD : Hid (R = (args.drop (i + 1)).all (fun v => varT G.vars v == varT G.vars (kd : Int))) := by show _ = _; rw [hd, beq_iff_eq.2 he, Bool.true_and]
       clear hd hr
       rw [← he] at cd' cd
       have hne : (ta != ta) = false := by simp
       clear he
       go_wp2
       go_quiet (fail)
       go_wp2
       go_roundw
       case rel => exact ⟨i + 1, by first | rfl | (congr 1; omega), by omega, HD.out, by repeat (first | exact HRB.out.1 | refine below_drewN ?_ _ | refine below_drew ?_), ⟨HRB.out.2.g.same (by rfl), HRB.out.2.t.same (by rfl)⟩⟩
       case measure => simp [intOf]; omega
      ·have HD : Hid (R = false) := by show _ = _; rw [hd, beq_false_of_ne he]; rfl
       clear hd hr
       generalize varT G.vars (kd : Int) = td at *
       have hne : (ta != td) = true := bne_iff_ne.2 he
       clear he
       go_wp2
       go_quiet (fail)
       go_wp2
       go_ret
       exact ⟨ret_bool HD.out.symm, by repeat (first | exact HRB.out.1 | refine below_drewN ?_ _ | refine below_drew ?_)⟩
     ·obtain rfl : i = xn := by omega
      have hd : R = true := by rw [hr.out.1, HZ.out]
      have HD : Hid _ := hd
      clear hd HXX HVA HAM2 HDR HZ
      go_wp2
      go_ret
      exact ⟨ret_bool HD.out.symm, hr.out.2.1⟩
theorem aloneK_2 (G : Gr) (op dst : Int) (args : List Int) (bits ref : Int) : aloneR G ⟨2, op, dst, args, bits, ref⟩ = (plainB ⟨2, op, dst, args, bits, ref⟩ && (args.all (inB · G.vars.length) && (inB dst G.vars.length && rightB (varT G.vars dst) bits))) := by
 unfold aloneR kindR
 simp
set_option maxRecDepth 100000 in
set_option maxHeartbeats 4000000 in
theorem alone_2 (G : Gr) (pv vv av bv : Value) (op dst : Int) (args : List Int) (bits ref : Int) (xv : Value) (w : World) (h : GrAt w pv vv av bv G) (hA : IntsAt w xv args) (hbits : 0 ≤ bits ∧ bits < 18446744073709551616) :
  Calls Tryz.prog 61 #[.agg #[.string G.name, pv, .int .u8 G.result, vv, av, bv], inV ⟨2, op, dst, args, bits, ref⟩ xv] w fun e w' => e = .returned (.bool (aloneR G ⟨2, op, dst, args, bits, ref⟩)) ∧ Below w.heap.size w w' := by
 have HPN : Hid (∀ W, Below w.heap.size w W → Calls Tryz.prog 119 #[inV ⟨2, op, dst, args, bits, ref⟩ xv] W fun e w' => e = .returned (.bool (plainB ⟨2, op, dst, args, bits, ref⟩)) ∧ Below W.heap.size W w') := fun W hb => rplain_any ⟨2, op, dst, args, bits, ref⟩ xv W (hA.below hb) (show (1 : Int) ≤ 2 by decide) (show (2 : Int) ≤ 10 by decide)
 have HVR : Hid (∀ W, Below w.heap.size w W → Calls Tryz.prog 115 #[.agg #[.string G.name, pv, .int .u8 G.result, vv, av, bv], xv] W fun e w' => e = .returned (.bool (args.all (inB · G.vars.length))) ∧ Below W.heap.size W w') := fun W hb => rvars_any G pv vv av bv args xv W (h.below hb) (hA.below hb)
 obtain ⟨pa, pc, va, vc, aa, ac, ba, bc, rfl, rfl, rfl, rfl, _, _, _, _⟩ := h.openF
 obtain ⟨xa, xc, rfl, hxl⟩ := hA.form
 have HID : Hid (∀ W, Calls Tryz.prog 118 #[.int .i64 dst, .int .i64 (G.vars.length : Int)] W fun e w' => e = .returned (.bool (inB dst G.vars.length)) ∧ w' = W) := fun W => rin_any dst _ W
 have HVV : Hid (∀ v, inB v G.vars.length = true → _) := fun v hv => TysAt.var h.vs hv
 have HAL : Hid (args.all (inB · G.vars.length) = true → ∀ i, i < args.length → inB (args.getD i 0) G.vars.length = true) := fun ha i hi => List.all_eq_true.1 ha (args.getD i 0) (by rw [List.getD, List.getElem?_eq_getElem hi]; exact List.getElem_mem hi)
 have HXX : Hid (∀ i, i < args.length → _) := fun i hi => hA.get (i := i) hi
 obtain ⟨R, hR⟩ : ∃ R, R = aloneR G ⟨2, op, dst, args, bits, ref⟩ := ⟨_, rfl⟩
 rw [← hR]
 rw [aloneK_2] at hR
 clear h hA
 generalize plainB ⟨2, op, dst, args, bits, ref⟩ = bp at *
 generalize hva : args.all (inB · G.vars.length) = bv' at *
 generalize hxn : args.length = xn at *
 generalize hvl : G.vars.length = vl at *
 generalize hal : G.arrs.length = al at *
 generalize G.name = nm at *
 generalize G.params.length = pl at *
 generalize G.blocks.length = bl at *
 generalize G.result = r at *
 clear hva hxn hvl hal
 have H0 : Hid (Below w.heap.size w ((w.alloc (.cells #[.string nm, .slice pa pl pc, .int .u8 r, .slice va vl vc, .slice aa al ac, .slice ba bl bc] 28)).alloc (.cells #[.int .u8 2, .int .u8 op, .int .i64 dst, .slice xa xn xc, .int .u64 bits, .int .i64 ref] 55)) ∧ Duo w.heap.size [.string nm, .slice pa pl pc, .int .u8 r, .slice va vl vc, .slice aa al ac, .slice ba bl bc] [.int .u8 2, .int .u8 op, .int .i64 dst, .slice xa xn xc, .int .u64 bits, .int .i64 ref] ((w.alloc (.cells #[.string nm, .slice pa pl pc, .int .u8 r, .slice va vl vc, .slice aa al ac, .slice ba bl bc] 28)).alloc (.cells #[.int .u8 2, .int .u8 op, .int .i64 dst, .slice xa xn xc, .int .u64 bits, .int .i64 ref] 55))) := ⟨below_alloc (below_alloc (Below.refl _ _) _) _, Duo.new w [.string nm, .slice pa pl pc, .int .u8 r, .slice va vl vc, .slice aa al ac, .slice ba bl bc] [.int .u8 2, .int .u8 op, .int .i64 dst, .slice xa xn xc, .int .u64 bits, .int .i64 ref] 28 55⟩
 cases bp with
 | false =>
  have HR : Hid (R = false) := by show _ = _; rw [hR]; simp
  clear hR HVV HAL HXX
  go_enter Tryz.func61, Tryz.ntmps61
  go_wp2_with (first
   | (go_at_call 119; go_loud (refine Calls.mono (by exact HPN.out _ H0.out.1) ?_; rintro e w1 ⟨rfl, hb⟩; have H1 : Hid (Below w.heap.size w w1 ∧ Duo w.heap.size [.string nm, .slice pa pl pc, .int .u8 r, .slice va vl vc, .slice aa al ac, .slice ba bl bc] [.int .u8 2, .int .u8 op, .int .i64 dst, .slice xa xn xc, .int .u64 bits, .int .i64 ref] w1) := ⟨below_trans H0.out.1 hb, H0.out.2.below hb⟩; obtain ⟨f0, f1, f2, f3, f4, f5⟩ := box6 H1.out.2.g; obtain ⟨y0, y1, y2, y3, y4, y5⟩ := box6 H1.out.2.t; clear hb)))
  go_ret
  exact ⟨ret_bool HR.out.symm, H1.out.1⟩
 | true =>
  cases bv' with
  | false =>
   have HR : Hid (R = false) := by show _ = _; rw [hR]; simp
   clear hR HVV HAL HXX
   go_enter Tryz.func61, Tryz.ntmps61
   go_wp2_with (first
    | (go_at_call 119; go_loud (refine Calls.mono (by exact HPN.out _ H0.out.1) ?_; rintro e w1 ⟨rfl, hb⟩; have H1 : Hid (Below w.heap.size w w1 ∧ Duo w.heap.size [.string nm, .slice pa pl pc, .int .u8 r, .slice va vl vc, .slice aa al ac, .slice ba bl bc] [.int .u8 2, .int .u8 op, .int .i64 dst, .slice xa xn xc, .int .u64 bits, .int .i64 ref] w1) := ⟨below_trans H0.out.1 hb, H0.out.2.below hb⟩; obtain ⟨f0, f1, f2, f3, f4, f5⟩ := box6 H1.out.2.g; obtain ⟨y0, y1, y2, y3, y4, y5⟩ := box6 H1.out.2.t; clear hb))
    | (go_at_call 115; go_loud (refine Calls.mono (by exact HVR.out _ H1.out.1) ?_; rintro e w2 ⟨rfl, hb⟩; have H2 : Hid (Below w.heap.size w w2 ∧ Duo w.heap.size [.string nm, .slice pa pl pc, .int .u8 r, .slice va vl vc, .slice aa al ac, .slice ba bl bc] [.int .u8 2, .int .u8 op, .int .i64 dst, .slice xa xn xc, .int .u64 bits, .int .i64 ref] w2) := ⟨below_trans H1.out.1 hb, H1.out.2.below hb⟩; clear f0 f1 f2 f3 f4 f5 y0 y1 y2 y3 y4 y5; obtain ⟨g0, g1, g2, g3, g4, g5⟩ := box6 H2.out.2.g; obtain ⟨z0, z1, z2, z3, z4, z5⟩ := box6 H2.out.2.t; clear hb)))
   go_ret
   exact ⟨ret_bool HR.out.symm, H2.out.1⟩
  | true =>
   have HAM := HAL.out rfl
   clear HAL
   simp only [Bool.true_and] at hR
   cases hid : inB dst vl with
   | false =>
    rw [hid] at hR HID
    have HR : Hid (R = false) := by show _ = _; rw [hR]; simp
    clear hR HVV HAM HXX
    clear hid
    go_enter Tryz.func61, Tryz.ntmps61
    go_wp2_with (first
     | (go_at_call 119; go_loud (refine Calls.mono (by exact HPN.out _ H0.out.1) ?_; rintro e w1 ⟨rfl, hb⟩; have H1 : Hid (Below w.heap.size w w1 ∧ Duo w.heap.size [.string nm, .slice pa pl pc, .int .u8 r, .slice va vl vc, .slice aa al ac, .slice ba bl bc] [.int .u8 2, .int .u8 op, .int .i64 dst, .slice xa xn xc, .int .u64 bits, .int .i64 ref] w1) := ⟨below_trans H0.out.1 hb, H0.out.2.below hb⟩; obtain ⟨f0, f1, f2, f3, f4, f5⟩ := box6 H1.out.2.g; obtain ⟨y0, y1, y2, y3, y4, y5⟩ := box6 H1.out.2.t; clear hb))
     | (go_at_call 115; go_loud (refine Calls.mono (by exact HVR.out _ H1.out.1) ?_; rintro e w2 ⟨rfl, hb⟩; have H2 : Hid (Below w.heap.size w w2 ∧ Duo w.heap.size [.string nm, .slice pa pl pc, .int .u8 r, .slice va vl vc, .slice aa al ac, .slice ba bl bc] [.int .u8 2, .int .u8 op, .int .i64 dst, .slice xa xn xc, .int .u64 bits, .int .i64 ref] w2) := ⟨below_trans H1.out.1 hb, H1.out.2.below hb⟩; clear f0 f1 f2 f3 f4 f5 y0 y1 y2 y3 y4 y5; obtain ⟨g0, g1, g2, g3, g4, g5⟩ := box6 H2.out.2.g; obtain ⟨z0, z1, z2, z3, z4, z5⟩ := box6 H2.out.2.t; clear hb))
     | (go_at_call 118; refine Calls.mono (by with_reducible exact HID.out _) ?_; rintro e wx ⟨rfl, hwx⟩; subst wx))
    go_ret
    exact ⟨ret_bool HR.out.symm, H2.out.1⟩
   | true =>
    rw [hid, Bool.true_and] at hR
    rw [hid] at HID
    obtain ⟨gd, od, kd, e9, rfl, hkd, hgd, cd⟩ := HVV.out dst hid
    subst e9
    clear hid
    have HVA : Hid (∀ v, inB v vl = true → ∃ k : Nat, v = (k : Int) ∧ (k : Int) < (vl : Int) ∧ w.cell? ⟨gd, od + k, none⟩ = some (.int .u8 (varT G.vars v))) := fun v hv => by
     obtain ⟨g', o', k', e1, e2, e3, _, e5⟩ := HVV.out v hv
     cases e1
     exact ⟨k', e2, e3, e5⟩
    clear HVV
    have HRT : Hid (∀ W, Calls Tryz.prog 120 #[.int .u8 (varT G.vars (kd : Int)), .int .u64 bits] W fun e w' => e = .returned (.bool (rightB (varT G.vars (kd : Int)) bits)) ∧ w' = W) := fun W => rright_any _ bits W hbits
    generalize varT G.vars (kd : Int) = td at *
    have HR : Hid (R = rightB td bits) := hR
    clear hR HXX HAM HVA hbits
    go_enter Tryz.func61, Tryz.ntmps61
    go_wp2_with (first
     | (go_at_call 119; go_loud (refine Calls.mono (by exact HPN.out _ H0.out.1) ?_; rintro e w1 ⟨rfl, hb⟩; have H1 : Hid (Below w.heap.size w w1 ∧ Duo w.heap.size [.string nm, .slice pa pl pc, .int .u8 r, .slice (some ⟨gd, od, none⟩) vl vc, .slice aa al ac, .slice ba bl bc] [.int .u8 2, .int .u8 op, .int .i64 (kd : Int), .slice xa xn xc, .int .u64 bits, .int .i64 ref] w1) := ⟨below_trans H0.out.1 hb, H0.out.2.below hb⟩; obtain ⟨f0, f1, f2, f3, f4, f5⟩ := box6 H1.out.2.g; obtain ⟨y0, y1, y2, y3, y4, y5⟩ := box6 H1.out.2.t; clear hb))
     | (go_at_call 115; go_loud (refine Calls.mono (by exact HVR.out _ H1.out.1) ?_; rintro e w2 ⟨rfl, hb⟩; have H2 : Hid (Below w.heap.size w w2 ∧ Duo w.heap.size [.string nm, .slice pa pl pc, .int .u8 r, .slice (some ⟨gd, od, none⟩) vl vc, .slice aa al ac, .slice ba bl bc] [.int .u8 2, .int .u8 op, .int .i64 (kd : Int), .slice xa xn xc, .int .u64 bits, .int .i64 ref] w2) := ⟨below_trans H1.out.1 hb, H1.out.2.below hb⟩; clear f0 f1 f2 f3 f4 f5 y0 y1 y2 y3 y4 y5; obtain ⟨g0, g1, g2, g3, g4, g5⟩ := box6 H2.out.2.g; obtain ⟨z0, z1, z2, z3, z4, z5⟩ := box6 H2.out.2.t; clear hb))
     | (go_at_call 118; refine Calls.mono (by with_reducible exact HID.out _) ?_; rintro e wx ⟨rfl, hwx⟩; subst wx))
    have cdd := (H2.out.1.cell (p := ⟨gd, od + kd, none⟩) hgd).trans cd
    go_quiet ((go_at_call 120; exact Calls.quiet_of_same (HRT.out _)))
    go_wp2
    go_ret
    exact ⟨ret_bool HR.out.symm, (by repeat (first | exact H2.out.1 | refine below_drewN ?_ _ | refine below_drew ?_))⟩
end Go.Proofs.YtajaijilfclhpaaGreatDoor
