/- The document's side: does a call fit what it calls? -/
import Derived.Test.YtobnpllppohofaaGreatDoorGRf1M
import Derived.Test.YtobnpllppohofaaGreatDoorGFit4M
import Derived.Test.YtobnpllppohofaaGreatDoorGRAllM
namespace Go.Proofs.YtobnpllppohofaaGreatDoor
open Go.RowKit Go.Sort

def calledR (p : List Gr) (vars : List Int) (x : In) : Bool := inB x.ref p.length && (((p.getD x.ref.toNat default).params.length == x.args.length) && ((p.getD x.ref.toNat default).params.all (inB · (p.getD x.ref.toNat default).vars.length) && ((varT vars x.dst == (p.getD x.ref.toNat default).result) && (List.range x.args.length).all (fun i => varT vars (x.args.getD i 0) == varT (p.getD x.ref.toNat default).vars ((p.getD x.ref.toNat default).params.getD i 0)))))
set_option maxRecDepth 100000 in
set_option maxHeartbeats 4000000 in
theorem rcalled_any (p : List Gr) (ppv : Value) (G : Gr) (pv vv av bv : Value) (x : In) (xv : Value) (w : World) (hp : GrsAt w ppv p) (h : GrAt w pv vv av bv G) (hA : IntsAt w xv x.args) (hd : inB x.dst G.vars.length = true) (hal : x.args.all (inB · G.vars.length) = true) :
  Calls Tryz.prog 68 #[ppv, .agg #[.string G.name, pv, .int .u8 G.result, vv, av, bv], inV x xv] w fun e w' => e = .returned (.bool (calledR p G.vars x)) ∧ Below w.heap.size w w' := by
 obtain ⟨pa, pc, va, vc, aa, ac, ba, bc, rfl, rfl, rfl, rfl, _, _, _, _⟩ := h.openF
 obtain ⟨qa, qc, rfl, hql⟩ := hp.form
 obtain ⟨xa, xc, rfl, hxl⟩ := hA.form
 obtain ⟨kind, op, dst, args, bits, ref⟩ := x
 dsimp only at *
 have HIN : Hid (∀ W, Calls Tryz.prog 49 #[.int .i64 ref, .int .i64 (p.length : Int)] W fun e w' => e = .returned (.bool (inB ref p.length)) ∧ w' = W) := fun W => rin_any ref _ W
 obtain ⟨gd, od, kd, e1, rfl, hkd, hgd, cd⟩ := TysAt.var h.vs hd
 subst e1
 have HVA : Hid (∀ v, inB v G.vars.length = true → ∃ k : Nat, v = (k : Int) ∧ (k : Int) < (G.vars.length : Int) ∧ w.cell? ⟨gd, od + k, none⟩ = some (.int .u8 (varT G.vars v))) := fun v hv => by
  obtain ⟨g', o', k', e1, e2, e3, _, e5⟩ := TysAt.var h.vs hv
  cases e1
  exact ⟨k', e2, e3, e5⟩
 have HAL : Hid (∀ i, i < args.length → inB (args.getD i 0) G.vars.length = true) := fun i hi => List.all_eq_true.1 hal (args.getD i 0) (by rw [List.getD, List.getElem?_eq_getElem hi]; exact List.getElem_mem hi)
 have HXX : Hid (∀ i, i < args.length → _) := fun i hi => hA.get (i := i) hi
 obtain ⟨R, hR⟩ : ∃ R, R = calledR p G.vars ⟨kind, op, (kd : Int), args, bits, ref⟩ := ⟨_, rfl⟩
 rw [← hR]
 unfold calledR at hR
 dsimp only at hR
 have HB0 : Hid (∀ c d : Array Value, Below w.heap.size w ((w.alloc (.cells c 28)).alloc (.cells d 41))) := fun c d => below_alloc (below_alloc (Below.refl _ _) _) _
 cases hir : inB ref p.length with
 | false =>
  have HR : Hid (R = false) := by show _ = _; rw [hR, hir]; rfl
  rw [hir] at HIN
  clear hR h hA hp hd hal hir HVA HAL HXX
  generalize args.length = xn at *
  generalize p.length = pn at *
  generalize G.vars.length = vl at *
  go_enter Tryz.func68, Tryz.ntmps68
  go_wp2_with (go_at_call 49; refine Calls.mono (HIN.out _) ?_; rintro e wx ⟨rfl, hwx⟩; subst wx)
  go_ret
  exact ⟨ret_bool HR.out.symm, HB0.out _ _⟩
 | true =>
  rw [hir, Bool.true_and] at hR
  obtain ⟨k, hk⟩ : ∃ k : Nat, ref = (k : Int) := Int.eq_ofNat_of_zero_le (inB_iff.1 hir).1
  subst hk
  have hkp : k < p.length := by have := (inB_iff.1 hir).2; omega
  have hkp' : (k : Int) < p.length := by omega
  rw [Int.toNat_natCast] at hR
  obtain ⟨gp, ogp, fpv, fvv, fav, fbv, rfl, hgp, c0, c1, c2, c3, c4, c5, hF⟩ := hp.get hkp
  generalize p.getD k default = F at *
  rw [hir] at HIN
  have HVR : Hid (∀ W, Below w.heap.size w W → Calls Tryz.prog 89 #[.agg #[.string F.name, fpv, .int .u8 F.result, fvv, fav, fbv], fpv] W fun e w' => e = .returned (.bool (F.params.all (inB · F.vars.length))) ∧ Below W.heap.size W w') := fun W hb => rvars_any F fpv fvv fav fbv F.params fpv W (hF.below hb) (hF.ps.below hb)
  obtain ⟨fpa, fpc, fva, fvc, faa, fac, fba, fbc, rfl, rfl, rfl, rfl, hfpl, _, _, _⟩ := hF.openF
  have HFP : Hid (∀ i, i < F.params.length → _) := fun i hi => hF.ps.get (i := i) hi
  have HFV : Hid (∀ v, inB v F.vars.length = true → _) := fun v hv => TysAt.var hF.vs hv
  have HFA : Hid (F.params.all (inB · F.vars.length) = true → ∀ i, i < F.params.length → inB (F.params.getD i 0) F.vars.length = true) := fun ha i hi => List.all_eq_true.1 ha (F.params.getD i 0) (by rw [List.getD, List.getElem?_eq_getElem hi]; exact List.getElem_mem hi)
  have HDR : Hid (∀ i, i < args.length → ((List.range args.length).drop i).all (fun i => varT G.vars (args.getD i 0) == varT F.vars (F.params.getD i 0)) = ((varT G.vars (args.getD i 0) == varT F.vars (F.params.getD i 0)) && ((List.range args.length).drop (i + 1)).all (fun i => varT G.vars (args.getD i 0) == varT F.vars (F.params.getD i 0)))) := fun i hi => by
   rw [all_drop (d := 0) (by simpa using hi)]
   simp [List.getD, hi]
  have HZ : Hid (((List.range args.length).drop args.length).all (fun i => varT G.vars (args.getD i 0) == varT F.vars (F.params.getD i 0)) = true) := by show _ = _; rw [List.drop_eq_nil_of_le (by simp)]; rfl
  clear h hp hA hd hal hir hF
  generalize hpb : F.params.all (inB · F.vars.length) = pb at *
  generalize (List.range args.length) = rg at *
  generalize args.length = xn at *
  generalize p.length = pn at *
  generalize G.name = nm at *
  generalize G.params.length = pl at *
  generalize G.vars.length = vl at *
  generalize G.arrs.length = al at *
  generalize G.blocks.length = bl at *
  generalize G.result = r at *
  generalize F.name = fnm at *
  generalize F.result = fr at *
  generalize F.params.length = fpl at *
  generalize F.vars.length = fvl at *
  generalize F.arrs.length = fal at *
  generalize F.blocks.length = fbl at *
  generalize hdt : varT G.vars (kd : Int) = td at *
  clear hpb hdt hkp
  have H0 : Hid (Below w.heap.size w (((w.alloc (.cells #[.string nm, .slice pa pl pc, .int .u8 r, .slice (some ⟨gd, od, none⟩) vl vc, .slice aa al ac, .slice ba bl bc] 28)).alloc (.cells #[.int .u8 kind, .int .u8 op, .int .i64 (kd : Int), .slice xa xn xc, .int .u64 bits, .int .i64 (k : Int)] 41)).alloc (.cells #[.string fnm, .slice fpa fpl fpc, .int .u8 fr, .slice fva fvl fvc, .slice faa fal fac, .slice fba fbl fbc] 28)) ∧ Trio w.heap.size [.string nm, .slice pa pl pc, .int .u8 r, .slice (some ⟨gd, od, none⟩) vl vc, .slice aa al ac, .slice ba bl bc] [.int .u8 kind, .int .u8 op, .int .i64 (kd : Int), .slice xa xn xc, .int .u64 bits, .int .i64 (k : Int)] [.string fnm, .slice fpa fpl fpc, .int .u8 fr, .slice fva fvl fvc, .slice faa fal fac, .slice fba fbl fbc] (((w.alloc (.cells #[.string nm, .slice pa pl pc, .int .u8 r, .slice (some ⟨gd, od, none⟩) vl vc, .slice aa al ac, .slice ba bl bc] 28)).alloc (.cells #[.int .u8 kind, .int .u8 op, .int .i64 (kd : Int), .slice xa xn xc, .int .u64 bits, .int .i64 (k : Int)] 41)).alloc (.cells #[.string fnm, .slice fpa fpl fpc, .int .u8 fr, .slice fva fvl fvc, .slice faa fal fac, .slice fba fbl fbc] 28))) := ⟨below_alloc (below_alloc (below_alloc (Below.refl _ _) _) _) _, Trio.new w [.string nm, .slice pa pl pc, .int .u8 r, .slice (some ⟨gd, od, none⟩) vl vc, .slice aa al ac, .slice ba bl bc] [.int .u8 kind, .int .u8 op, .int .i64 (kd : Int), .slice xa xn xc, .int .u64 bits, .int .i64 (k : Int)] [.string fnm, .slice fpa fpl fpc, .int .u8 fr, .slice fva fvl fvc, .slice faa fal fac, .slice fba fbl fbc] 28 41 28⟩
  by_cases hl : fpl = xn
  rotate_left
  ·have hl1 : ((fpl : Int) != (xn : Int)) = true := bne_iff_ne.2 (by omega)
   have HR : Hid (R = false) := by show _ = _; rw [hR, beq_false_of_ne hl]; rfl
   clear hl
   clear hR HVA HAL HXX HFP HFV HFA HDR HZ
   go_enter Tryz.func68, Tryz.ntmps68
   go_wp2_with (go_at_call 49; refine Calls.mono (HIN.out _) ?_; rintro e wx ⟨rfl, hwx⟩; subst wx)
   obtain ⟨W, hW⟩ : ∃ W, W = (((w.alloc (.cells #[.string nm, .slice pa pl pc, .int .u8 r, .slice (some ⟨gd, od, none⟩) vl vc, .slice aa al ac, .slice ba bl bc] 28)).alloc (.cells #[.int .u8 kind, .int .u8 op, .int .i64 (kd : Int), .slice xa xn xc, .int .u64 bits, .int .i64 (k : Int)] 41)).alloc (.cells #[.string fnm, .slice fpa fpl fpc, .int .u8 fr, .slice fva fvl fvc, .slice faa fal fac, .slice fba fbl fbc] 28)) := ⟨_, rfl⟩
   rw [← hW] at H0 ⊢
   clear hW
   obtain ⟨e0, e1, e2, e3, e4, e5⟩ := box6 H0.out.2.g
   obtain ⟨x0, x1, x2, x3, x4, x5⟩ := box6 H0.out.2.t
   obtain ⟨o0, o1, o2, o3, o4, o5⟩ := box6 H0.out.2.o
   have cdW := (H0.out.1.cell (p := ⟨gd, od + kd, none⟩) hgd).trans cd
   have ke3 := cell_regrown e3
   have kx2 := cell_regrown x2
   have kx3 := cell_regrown x3
   have ko0 := cell_regrown o0
   have ko1 := cell_regrown o1
   have ko2 := cell_regrown o2
   have ko3 := cell_regrown o3
   have ko4 := cell_regrown o4
   have ko5 := cell_regrown o5
   have kcd := cell_regrown cdW
   have C1 : ∀ d os, _ := fun d os => Calls.regrown_of (HVR.out _ (below_trans H0.out.1 (below_regrown W d os)))
   have D1 : Hid _ := C1
   clear C1 e0 e1 e2 e3 e4 e5 x0 x1 x2 x3 x4 x5 o0 o1 o2 o3 o4 o5 cdW
   refine wp_region_quiet_below (by kernel_rfl) (by kernel_rfl) ?_
   repeat (go_big_quiet_step ((with_reducible exact D1.out _ _)))
   refine wpQuiet_nil ?_
   intro _ hw'
   obtain ⟨⟨dq, osq⟩, hw''⟩ := hw'
   subst hw''
   go_wp2
   go_ret
   exact ⟨ret_bool HR.out.symm, below_trans H0.out.1 (below_regrown W dq osq)⟩
  subst hl
  have hl1 : ((fpl : Int) != (fpl : Int)) = false := by simp
  rw [beq_self_eq_true, Bool.true_and] at hR
  cases pb with
  | false =>
   have HR : Hid (R = false) := by show _ = _; rw [hR]; rfl
   clear hR HVA HAL HXX HFP HFV HFA HDR HZ
   go_enter Tryz.func68, Tryz.ntmps68
   go_wp2_with (go_at_call 49; refine Calls.mono (HIN.out _) ?_; rintro e wx ⟨rfl, hwx⟩; subst wx)
   obtain ⟨W, hW⟩ : ∃ W, W = (((w.alloc (.cells #[.string nm, .slice pa pl pc, .int .u8 r, .slice (some ⟨gd, od, none⟩) vl vc, .slice aa al ac, .slice ba bl bc] 28)).alloc (.cells #[.int .u8 kind, .int .u8 op, .int .i64 (kd : Int), .slice xa fpl xc, .int .u64 bits, .int .i64 (k : Int)] 41)).alloc (.cells #[.string fnm, .slice fpa fpl fpc, .int .u8 fr, .slice fva fvl fvc, .slice faa fal fac, .slice fba fbl fbc] 28)) := ⟨_, rfl⟩
   rw [← hW] at H0 ⊢
   clear hW
   obtain ⟨e0, e1, e2, e3, e4, e5⟩ := box6 H0.out.2.g
   obtain ⟨x0, x1, x2, x3, x4, x5⟩ := box6 H0.out.2.t
   obtain ⟨o0, o1, o2, o3, o4, o5⟩ := box6 H0.out.2.o
   have cdW := (H0.out.1.cell (p := ⟨gd, od + kd, none⟩) hgd).trans cd
   have ke3 := cell_regrown e3
   have kx2 := cell_regrown x2
   have kx3 := cell_regrown x3
   have ko0 := cell_regrown o0
   have ko1 := cell_regrown o1
   have ko2 := cell_regrown o2
   have ko3 := cell_regrown o3
   have ko4 := cell_regrown o4
   have ko5 := cell_regrown o5
   have kcd := cell_regrown cdW
   have C1 : ∀ d os, _ := fun d os => Calls.regrown_of (HVR.out _ (below_trans H0.out.1 (below_regrown W d os)))
   have D1 : Hid _ := C1
   clear C1 e0 e1 e2 e3 e4 e5 x0 x1 x2 x3 x4 x5 o0 o1 o2 o3 o4 o5 cdW
   refine wp_region_quiet_below (by kernel_rfl) (by kernel_rfl) ?_
   repeat (go_big_quiet_step ((with_reducible exact D1.out _ _)))
   refine wpQuiet_nil ?_
   intro _ hw'
   obtain ⟨⟨dq, osq⟩, hw''⟩ := hw'
   subst hw''
   go_wp2
   go_ret
   exact ⟨ret_bool HR.out.symm, below_trans H0.out.1 (below_regrown W dq osq)⟩
  | true =>
   have HFB := HFA.out rfl
   clear HFA
   rw [Bool.true_and] at hR
   by_cases ht : td = fr
   rotate_left
   ·have ht1 : (td != fr) = true := bne_iff_ne.2 ht
    have HR : Hid (R = false) := by show _ = _; rw [hR, beq_false_of_ne ht]; rfl
    clear ht HFB
    clear hR HVA HAL HXX HFP HFV HDR HZ
    go_enter Tryz.func68, Tryz.ntmps68
    go_wp2_with (go_at_call 49; refine Calls.mono (HIN.out _) ?_; rintro e wx ⟨rfl, hwx⟩; subst wx)
    obtain ⟨W, hW⟩ : ∃ W, W = (((w.alloc (.cells #[.string nm, .slice pa pl pc, .int .u8 r, .slice (some ⟨gd, od, none⟩) vl vc, .slice aa al ac, .slice ba bl bc] 28)).alloc (.cells #[.int .u8 kind, .int .u8 op, .int .i64 (kd : Int), .slice xa fpl xc, .int .u64 bits, .int .i64 (k : Int)] 41)).alloc (.cells #[.string fnm, .slice fpa fpl fpc, .int .u8 fr, .slice fva fvl fvc, .slice faa fal fac, .slice fba fbl fbc] 28)) := ⟨_, rfl⟩
    rw [← hW] at H0 ⊢
    clear hW
    obtain ⟨e0, e1, e2, e3, e4, e5⟩ := box6 H0.out.2.g
    obtain ⟨x0, x1, x2, x3, x4, x5⟩ := box6 H0.out.2.t
    obtain ⟨o0, o1, o2, o3, o4, o5⟩ := box6 H0.out.2.o
    have cdW := (H0.out.1.cell (p := ⟨gd, od + kd, none⟩) hgd).trans cd
    have ke3 := cell_regrown e3
    have kx2 := cell_regrown x2
    have kx3 := cell_regrown x3
    have ko0 := cell_regrown o0
    have ko1 := cell_regrown o1
    have ko2 := cell_regrown o2
    have ko3 := cell_regrown o3
    have ko4 := cell_regrown o4
    have ko5 := cell_regrown o5
    have kcd := cell_regrown cdW
    have C1 : ∀ d os, _ := fun d os => Calls.regrown_of (HVR.out _ (below_trans H0.out.1 (below_regrown W d os)))
    have D1 : Hid _ := C1
    clear C1 e0 e1 e2 e3 e4 e5 x0 x1 x2 x3 x4 x5 o0 o1 o2 o3 o4 o5 cdW
    refine wp_region_quiet_below (by kernel_rfl) (by kernel_rfl) ?_
    repeat (go_big_quiet_step ((with_reducible exact D1.out _ _)))
    refine wpQuiet_nil ?_
    intro _ hw'
    obtain ⟨⟨dq, osq⟩, hw''⟩ := hw'
    subst hw''
    go_wp2
    go_ret
    exact ⟨ret_bool HR.out.symm, below_trans H0.out.1 (below_regrown W dq osq)⟩
   subst ht
   have ht1 : (td != td) = false := by simp
   rw [beq_self_eq_true, Bool.true_and] at hR
   have HR : Hid (R = (rg.drop 0).all (fun i => varT G.vars (args.getD i 0) == varT F.vars (F.params.getD i 0))) := hR
   have HFC : Hid _ := HFB
   clear hR HFB
   go_enter Tryz.func68, Tryz.ntmps68
   go_wp2_with (go_at_call 49; refine Calls.mono (HIN.out _) ?_; rintro e wx ⟨rfl, hwx⟩; subst wx)
   obtain ⟨W, hW⟩ : ∃ W, W = (((w.alloc (.cells #[.string nm, .slice pa pl pc, .int .u8 r, .slice (some ⟨gd, od, none⟩) vl vc, .slice aa al ac, .slice ba bl bc] 28)).alloc (.cells #[.int .u8 kind, .int .u8 op, .int .i64 (kd : Int), .slice xa fpl xc, .int .u64 bits, .int .i64 (k : Int)] 41)).alloc (.cells #[.string fnm, .slice fpa fpl fpc, .int .u8 td, .slice fva fvl fvc, .slice faa fal fac, .slice fba fbl fbc] 28)) := ⟨_, rfl⟩
   rw [← hW] at H0 ⊢
   clear hW
   obtain ⟨e0, e1, e2, e3, e4, e5⟩ := box6 H0.out.2.g
   obtain ⟨x0, x1, x2, x3, x4, x5⟩ := box6 H0.out.2.t
   obtain ⟨o0, o1, o2, o3, o4, o5⟩ := box6 H0.out.2.o
   have cdW := (H0.out.1.cell (p := ⟨gd, od + kd, none⟩) hgd).trans cd
   have ke3 := cell_regrown e3
   have kx2 := cell_regrown x2
   have kx3 := cell_regrown x3
   have ko0 := cell_regrown o0
   have ko1 := cell_regrown o1
   have ko2 := cell_regrown o2
   have ko3 := cell_regrown o3
   have ko4 := cell_regrown o4
   have ko5 := cell_regrown o5
   have kcd := cell_regrown cdW
   have C1 : ∀ d os, _ := fun d os => Calls.regrown_of (HVR.out _ (below_trans H0.out.1 (below_regrown W d os)))
   have D1 : Hid _ := C1
   clear C1 e0 e1 e2 e3 e4 e5 x0 x1 x2 x3 x4 x5 o0 o1 o2 o3 o4 o5 cdW
   refine wp_region_quiet_below (by kernel_rfl) (by kernel_rfl) ?_
   repeat (go_big_quiet_step ((with_reducible exact D1.out _ _)))
   refine wpQuiet_nil ?_
   intro _ hw'
   obtain ⟨⟨dq, osq⟩, hw''⟩ := hw'
   subst hw''
   go_wp2
   have HZ0 : Hid (Below w.heap.size w (grow (redrawn W dq) osq) ∧ Trio w.heap.size [.string nm, .slice pa pl pc, .int .u8 r, .slice (some ⟨gd, od, none⟩) vl vc, .slice aa al ac, .slice ba bl bc] [.int .u8 kind, .int .u8 op, .int .i64 (kd : Int), .slice xa fpl xc, .int .u64 bits, .int .i64 (k : Int)] [.string fnm, .slice fpa fpl fpc, .int .u8 td, .slice fva fvl fvc, .slice faa fal fac, .slice fba fbl fbc] (grow (redrawn W dq) osq)) := ⟨below_trans H0.out.1 (below_regrown W dq osq), H0.out.2.below (below_regrown W dq osq)⟩
   go_loopw [8] (fun vi wr => ∃ i : Nat, vi = .int .i64 i ∧ i ≤ fpl ∧ Hid (R = (rg.drop i).all (fun i => varT G.vars (args.getD i 0) == varT F.vars (F.params.getD i 0)) ∧ Below w.heap.size w wr ∧ Trio w.heap.size [.string nm, .slice pa pl pc, .int .u8 r, .slice (some ⟨gd, od, none⟩) vl vc, .slice aa al ac, .slice ba bl bc] [.int .u8 kind, .int .u8 op, .int .i64 (kd : Int), .slice xa fpl xc, .int .u64 bits, .int .i64 (k : Int)] [.string fnm, .slice fpa fpl fpc, .int .u8 td, .slice fva fvl fvc, .slice faa fal fac, .slice fba fbl fbc] wr)) (fun vi _ => fpl - (intOf vi).toNat)
   case atStart => exact ⟨0, rfl, by omega, HR.out, HZ0.out.1, HZ0.out.2⟩
   case round =>
    obtain ⟨i, rfl, hi, hr⟩ := hrel
    clear HR H0 HZ0 D1 HVR HIN ke3 kx2 kx3 ko0 ko1 ko2 ko3 ko4 ko5 kcd c0 c1 c2 c3 c4 c5
    obtain ⟨e0, e1, e2, e3, e4, e5⟩ := box6 hr.out.2.2.g
    obtain ⟨x0, x1, x2, x3, x4, x5⟩ := box6 hr.out.2.2.t
    obtain ⟨o0, o1, o2, o3, o4, o5⟩ := box6 hr.out.2.2.o
    have hwl := hr.out.2.2.o.lt
    by_cases hin : i < fpl
    ·obtain ⟨gq, oq, rfl, hgq, cq⟩ := HFP.out i hin
     obtain ⟨gx, ox, rfl, hgx, cx⟩ := HXX.out i hin
     have hin' : (i : Int) < fpl := by omega
     have hd : R = _ := hr.out.1.trans (HDR.out i hin)
     obtain ⟨ka, hka, hkan, cka⟩ := HVA.out _ (HAL.out i hin)
     obtain ⟨gv, ov, kf, e9, hkf, hkfn, hgv, ckf⟩ := HFV.out _ (HFC.out i hin)
     subst e9
     have cq' := (hr.out.2.1.cell (p := ⟨gq, oq + i, none⟩) hgq).trans cq
     have cx' := (hr.out.2.1.cell (p := ⟨gx, ox + i, none⟩) hgx).trans cx
     rw [hkf] at ckf cq' hd
     rw [hka] at cka cx' hd
     have cka' := (hr.out.2.1.cell (p := ⟨gd, od + ka, none⟩) hgd).trans cka
     have ckf' := (hr.out.2.1.cell (p := ⟨gv, ov + kf, none⟩) hgv).trans ckf
     clear cq cx cka ckf hkf hka HFP HXX HVA HAL HFV HFC HDR HZ
     generalize varT G.vars (ka : Int) = ta at *
     generalize varT F.vars (kf : Int) = tf at *
     have HRB : Hid _ := hr.out.2
     by_cases he : ta = tf
     ·subst he
      have hne : (ta != ta) = false := by simp
      have HD : Hid (R = (rg.drop (i + 1)).all (fun i => varT G.vars (args.getD i 0) == varT F.vars (F.params.getD i 0))) := by show _ = _; rw [hd, beq_self_eq_true, Bool.true_and]
      clear hd
      go_wp2
      go_quiet (fail)
      go_wp2
      go_roundw
      case rel => exact ⟨i + 1, by first | rfl | (congr 1; omega), by omega, HD.out, by repeat (first | exact HRB.out.1 | refine below_drewN ?_ _ | refine below_drew ?_), ⟨HRB.out.2.g.same (by rfl), HRB.out.2.t.same (by rfl), HRB.out.2.o.same (by rfl)⟩⟩
      case measure => simp [intOf]; omega
     ·have hne : (ta != tf) = true := bne_iff_ne.2 he
      have HD : Hid (R = false) := by show _ = _; rw [hd, beq_false_of_ne he]; rfl
      clear hd he
      go_wp2
      go_quiet (fail)
      go_wp2
      go_ret
      exact ⟨ret_bool HD.out.symm, by repeat (first | exact HRB.out.1 | refine below_drewN ?_ _ | refine below_drew ?_)⟩
    ·obtain rfl : i = fpl := by omega
     have hd : R = true := by rw [hr.out.1, HZ.out]
     have HD : Hid _ := hd
     clear hd HFP HXX HVA HAL HFV HFC HDR HZ
     go_wp2
     go_ret
     exact ⟨ret_bool HD.out.symm, hr.out.2.1⟩
end Go.Proofs.YtobnpllppohofaaGreatDoor
/- The document's side: is a graph right in a program? -/
namespace Go.Proofs.YtobnpllppohofaaGreatDoor
open Go.RowKit Go.Sort

def insR (p : List Gr) (G : Gr) (x : In) : Bool := (x.kind != 9) || calledR p G.vars x
def bodyR (p : List Gr) (G : Gr) (b : Bl) : Bool := b.ins.all (insR p G)
def rightR (p : List Gr) (G : Gr) : Bool := aloneG G && G.blocks.all (bodyR p G)
theorem aloneG_ins {G : Gr} (h : aloneG G = true) : ∀ b ∈ G.blocks, ∀ x ∈ b.ins, aloneR G x = true := by
 intro b hb x hx
 unfold aloneG at h
 simp only [Bool.and_eq_true] at h
 have h1 := List.all_eq_true.1 h.2.1 b hb
 unfold blockR at h1
 rw [Bool.and_eq_true] at h1
 exact List.all_eq_true.1 h1.2 x hx
set_option maxRecDepth 100000 in
set_option maxHeartbeats 4000000 in
theorem rright_g (p : List Gr) (ppv : Value) (G : Gr) (pv vv av bv : Value) (w : World) (hp : GrsAt w ppv p) (h : GrAt w pv vv av bv G) (hn : G.blocks.length ≤ 100000) :
  Calls Tryz.prog 46 #[ppv, .agg #[.string G.name, pv, .int .u8 G.result, vv, av, bv]] w fun e w' => e = .returned (.bool (rightR p G)) ∧ Below w.heap.size w w' := by
 have HC1 : Hid (∀ W, Below w.heap.size w W → Calls Tryz.prog 67 #[.agg #[.string G.name, pv, .int .u8 G.result, vv, av, bv]] W fun e w' => e = .returned (.bool (aloneG G)) ∧ Below W.heap.size W w') := fun W hb => raloneG_any G pv vv av bv W (h.below hb) hn
 have HC3 : Hid (∀ x xv W, Below w.heap.size w W → IntsAt w xv x.args → inB x.dst G.vars.length = true → x.args.all (inB · G.vars.length) = true → Calls Tryz.prog 68 #[ppv, .agg #[.string G.name, pv, .int .u8 G.result, vv, av, bv], inV x xv] W fun e w' => e = .returned (.bool (calledR p G.vars x)) ∧ Below W.heap.size W w') := fun x xv W hb hA hd ha => rcalled_any p ppv G pv vv av bv x xv W (hp.below hb) (h.below hb) (hA.below hb) hd ha
 obtain ⟨pa, pc, va, vc, aa, ac, ba, bc, rfl, rfl, rfl, rfl, _, _, _, hbl⟩ := h.openF
 obtain ⟨qa, qc, rfl, _⟩ := hp.form
 have HB : Hid (∀ i, i < G.blocks.length → _) := fun i hi => h.bs.get (i := i) hi
 have HN : Hid (∀ i, i < G.blocks.length → (G.blocks.drop i).all (bodyR p G) = ((G.blocks.getD i default).ins.all (insR p G) && (G.blocks.drop (i + 1)).all (bodyR p G))) := fun i hi => by
  rw [all_drop (d := default) hi]
  rfl
 have HZ : Hid ((G.blocks.drop G.blocks.length).all (bodyR p G) = true) := by show _ = _; rw [List.drop_length]; rfl
 have HAI : Hid (aloneG G = true → ∀ i, i < G.blocks.length → ∀ x ∈ (G.blocks.getD i default).ins, aloneR G x = true) := fun ha i hi x hx => aloneG_ins ha _ (by rw [List.getD, List.getElem?_eq_getElem hi]; exact List.getElem_mem hi) x hx
 obtain ⟨R, hR⟩ : ∃ R, R = rightR p G := ⟨_, rfl⟩
 rw [← hR]
 unfold rightR at hR
 have HAD : Hid (∀ x, aloneR G x = true → x.kind = 9 → inB x.dst G.vars.length = true ∧ x.args.all (inB · G.vars.length) = true) := fun x hx hk => ⟨aloneR_dst hx (by omega), aloneR_args hx⟩
 clear h hn hp
 generalize p.length = pn at *
 generalize G.blocks.length = n at *
 generalize G.name = nm at *
 generalize G.params.length = pl at *
 generalize G.vars.length = m at *
 generalize G.arrs.length = al at *
 generalize G.result = r at *
 have H0 : Hid (Below w.heap.size w (w.alloc (.cells #[.string nm, .slice pa pl pc, .int .u8 r, .slice va m vc, .slice aa al ac, .slice ba n bc] 28)) ∧ Box (w.alloc (.cells #[.string nm, .slice pa pl pc, .int .u8 r, .slice va m vc, .slice aa al ac, .slice ba n bc] 28)) w.heap.size [.string nm, .slice pa pl pc, .int .u8 r, .slice va m vc, .slice aa al ac, .slice ba n bc]) := ⟨below_alloc (Below.refl _ _) _, Box.new w [.string nm, .slice pa pl pc, .int .u8 r, .slice va m vc, .slice aa al ac, .slice ba n bc] 28⟩
 cases hhd : aloneG G with
 | false =>
  rw [hhd] at HC1 hR
  have HR : Hid (R = false) := by show _ = _; rw [hR]; rfl
  clear hR HC3 HB HN HZ hhd HAI HAD
  go_enter Tryz.func46, Tryz.ntmps46
  go_wp2_with (go_at_call 67; go_loud (refine Calls.mono (by exact HC1.out _ H0.out.1) ?_; rintro e w1 ⟨rfl, hb⟩; have H1 : Hid (Below w.heap.size w w1 ∧ Box w1 w.heap.size [.string nm, .slice pa pl pc, .int .u8 r, .slice va m vc, .slice aa al ac, .slice ba n bc]) := ⟨below_trans H0.out.1 hb, H0.out.2.below hb⟩; obtain ⟨f0, f1, f2, f3, f4, f5⟩ := box6 H1.out.2; have hwl := H1.out.2.lt; clear hb))
  go_ret
  exact ⟨ret_bool HR.out.symm, H1.out.1⟩
 | true =>
  rw [hhd, Bool.true_and] at hR
  have HAJ : Hid _ := HAI.out hhd
  rw [hhd] at HC1
  have HQ : Hid (R = (G.blocks.drop 0).all (bodyR p G)) := hR
  clear hR hhd HAI
  go_enter Tryz.func46, Tryz.ntmps46
  go_wp2_with (go_at_call 67; go_loud (refine Calls.mono (by exact HC1.out _ H0.out.1) ?_; rintro e w1 ⟨rfl, hb⟩; have H1 : Hid (Below w.heap.size w w1 ∧ Box w1 w.heap.size [.string nm, .slice pa pl pc, .int .u8 r, .slice va m vc, .slice aa al ac, .slice ba n bc]) := ⟨below_trans H0.out.1 hb, H0.out.2.below hb⟩; obtain ⟨f0, f1, f2, f3, f4, f5⟩ := box6 H1.out.2; have hwl := H1.out.2.lt; clear hb))
  clear HC1
  go_loopw [5] (fun vi wr => ∃ i : Nat, vi = .int .i64 i ∧ i ≤ n ∧ Hid (R = (G.blocks.drop i).all (bodyR p G) ∧ Below w.heap.size w wr ∧ Box wr w.heap.size [.string nm, .slice pa pl pc, .int .u8 r, .slice va m vc, .slice aa al ac, .slice ba n bc])) (fun vi _ => n - (intOf vi).toNat)
  case atStart => exact ⟨0, rfl, by omega, HQ.out, H1.out.1, H1.out.2⟩
  case round =>
   obtain ⟨i, rfl, hi, hr⟩ := hrel
   clear HQ H0 H1 f0 f1 f2 f3 f4 f5 hwl
   obtain ⟨e0, e1, e2, e3, e4, e5⟩ := box6 hr.out.2.2
   have hwl := hr.out.2.2.lt
   by_cases hin : i < n
   ·obtain ⟨g, o, iv, rfl, hg, c0, c1, c2, c3, c4, c5, hins⟩ := HB.out i hin
    obtain ⟨ia, ic, rfl, _⟩ := hins.form
    have hin' : (i : Int) < n := by omega
    have HC0 : Hid (w.cell? ⟨g, o + i * 6, none⟩ = _ ∧ g < w.heap.size) := ⟨c0, hg⟩
    have hd := hr.out.1
    rw [HN.out i hin] at hd
    generalize htl : (G.blocks.drop (i + 1)).all (bodyR p G) = tl at *
    have HTL : Hid _ := htl
    have hai := HAJ.out i hin
    clear htl
    generalize (G.blocks.getD i default).ins = L at *
    have HI : Hid (∀ k, k < L.length → _) := fun k hk => hins.get (i := k) hk
    have HLA : Hid (∀ k, k < L.length → aloneR G (L.getD k default) = true) := fun k hk => hai _ (by rw [List.getD, List.getElem?_eq_getElem hk]; exact List.getElem_mem hk)
    have HLN : Hid (∀ k, k < L.length → (L.drop k).all (insR p G) = (((L.getD k default).kind != 9 || calledR p G.vars (L.getD k default)) && (L.drop (k + 1)).all (insR p G))) := fun k hk => all_drop (d := default) hk
    have HLZ : Hid ((L.drop L.length).all (insR p G) = true) := by show _ = _; rw [List.drop_length]; rfl
    have HD : Hid (R = ((L.drop 0).all (insR p G) && tl)) := hd
    have HS0 : Hid (Below w.heap.size w wr ∧ Box wr w.heap.size [.string nm, .slice pa pl pc, .int .u8 r, .slice va m vc, .slice aa al ac, .slice (some ⟨g, o, none⟩) n bc]) := hr.out.2
    clear HB HN HZ hins hai hd hr c0 c1 c2 c3 c4 c5 HAJ
    generalize wr = ws at *
    go_wp2
    go_loopw [6] (fun vk wr => ∃ k : Nat, vk = .int .i64 k ∧ k ≤ L.length ∧ Hid (R = ((L.drop k).all (insR p G) && tl) ∧ Below w.heap.size w wr ∧ Box wr w.heap.size [.string nm, .slice pa pl pc, .int .u8 r, .slice va m vc, .slice aa al ac, .slice (some ⟨g, o, none⟩) n bc])) (fun vk _ => L.length - (intOf vk).toNat)
    case atStart => exact ⟨0, rfl, by omega, HD.out, HS0.out.1, HS0.out.2⟩
    case round =>
     obtain ⟨k, rfl, hk, hq⟩ := hrel
     clear HD HS0 e0 e1 e2 e3 e4 e5 hwl
     obtain ⟨e0, e1, e2, e3, e4, e5⟩ := box6 hq.out.2.2
     have hwl := hq.out.2.2.lt
     have c0 := (hq.out.2.1.cell (p := ⟨g, o + i * 6, none⟩) HC0.out.2).trans HC0.out.1
     by_cases hkn : k < L.length
     ·obtain ⟨gi, oi, xv, rfl, hgi, d0, d1, d2, d3, d4, d5, hxa⟩ := HI.out k hkn
      have hkn' : (k : Int) < L.length := by omega
      have hcl : ∀ j, wr.cell? ⟨gi, j, none⟩ = w.cell? ⟨gi, j, none⟩ := fun j => hq.out.2.1.cell (p := ⟨gi, j, none⟩) hgi
      rw [← hcl] at d0 d1 d2 d3 d4 d5
      have hd := hq.out.1
      rw [HLN.out k hkn] at hd
      have HXI := fun W (hb : Below w.heap.size w W) hk9 => HC3.out (L.getD k default) xv W hb hxa (HAD.out _ (HLA.out k hkn) hk9).1 (HAD.out _ (HLA.out k hkn) hk9).2
      obtain ⟨xa, xc, rfl, hxl⟩ := hxa.form
      unfold inV at HXI
      generalize calledR p G.vars (L.getD k default) = ab at *
      generalize (L.getD k default).args.length = xn at *
      generalize (L.getD k default).kind = x0 at *
      generalize (L.getD k default).op = x1 at *
      generalize (L.getD k default).dst = x2 at *
      generalize (L.getD k default).bits = x4 at *
      generalize (L.getD k default).ref = x5 at *
      have HBR : Hid (Below w.heap.size w wr) := hq.out.2.1
      have HBX : Hid (Box wr w.heap.size [.string nm, .slice pa pl pc, .int .u8 r, .slice va m vc, .slice aa al ac, .slice (some ⟨g, o, none⟩) n bc]) := hq.out.2.2
      clear hcl hxa hq HI HLA HLN HLZ HAD
      by_cases hx9 : x0 = 9
      rotate_left
      ·have f9 : (x0 == 9) = false := beq_false_of_ne hx9
       have HD : Hid (R = ((L.drop (k + 1)).all (insR p G) && tl)) := by show _ = _; rw [hd, bne_iff_ne.2 hx9, Bool.true_or, Bool.true_and]
       clear hd HXI hx9
       go_wp2
       go_quiet (fail)
       go_wp2
       go_roundw
       case rel => exact ⟨k + 1, by first | rfl | (congr 1; omega), by omega, HD.out, by repeat (first | exact HBR.out | refine below_drewN ?_ _ | refine below_drew ?_), HBX.out.same (by rfl)⟩
       case measure => simp [intOf]; omega
      subst hx9
      have C1 : ∀ d os, _ := fun d os => Calls.regrown_of (HXI (grow (redrawn wr d) os) (below_trans HBR.out (below_regrown wr d os)) rfl)
      have D1 : Hid _ := C1
      clear HXI C1
      have ke0 := cell_regrown e0
      have ke1 := cell_regrown e1
      have ke2 := cell_regrown e2
      have ke3 := cell_regrown e3
      have ke4 := cell_regrown e4
      have ke5 := cell_regrown e5
      have kc0 := cell_regrown c0
      have kd0 := cell_regrown d0
      have kd1 := cell_regrown d1
      have kd2 := cell_regrown d2
      have kd3 := cell_regrown d3
      have kd4 := cell_regrown d4
      have kd5 := cell_regrown d5
      cases ab with
      | false =>
       have HD : Hid (R = false) := by show R = false; rw [hd]; simp
       clear hd HC3
       go_wp2
       refine wp_region_quiet_below (by kernel_rfl) (by kernel_rfl) ?_
       repeat (go_big_quiet_step ((with_reducible exact D1.out _ _)))
       refine wpQuiet_nil ?_
       intro _ hw'
       obtain ⟨⟨dq, osq⟩, hw''⟩ := hw'
       subst hw''
       go_wp2
       go_ret
       exact ⟨ret_bool HD.out.symm, below_trans HBR.out (below_regrown wr dq osq)⟩
      | true =>
       have HD : Hid (R = ((L.drop (k + 1)).all (insR p G) && tl)) := by show _ = _; rw [hd, Bool.or_true, Bool.true_and]
       clear hd
       go_wp2
       refine wp_region_quiet_below (by kernel_rfl) (by kernel_rfl) ?_
       repeat (go_big_quiet_step ((with_reducible exact D1.out _ _)))
       refine wpQuiet_nil ?_
       intro _ hw'
       obtain ⟨⟨dq, osq⟩, hw''⟩ := hw'
       subst hw''
       go_wp2
       go_roundw
       case rel => exact ⟨k + 1, by first | rfl | (congr 1; omega), by omega, HD.out, below_trans HBR.out (below_regrown wr dq osq), HBX.out.below (below_regrown wr dq osq)⟩
       case measure => simp [intOf]; omega
     ·obtain rfl : k = L.length := by omega
      have HD : Hid (R = (G.blocks.drop (i + 1)).all (bodyR p G)) := by
       show _ = _
       rw [HTL.out]
       have h9 := hq.out.1
       rw [HLZ.out, Bool.true_and] at h9
       exact h9
      clear HI HLA HLN HLZ HC3 HAD
      go_wp2
      go_roundw
      case rel => exact ⟨i + 1, by first | rfl | (congr 1; omega), by omega, HD.out, hq.out.2.1, hq.out.2.2⟩
      case measure => simp [intOf]; omega
   ·obtain rfl : i = n := by omega
    have HD : Hid (R = true) := hr.out.1.trans HZ.out
    clear HB HN HZ HC3 HAJ HAD
    go_wp2
    go_ret
    exact ⟨ret_bool HD.out.symm, hr.out.2.1⟩
end Go.Proofs.YtobnpllppohofaaGreatDoor
