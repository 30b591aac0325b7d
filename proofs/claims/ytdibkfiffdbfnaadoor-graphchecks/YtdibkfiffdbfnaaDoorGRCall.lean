/- The document's side: does a call fit what it calls? -/
import Derived.Test.YtdibkfiffdbfnaaDoorGFit4M
namespace Go.Proofs.YtdibkfiffdbfnaaDoor
open Go.RowKit Go.Sort

def calledR (p : List Gr) (vars : List Int) (x : In) : Bool := inB x.ref p.length && (((p.getD x.ref.toNat default).params.length == x.args.length) && ((p.getD x.ref.toNat default).params.all (inB · (p.getD x.ref.toNat default).vars.length) && ((varT vars x.dst == (p.getD x.ref.toNat default).result) && (List.range x.args.length).all (fun i => varT vars (x.args.getD i 0) == varT (p.getD x.ref.toNat default).vars ((p.getD x.ref.toNat default).params.getD i 0)))))
set_option maxRecDepth 100000 in
set_option maxHeartbeats 4000000 in
theorem rcalled_any (p : List Gr) (ppv : Value) (G : Gr) (pv vv av bv : Value) (x : In) (xv : Value) (w : World) (hp : GrsAt w ppv p) (h : GrAt w pv vv av bv G) (hA : IntsAt w xv x.args) (hd : inB x.dst G.vars.length = true) (hal : x.args.all (inB · G.vars.length) = true) :
    Calls Tryd.prog 30 #[ppv, .agg #[.string G.name, pv, .int .u8 G.result, vv, av, bv], inV x xv] w fun e w' => e = .returned (.bool (calledR p G.vars x)) ∧ Below w.heap.size w w' := by
  obtain ⟨pa, pc, va, vc, aa, ac, ba, bc, rfl, rfl, rfl, rfl, _, _, _, _⟩ := h.openF
  obtain ⟨qa, qc, rfl, hql⟩ := hp.form
  obtain ⟨xa, xc, rfl, hxl⟩ := hA.form
  obtain ⟨kind, op, dst, args, bits, ref⟩ := x
  dsimp only at *
  have HIN : Hid (∀ W, Calls Tryd.prog 45 #[.int .i64 ref, .int .i64 (p.length : Int)] W fun e w' => e = .returned (.bool (inB ref p.length)) ∧ w' = W) := fun W => rin_any ref _ W
  obtain ⟨gd, od, kd, e1, rfl, hkd, hgd, cd⟩ := TysAt.var h.vs hd
  subst e1
  have HVA : Hid (∀ v, inB v G.vars.length = true → ∃ k : Nat, v = (k : Int) ∧ (k : Int) < (G.vars.length : Int) ∧ w.cell? ⟨gd, od + k, none⟩ = some (.int .u8 (varT G.vars v))) := fun v hv => by
    obtain ⟨g', o', k', e1, e2, e3, _, e5⟩ := TysAt.var h.vs hv
    cases e1
    exact ⟨k', e2, e3, e5⟩
  have HAL : Hid (∀ i, i < args.length → inB (args.getD i 0) G.vars.length = true) := fun i hi => List.all_eq_true.1 hal (args.getD i 0) (by rw [List.getD, List.getElem?_eq_getElem hi]; exact List.getElem_mem hi)
  have HXX : Hid (∀ i, i < args.length → _) := fun i hi => hA.get (i := i) hi
  obtain ⟨R, hR⟩ : ∃ R, R = calledR p G.vars ⟨kind, op, (kd : Int), args, bits, ref⟩ := ⟨_, rfl⟩
  rw [← hR]
  unfold calledR at hR
  dsimp only at hR
  have HB0 : Hid (∀ c d : Array Value, Below w.heap.size w ((w.alloc (.cells c 35)).alloc (.cells d 43))) := fun c d => below_alloc (below_alloc (Below.refl _ _) _) _
  cases hir : inB ref p.length with
  | false =>
    have HR : Hid (R = false) := by show _ = _; rw [hR, hir]; rfl
    rw [hir] at HIN
    clear hR h hA hp hd hal hir HVA HAL HXX
    generalize args.length = xn at *
    generalize p.length = pn at *
    generalize G.vars.length = vl at *
    go_enter Tryd.func30, Tryd.ntmps30
    go_wp2_with (go_at_call 45; refine Calls.mono (HIN.out _) ?_; rintro e wx ⟨rfl, hwx⟩; subst wx)
    go_ret
    exact ⟨ret_bool HR.out.symm, HB0.out _ _⟩
  | true =>
    rw [hir, Bool.true_and] at hR
    obtain ⟨k, hk⟩ : ∃ k : Nat, ref = (k : Int) := Int.eq_ofNat_of_zero_le (inB_iff.1 hir).1
    subst hk
    have hkp : k < p.length := by have := (inB_iff.1 hir).2; omega
    have hkp' : (k : Int) < p.length := by omega
    rw [Int.toNat_natCast] at hR
    obtain ⟨gp, ogp, fpv, fvv, fav, fbv, rfl, hgp, c0, c1, c2, c3, c4, c5, hF⟩ := hp.get hkp
    generalize p.getD k default = F at *
    rw [hir] at HIN
    have HVR : Hid (∀ W, Below w.heap.size w W → Calls Tryd.prog 46 #[.agg #[.string F.name, fpv, .int .u8 F.result, fvv, fav, fbv], fpv] W fun e w' => e = .returned (.bool (F.params.all (inB · F.vars.length))) ∧ Below W.heap.size W w') := fun W hb => rvars_any F fpv fvv fav fbv F.params fpv W (hF.below hb) (hF.ps.below hb)
    obtain ⟨fpa, fpc, fva, fvc, faa, fac, fba, fbc, rfl, rfl, rfl, rfl, hfpl, _, _, _⟩ := hF.openF
    have HFP : Hid (∀ i, i < F.params.length → _) := fun i hi => hF.ps.get (i := i) hi
    have HFV : Hid (∀ v, inB v F.vars.length = true → _) := fun v hv => TysAt.var hF.vs hv
    have HFA : Hid (F.params.all (inB · F.vars.length) = true → ∀ i, i < F.params.length → inB (F.params.getD i 0) F.vars.length = true) := fun ha i hi => List.all_eq_true.1 ha (F.params.getD i 0) (by rw [List.getD, List.getElem?_eq_getElem hi]; exact List.getElem_mem hi)
    have HDR : Hid (∀ i, i < args.length → ((List.range args.length).drop i).all (fun i => varT G.vars (args.getD i 0) == varT F.vars (F.params.getD i 0)) = ((varT G.vars (args.getD i 0) == varT F.vars (F.params.getD i 0)) && ((List.range args.length).drop (i + 1)).all (fun i => varT G.vars (args.getD i 0) == varT F.vars (F.params.getD i 0)))) := fun i hi => by
      rw [all_drop (d := 0) (by simpa using hi)]
      simp [List.getD, hi]
    have HZ : Hid (((List.range args.length).drop args.length).all (fun i => varT G.vars (args.getD i 0) == varT F.vars (F.params.getD i 0)) = true) := by show _ = _; rw [List.drop_eq_nil_of_le (by simp)]; rfl
    clear h hp hA hd hal hir hF
    generalize hpb : F.params.all (inB · F.vars.length) = pb at *
    generalize (List.range args.length) = rg at *
    generalize args.length = xn at *
    generalize p.length = pn at *
    generalize G.name = nm at *
    generalize G.params.length = pl at *
    generalize G.vars.length = vl at *
    generalize G.arrs.length = al at *
    generalize G.blocks.length = bl at *
    generalize G.result = r at *
    generalize F.name = fnm at *
    generalize F.result = fr at *
    generalize F.params.length = fpl at *
    generalize F.vars.length = fvl at *
    generalize F.arrs.length = fal at *
    generalize F.blocks.length = fbl at *
    generalize hdt : varT G.vars (kd : Int) = td at *
    clear hpb hdt hkp
    have H0 : Hid (Below w.heap.size w (((w.alloc (.cells #[.string nm, .slice pa pl pc, .int .u8 r, .slice (some ⟨gd, od, none⟩) vl vc, .slice aa al ac, .slice ba bl bc] 35)).alloc (.cells #[.int .u8 kind, .int .u8 op, .int .i64 (kd : Int), .slice xa xn xc, .int .u64 bits, .int .i64 (k : Int)] 43)).alloc (.cells #[.string fnm, .slice fpa fpl fpc, .int .u8 fr, .slice fva fvl fvc, .slice faa fal fac, .slice fba fbl fbc] 35)) ∧ Trio w.heap.size [.string nm, .slice pa pl pc, .int .u8 r, .slice (some ⟨gd, od, none⟩) vl vc, .slice aa al ac, .slice ba bl bc] [.int .u8 kind, .int .u8 op, .int .i64 (kd : Int), .slice xa xn xc, .int .u64 bits, .int .i64 (k : Int)] [.string fnm, .slice fpa fpl fpc, .int .u8 fr, .slice fva fvl fvc, .slice faa fal fac, .slice fba fbl fbc] (((w.alloc (.cells #[.string nm, .slice pa pl pc, .int .u8 r, .slice (some ⟨gd, od, none⟩) vl vc, .slice aa al ac, .slice ba bl bc] 35)).alloc (.cells #[.int .u8 kind, .int .u8 op, .int .i64 (kd : Int), .slice xa xn xc, .int .u64 bits, .int .i64 (k : Int)] 43)).alloc (.cells #[.string fnm, .slice fpa fpl fpc, .int .u8 fr, .slice fva fvl fvc, .slice faa fal fac, .slice fba fbl fbc] 35))) := ⟨below_alloc (below_alloc (below_alloc (Below.refl _ _) _) _) _, Trio.new w [.string nm, .slice pa pl pc, .int .u8 r, .slice (some ⟨gd, od, none⟩) vl vc, .slice aa al ac, .slice ba bl bc] [.int .u8 kind, .int .u8 op, .int .i64 (kd : Int), .slice xa xn xc, .int .u64 bits, .int .i64 (k : Int)] [.string fnm, .slice fpa fpl fpc, .int .u8 fr, .slice fva fvl fvc, .slice faa fal fac, .slice fba fbl fbc] 35 43 35⟩
    by_cases hl : fpl = xn
    rotate_left
    · have hl1 : ((fpl : Int) != (xn : Int)) = true := bne_iff_ne.2 (by omega)
      have HR : Hid (R = false) := by show _ = _; rw [hR, beq_false_of_ne hl]; rfl
      clear hl
      clear hR HVA HAL HXX HFP HFV HFA HDR HZ
      go_enter Tryd.func30, Tryd.ntmps30
      go_wp2_with (go_at_call 45; refine Calls.mono (HIN.out _) ?_; rintro e wx ⟨rfl, hwx⟩; subst wx)
      obtain ⟨W, hW⟩ : ∃ W, W = (((w.alloc (.cells #[.string nm, .slice pa pl pc, .int .u8 r, .slice (some ⟨gd, od, none⟩) vl vc, .slice aa al ac, .slice ba bl bc] 35)).alloc (.cells #[.int .u8 kind, .int .u8 op, .int .i64 (kd : Int), .slice xa xn xc, .int .u64 bits, .int .i64 (k : Int)] 43)).alloc (.cells #[.string fnm, .slice fpa fpl fpc, .int .u8 fr, .slice fva fvl fvc, .slice faa fal fac, .slice fba fbl fbc] 35)) := ⟨_, rfl⟩
      rw [← hW] at H0 ⊢
      clear hW
      obtain ⟨e0, e1, e2, e3, e4, e5⟩ := box6 H0.out.2.g
      obtain ⟨x0, x1, x2, x3, x4, x5⟩ := box6 H0.out.2.t
      obtain ⟨o0, o1, o2, o3, o4, o5⟩ := box6 H0.out.2.o
      have cdW := (H0.out.1.cell (p := ⟨gd, od + kd, none⟩) hgd).trans cd
      have ke3 := cell_regrown e3
      have kx2 := cell_regrown x2
      have kx3 := cell_regrown x3
      have ko0 := cell_regrown o0
      have ko1 := cell_regrown o1
      have ko2 := cell_regrown o2
      have ko3 := cell_regrown o3
      have ko4 := cell_regrown o4
      have ko5 := cell_regrown o5
      have kcd := cell_regrown cdW
      have C1 : ∀ d os, _ := fun d os => Calls.regrown_of (HVR.out _ (below_trans H0.out.1 (below_regrown W d os)))
      have D1 : Hid _ := C1
      clear C1 e0 e1 e2 e3 e4 e5 x0 x1 x2 x3 x4 x5 o0 o1 o2 o3 o4 o5 cdW
      refine wp_region_quiet_below (by kernel_rfl) (by kernel_rfl) ?_
      repeat (go_big_quiet_step ((with_reducible exact D1.out _ _)))
      refine wpQuiet_nil ?_
      intro _ hw'
      obtain ⟨⟨dq, osq⟩, hw''⟩ := hw'
      subst hw''
      go_wp2
      go_ret
      exact ⟨ret_bool HR.out.symm, below_trans H0.out.1 (below_regrown W dq osq)⟩
    subst hl
    have hl1 : ((fpl : Int) != (fpl : Int)) = false := by simp
    rw [beq_self_eq_true, Bool.true_and] at hR
    cases pb with
    | false =>
      have HR : Hid (R = false) := by show _ = _; rw [hR]; rfl
      clear hR HVA HAL HXX HFP HFV HFA HDR HZ
      go_enter Tryd.func30, Tryd.ntmps30
      go_wp2_with (go_at_call 45; refine Calls.mono (HIN.out _) ?_; rintro e wx ⟨rfl, hwx⟩; subst wx)
      obtain ⟨W, hW⟩ : ∃ W, W = (((w.alloc (.cells #[.string nm, .slice pa pl pc, .int .u8 r, .slice (some ⟨gd, od, none⟩) vl vc, .slice aa al ac, .slice ba bl bc] 35)).alloc (.cells #[.int .u8 kind, .int .u8 op, .int .i64 (kd : Int), .slice xa fpl xc, .int .u64 bits, .int .i64 (k : Int)] 43)).alloc (.cells #[.string fnm, .slice fpa fpl fpc, .int .u8 fr, .slice fva fvl fvc, .slice faa fal fac, .slice fba fbl fbc] 35)) := ⟨_, rfl⟩
      rw [← hW] at H0 ⊢
      clear hW
      obtain ⟨e0, e1, e2, e3, e4, e5⟩ := box6 H0.out.2.g
      obtain ⟨x0, x1, x2, x3, x4, x5⟩ := box6 H0.out.2.t
      obtain ⟨o0, o1, o2, o3, o4, o5⟩ := box6 H0.out.2.o
      have cdW := (H0.out.1.cell (p := ⟨gd, od + kd, none⟩) hgd).trans cd
      have ke3 := cell_regrown e3
      have kx2 := cell_regrown x2
      have kx3 := cell_regrown x3
      have ko0 := cell_regrown o0
      have ko1 := cell_regrown o1
      have ko2 := cell_regrown o2
      have ko3 := cell_regrown o3
      have ko4 := cell_regrown o4
      have ko5 := cell_regrown o5
      have kcd := cell_regrown cdW
      have C1 : ∀ d os, _ := fun d os => Calls.regrown_of (HVR.out _ (below_trans H0.out.1 (below_regrown W d os)))
      have D1 : Hid _ := C1
      clear C1 e0 e1 e2 e3 e4 e5 x0 x1 x2 x3 x4 x5 o0 o1 o2 o3 o4 o5 cdW
      refine wp_region_quiet_below (by kernel_rfl) (by kernel_rfl) ?_
      repeat (go_big_quiet_step ((with_reducible exact D1.out _ _)))
      refine wpQuiet_nil ?_
      intro _ hw'
      obtain ⟨⟨dq, osq⟩, hw''⟩ := hw'
      subst hw''
      go_wp2
      go_ret
      exact ⟨ret_bool HR.out.symm, below_trans H0.out.1 (below_regrown W dq osq)⟩
    | true =>
      have HFB := HFA.out rfl
      clear HFA
      rw [Bool.true_and] at hR
      by_cases ht : td = fr
      rotate_left
      · have ht1 : (td != fr) = true := bne_iff_ne.2 ht
        have HR : Hid (R = false) := by show _ = _; rw [hR, beq_false_of_ne ht]; rfl
        clear ht HFB
        clear hR HVA HAL HXX HFP HFV HDR HZ
        go_enter Tryd.func30, Tryd.ntmps30
        go_wp2_with (go_at_call 45; refine Calls.mono (HIN.out _) ?_; rintro e wx ⟨rfl, hwx⟩; subst wx)
        obtain ⟨W, hW⟩ : ∃ W, W = (((w.alloc (.cells #[.string nm, .slice pa pl pc, .int .u8 r, .slice (some ⟨gd, od, none⟩) vl vc, .slice aa al ac, .slice ba bl bc] 35)).alloc (.cells #[.int .u8 kind, .int .u8 op, .int .i64 (kd : Int), .slice xa fpl xc, .int .u64 bits, .int .i64 (k : Int)] 43)).alloc (.cells #[.string fnm, .slice fpa fpl fpc, .int .u8 fr, .slice fva fvl fvc, .slice faa fal fac, .slice fba fbl fbc] 35)) := ⟨_, rfl⟩
        rw [← hW] at H0 ⊢
        clear hW
        obtain ⟨e0, e1, e2, e3, e4, e5⟩ := box6 H0.out.2.g
        obtain ⟨x0, x1, x2, x3, x4, x5⟩ := box6 H0.out.2.t
        obtain ⟨o0, o1, o2, o3, o4, o5⟩ := box6 H0.out.2.o
        have cdW := (H0.out.1.cell (p := ⟨gd, od + kd, none⟩) hgd).trans cd
        have ke3 := cell_regrown e3
        have kx2 := cell_regrown x2
        have kx3 := cell_regrown x3
        have ko0 := cell_regrown o0
        have ko1 := cell_regrown o1
        have ko2 := cell_regrown o2
        have ko3 := cell_regrown o3
        have ko4 := cell_regrown o4
        have ko5 := cell_regrown o5
        have kcd := cell_regrown cdW
        have C1 : ∀ d os, _ := fun d os => Calls.regrown_of (HVR.out _ (below_trans H0.out.1 (below_regrown W d os)))
        have D1 : Hid _ := C1
        clear C1 e0 e1 e2 e3 e4 e5 x0 x1 x2 x3 x4 x5 o0 o1 o2 o3 o4 o5 cdW
        refine wp_region_quiet_below (by kernel_rfl) (by kernel_rfl) ?_
        repeat (go_big_quiet_step ((with_reducible exact D1.out _ _)))
        refine wpQuiet_nil ?_
        intro _ hw'
        obtain ⟨⟨dq, osq⟩, hw''⟩ := hw'
        subst hw''
        go_wp2
        go_ret
        exact ⟨ret_bool HR.out.symm, below_trans H0.out.1 (below_regrown W dq osq)⟩
      subst ht
      have ht1 : (td != td) = false := by simp
      rw [beq_self_eq_true, Bool.true_and] at hR
      have HR : Hid (R = (rg.drop 0).all (fun i => varT G.vars (args.getD i 0) == varT F.vars (F.params.getD i 0))) := hR
      have HFC : Hid _ := HFB
      clear hR HFB
      go_enter Tryd.func30, Tryd.ntmps30
      go_wp2_with (go_at_call 45; refine Calls.mono (HIN.out _) ?_; rintro e wx ⟨rfl, hwx⟩; subst wx)
      obtain ⟨W, hW⟩ : ∃ W, W = (((w.alloc (.cells #[.string nm, .slice pa pl pc, .int .u8 r, .slice (some ⟨gd, od, none⟩) vl vc, .slice aa al ac, .slice ba bl bc] 35)).alloc (.cells #[.int .u8 kind, .int .u8 op, .int .i64 (kd : Int), .slice xa fpl xc, .int .u64 bits, .int .i64 (k : Int)] 43)).alloc (.cells #[.string fnm, .slice fpa fpl fpc, .int .u8 td, .slice fva fvl fvc, .slice faa fal fac, .slice fba fbl fbc] 35)) := ⟨_, rfl⟩
      rw [← hW] at H0 ⊢
      clear hW
      obtain ⟨e0, e1, e2, e3, e4, e5⟩ := box6 H0.out.2.g
      obtain ⟨x0, x1, x2, x3, x4, x5⟩ := box6 H0.out.2.t
      obtain ⟨o0, o1, o2, o3, o4, o5⟩ := box6 H0.out.2.o
      have cdW := (H0.out.1.cell (p := ⟨gd, od + kd, none⟩) hgd).trans cd
      have ke3 := cell_regrown e3
      have kx2 := cell_regrown x2
      have kx3 := cell_regrown x3
      have ko0 := cell_regrown o0
      have ko1 := cell_regrown o1
      have ko2 := cell_regrown o2
      have ko3 := cell_regrown o3
      have ko4 := cell_regrown o4
      have ko5 := cell_regrown o5
      have kcd := cell_regrown cdW
      have C1 : ∀ d os, _ := fun d os => Calls.regrown_of (HVR.out _ (below_trans H0.out.1 (below_regrown W d os)))
      have D1 : Hid _ := C1
      clear C1 e0 e1 e2 e3 e4 e5 x0 x1 x2 x3 x4 x5 o0 o1 o2 o3 o4 o5 cdW
      refine wp_region_quiet_below (by kernel_rfl) (by kernel_rfl) ?_
      repeat (go_big_quiet_step ((with_reducible exact D1.out _ _)))
      refine wpQuiet_nil ?_
      intro _ hw'
      obtain ⟨⟨dq, osq⟩, hw''⟩ := hw'
      subst hw''
      go_wp2
      have HZ0 : Hid (Below w.heap.size w (grow (redrawn W dq) osq) ∧ Trio w.heap.size [.string nm, .slice pa pl pc, .int .u8 r, .slice (some ⟨gd, od, none⟩) vl vc, .slice aa al ac, .slice ba bl bc] [.int .u8 kind, .int .u8 op, .int .i64 (kd : Int), .slice xa fpl xc, .int .u64 bits, .int .i64 (k : Int)] [.string fnm, .slice fpa fpl fpc, .int .u8 td, .slice fva fvl fvc, .slice faa fal fac, .slice fba fbl fbc] (grow (redrawn W dq) osq)) := ⟨below_trans H0.out.1 (below_regrown W dq osq), H0.out.2.below (below_regrown W dq osq)⟩
      go_loopw [8] (fun vi wr => ∃ i : Nat, vi = .int .i64 i ∧ i ≤ fpl ∧ Hid (R = (rg.drop i).all (fun i => varT G.vars (args.getD i 0) == varT F.vars (F.params.getD i 0)) ∧ Below w.heap.size w wr ∧ Trio w.heap.size [.string nm, .slice pa pl pc, .int .u8 r, .slice (some ⟨gd, od, none⟩) vl vc, .slice aa al ac, .slice ba bl bc] [.int .u8 kind, .int .u8 op, .int .i64 (kd : Int), .slice xa fpl xc, .int .u64 bits, .int .i64 (k : Int)] [.string fnm, .slice fpa fpl fpc, .int .u8 td, .slice fva fvl fvc, .slice faa fal fac, .slice fba fbl fbc] wr)) (fun vi _ => fpl - (intOf vi).toNat)
      case atStart => exact ⟨0, rfl, by omega, HR.out, HZ0.out.1, HZ0.out.2⟩
      case round =>
        obtain ⟨i, rfl, hi, hr⟩ := hrel
        clear HR H0 HZ0 D1 HVR HIN ke3 kx2 kx3 ko0 ko1 ko2 ko3 ko4 ko5 kcd c0 c1 c2 c3 c4 c5
        obtain ⟨e0, e1, e2, e3, e4, e5⟩ := box6 hr.out.2.2.g
        obtain ⟨x0, x1, x2, x3, x4, x5⟩ := box6 hr.out.2.2.t
        obtain ⟨o0, o1, o2, o3, o4, o5⟩ := box6 hr.out.2.2.o
        have hwl := hr.out.2.2.o.lt
        by_cases hin : i < fpl
        · obtain ⟨gq, oq, rfl, hgq, cq⟩ := HFP.out i hin
          obtain ⟨gx, ox, rfl, hgx, cx⟩ := HXX.out i hin
          have hin' : (i : Int) < fpl := by omega
          have hd : R = _ := hr.out.1.trans (HDR.out i hin)
          obtain ⟨ka, hka, hkan, cka⟩ := HVA.out _ (HAL.out i hin)
          obtain ⟨gv, ov, kf, e9, hkf, hkfn, hgv, ckf⟩ := HFV.out _ (HFC.out i hin)
          subst e9
          have cq' := (hr.out.2.1.cell (p := ⟨gq, oq + i, none⟩) hgq).trans cq
          have cx' := (hr.out.2.1.cell (p := ⟨gx, ox + i, none⟩) hgx).trans cx
          rw [hkf] at ckf cq' hd
          rw [hka] at cka cx' hd
          have cka' := (hr.out.2.1.cell (p := ⟨gd, od + ka, none⟩) hgd).trans cka
          have ckf' := (hr.out.2.1.cell (p := ⟨gv, ov + kf, none⟩) hgv).trans ckf
          clear cq cx cka ckf hkf hka HFP HXX HVA HAL HFV HFC HDR HZ
          generalize varT G.vars (ka : Int) = ta at *
          generalize varT F.vars (kf : Int) = tf at *
          have HRB : Hid _ := hr.out.2
          by_cases he : ta = tf
          · subst he
            have hne : (ta != ta) = false := by simp
            have HD : Hid (R = (rg.drop (i + 1)).all (fun i => varT G.vars (args.getD i 0) == varT F.vars (F.params.getD i 0))) := by show _ = _; rw [hd, beq_self_eq_true, Bool.true_and]
            clear hd
            go_wp2
            go_quiet (fail)
            go_wp2
            go_roundw
            case rel => exact ⟨i + 1, by first | rfl | (congr 1; omega), by omega, HD.out, by repeat (first | exact HRB.out.1 | refine below_drewN ?_ _ | refine below_drew ?_), ⟨HRB.out.2.g.same (by rfl), HRB.out.2.t.same (by rfl), HRB.out.2.o.same (by rfl)⟩⟩
            case measure => simp [intOf]; omega
          · have hne : (ta != tf) = true := bne_iff_ne.2 he
            have HD : Hid (R = false) := by show _ = _; rw [hd, beq_false_of_ne he]; rfl
            clear hd he
            go_wp2
            go_quiet (fail)
            go_wp2
            go_ret
            exact ⟨ret_bool HD.out.symm, by repeat (first | exact HRB.out.1 | refine below_drewN ?_ _ | refine below_drew ?_)⟩
        · obtain rfl : i = fpl := by omega
          have hd : R = true := by rw [hr.out.1, HZ.out]
          have HD : Hid _ := hd
          clear hd HFP HXX HVA HAL HFV HFC HDR HZ
          go_wp2
          go_ret
          exact ⟨ret_bool HD.out.symm, hr.out.2.1⟩
end Go.Proofs.YtdibkfiffdbfnaaDoor
