/- Types of a call. -/
import Derived.Test.YtknbgpgefeahlaaGreatDoorGFit1M
import Derived.Lib.QuietBelow
namespace Go.Proofs.YtknbgpgefeahlaaGreatDoor
open Go.RowKit Go.Sort

def callOk (vars : List Int) (x : In) (f : Gr) (i : Nat) : Bool := inB (f.params.getD i 0) f.vars.length && isOfB vars (x.args.getD i 0) (varT f.vars (f.params.getD i 0))
def callOkB (vars : List Int) (x : In) (f : Gr) : Bool := ((x.args.length : Int) == (f.params.length : Int)) && ((List.range f.params.length).all (callOk vars x f) && isOfB vars x.dst f.result)
set_option maxRecDepth 100000 in
set_option maxHeartbeats 2000000 in
theorem fitsCall_any (G : Gr) (pv vv av bv : Value) (x : In) (xv : Value) (F : Gr) (fpv fvv fav fbv : Value) (w : World) (h : GrAt w pv vv av bv G) (hA : IntsAt w xv x.args) (hF : GrAt w fpv fvv fav fbv F) :
    Calls Tryz.prog 116 #[.agg #[.string G.name, pv, .int .u8 G.result, vv, av, bv], inV x xv, .agg #[.string F.name, fpv, .int .u8 F.result, fvv, fav, fbv]] w fun e w' => e = .returned (.bool (callOkB G.vars x F)) ∧ Below w.heap.size w w' := by
  have HOF : Hid (∀ v t W, Below w.heap.size w W → Calls Tryz.prog 89 #[.agg #[.string G.name, pv, .int .u8 G.result, vv, av, bv], .int .i64 v, .int .u8 t] W fun e w' => e = .returned (.bool (isOfB G.vars v t)) ∧ Below W.heap.size W w') := fun v t W hb => isOf_any G pv vv av bv v t W (h.below hb)
  obtain ⟨pa, pc, va, vc, aa, ac, ba, bc, rfl, rfl, rfl, rfl, _, _, _, _⟩ := h.openF
  obtain ⟨fpa, fpc, fva, fvc, faa, fac, fba, fbc, rfl, rfl, rfl, rfl, hfpl, _, _, _⟩ := hF.openF
  obtain ⟨xa, xc, rfl, hxl⟩ := hA.form
  obtain ⟨kind, op, dst, args, bits, ref⟩ := x
  have HFP : Hid (∀ i, i < F.params.length → _) := fun i hi => hF.ps.get (i := i) hi
  have HFV : Hid (∀ v, inB v F.vars.length = true → _) := fun v hv => TysAt.var hF.vs hv
  have HXA : Hid (∀ i, i < args.length → _) := fun i hi => hA.get (i := i) hi
  have HPL : Hid (∀ v W, Calls Tryz.prog 60 #[.int .i64 v, .int .i64 (F.vars.length : Int)] W fun e w' => e = .returned (.bool (inB v F.vars.length)) ∧ w' = W) := fun v W => isPlace_any v _ W
  unfold callOkB
  dsimp only at *
  obtain ⟨fps, hfps⟩ : ∃ l, l = F.params := ⟨_, rfl⟩
  have HCO : Hid (∀ i, callOk G.vars ⟨kind, op, dst, args, bits, ref⟩ F i = (inB (F.params.getD i 0) F.vars.length && isOfB G.vars (args.getD i 0) (varT F.vars (F.params.getD i 0)))) := fun i => rfl
  rw [← hfps] at HFP HCO hfpl ⊢
  clear h hF hA hfps
  generalize callOk G.vars ⟨kind, op, dst, args, bits, ref⟩ F = co at *
  generalize G.name = nm at *
  generalize G.params.length = pl at *
  generalize G.vars.length = vl at *
  generalize G.arrs.length = al at *
  generalize G.blocks.length = bl at *
  generalize G.result = r at *
  generalize F.name = fnm at *
  generalize F.result = fr at *
  generalize F.vars.length = fvl at *
  generalize F.arrs.length = fal at *
  generalize F.blocks.length = fbl at *
  have HB0 : Hid (Below w.heap.size w (((w.alloc (.cells #[.string nm, .slice pa pl pc, .int .u8 r, .slice va vl vc, .slice aa al ac, .slice ba bl bc] 46)).alloc (.cells #[.int .u8 kind, .int .u8 op, .int .i64 dst, .slice xa args.length xc, .int .u64 bits, .int .i64 ref] 75)).alloc (.cells #[.string fnm, .slice fpa fps.length fpc, .int .u8 fr, .slice fva fvl fvc, .slice faa fal fac, .slice fba fbl fbc] 46)) ∧ Trio w.heap.size [.string nm, .slice pa pl pc, .int .u8 r, .slice va vl vc, .slice aa al ac, .slice ba bl bc] [.int .u8 kind, .int .u8 op, .int .i64 dst, .slice xa args.length xc, .int .u64 bits, .int .i64 ref] [.string fnm, .slice fpa fps.length fpc, .int .u8 fr, .slice fva fvl fvc, .slice faa fal fac, .slice fba fbl fbc] (((w.alloc (.cells #[.string nm, .slice pa pl pc, .int .u8 r, .slice va vl vc, .slice aa al ac, .slice ba bl bc] 46)).alloc (.cells #[.int .u8 kind, .int .u8 op, .int .i64 dst, .slice xa args.length xc, .int .u64 bits, .int .i64 ref] 75)).alloc (.cells #[.string fnm, .slice fpa fps.length fpc, .int .u8 fr, .slice fva fvl fvc, .slice faa fal fac, .slice fba fbl fbc] 46))) := ⟨below_alloc (below_alloc (below_alloc (Below.refl _ _) _) _) _, Trio.new w [.string nm, .slice pa pl pc, .int .u8 r, .slice va vl vc, .slice aa al ac, .slice ba bl bc] [.int .u8 kind, .int .u8 op, .int .i64 dst, .slice xa args.length xc, .int .u64 bits, .int .i64 ref] [.string fnm, .slice fpa fps.length fpc, .int .u8 fr, .slice fva fvl fvc, .slice faa fal fac, .slice fba fbl fbc] 46 75 46⟩
  by_cases hl : args.length = fps.length
  · rw [hl] at HB0 HXA ⊢
    clear hl hxl
    obtain ⟨R, hR⟩ : ∃ R, R = (((fps.length : Int) == (fps.length : Int)) && ((List.range fps.length).all co && isOfB G.vars dst fr)) := ⟨_, rfl⟩
    rw [← hR]
    have HR : Hid (R = (((List.range fps.length).drop 0).all co && isOfB G.vars dst fr)) := by show _ = _; rw [hR]; simp
    clear hR
    go_enter Tryz.func116, Tryz.ntmps116
    go_wp2
    go_loopw [19] (fun vi wr => ∃ i : Nat, vi = .int .i64 i ∧ i ≤ fps.length ∧ Hid (R = (((List.range fps.length).drop i).all co && isOfB G.vars dst fr) ∧ Below w.heap.size w wr ∧ Trio w.heap.size [.string nm, .slice pa pl pc, .int .u8 r, .slice va vl vc, .slice aa al ac, .slice ba bl bc] [.int .u8 kind, .int .u8 op, .int .i64 dst, .slice xa fps.length xc, .int .u64 bits, .int .i64 ref] [.string fnm, .slice fpa fps.length fpc, .int .u8 fr, .slice fva fvl fvc, .slice faa fal fac, .slice fba fbl fbc] wr)) (fun vi _ => fps.length - (intOf vi).toNat)
    case atStart => exact ⟨0, rfl, by omega, HR.out, HB0.out.1, HB0.out.2⟩
    case round =>
      obtain ⟨i, rfl, hi, hr⟩ := hrel
      clear HR HB0
      obtain ⟨e0, e1, e2, e3, e4, e5⟩ := box6 hr.out.2.2.g
      obtain ⟨x0, x1, x2, x3, x4, x5⟩ := box6 hr.out.2.2.t
      obtain ⟨o0, o1, o2, o3, o4, o5⟩ := box6 hr.out.2.2.o
      by_cases hin : i < fps.length
      · obtain ⟨gp, op', rfl, hgp, cp⟩ := HFP.out i hin
        obtain ⟨ga, oa, rfl, hga, ca⟩ := HXA.out i hin
        have hin' : (i : Int) < fps.length := by omega
        have hd : R = (co i && ((List.range fps.length).drop (i + 1)).all co && isOfB G.vars dst fr) := by
          rw [hr.out.1, all_drop (d := 0) (by simpa using hin)]
          congr 3
          simp [List.getD, hin]
        rw [HCO.out i] at hd
        have cp' := (hr.out.2.1.cell (p := ⟨gp, op' + i, none⟩) hgp).trans cp
        have ca' := (hr.out.2.1.cell (p := ⟨ga, oa + i, none⟩) hga).trans ca
        have HPI := HPL.out (fps.getD i 0)
        have HVI := HFV.out (fps.getD i 0)
        have HOI := HOF.out (args.getD i 0)
        generalize fps.getD i 0 = fv at *
        generalize args.getD i 0 = xv at *
        clear cp ca HXA HFP HFV
        cases hb : inB fv fvl with
        | false =>
          rw [hb] at hd HPI
          simp only [Bool.false_and] at hd
          have HD : Hid (R = false) := hd
          have D1 : Hid (∀ W, Calls Tryz.prog 60 #[.int .i64 fv, .int .i64 (fvl : Int)] W fun e w' => e = .returned (.bool false) ∧ Below W.heap.size W w') := fun W => (HPI W).mono fun e w' ⟨he, hw⟩ => ⟨he, by rw [hw]; exact Below.refl _ _⟩
          have ko3 := cell_regrown o3
          have c1 : ∀ d os, _ := fun d os => Calls.regrown_of (D1.out (grow (redrawn wr d) os))
          have E1 : Hid _ := c1
          clear hd HPI HVI HOI hb c1 D1
          go_wp2
          refine wp_region_quiet_below (by kernel_rfl) (by kernel_rfl) ?_
          repeat (go_big_quiet_step ((with_reducible exact E1.out _ _)))
          refine wpQuiet_nil ?_
          intro _ hw'
          obtain ⟨⟨dq, osq⟩, hw''⟩ := hw'
          subst hw''
          go_wp2
          go_ret
          exact ⟨ret_bool HD.out.symm, below_trans hr.out.2.1 (below_regrown wr dq osq)⟩
        | true =>
          obtain ⟨gv, ov, k, rfl, rfl, hkn, hgv, cv⟩ := HVI hb
          rw [hb] at hd HPI
          have cv' := (hr.out.2.1.cell (p := ⟨gv, ov + k, none⟩) hgv).trans cv
          have HOJ := HOI (varT F.vars (k : Int))
          generalize varT F.vars (k : Int) = ty at *
          have D1 : Hid (∀ W, Calls Tryz.prog 60 #[.int .i64 (k : Int), .int .i64 (fvl : Int)] W fun e w' => e = .returned (.bool true) ∧ Below W.heap.size W w') := fun W => (HPI W).mono fun e w' ⟨he, hw⟩ => ⟨he, by rw [hw]; exact Below.refl _ _⟩
          have ke0 := cell_regrown e0
          have ke1 := cell_regrown e1
          have ke2 := cell_regrown e2
          have ke3 := cell_regrown e3
          have ke4 := cell_regrown e4
          have ke5 := cell_regrown e5
          have kx3 := cell_regrown x3
          have ko3 := cell_regrown o3
          have kca := cell_regrown ca'
          have kcv := cell_regrown cv'
          have HBR : Hid (Below w.heap.size w wr) := hr.out.2.1
          cases hc : isOfB G.vars xv ty with
          | true =>
            rw [hc] at hd HOJ
            simp only [Bool.true_and] at hd
            have HD : Hid _ := hd
            have c1 : ∀ d os, _ := fun d os => Calls.regrown_of (D1.out (grow (redrawn wr d) os))
            have c2 : ∀ d os, _ := fun d os => Calls.regrown_of (HOJ _ (below_trans HBR.out (below_regrown wr d os)))
            have E1 : Hid _ := c1
            have E2 : Hid _ := c2
            clear hd HPI HVI HOI hb hc HOJ cv c1 c2 D1
            go_wp2
            refine wp_region_quiet_below (by kernel_rfl) (by kernel_rfl) ?_
            repeat (go_big_quiet_step ((first | with_reducible exact E1.out _ _ | with_reducible exact E2.out _ _)))
            refine wpQuiet_nil ?_
            intro _ hw'
            obtain ⟨⟨dq, osq⟩, hw''⟩ := hw'
            subst hw''
            go_wp2
            go_roundw
            case rel => exact ⟨i + 1, by first | rfl | (congr 1; omega), by omega, HD.out, below_trans HBR.out (below_regrown wr dq osq), hr.out.2.2.below (below_regrown wr dq osq)⟩
            case measure => simp [intOf]; omega
          | false =>
            rw [hc] at hd HOJ
            simp only [Bool.false_and, Bool.and_false] at hd
            have HD : Hid (R = false) := hd
            have c1 : ∀ d os, _ := fun d os => Calls.regrown_of (D1.out (grow (redrawn wr d) os))
            have c2 : ∀ d os, _ := fun d os => Calls.regrown_of (HOJ _ (below_trans HBR.out (below_regrown wr d os)))
            have E1 : Hid _ := c1
            have E2 : Hid _ := c2
            clear hd HPI HVI HOI hb hc HOJ cv c1 c2 D1
            go_wp2
            refine wp_region_quiet_below (by kernel_rfl) (by kernel_rfl) ?_
            repeat (go_big_quiet_step ((first | with_reducible exact E1.out _ _ | with_reducible exact E2.out _ _)))
            refine wpQuiet_nil ?_
            intro _ hw'
            obtain ⟨⟨dq, osq⟩, hw''⟩ := hw'
            subst hw''
            go_wp2
            go_ret
            exact ⟨ret_bool HD.out.symm, below_trans HBR.out (below_regrown wr dq osq)⟩
      · obtain rfl : i = fps.length := by omega
        have hd : R = isOfB G.vars dst fr := by rw [hr.out.1, List.drop_eq_nil_of_le (by simp)]; simp
        have HD : Hid _ := hd
        have HOJ : Hid _ := HOF.out dst fr wr hr.out.2.1
        have HBR : Hid (Below w.heap.size w wr) := hr.out.2.1
        clear hd HFP HXA HFV HOF HPL hr
        go_wp2_with (go_at_call 89; go_loud (refine Calls.mono (by exact HOJ.out) ?_; rintro e w1 ⟨rfl, hb1⟩))
        go_ret
        exact ⟨ret_bool HD.out.symm, below_trans HBR.out hb1⟩
  · have hl1 : ((args.length : Int) == (fps.length : Int)) = false := beq_false_of_ne (by omega)
    have hl2 : ((args.length : Int) != (fps.length : Int)) = true := by simp; omega
    rw [hl1]
    clear HFP HXA HFV HOF HPL hl
    go_enter Tryz.func116, Tryz.ntmps116
    go_wp2
    go_ret
    exact ⟨rfl, HB0.out.1⟩
end Go.Proofs.YtknbgpgefeahlaaGreatDoor
