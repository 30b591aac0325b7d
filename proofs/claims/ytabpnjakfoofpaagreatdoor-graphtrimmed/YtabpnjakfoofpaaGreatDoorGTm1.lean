/- The law GraphTrimmed: its run. -/
import Derived.Test.YtabpnjakfoofpaaGreatDoorGLstM
import Derived.Test.YtabpnjakfoofpaaGreatDoorGSg2
import Derived.Test.YtabpnjakfoofpaaGreatDoorGAwk2M
namespace Go.Proofs.YtabpnjakfoofpaaGreatDoor
open Go.RowKit

theorem trim_ok (G : Gr) (pv vv av bv : Value) (w : World) (h : GrAt w pv vv av bv G) (hk : OkG G) (h1 : 1 ≤ G.blocks.length) :
    Calls Tryz.prog 18 #[.agg #[.string G.name, pv, .int .u8 G.result, vv, av, bv]] w fun e w' => ∃ pv' vv' av' bv', e = .returned (.agg #[.string G.name, pv', .int .u8 G.result, vv', av', bv']) ∧ GN w w' pv' vv' av' bv' (trimG G) ∧ Below w.heap.size w w' := by
  obtain ⟨k1, k2, k3, k4, k5⟩ := hk
  exact trim_any G pv vv av bv w h h1 (by omega) (by omega) (by omega) (by omega) (fun b hb => Nat.le_trans (k5 b hb).1 (by omega)) (fun b hb x hx => Nat.le_trans ((k5 b hb).2 x hx) (by omega))
set_option maxRecDepth 100000 in
set_option maxHeartbeats 8000000 in
theorem trimmedL_any (p : List Gr) (ppv : Value) (w : World) (hp : GrsAt w ppv p) (hP : PartsAt w) :
    Calls Tryz.prog 4 #[ppv] w fun e w' => e = .returned (.bool true) ∧ Below w.heap.size w w' := by
  have HAW : Hid (∀ W, Below w.heap.size w W → Calls Tryz.prog 6 #[] W fun e w' => e = .returned (.bool true) ∧ Below W.heap.size W w') := fun W hb => awake_any W (hP.below hb)
  have HWI : Hid (∀ W, Below w.heap.size w W → Calls Tryz.prog 20 #[ppv] W fun e w' => ∃ b, e = .returned (.bool b) ∧ Hid (b = false → ∀ G ∈ p, OkG G) ∧ Below W.heap.size W w') := fun W hb => wide2_any p ppv W (hp.below hb)
  have HC1 : Hid (∀ W, Below w.heap.size w W → (∀ G ∈ p, OkG G) → Calls Tryz.prog 21 #[ppv] W fun e w' => e = .returned (.tuple #[.int .i64 (checkT p).1, .int .i64 (checkT p).2]) ∧ Below W.heap.size W w') := fun W hb hn => check_any p ppv W (hp.below hb) (hP.below hb) (fun _ G hG => Nat.le_trans (hn G hG).1 (by omega))
  have HCP : Hid (∀ W, Below w.heap.size w W → (∀ G ∈ p, OkG G) → p.length ≤ 64 → Calls Tryz.prog 22 #[ppv] W fun e w' => ∃ v' qs, e = .returned v' ∧ QG w' W.heap.size v' p qs ∧ Below W.heap.size W w') := fun W hb hn h6 => copyGs_any p ppv W (hp.below hb) (by omega) hn
  have HPA : Hid (∀ W, Below w.heap.size w W → PartsAt W) := fun W hb => hP.below hb
  have HCK := check_kinds p
  have HOK : Hid ((checkT p).1 = 0 → p.length ≤ 64 ∧ ∀ G ∈ p, graphB p G = true) := check_ok
  have HMR : Hid ((∀ G ∈ p, OkG G) → (checkT p).1 = 0 → ∀ i, checkT (mixT p i) = (0, 0)) := fun hk h i => mixT_right hk h i
  obtain ⟨qa, qc, rfl, hql⟩ := hp.form
  have HPG : Hid (∀ i, i < p.length → _) := fun i hi => hp.get (i := i) hi
  clear hp hP
  generalize hc1 : (checkT p).1 = ce at *
  generalize (checkT p).2 = cx at *
  clear hc1
  generalize hpl : p.length = n at *
  have HPL : Hid (p.length = n) := hpl
  clear hpl
  have T1 : True := trivial
  rcases HCK with hce | hce | hce
  · subst hce
    go_enter Tryz.func4, Tryz.ntmps4
    go_wp2_with (first
    | (go_at_call 6; go_loud (refine Calls.mono (by exact HAW.out _ (Below.refl _ _)) ?_; rintro e w1 ⟨rfl, hb1⟩; have H1 : Hid (Below w.heap.size w w1) := hb1; clear hb1))
    | (go_at_call 20; go_loud (refine Calls.mono (by exact HWI.out _ H1.out) ?_; rintro e w2 ⟨bg, rfl, hng, hb2⟩; have HNG : Hid (Hid (bg = false → ∀ G ∈ p, OkG G)) := hng; have H2 : Hid (Below w.heap.size w w2) := below_trans H1.out hb2; clear hb2 hng; cases bg))
    | (go_at_call 21; clear T1; go_loud (have hok : ∀ G ∈ p, OkG G := (by first | exact HNG.out.out rfl | exact HNG.out.out | exact HNG.out trivial); have HGO : Hid (∀ G ∈ p, OkG G) := hok; refine Calls.mono (by exact HC1.out _ H2.out hok) ?_; rintro e w3 ⟨rfl, hb3⟩; have H3 : Hid (Below w.heap.size w w3) := below_trans H2.out hb3; clear hb3 hok))
    | (go_at_call 22; go_loud (have h6 : n ≤ 64 := (by first | exact (HOK.out rfl).1 | exact HOK.out.1 | exact (HOK.out trivial).1); refine Calls.mono (by exact HCP.out _ H3.out HGO.out h6) ?_; rintro e w4 ⟨v4, qs4, rfl, hq4, hb4⟩; have HQ4 : Hid (QG w4 w3.heap.size v4 p qs4) := hq4; have H4 : Hid (Below w.heap.size w w4) := below_trans H3.out hb4; clear hb4 hq4)))
    rotate_left 1
    · go_ret
      exact ⟨rfl, H2.out⟩
    have hgr : ∀ G ∈ p, graphB p G = true := by first | exact (HOK.out rfl).2 | exact HOK.out.2 | exact (HOK.out trivial).2
    have hmr : ∀ i, checkT (mixT p i) = (0, 0) := by first | exact HMR.out HGO.out rfl | exact HMR.out HGO.out | exact HMR.out HGO.out trivial
    have HGB : Hid _ := hgr
    have HMX : Hid _ := hmr
    have HRT : Hid (∀ i, i < n → phisR (p.getD i default) = true ∧ 1 ≤ (p.getD i default).blocks.length ∧ OkG (p.getD i default)) := fun i hi => by
      have hm : p.getD i default ∈ p := getD_memG (by rw [HPL.out]; exact hi)
      have h9 := right_phis (HGO.out _ hm) (HGB.out _ hm)
      exact ⟨h9.1, h9.2, HGO.out _ hm⟩
    clear hgr hmr HGB HMR HOK HCP HC1 HWI HAW HNG H1 H2
    have H3S := H3.out.size
    have HQ0 : Hid (QG w4 w.heap.size v4 (mixT p 0) qs4) := by
      rw [mixT_zero]
      exact ⟨own_mono HQ4.out.row H3S, HQ4.out.ql, HQ4.out.kid⟩
    clear HQ4 H3S H3
    obtain ⟨xa, xc, rfl, g0, hg0, hz⟩ : ∃ xa xc, v4 = .slice xa n xc ∧ ∃ g0, w.heap.size ≤ g0 ∧ (n = 0 ∨ (xa = some ⟨g0, 0, none⟩ ∧ n ≤ xc)) := by
      have h9 := HQ0.out.row
      rw [mixT_len, HPL.out] at h9
      obtain ⟨ya, yc, hv, hh⟩ := own_blk (Nat.le_refl _) h9
      exact ⟨ya, yc, hv, hh⟩
    have hn64 : n ≤ 64 := by rw [← HPL.out]; exact (check_ok (by have h9 := HMX.out 0; rw [mixT_zero] at h9; rw [h9])).1
    have HQL : Hid (∀ i, (mixT p i).length = n) := fun i => by rw [mixT_len]; exact HPL.out
    go_loopw [6] (fun vi wr => ∃ i : Nat, vi = .int .i64 i ∧ i ≤ n ∧ Hid (Below w.heap.size w wr ∧ ∃ qs, QG wr w.heap.size (.slice xa n xc) (mixT p i) qs)) (fun vi _ => n - (intOf vi).toNat)
    case atStart => exact ⟨0, rfl, by omega, H4.out, qs4, HQ0.out⟩
    case round =>
      obtain ⟨i, rfl, hi, hr⟩ := hrel
      clear HQ0 H4
      generalize wr = wo at *
      have HRB : Hid (Below w.heap.size w wo) := hr.out.1
      obtain ⟨qs, hqs⟩ := hr.out.2
      have HQW : Hid (QG wo w.heap.size (.slice xa n xc) (mixT p i) qs) := hqs
      clear hr hqs
      by_cases hin : i < n
      · obtain ⟨rfl, _⟩ := hz.resolve_left (by omega)
        have hin' : (i : Int) < n := by omega
        obtain ⟨g, o, x1, x2, x3, x4, hge, hg, c0, c1, c2, c3, c4, c5, hG⟩ := HPG.out i hin
        subst hge
        obtain ⟨rt1, rt2, rt3⟩ := HRT.out i hin
        have hcl : ∀ j, wo.cell? ⟨g, j, none⟩ = w.cell? ⟨g, j, none⟩ := fun j => HRB.out.cell (p := ⟨g, j, none⟩) hg
        have HXG : Hid (∀ W, Below w.heap.size w W → GrAt W x1 x2 x3 x4 (p.getD i default)) := fun W hb => hG.below hb
        have HXC : Hid (∀ W, Below w.heap.size w W → W.cell? ⟨g, o + i * 6, none⟩ = some (.string (p.getD i default).name) ∧ W.cell? ⟨g, o + i * 6 + 1, none⟩ = some x1 ∧ W.cell? ⟨g, o + i * 6 + 2, none⟩ = some (.int .u8 (p.getD i default).result) ∧ W.cell? ⟨g, o + i * 6 + 3, none⟩ = some x2 ∧ W.cell? ⟨g, o + i * 6 + 4, none⟩ = some x3 ∧ W.cell? ⟨g, o + i * 6 + 5, none⟩ = some x4) := fun W hb => by
          have hc : ∀ j, W.cell? ⟨g, j, none⟩ = w.cell? ⟨g, j, none⟩ := fun j => hb.cell (p := ⟨g, j, none⟩) hg
          exact ⟨(hc _).trans c0, (hc _).trans c1, (hc _).trans c2, (hc _).trans c3, (hc _).trans c4, (hc _).trans c5⟩
        have HMS : Hid ((mixT p i).set i (trimG (p.getD i default)) = mixT p (i + 1)) := mixT_set (by rw [HPL.out]; exact hin)
        have HMG : Hid ((mixT p (i + 1)).getD i default = trimG (p.getD i default)) := by show _ = _; rw [List.getD_eq_getElem?_getD, mixT_get (by rw [HPL.out]; exact hin), if_pos (by omega)]; rfl
        have HOKX : Hid (phisR (p.getD i default) = true ∧ 1 ≤ (p.getD i default).blocks.length ∧ OkG (p.getD i default)) := ⟨rt1, rt2, rt3⟩
        obtain ⟨pa, pc, va, vc, aa, ac, ba, bc, rfl, rfl, rfl, rfl, _, _, _, _⟩ := hG.openF
        obtain ⟨e0, e1, e2, e3, e4, e5⟩ := HXC.out _ HRB.out
        have HTR : Hid _ := trim_ok _ _ _ _ _ wo (HXG.out _ HRB.out) rt3 rt2
        clear HPG HRT hcl hG c0 c1 c2 c3 c4 c5 rt1 rt2 rt3
        generalize p.getD i default = X at *
        obtain ⟨nm, ps, r, vs, ars, bs⟩ := X
        dsimp only at *
        generalize ps.length = pl at *
        generalize vs.length = vl at *
        generalize ars.length = al at *
        generalize hbl : bs.length = bl at *
        have HBL : Hid (bs.length = bl) := hbl
        clear hbl
        go_wp2_with (first
        | (go_at_call 18; go_loud (refine Calls.mono (by exact HTR.out) ?_; rintro e w5 ⟨y1, y2, y3, y4, rfl, hgn5, hb5⟩; obtain ⟨ya, yb, yc, yd, ye, yf, yg, yh, rfl, rfl, rfl, rfl, _, _, _, _⟩ := (hgn5 w5 (fun _ _ _ => rfl)).openF; generalize (trimG ⟨nm, ps, r, vs, ars, bs⟩).params.length = k1 at *; generalize (trimG ⟨nm, ps, r, vs, ars, bs⟩).vars.length = k2 at *; generalize (trimG ⟨nm, ps, r, vs, ars, bs⟩).arrs.length = k3 at *; generalize (trimG ⟨nm, ps, r, vs, ars, bs⟩).blocks.length = k4 at *; have HQ6 : Hid (QG (putG w5 g0 i (.string nm) (.slice ya k1 yb) (.int .u8 r) (.slice yc k2 yd) (.slice ye k3 yf) (.slice yg k4 yh)) w.heap.size (.slice (some ⟨g0, 0, none⟩) n xc) (mixT p (i + 1)) (qs.set i (.slice ya k1 yb, .slice yc k2 yd, .slice ye k3 yf, .slice yg k4 yh))) := (by rw [← HMS.out]; exact QG.put (y := trimG ⟨nm, ps, r, vs, ars, bs⟩) (q := (.slice ya k1 yb, .slice yc k2 yd, .slice ye k3 yf, .slice yg k4 yh)) HQW.out (HQL.out i).symm (by rw [HQL.out]; exact hin) hb5 hgn5); have H5 : Hid (Below w.heap.size w w5) := below_trans HRB.out hb5; have H6 : Hid (Below w.heap.size w (putG w5 g0 i (.string nm) (.slice ya k1 yb) (.int .u8 r) (.slice yc k2 yd) (.slice ye k3 yf) (.slice yg k4 yh))) := (((((((below_trans HRB.out hb5).setCell (p := ⟨g0, i * 6, none⟩) hg0 _).setCell (p := ⟨g0, i * 6 + 1, none⟩) hg0 _).setCell (p := ⟨g0, i * 6 + 2, none⟩) hg0 _).setCell (p := ⟨g0, i * 6 + 3, none⟩) hg0 _).setCell (p := ⟨g0, i * 6 + 4, none⟩) hg0 _).setCell (p := ⟨g0, i * 6 + 5, none⟩) hg0 _); have HCQ : Hid (Calls Tryz.prog 21 #[.slice (some ⟨g0, 0, none⟩) n xc] (putG w5 g0 i (.string nm) (.slice ya k1 yb) (.int .u8 r) (.slice yc k2 yd) (.slice ye k3 yf) (.slice yg k4 yh)) fun e w' => e = .returned (.tuple #[.int .i64 0, .int .i64 0]) ∧ Below ((putG w5 g0 i (.string nm) (.slice ya k1 yb) (.int .u8 r) (.slice yc k2 yd) (.slice ye k3 yf) (.slice yg k4 yh))).heap.size (putG w5 g0 i (.string nm) (.slice ya k1 yb) (.int .u8 r) (.slice yc k2 yd) (.slice ye k3 yf) (.slice yg k4 yh)) w') := (by have h9 := check_any (mixT p (i + 1)) _ (putG w5 g0 i (.string nm) (.slice ya k1 yb) (.int .u8 r) (.slice yc k2 yd) (.slice ye k3 yf) (.slice yg k4 yh)) (HQ6.out.at' (by rw [HQL.out]; omega)) (HPA.out _ H6.out) (fun _ G hG => Nat.le_trans (mixT_ok HGO.out G hG).1 (by omega)); rw [HMX.out] at h9; exact h9); obtain ⟨g9, o9, z1, z2, z3, z4, hze, hgz, d0, d1, d2, d3, d4, d5, hGz⟩ := ((HQW.out.below hb5).at' (by rw [HQL.out]; omega)).get (i := i) (by rw [HQL.out]; exact hin); injection hze with hze; injection hze with q1 q2; subst q1 q2; rw [Nat.zero_add] at d0 d1 d2 d3 d4 d5; have hfz : ∀ k, w5.frozen? ⟨g0, k, none⟩ = false := (fun k => by have h9 := (HQW.out.below hb5).row; rw [HQL.out] at h9; exact h9.frozenAt k); have hgl : g0 < w5.heap.size := hgz; clear hGz hgn5 hb5 HTR e0 e1 e2 e3 e4 e5))
        | (go_at_call 21; go_loud (refine Calls.mono (by exact HCQ.out) ?_; rintro e w7 ⟨rfl, hb7⟩; have H7 : Hid (Below w.heap.size w w7) := below_trans H6.out hb7; have HQ7 : Hid (QG w7 w.heap.size (.slice (some ⟨g0, 0, none⟩) n xc) (mixT p (i + 1)) (qs.set i (.slice ya k1 yb, .slice yc k2 yd, .slice ye k3 yf, .slice yg k4 yh))) := HQ6.out.below hb7; obtain ⟨g9, o9, z1, z2, z3, z4, hze, hgz, f0, f1, f2, f3, f4, f5, hGz⟩ := (HQ7.out.at' (by rw [HQL.out]; omega)).get (i := i) (by rw [HQL.out]; exact hin); injection hze with hze; injection hze with q1 q2; subst q1 q2; rw [Nat.zero_add] at f0 f1 f2 f3 f4 f5; rw [HMG.out] at f0 f2 hGz; replace f0 : w7.cell? ⟨g0, i * 6, none⟩ = some (.string nm) := f0; replace f2 : w7.cell? ⟨g0, i * 6 + 2, none⟩ = some (.int .u8 r) := f2; have HZG : Hid (GrAt w7 z1 z2 z3 z4 (trimG ⟨nm, ps, r, vs, ars, bs⟩)) := hGz; obtain ⟨ja, jb, jc, jd, je, jf, jg, jh, rfl, rfl, rfl, rfl, _, _, _, _⟩ := hGz.openF; have HGL : Hid (g0 < w7.heap.size) := hgz; clear hGz hb7 hgz HCQ))
        | (go_at_call 13; go_loud (refine Calls.mono (by exact order_any (trimG ⟨nm, ps, r, vs, ars, bs⟩) _ _ _ _ w7 HZG.out (Nat.le_trans (okG_trim HOKX.out.2.2).1 (by omega))) ?_; rintro e w8 ⟨ov, rfl, ho8, hb8⟩; obtain ⟨oa, oc, hov, _⟩ := (OwnI.at' ho8 (by rw [(order_k ⟨nm, ps, r, vs, ars, bs⟩).1]; exact Nat.le_trans (okG_trim HOKX.out.2.2).1 (by omega))).form; rw [(order_k ⟨nm, ps, r, vs, ars, bs⟩).1] at hov; subst hov; have HO8 : Hid (IntsAt w8 (.slice oa (trimG ⟨nm, ps, r, vs, ars, bs⟩).blocks.length oc) (orderT (tms (trimG ⟨nm, ps, r, vs, ars, bs⟩).blocks))) := OwnI.at' ho8 (by rw [(order_k ⟨nm, ps, r, vs, ars, bs⟩).1]; exact Nat.le_trans (okG_trim HOKX.out.2.2).1 (by omega)); have HB8 : Hid (Below w7.heap.size w7 w8) := hb8; clear ho8 hb8)))
        have HOR : Hid (∀ W, Below w.heap.size w W → Calls Tryz.prog 13 #[.agg #[.string nm, .slice pa pl pc, .int .u8 r, .slice va vl vc, .slice aa al ac, .slice ba bl bc]] W fun e w' => ∃ oa oc, e = .returned (.slice oa (trimG ⟨nm, ps, r, vs, ars, bs⟩).blocks.length oc) ∧ Below W.heap.size W w') := fun W hb => by
          refine (order_any ⟨nm, ps, r, vs, ars, bs⟩ _ _ _ _ W (HXG.out W hb) (Nat.le_trans HOKX.out.2.2.1 (by omega))).mono ?_
          rintro e w' ⟨v, rfl, ho, hb'⟩
          obtain ⟨oa, oc, hov, _⟩ := (OwnI.at' ho (by rw [(order_k ⟨nm, ps, r, vs, ars, bs⟩).2.1]; exact Nat.le_trans (okG_trim HOKX.out.2.2).1 (by omega))).form
          rw [(order_k ⟨nm, ps, r, vs, ars, bs⟩).2.1] at hov
          exact ⟨oa, oc, by rw [hov], hb'⟩
        have hK1 : 1 ≤ (trimG ⟨nm, ps, r, vs, ars, bs⟩).blocks.length := by
          show 1 ≤ (trimBs bs).length
          rw [trim_len]
          exact List.length_pos_of_mem ((order_ok (tms bs)).zero (by have h9 := HOKX.out.2.1; rw [← HBL.out] at h9; simp only [tms, List.length_map]; omega))
        have HTQ : Hid (∀ W, Below w7.heap.size w7 W → Calls Tryz.prog 18 #[.agg #[.string nm, .slice ja (trimG ⟨nm, ps, r, vs, ars, bs⟩).params.length jb, .int .u8 r, .slice jc (trimG ⟨nm, ps, r, vs, ars, bs⟩).vars.length jd, .slice je (trimG ⟨nm, ps, r, vs, ars, bs⟩).arrs.length jf, .slice jg (trimG ⟨nm, ps, r, vs, ars, bs⟩).blocks.length jh]] W fun e w' => ∃ y1 y2 y3 y4, e = .returned (.agg #[.string nm, y1, .int .u8 r, y2, y3, y4]) ∧ GN W w' y1 y2 y3 y4 (trimG ⟨nm, ps, r, vs, ars, bs⟩) ∧ Below W.heap.size W w') := fun W hb => by
          have h9 := trim_ok (trimG ⟨nm, ps, r, vs, ars, bs⟩) _ _ _ _ W (HZG.out.below hb) (okG_trim HOKX.out.2.2) hK1
          rw [trim_again HOKX.out.1] at h9
          exact h9
        have HSG : Hid (∀ W y1 y2 y3 y4, Below w7.heap.size w7 W → GrAt W y1 y2 y3 y4 (trimG ⟨nm, ps, r, vs, ars, bs⟩) → Calls Tryz.prog 17 #[.agg #[.string nm, y1, .int .u8 r, y2, y3, y4], .agg #[.string nm, .slice ja (trimG ⟨nm, ps, r, vs, ars, bs⟩).params.length jb, .int .u8 r, .slice jc (trimG ⟨nm, ps, r, vs, ars, bs⟩).vars.length jd, .slice je (trimG ⟨nm, ps, r, vs, ars, bs⟩).arrs.length jf, .slice jg (trimG ⟨nm, ps, r, vs, ars, bs⟩).blocks.length jh]] W fun e w' => e = .returned (.bool true) ∧ Below W.heap.size W w') := fun W y1 y2 y3 y4 hb hy => sameG_yes (trimG ⟨nm, ps, r, vs, ars, bs⟩) _ _ _ _ _ _ _ _ W hy (HZG.out.below hb)
        have HOC : Hid (∀ j, j < (trimG ⟨nm, ps, r, vs, ars, bs⟩).blocks.length → ∃ g o, oa = some ⟨g, o, none⟩ ∧ g < w8.heap.size ∧ w8.cell? ⟨g, o + j, none⟩ = some (.int .i64 (j : Int))) := fun j hj => by
          obtain ⟨g, o, e1, e2, e3⟩ := HO8.out.get (i := j) (by rw [(order_k ⟨nm, ps, r, vs, ars, bs⟩).1]; exact hj)
          rw [(order_k ⟨nm, ps, r, vs, ars, bs⟩).2.2 j hj] at e3
          exact ⟨g, o, e1, e2, e3⟩
        have hK4 : (trimG ⟨nm, ps, r, vs, ars, bs⟩).blocks.length ≤ 400 := (okG_trim HOKX.out.2.2).1
        clear HO8 HZG HXG HOKX HMG HMS HQW H5 H6 HQ6 d0 d1 d2 d3 d4 d5 hfz hgl
        generalize (trimG ⟨nm, ps, r, vs, ars, bs⟩).params.length = m1 at *
        generalize (trimG ⟨nm, ps, r, vs, ars, bs⟩).vars.length = m2 at *
        generalize (trimG ⟨nm, ps, r, vs, ars, bs⟩).arrs.length = m3 at *
        generalize (trimG ⟨nm, ps, r, vs, ars, bs⟩).blocks.length = K9 at *
        have HSX : Hid (∀ W, Below w7.heap.size w7 W → W.cell? ⟨g, o + i * 6, none⟩ = some (.string nm) ∧ W.cell? ⟨g, o + i * 6 + 1, none⟩ = some (.slice pa pl pc) ∧ W.cell? ⟨g, o + i * 6 + 2, none⟩ = some (.int .u8 r) ∧ W.cell? ⟨g, o + i * 6 + 3, none⟩ = some (.slice va vl vc) ∧ W.cell? ⟨g, o + i * 6 + 4, none⟩ = some (.slice aa al ac) ∧ W.cell? ⟨g, o + i * 6 + 5, none⟩ = some (.slice ba bl bc) ∧ W.cell? ⟨g0, i * 6, none⟩ = some (.string nm) ∧ W.cell? ⟨g0, i * 6 + 1, none⟩ = some (.slice ja m1 jb) ∧ W.cell? ⟨g0, i * 6 + 2, none⟩ = some (.int .u8 r) ∧ W.cell? ⟨g0, i * 6 + 3, none⟩ = some (.slice jc m2 jd) ∧ W.cell? ⟨g0, i * 6 + 4, none⟩ = some (.slice je m3 jf) ∧ W.cell? ⟨g0, i * 6 + 5, none⟩ = some (.slice jg K9 jh)) := fun W hb => by
          obtain ⟨a0, a1, a2, a3, a4, a5⟩ := HXC.out W (below_trans H7.out hb)
          have hc : ∀ j, W.cell? ⟨g0, j, none⟩ = w7.cell? ⟨g0, j, none⟩ := fun j => hb.cell (p := ⟨g0, j, none⟩) HGL.out
          exact ⟨a0, a1, a2, a3, a4, a5, (hc _).trans f0, (hc _).trans f1, (hc _).trans f2, (hc _).trans f3, (hc _).trans f4, (hc _).trans f5⟩
        clear f0 f1 f2 f3 f4 f5
        refine wp_region_late (fun W => W.cell? ⟨g, o + i * 6, none⟩ = some (.string nm) ∧ W.cell? ⟨g, o + i * 6 + 1, none⟩ = some (.slice pa pl pc) ∧ W.cell? ⟨g, o + i * 6 + 2, none⟩ = some (.int .u8 r) ∧ W.cell? ⟨g, o + i * 6 + 3, none⟩ = some (.slice va vl vc) ∧ W.cell? ⟨g, o + i * 6 + 4, none⟩ = some (.slice aa al ac) ∧ W.cell? ⟨g, o + i * 6 + 5, none⟩ = some (.slice ba bl bc) ∧ W.cell? ⟨g0, i * 6, none⟩ = some (.string nm) ∧ W.cell? ⟨g0, i * 6 + 1, none⟩ = some (.slice ja m1 jb) ∧ W.cell? ⟨g0, i * 6 + 2, none⟩ = some (.int .u8 r) ∧ W.cell? ⟨g0, i * 6 + 3, none⟩ = some (.slice jc m2 jd) ∧ W.cell? ⟨g0, i * 6 + 4, none⟩ = some (.slice je m3 jf) ∧ W.cell? ⟨g0, i * 6 + 5, none⟩ = some (.slice jg K9 jh)) (fun _ => false) (by kernel_rfl) (HSX.out _ (below_drew HB8.out)) (fun hHeld => ?_)
        refine wpAnyL_take 0 (v := ?_) rfl (by kernel_rfl) (by kernel_rfl) (by kernel_rfl) (by kernel_rfl) (fun _ _ _ h => h) hHeld (Or.inl ⟨by kernel_rfl, ?_⟩) ?_
        rotate_left 1
        · (intro w hSw; (try dsimp only at hSw); (try obtain ⟨s0, s1, s2, s3, s4, s5, s6, s7, s8, s9, s10, s11⟩ := hSw); first | (go_simp; done) | (go_simp; with_reducible rfl))
        simp only [Act.put, List.setIfInBounds_toArray]
        refine wpAnyL_take 1 (v := ?_) rfl (by kernel_rfl) (by kernel_rfl) (by kernel_rfl) (by kernel_rfl) (fun _ _ _ h => h) hHeld (Or.inl ⟨by kernel_rfl, ?_⟩) ?_
        rotate_left 1
        · (intro w hSw; (try dsimp only at hSw); (try obtain ⟨s0, s1, s2, s3, s4, s5, s6, s7, s8, s9, s10, s11⟩ := hSw); first | (go_simp; done) | (go_simp; with_reducible rfl))
        simp only [Act.put]
        refine wpAnyL_take 2 (v := ?_) rfl (by kernel_rfl) (by kernel_rfl) (by kernel_rfl) (by kernel_rfl) (fun _ _ _ h => h) hHeld (Or.inl ⟨by kernel_rfl, ?_⟩) ?_
        rotate_left 1
        · (intro w hSw; (try dsimp only at hSw); (try obtain ⟨s0, s1, s2, s3, s4, s5, s6, s7, s8, s9, s10, s11⟩ := hSw); first | (go_simp; done) | (go_simp; with_reducible rfl))
        simp only [Act.put]
        refine wpAnyL_take 3 (v := ?_) rfl (by kernel_rfl) (by kernel_rfl) (by kernel_rfl) (by kernel_rfl) (fun _ _ _ h => h) hHeld (Or.inl ⟨by kernel_rfl, ?_⟩) ?_
        rotate_left 1
        · (intro w hSw; (try dsimp only at hSw); (try obtain ⟨s0, s1, s2, s3, s4, s5, s6, s7, s8, s9, s10, s11⟩ := hSw); first | (go_simp; done) | (go_simp; with_reducible rfl))
        simp only [Act.put]
        refine wpAnyL_take 4 (v := ?_) rfl (by kernel_rfl) (by kernel_rfl) (by kernel_rfl) (by kernel_rfl) (fun _ _ _ h => h) hHeld (Or.inl ⟨by kernel_rfl, ?_⟩) ?_
        rotate_left 1
        · (intro w hSw; (try dsimp only at hSw); (try obtain ⟨s0, s1, s2, s3, s4, s5, s6, s7, s8, s9, s10, s11⟩ := hSw); first | (go_simp; done) | (go_simp; with_reducible rfl))
        simp only [Act.put]
        refine wpAnyL_take 5 (v := ?_) rfl (by kernel_rfl) (by kernel_rfl) (by kernel_rfl) (by kernel_rfl) (fun _ _ _ h => h) hHeld (Or.inl ⟨by kernel_rfl, ?_⟩) ?_
        rotate_left 1
        · (intro w hSw; (try dsimp only at hSw); (try obtain ⟨s0, s1, s2, s3, s4, s5, s6, s7, s8, s9, s10, s11⟩ := hSw); first | (go_simp; done) | (go_simp; with_reducible rfl))
        simp only [Act.put]
        refine wpAnyL_take 6 (v := ?_) rfl (by kernel_rfl) (by kernel_rfl) (by kernel_rfl) (by kernel_rfl) (fun _ _ _ h => h) hHeld (Or.inl ⟨by kernel_rfl, ?_⟩) ?_
        rotate_left 1
        · (intro w hSw; (try dsimp only at hSw); (try obtain ⟨s0, s1, s2, s3, s4, s5, s6, s7, s8, s9, s10, s11⟩ := hSw); first | (go_simp; done) | (go_simp; with_reducible rfl))
        simp only [Act.put]
        refine wpAnyL_take 7 (v := ?_) rfl (by kernel_rfl) (by kernel_rfl) (by kernel_rfl) (by kernel_rfl) (fun _ _ _ h => h) hHeld (Or.inl ⟨by kernel_rfl, ?_⟩) ?_
        rotate_left 1
        · (intro w hSw; (try dsimp only at hSw); (try obtain ⟨s0, s1, s2, s3, s4, s5, s6, s7, s8, s9, s10, s11⟩ := hSw); first | (go_simp; done) | (go_simp; with_reducible rfl))
        simp only [Act.put]
        refine wpAnyL_take 8 (v := ?_) rfl (by kernel_rfl) (by kernel_rfl) (by kernel_rfl) (by kernel_rfl) (fun _ _ _ h => h) hHeld (Or.inl ⟨by kernel_rfl, ?_⟩) ?_
        rotate_left 1
        · (intro w hSw; (try dsimp only at hSw); (try obtain ⟨s0, s1, s2, s3, s4, s5, s6, s7, s8, s9, s10, s11⟩ := hSw); first | (go_simp; done) | (go_simp; with_reducible rfl))
        simp only [Act.put]
        refine wpAnyL_take 9 (v := ?_) rfl (by kernel_rfl) (by kernel_rfl) (by kernel_rfl) (by kernel_rfl) (fun _ _ _ h => h) hHeld (Or.inl ⟨by kernel_rfl, ?_⟩) ?_
        rotate_left 1
        · (intro w hSw; (try dsimp only at hSw); (try obtain ⟨s0, s1, s2, s3, s4, s5, s6, s7, s8, s9, s10, s11⟩ := hSw); first | (go_simp; done) | (go_simp; with_reducible rfl))
        simp only [Act.put]
        refine wpAnyL_take 10 (v := ?_) rfl (by kernel_rfl) (by kernel_rfl) (by kernel_rfl) (by kernel_rfl) (fun _ _ _ h => h) hHeld (Or.inl ⟨by kernel_rfl, ?_⟩) ?_
        rotate_left 1
        · (intro w hSw; (try dsimp only at hSw); (try obtain ⟨s0, s1, s2, s3, s4, s5, s6, s7, s8, s9, s10, s11⟩ := hSw); first | (go_simp; done) | (go_simp; with_reducible rfl))
        simp only [Act.put]
        refine wpAnyL_take 11 (v := ?_) rfl (by kernel_rfl) (by kernel_rfl) (by kernel_rfl) (by kernel_rfl) (fun _ _ _ h => h) hHeld (Or.inl ⟨by kernel_rfl, ?_⟩) ?_
        rotate_left 1
        · (intro w hSw; (try dsimp only at hSw); (try obtain ⟨s0, s1, s2, s3, s4, s5, s6, s7, s8, s9, s10, s11⟩ := hSw); first | (go_simp; done) | (go_simp; with_reducible rfl))
        simp only [Act.put]
        refine wpAnyL_take 12 (v := ?_) rfl (by kernel_rfl) (by kernel_rfl) (by kernel_rfl) (by kernel_rfl) (fun _ _ _ h => h) hHeld (Or.inl ⟨by kernel_rfl, ?_⟩) ?_
        rotate_left 1
        · (intro w hSw; (try dsimp only at hSw); (try obtain ⟨s0, s1, s2, s3, s4, s5, s6, s7, s8, s9, s10, s11⟩ := hSw); first | (go_simp; done) | (go_simp; with_reducible rfl))
        simp only [Act.put]
        refine wpAnyL_take 13 (v := ?_) rfl (by kernel_rfl) (by kernel_rfl) (by kernel_rfl) (by kernel_rfl) (fun _ _ _ h => h) hHeld (Or.inl ⟨by kernel_rfl, ?_⟩) ?_
        rotate_left 1
        · (intro w hSw; (try dsimp only at hSw); (try obtain ⟨s0, s1, s2, s3, s4, s5, s6, s7, s8, s9, s10, s11⟩ := hSw); first | (go_simp; done) | (go_simp; with_reducible rfl))
        simp only [Act.put]
        refine wpAnyL_take 14 (v := ?_) rfl (by kernel_rfl) (by kernel_rfl) (by kernel_rfl) (by kernel_rfl) (fun _ _ _ h => h) hHeld (Or.inl ⟨by kernel_rfl, ?_⟩) ?_
        rotate_left 1
        · (intro w hSw; (try dsimp only at hSw); (try obtain ⟨s0, s1, s2, s3, s4, s5, s6, s7, s8, s9, s10, s11⟩ := hSw); first | (go_simp; done) | (go_simp; with_reducible rfl))
        simp only [Act.put]
        refine wpAnyL_take 15 (v := ?_) rfl (by kernel_rfl) (by kernel_rfl) (by kernel_rfl) (by kernel_rfl) (fun _ _ _ h => h) hHeld (Or.inl ⟨by kernel_rfl, ?_⟩) ?_
        rotate_left 1
        · (intro w hSw; (try dsimp only at hSw); (try obtain ⟨s0, s1, s2, s3, s4, s5, s6, s7, s8, s9, s10, s11⟩ := hSw); first | (go_simp; done) | (go_simp; with_reducible rfl))
        simp only [Act.put]
        refine wpAnyL_take 16 (v := ?_) rfl (by kernel_rfl) (by kernel_rfl) (by kernel_rfl) (by kernel_rfl) (fun _ _ _ h => h) hHeld (Or.inl ⟨by kernel_rfl, ?_⟩) ?_
        rotate_left 1
        · (intro w hSw; (try dsimp only at hSw); (try obtain ⟨s0, s1, s2, s3, s4, s5, s6, s7, s8, s9, s10, s11⟩ := hSw); first | (go_simp; done) | (go_simp; with_reducible rfl))
        simp only [Act.put]
        refine wpAnyL_take 17 (v := ?_) rfl (by kernel_rfl) (by kernel_rfl) (by kernel_rfl) (by kernel_rfl) (fun _ _ _ h => h) hHeld (Or.inl ⟨by kernel_rfl, ?_⟩) ?_
        rotate_left 1
        · (intro w hSw; (try dsimp only at hSw); (try obtain ⟨s0, s1, s2, s3, s4, s5, s6, s7, s8, s9, s10, s11⟩ := hSw); first | (go_simp; done) | (go_simp; with_reducible rfl))
        simp only [Act.put]
        refine wpAnyL_take 18 (v := ?_) rfl (by kernel_rfl) (by kernel_rfl) (by kernel_rfl) (by kernel_rfl) (fun _ _ _ h => h) hHeld (Or.inl ⟨by kernel_rfl, ?_⟩) ?_
        rotate_left 1
        · (intro w hSw; (try dsimp only at hSw); (try obtain ⟨s0, s1, s2, s3, s4, s5, s6, s7, s8, s9, s10, s11⟩ := hSw); first | (go_simp; done) | (go_simp; with_reducible rfl))
        simp only [Act.put]
        refine wpAnyL_take 19 (v := ?_) rfl (by kernel_rfl) (by kernel_rfl) (by kernel_rfl) (by kernel_rfl) (fun _ _ _ h => h) hHeld (Or.inl ⟨by kernel_rfl, ?_⟩) ?_
        rotate_left 1
        · (intro w hSw; (try dsimp only at hSw); (try obtain ⟨s0, s1, s2, s3, s4, s5, s6, s7, s8, s9, s10, s11⟩ := hSw); first | (go_simp; done) | (go_simp; with_reducible rfl))
        simp only [Act.put]
        have HBD : Hid (Below w7.heap.size w7 w8.drew) := below_drew HB8.out
        clear hHeld
        refine wpAnyL_one 20 (by kernel_rfl) rfl (fun K hK0 => ?_)
        have hK : Shut _ := hK0
        clear hK0
        go_simp
        refine Calls.mono (by exact HOR.out _ (below_trans H7.out HBD.out)) ?_
        rintro e w9 ⟨oa2, oc2, rfl, hb9⟩
        have HB9 : Hid (Below w7.heap.size w7 w9) := below_trans HBD.out hb9
        have H89 : Hid (Below w8.heap.size w8 w9) := below_trans (below_drew (Below.refl _ _)) hb9
        have hHeld := HSX.out _ HB9.out
        clear hb9
        dsimp only
        refine hK.out _ _ (fun _ => hHeld) ?_
        clear hK K
        refine wpAnyL_take 21 (v := ?_) rfl (by kernel_rfl) (by kernel_rfl) (by kernel_rfl) (by kernel_rfl) (fun _ _ _ h => h) hHeld (Or.inl ⟨by kernel_rfl, ?_⟩) ?_
        rotate_left 1
        · (intro w hSw; (try dsimp only at hSw); (try obtain ⟨s0, s1, s2, s3, s4, s5, s6, s7, s8, s9, s10, s11⟩ := hSw); first | (go_simp; done) | (go_simp; with_reducible rfl))
        simp only [Act.put]
        refine wpAnyL_take 22 (v := ?_) rfl (by kernel_rfl) (by kernel_rfl) (by kernel_rfl) (by kernel_rfl) (fun _ _ _ h => h) hHeld (Or.inl ⟨by kernel_rfl, ?_⟩) ?_
        rotate_left 1
        · (intro w hSw; (try dsimp only at hSw); (try obtain ⟨s0, s1, s2, s3, s4, s5, s6, s7, s8, s9, s10, s11⟩ := hSw); first | (go_simp; done) | (go_simp; with_reducible rfl))
        simp only [Act.put]
        refine wpAnyL_take 23 (v := ?_) rfl (by kernel_rfl) (by kernel_rfl) (by kernel_rfl) (by kernel_rfl) (fun _ _ _ h => h) hHeld (Or.inl ⟨by kernel_rfl, ?_⟩) ?_
        rotate_left 1
        · (intro w hSw; (try dsimp only at hSw); (try obtain ⟨s0, s1, s2, s3, s4, s5, s6, s7, s8, s9, s10, s11⟩ := hSw); first | (go_simp; done) | (go_simp; with_reducible rfl))
        simp only [Act.put]
        refine wpAnyL_take 24 (v := ?_) rfl (by kernel_rfl) (by kernel_rfl) (by kernel_rfl) (by kernel_rfl) (fun _ _ _ h => h) hHeld (Or.inl ⟨by kernel_rfl, ?_⟩) ?_
        rotate_left 1
        · (intro w hSw; (try dsimp only at hSw); (try obtain ⟨s0, s1, s2, s3, s4, s5, s6, s7, s8, s9, s10, s11⟩ := hSw); first | (go_simp; done) | (go_simp; with_reducible rfl))
        simp only [Act.put]
        refine wpAnyL_take 25 (v := ?_) rfl (by kernel_rfl) (by kernel_rfl) (by kernel_rfl) (by kernel_rfl) (fun _ _ _ h => h) hHeld (Or.inl ⟨by kernel_rfl, ?_⟩) ?_
        rotate_left 1
        · (intro w hSw; (try dsimp only at hSw); (try obtain ⟨s0, s1, s2, s3, s4, s5, s6, s7, s8, s9, s10, s11⟩ := hSw); first | (go_simp; done) | (go_simp; with_reducible rfl))
        simp only [Act.put]
        refine wpAnyL_take 26 (v := ?_) rfl (by kernel_rfl) (by kernel_rfl) (by kernel_rfl) (by kernel_rfl) (fun _ _ _ h => h) hHeld (Or.inl ⟨by kernel_rfl, ?_⟩) ?_
        rotate_left 1
        · (intro w hSw; (try dsimp only at hSw); (try obtain ⟨s0, s1, s2, s3, s4, s5, s6, s7, s8, s9, s10, s11⟩ := hSw); first | (go_simp; done) | (go_simp; with_reducible rfl))
        simp only [Act.put]
        refine wpAnyL_take 27 (v := ?_) rfl (by kernel_rfl) (by kernel_rfl) (by kernel_rfl) (by kernel_rfl) (fun _ _ _ h => h) hHeld (Or.inl ⟨by kernel_rfl, ?_⟩) ?_
        rotate_left 1
        · (intro w hSw; (try dsimp only at hSw); (try obtain ⟨s0, s1, s2, s3, s4, s5, s6, s7, s8, s9, s10, s11⟩ := hSw); first | (go_simp; done) | (go_simp; with_reducible rfl))
        simp only [Act.put]
        refine wpAnyL_take 28 (v := ?_) rfl (by kernel_rfl) (by kernel_rfl) (by kernel_rfl) (by kernel_rfl) (fun _ _ _ h => h) hHeld (Or.inl ⟨by kernel_rfl, ?_⟩) ?_
        rotate_left 1
        · (intro w hSw; (try dsimp only at hSw); (try obtain ⟨s0, s1, s2, s3, s4, s5, s6, s7, s8, s9, s10, s11⟩ := hSw); first | (go_simp; done) | (go_simp; with_reducible rfl))
        simp only [Act.put]
        refine wpAnyL_take 30 (v := ?_) rfl (by kernel_rfl) (by kernel_rfl) (by kernel_rfl) (by kernel_rfl) (fun _ _ _ h => h) hHeld (Or.inl ⟨by kernel_rfl, ?_⟩) ?_
        rotate_left 1
        · (intro w hSw; (try dsimp only at hSw); (try obtain ⟨s0, s1, s2, s3, s4, s5, s6, s7, s8, s9, s10, s11⟩ := hSw); first | (go_simp; done) | (go_simp; with_reducible rfl))
        simp only [Act.put]
        refine wpAnyL_take 31 (v := ?_) rfl (by kernel_rfl) (by kernel_rfl) (by kernel_rfl) (by kernel_rfl) (fun _ _ _ h => h) hHeld (Or.inl ⟨by kernel_rfl, ?_⟩) ?_
        rotate_left 1
        · (intro w hSw; (try dsimp only at hSw); (try obtain ⟨s0, s1, s2, s3, s4, s5, s6, s7, s8, s9, s10, s11⟩ := hSw); first | (go_simp; done) | (go_simp; with_reducible rfl))
        simp only [Act.put]
        refine wpAnyL_take 32 (v := ?_) rfl (by kernel_rfl) (by kernel_rfl) (by kernel_rfl) (by kernel_rfl) (fun _ _ _ h => h) hHeld (Or.inl ⟨by kernel_rfl, ?_⟩) ?_
        rotate_left 1
        · (intro w hSw; (try dsimp only at hSw); (try obtain ⟨s0, s1, s2, s3, s4, s5, s6, s7, s8, s9, s10, s11⟩ := hSw); first | (go_simp; done) | (go_simp; with_reducible rfl))
        simp only [Act.put]
        refine wpAnyL_take 33 (v := ?_) rfl (by kernel_rfl) (by kernel_rfl) (by kernel_rfl) (by kernel_rfl) (fun _ _ _ h => h) hHeld (Or.inl ⟨by kernel_rfl, ?_⟩) ?_
        rotate_left 1
        · (intro w hSw; (try dsimp only at hSw); (try obtain ⟨s0, s1, s2, s3, s4, s5, s6, s7, s8, s9, s10, s11⟩ := hSw); first | (go_simp; done) | (go_simp; with_reducible rfl))
        simp only [Act.put]
        clear hHeld
        refine wpAnyL_one 29 (by kernel_rfl) rfl (fun K hK0 => ?_)
        have hK : Shut _ := hK0
        clear hK0
        go_simp
        refine Calls.mono (by exact HTQ.out _ HB9.out) ?_
        rintro e w10 ⟨y1, y2, y3, y4, rfl, hgn, hb10⟩
        have HB10 : Hid (Below w7.heap.size w7 w10) := below_trans HB9.out hb10
        have H810 : Hid (Below w8.heap.size w8 w10) := below_trans H89.out hb10
        have HY10 : Hid _ := hgn w10 (fun _ _ _ => rfl)
        have hHeld := HSX.out _ HB10.out
        clear hb10 hgn
        dsimp only
        refine hK.out _ _ (fun _ => hHeld) ?_
        clear hK K
        clear hHeld
        refine wpAnyL_one 34 (by kernel_rfl) rfl (fun K hK0 => ?_)
        have hK : Shut _ := hK0
        clear hK0
        go_simp
        refine Calls.mono (by exact HSG.out _ _ _ _ _ HB10.out HY10.out) ?_
        rintro e w11 ⟨rfl, hb11⟩
        have HB11 : Hid (Below w7.heap.size w7 w11) := below_trans HB10.out hb11
        have H811 : Hid (Below w8.heap.size w8 w11) := below_trans H810.out hb11
        have hHeld := HSX.out _ HB11.out
        clear hb11
        dsimp only
        refine hK.out _ _ (fun _ => hHeld) ?_
        clear hK K
        clear hHeld
        refine wpAnyL_one 35 (by kernel_rfl) rfl (fun K hK0 => ?_)
        have hK : Shut _ := hK0
        clear hK0
        go_simp
        have hHeld := HSX.out _ HB11.out
        refine hK.out _ _ (fun _ => hHeld) ?_
        clear hK K
        clear hHeld
        refine wpAnyL_one 36 (by kernel_rfl) rfl (fun K hK0 => ?_)
        have hK : Shut _ := hK0
        clear hK0
        go_simp
        have hHeld := HSX.out _ HB11.out
        refine hK.out _ _ (fun _ => hHeld) ?_
        clear hK K
        clear hHeld HTQ HSG HOR HY10 HB10 H810 HB9 H89 HSX HXC
        refine ⟨by kernel_rfl, ?_⟩
        go_simp
        go_wp2
        go_loopw [10] (fun vk wr => ∃ k : Nat, vk = .int .i64 k ∧ k ≤ K9 ∧ Hid (Below w7.heap.size w7 wr ∧ Below w8.heap.size w8 wr)) (fun vk _ => K9 - (intOf vk).toNat)
        case atStart => exact ⟨0, rfl, by omega, HB11.out, H811.out⟩
        case round =>
          obtain ⟨k, rfl, hk, hr⟩ := hrel
          generalize wr = wz at *
          have HRZ : Hid _ := hr.out
          clear hr
          by_cases hkn : k < K9
          · obtain ⟨gz, oz, rfl, hgz, cz⟩ := HOC.out k hkn
            have cz' : wz.cell? ⟨gz, oz + k, none⟩ = _ := (HRZ.out.2.cell (p := ⟨gz, oz + k, none⟩) hgz).trans cz
            have hkn' : (k : Int) < K9 := by omega
            clear HOC cz
            go_wp2
            go_roundw
            case rel => exact ⟨k + 1, by first | rfl | (congr 1; omega), by omega, HRZ.out⟩
            case measure => simp [intOf]; omega
          · obtain rfl : k = K9 := by omega
            have HN : Hid (Below w.heap.size w wz ∧ ∃ qs, QG wz w.heap.size (.slice (some ⟨g0, 0, none⟩) n xc) (mixT p (i + 1)) qs) := ⟨below_trans H7.out HRZ.out.1, _, HQ7.out.below HRZ.out.1⟩
            clear HOC HQ7
            go_wp2
            go_roundw
            case rel => exact ⟨i + 1, by first | rfl | (congr 1; omega), by omega, HN.out⟩
            case measure => simp [intOf]; omega
      · obtain rfl : i = n := by omega
        clear HPG HRT
        go_wp2
        go_ret
        exact ⟨rfl, HRB.out⟩
  · subst hce
    clear HMR HCP HOK
    go_enter Tryz.func4, Tryz.ntmps4
    go_wp2_with (first
    | (go_at_call 6; go_loud (refine Calls.mono (by exact HAW.out _ (Below.refl _ _)) ?_; rintro e w1 ⟨rfl, hb1⟩; have H1 : Hid (Below w.heap.size w w1) := hb1; clear hb1))
    | (go_at_call 20; go_loud (refine Calls.mono (by exact HWI.out _ H1.out) ?_; rintro e w2 ⟨bg, rfl, hng, hb2⟩; have HNG : Hid (Hid (bg = false → ∀ G ∈ p, OkG G)) := hng; have H2 : Hid (Below w.heap.size w w2) := below_trans H1.out hb2; clear hb2 hng; cases bg))
    | (go_at_call 21; go_loud (have hok : ∀ G ∈ p, OkG G := (by first | exact HNG.out.out rfl | exact HNG.out.out | exact HNG.out trivial); refine Calls.mono (by exact HC1.out _ H2.out hok) ?_; rintro e w3 ⟨rfl, hb3⟩; have H3 : Hid (Below w.heap.size w w3) := below_trans H2.out hb3; clear hb3 hok)))
    all_goals (go_ret; first | exact ⟨rfl, H3.out⟩ | exact ⟨rfl, H2.out⟩)
  · subst hce
    clear HMR HCP HOK
    go_enter Tryz.func4, Tryz.ntmps4
    go_wp2_with (first
    | (go_at_call 6; go_loud (refine Calls.mono (by exact HAW.out _ (Below.refl _ _)) ?_; rintro e w1 ⟨rfl, hb1⟩; have H1 : Hid (Below w.heap.size w w1) := hb1; clear hb1))
    | (go_at_call 20; go_loud (refine Calls.mono (by exact HWI.out _ H1.out) ?_; rintro e w2 ⟨bg, rfl, hng, hb2⟩; have HNG : Hid (Hid (bg = false → ∀ G ∈ p, OkG G)) := hng; have H2 : Hid (Below w.heap.size w w2) := below_trans H1.out hb2; clear hb2 hng; cases bg))
    | (go_at_call 21; go_loud (have hok : ∀ G ∈ p, OkG G := (by first | exact HNG.out.out rfl | exact HNG.out.out | exact HNG.out trivial); refine Calls.mono (by exact HC1.out _ H2.out hok) ?_; rintro e w3 ⟨rfl, hb3⟩; have H3 : Hid (Below w.heap.size w w3) := below_trans H2.out hb3; clear hb3 hok)))
    all_goals (go_ret; first | exact ⟨rfl, H3.out⟩ | exact ⟨rfl, H2.out⟩)
end Go.Proofs.YtabpnjakfoofpaaGreatDoor
