/- The document's side: a graph's head. -/
import Derived.Test.YtobnpllppohofaaGreatDoorGRf1M
import Derived.Test.YtobnpllppohofaaGreatDoorGChk4M
namespace Go.Proofs.YtobnpllppohofaaGreatDoor
open Go.RowKit

def arrR (a : Int × Int) : Bool := scB a.1 && (decide (1 ≤ a.2) && decide (a.2 ≤ 256))
def parR (ps : List Int) (j : Nat) : Bool := decide (plcF (ps.getD j 0) (ps.take j) 0 < 0)
def headR (G : Gr) : Bool := decide (1 ≤ G.blocks.length) && (decide (G.blocks.length ≤ 1048576) && (decide (G.vars.length ≤ 1048576) && (decide (G.arrs.length ≤ 1048576) && (decide (G.params.length ≤ 8) && (scB G.result && (G.params.all (inB · G.vars.length) && (G.vars.all scB && (G.arrs.all arrR && (List.range G.params.length).all (parR G.params)))))))))
set_option maxRecDepth 100000 in
set_option maxHeartbeats 2000000 in
theorem rhead_any (G : Gr) (pv vv av bv : Value) (w : World) (h : GrAt w pv vv av bv G) :
  Calls Tryz.prog 85 #[.agg #[.string G.name, pv, .int .u8 G.result, vv, av, bv]] w fun e w' => e = .returned (.bool (headR G)) ∧ Below w.heap.size w w' := by
 have HVR : Hid (∀ W, Below w.heap.size w W → Calls Tryz.prog 89 #[.agg #[.string G.name, pv, .int .u8 G.result, vv, av, bv], pv] W fun e w' => e = .returned (.bool (G.params.all (inB · G.vars.length))) ∧ Below W.heap.size W w') := fun W hb => rvars_any G pv vv av bv G.params pv W (h.below hb) (h.ps.below hb)
 obtain ⟨pa, pc, va, vc, aa, ac, ba, bc, rfl, rfl, rfl, rfl, hpl, hvl, hal, hbl⟩ := h.openF
 have hcap := h.ps.cap
 have HPS : Hid (∀ i, i < G.params.length → _) := fun i hi => h.ps.get (i := i) hi
 have HV : Hid (∀ i, i < G.vars.length → _) := fun i hi => h.vs.get (i := i) hi
 have HA : Hid (∀ i, i < G.arrs.length → _) := fun i hi => h.ars.get (i := i) hi
 have HSC : Hid (∀ t W, _) := fun t W => rscalar_any t W
 have HPC : Hid (∀ (i : Nat) (g o : Nat) (x : Int) (W : World), i < G.params.length → g < W.heap.size → (∀ j, j < G.params.length → W.cell? ⟨g, o + j, none⟩ = some (.int .i64 (G.params.getD j 0))) → Calls Tryz.prog 55 #[.slice (some ⟨g, o, none⟩) i pc, .int .i64 x] W fun e w' => e = .returned (.int .i64 (plcF x (G.params.take i) 0)) ∧ w' = W) := fun i g o x W hi hg hc => by
  have hl : (G.params.take i).length = i := by simp; omega
  refine rplace_any (G.params.take i) x _ W ?_
  refine ⟨some ⟨g, o, none⟩, pc, by rw [hl], ⟨by omega, by omega⟩, .inr ⟨g, o, rfl, hg, fun j u hj => ?_⟩⟩
  have hji : j < i := by have := (List.getElem?_eq_some_iff.1 hj).1; simp at this; omega
  rw [hc j (by omega)]
  rw [List.getElem?_map, List.getElem?_take, if_pos hji, List.getElem?_eq_getElem (by omega)] at hj
  simp at hj
  rw [← hj]
  simp [List.getD, List.getElem?_eq_getElem (show j < G.params.length by omega)]
 have hu : headR G = _ := rfl
 unfold headR at hu
 obtain ⟨R, hR⟩ : ∃ R, R = headR G := ⟨_, rfl⟩
 rw [← hR]
 unfold headR at hR
 have HVD : Hid (∀ i, i < G.vars.length → (G.vars.drop i).all scB = (scB (G.vars.getD i 0) && (G.vars.drop (i + 1)).all scB)) := fun i hi => all_drop (d := 0) hi
 have HVZ : Hid ((G.vars.drop G.vars.length).all scB = true) := by show _ = _; rw [List.drop_length]; rfl
 have HAD : Hid (∀ i, i < G.arrs.length → (G.arrs.drop i).all arrR = (arrR (G.arrs.getD i default) && (G.arrs.drop (i + 1)).all arrR)) := fun i hi => all_drop (d := default) hi
 have HAZ : Hid ((G.arrs.drop G.arrs.length).all arrR = true) := by show _ = _; rw [List.drop_length]; rfl
 have HPD : Hid (∀ i, i < G.params.length → ((List.range G.params.length).drop i).all (parR G.params) = (parR G.params i && ((List.range G.params.length).drop (i + 1)).all (parR G.params))) := fun i hi => by
  rw [all_drop (d := 0) (by simpa using hi)]
  congr 2
  simp [List.getD, hi]
 have HPZ : Hid (((List.range G.params.length).drop G.params.length).all (parR G.params) = true) := by show _ = _; rw [List.drop_eq_nil_of_le (by simp)]; rfl
 clear h hu
 have hrv : G.vars.all scB = (G.vars.drop 0).all scB := rfl
 rw [hrv] at hR
 generalize G.params.all (inB · G.vars.length) = pb at *
 generalize G.blocks.length = n at *
 generalize G.name = nm at *
 generalize hplg : G.params.length = pl at *
 generalize G.vars.length = m at *
 generalize G.arrs.length = al at *
 generalize G.result = r at *
 clear hplg hrv
 have H0 : Hid (Below w.heap.size w (w.alloc (.cells #[.string nm, .slice pa pl pc, .int .u8 r, .slice va m vc, .slice aa al ac, .slice ba n bc] 28)) ∧ Box (w.alloc (.cells #[.string nm, .slice pa pl pc, .int .u8 r, .slice va m vc, .slice aa al ac, .slice ba n bc] 28)) w.heap.size [.string nm, .slice pa pl pc, .int .u8 r, .slice va m vc, .slice aa al ac, .slice ba n bc]) := ⟨below_alloc (Below.refl _ _) _, Box.new w [.string nm, .slice pa pl pc, .int .u8 r, .slice va m vc, .slice aa al ac, .slice ba n bc] 28⟩
 by_cases h1 : 1 ≤ n
 rotate_left
 ·have h1n : (n : Int) < 1 := by omega
  have HR : Hid (R = false) := by show _ = _; rw [hR, decide_eq_false h1]; simp
  clear hR HVR HPS HV HA HPC HVD HVZ HAD HAZ HPD HPZ HSC
  go_enter Tryz.func85, Tryz.ntmps85
  go_wp2
  go_ret
  exact ⟨ret_bool HR.out.symm, H0.out.1⟩
 have h1p : (1 : Int) ≤ n := by omega
 rw [decide_eq_true h1, Bool.true_and] at hR
 by_cases h2 : n ≤ 1048576
 rotate_left
 ·have h2n : (1048576 : Int) < n := by omega
  have HR : Hid (R = false) := by show _ = _; rw [hR, decide_eq_false h2]; simp
  clear hR HVR HPS HV HA HPC HVD HVZ HAD HAZ HPD HPZ HSC
  go_enter Tryz.func85, Tryz.ntmps85
  go_wp2
  go_ret
  exact ⟨ret_bool HR.out.symm, H0.out.1⟩
 have h2p : (n : Int) ≤ 1048576 := by omega
 rw [decide_eq_true h2, Bool.true_and] at hR
 by_cases h3 : m ≤ 1048576
 rotate_left
 ·have h3n : (1048576 : Int) < m := by omega
  have HR : Hid (R = false) := by show _ = _; rw [hR, decide_eq_false h3]; simp
  clear hR HVR HPS HV HA HPC HVD HVZ HAD HAZ HPD HPZ HSC
  go_enter Tryz.func85, Tryz.ntmps85
  go_wp2
  go_ret
  exact ⟨ret_bool HR.out.symm, H0.out.1⟩
 have h3p : (m : Int) ≤ 1048576 := by omega
 rw [decide_eq_true h3, Bool.true_and] at hR
 by_cases h4 : al ≤ 1048576
 rotate_left
 ·have h4n : (1048576 : Int) < al := by omega
  have HR : Hid (R = false) := by show _ = _; rw [hR, decide_eq_false h4]; simp
  clear hR HVR HPS HV HA HPC HVD HVZ HAD HAZ HPD HPZ HSC
  go_enter Tryz.func85, Tryz.ntmps85
  go_wp2
  go_ret
  exact ⟨ret_bool HR.out.symm, H0.out.1⟩
 have h4p : (al : Int) ≤ 1048576 := by omega
 rw [decide_eq_true h4, Bool.true_and] at hR
 by_cases h5 : pl ≤ 8
 rotate_left
 ·have h5n : (8 : Int) < pl := by omega
  have HR : Hid (R = false) := by show _ = _; rw [hR, decide_eq_false h5]; simp
  clear hR HVR HPS HV HA HPC HVD HVZ HAD HAZ HPD HPZ HSC
  go_enter Tryz.func85, Tryz.ntmps85
  go_wp2
  go_ret
  exact ⟨ret_bool HR.out.symm, H0.out.1⟩
 have h5p : (pl : Int) ≤ 8 := by omega
 rw [decide_eq_true h5, Bool.true_and] at hR
 have HSI := HSC.out r
 generalize scB r = sr at *
 have HSJ : Hid _ := HSI
 clear HSI
 cases sr with
 | false =>
  have HR : Hid (R = false) := by show _ = _; rw [hR]; simp
  clear hR HVR HPS HV HA HPC HVD HVZ HAD HAZ HPD HPZ HSC
  go_enter Tryz.func85, Tryz.ntmps85
  go_wp2_with (go_at_call 116; refine Calls.mono (HSJ.out _) ?_; rintro e wx ⟨rfl, hwx⟩; subst wx)
  go_ret
  exact ⟨ret_bool HR.out.symm, H0.out.1⟩
 | true =>
  rw [Bool.true_and] at hR
  cases pb with
  | false =>
   have HR : Hid (R = false) := by show _ = _; rw [hR]; simp
   clear hR HPS HV HA HPC HVD HVZ HAD HAZ HPD HPZ HSC
   go_enter Tryz.func85, Tryz.ntmps85
   go_wp2_with (first | (go_at_call 116; refine Calls.mono (HSJ.out _) ?_; rintro e wx ⟨rfl, hwx⟩; subst wx) | (go_at_call 89; go_loud (refine Calls.mono (by exact HVR.out _ H0.out.1) ?_; rintro e w1 ⟨rfl, hb⟩; have H1 : Hid (Below w.heap.size w w1 ∧ Box w1 w.heap.size [.string nm, .slice pa pl pc, .int .u8 r, .slice va m vc, .slice aa al ac, .slice ba n bc]) := ⟨below_trans H0.out.1 hb, H0.out.2.below hb⟩; obtain ⟨f0, f1, f2, f3, f4, f5⟩ := box6 H1.out.2; have hwl := H1.out.2.lt; clear hb)))
   go_ret
   exact ⟨ret_bool HR.out.symm, H1.out.1⟩
  | true =>
   rw [Bool.true_and] at hR
   have HR : Hid (R = ((G.vars.drop 0).all scB && (G.arrs.all arrR && (List.range pl).all (parR G.params)))) := hR
   clear hR
   go_enter Tryz.func85, Tryz.ntmps85
   go_wp2_with (first | (go_at_call 116; refine Calls.mono (HSJ.out _) ?_; rintro e wx ⟨rfl, hwx⟩; subst wx) | (go_at_call 89; go_loud (refine Calls.mono (by exact HVR.out _ H0.out.1) ?_; rintro e w1 ⟨rfl, hb⟩; have H1 : Hid (Below w.heap.size w w1 ∧ Box w1 w.heap.size [.string nm, .slice pa pl pc, .int .u8 r, .slice va m vc, .slice aa al ac, .slice ba n bc]) := ⟨below_trans H0.out.1 hb, H0.out.2.below hb⟩; obtain ⟨f0, f1, f2, f3, f4, f5⟩ := box6 H1.out.2; have hwl := H1.out.2.lt; clear hb)))
   clear HSJ HVR
   go_loopw [3] (fun vi wr => ∃ i : Nat, vi = .int .i64 i ∧ i ≤ m ∧ Hid (R = ((G.vars.drop i).all scB && (G.arrs.all arrR && (List.range pl).all (parR G.params))) ∧ Below w.heap.size w wr ∧ Box wr w.heap.size [.string nm, .slice pa pl pc, .int .u8 r, .slice va m vc, .slice aa al ac, .slice ba n bc])) (fun vi _ => m - (intOf vi).toNat)
   case atStart => exact ⟨0, rfl, by omega, HR.out, H1.out.1, H1.out.2⟩
   case round =>
    obtain ⟨i, rfl, hi, hr⟩ := hrel
    clear HR H0 H1 f0 f1 f2 f3 f4 f5 hwl
    obtain ⟨e0, e1, e2, e3, e4, e5⟩ := box6 hr.out.2.2
    have hwl := hr.out.2.2.lt
    by_cases hin : i < m
    ·obtain ⟨g, o, rfl, hg, cv⟩ := HV.out i hin
     have hin' : (i : Int) < m := by omega
     have cv' := (hr.out.2.1.cell (p := ⟨g, o + i, none⟩) hg).trans cv
     have hd : R = (scB (G.vars.getD i 0) && (G.vars.drop (i + 1)).all scB && (G.arrs.all arrR && (List.range pl).all (parR G.params))) := by rw [hr.out.1, HVD.out i hin]
     have HTI := HSC.out (G.vars.getD i 0)
     generalize G.vars.getD i 0 = tv at *
     clear cv
     generalize scB tv = tb at *
     have HTJ : Hid _ := HTI
     clear HTI
     cases tb with
     | true =>
      have HD : Hid (R = ((G.vars.drop (i + 1)).all scB && (G.arrs.all arrR && (List.range pl).all (parR G.params)))) := by show _ = _; rw [hd, Bool.true_and]
      clear hd
      go_wp2_with (go_at_call 116; refine Calls.mono (HTJ.out _) ?_; rintro e wx ⟨rfl, hwx⟩; subst wx)
      go_roundw
      case rel => exact ⟨i + 1, by first | rfl | (congr 1; omega), by omega, HD.out, hr.out.2⟩
      case measure => simp [intOf]; omega
     | false =>
      have HD : Hid (R = false) := by show _ = _; rw [hd]; rfl
      clear hd
      go_wp2_with (go_at_call 116; refine Calls.mono (HTJ.out _) ?_; rintro e wx ⟨rfl, hwx⟩; subst wx)
      go_ret
      exact ⟨ret_bool HD.out.symm, hr.out.2.1⟩
    ·obtain rfl : i = m := by omega
     have hd : R = ((G.arrs.drop 0).all arrR && (List.range pl).all (parR G.params)) := by rw [hr.out.1, HVZ.out]; rfl
     have HD : Hid _ := hd
     have HRB : Hid _ := hr.out.2
     clear hd hr HV HVD HVZ
     go_wp2
     go_loopw [4] (fun vi wr => ∃ j : Nat, vi = .int .i64 j ∧ j ≤ al ∧ Hid (R = ((G.arrs.drop j).all arrR && (List.range pl).all (parR G.params)) ∧ Below w.heap.size w wr ∧ Box wr w.heap.size [.string nm, .slice pa pl pc, .int .u8 r, .slice va i vc, .slice aa al ac, .slice ba n bc])) (fun vi _ => al - (intOf vi).toNat)
     case atStart => exact ⟨0, rfl, by omega, HD.out, HRB.out.1, HRB.out.2⟩
     case round =>
      clear e0 e1 e2 e3 e4 e5 hwl HD HRB
      obtain ⟨i2, rfl, hi2, hr⟩ := hrel
      obtain ⟨e0, e1, e2, e3, e4, e5⟩ := box6 hr.out.2.2
      have hwl := hr.out.2.2.lt
      by_cases hin : i2 < al
      ·obtain ⟨g, o, rfl, hg, cv, cw⟩ := HA.out i2 hin
       have hin' : (i2 : Int) < al := by omega
       have cv' := (hr.out.2.1.cell (p := ⟨g, o + i2 * 2, none⟩) hg).trans cv
       have cw' := (hr.out.2.1.cell (p := ⟨g, o + i2 * 2 + 1, none⟩) hg).trans cw
       have hd : R = (arrR (G.arrs.getD i2 default) && (G.arrs.drop (i2 + 1)).all arrR && (List.range pl).all (parR G.params)) := by rw [hr.out.1, HAD.out i2 hin]
       generalize G.arrs.getD i2 default = a at *
       obtain ⟨at', az⟩ := a
       dsimp only at cv' cw'
       have HTI := HSC.out at'
       unfold arrR at hd
       dsimp only at hd
       clear cv cw
       generalize scB at' = tb at *
       have HTJ : Hid _ := HTI
       clear HTI
       cases tb with
       | false =>
        have HD : Hid (R = false) := by show _ = _; rw [hd]; rfl
        clear hd
        go_wp2_with (go_at_call 116; refine Calls.mono (HTJ.out _) ?_; rintro e wx ⟨rfl, hwx⟩; subst wx)
        go_ret
        exact ⟨ret_bool HD.out.symm, hr.out.2.1⟩
       | true =>
        by_cases z1 : 1 ≤ az
        ·by_cases z2 : az ≤ 256
         ·have HD : Hid (R = ((G.arrs.drop (i2 + 1)).all arrR && (List.range pl).all (parR G.params))) := by show _ = _; rw [hd, decide_eq_true z1, decide_eq_true z2]; rfl
          clear hd
          go_wp2_with (go_at_call 116; refine Calls.mono (HTJ.out _) ?_; rintro e wx ⟨rfl, hwx⟩; subst wx)
          go_roundw
          case rel => exact ⟨i2 + 1, by first | rfl | (congr 1; omega), by omega, HD.out, hr.out.2⟩
          case measure => simp [intOf]; omega
         ·have HD : Hid (R = false) := by show _ = _; rw [hd, decide_eq_false z2]; simp
          have z2' : 256 < az := by omega
          clear hd z2
          go_wp2_with (go_at_call 116; refine Calls.mono (HTJ.out _) ?_; rintro e wx ⟨rfl, hwx⟩; subst wx)
          go_ret
          exact ⟨ret_bool HD.out.symm, hr.out.2.1⟩
        ·have HD : Hid (R = false) := by show _ = _; rw [hd, decide_eq_false z1]; simp
         have z1' : az < 1 := by omega
         clear hd z1
         go_wp2_with (go_at_call 116; refine Calls.mono (HTJ.out _) ?_; rintro e wx ⟨rfl, hwx⟩; subst wx)
         go_ret
         exact ⟨ret_bool HD.out.symm, hr.out.2.1⟩
      ·obtain rfl : i2 = al := by omega
       have hd : R = ((List.range pl).drop 0).all (parR G.params) := by rw [hr.out.1, HAZ.out]; rfl
       have HD : Hid _ := hd
       have HRB : Hid _ := hr.out.2
       clear hd hr HA HAD HAZ HSC
       go_wp2
       go_loopw [5] (fun vi wr => ∃ j : Nat, vi = .int .i64 j ∧ j ≤ pl ∧ Hid (R = ((List.range pl).drop j).all (parR G.params) ∧ Below w.heap.size w wr ∧ Box wr w.heap.size [.string nm, .slice pa pl pc, .int .u8 r, .slice va i vc, .slice aa i2 ac, .slice ba n bc])) (fun vi _ => pl - (intOf vi).toNat)
       case atStart => exact ⟨0, rfl, by omega, HD.out, HRB.out.1, HRB.out.2⟩
       case round =>
        clear e0 e1 e2 e3 e4 e5 hwl HD HRB
        obtain ⟨i3, rfl, hi3, hr⟩ := hrel
        obtain ⟨e0, e1, e2, e3, e4, e5⟩ := box6 hr.out.2.2
        have hwl := hr.out.2.2.lt
        by_cases hin : i3 < pl
        ·obtain ⟨g, o, rfl, hg, cv⟩ := HPS.out i3 hin
         have hall : ∀ j, j < pl → w.cell? ⟨g, o + j, none⟩ = some (.int .i64 (G.params.getD j 0)) := fun j hj => by
          obtain ⟨g', o', he, _, hc⟩ := HPS.out j hj
          cases he
          exact hc
         have hin' : (i3 : Int) < pl := by omega
         have cv' := (hr.out.2.1.cell (p := ⟨g, o + i3, none⟩) hg).trans cv
         have hd : R = (parR G.params i3 && ((List.range pl).drop (i3 + 1)).all (parR G.params)) := by rw [hr.out.1, HPD.out i3 hin]
         unfold parR at hd
         have hsl := slice_low (g := g) (o := o) hcap (Nat.le_of_lt hin)
         have HPJ : Hid (∀ W, Below w.heap.size w W → Calls Tryz.prog 55 #[.slice (some ⟨g, o, none⟩) i3 pc, .int .i64 (G.params.getD i3 0)] W fun e w' => e = .returned (.int .i64 (plcF (G.params.getD i3 0) (G.params.take i3) 0)) ∧ w' = W) := fun W hb => HPC.out i3 g o _ W hin (Nat.lt_of_lt_of_le hg hb.size) (fun j hj => (hb.cell (p := ⟨g, o + j, none⟩) hg).trans (hall j hj))
         generalize plcF (G.params.getD i3 0) (G.params.take i3) 0 = q at *
         generalize G.params.getD i3 0 = x at *
         have HRB : Hid _ := hr.out.2.1
         clear HPS HPC hall cv
         by_cases hq : q < 0
         ·have HD : Hid (R = ((List.range pl).drop (i3 + 1)).all (fun j => decide (plcF (G.params.getD j 0) (G.params.take j) 0 < 0))) := by show _ = _; rw [hd, decide_eq_true hq]; rfl
          clear hd
          go_wp2
          go_quiet ((go_at_call 55; exact Calls.quiet_of_same (HPJ.out _ (by repeat (first | exact HRB.out | refine below_drewN ?_ _ | refine below_drew ?_)))))
          go_wp2
          go_roundw
          case rel => exact ⟨i3 + 1, by first | rfl | (congr 1; omega), by omega, HD.out, by repeat (first | exact hr.out.2.1 | refine below_drewN ?_ _ | refine below_drew ?_), hr.out.2.2.same (by rfl)⟩
          case measure => simp [intOf]; omega
         ·have HD : Hid (R = false) := by show _ = _; rw [hd, decide_eq_false hq]; rfl
          have hq' : 0 ≤ q := by omega
          clear hd hq
          go_wp2
          go_quiet ((go_at_call 55; exact Calls.quiet_of_same (HPJ.out _ (by repeat (first | exact HRB.out | refine below_drewN ?_ _ | refine below_drew ?_)))))
          go_wp2
          go_ret
          exact ⟨ret_bool HD.out.symm, by repeat (first | exact hr.out.2.1 | refine below_drewN ?_ _ | refine below_drew ?_)⟩
        ·obtain rfl : i3 = pl := by omega
         have hd : R = true := by rw [hr.out.1, HPZ.out]
         have HD : Hid _ := hd
         clear hd HPS HPC
         go_wp2
         go_ret
         exact ⟨ret_bool HD.out.symm, hr.out.2.1⟩
end Go.Proofs.YtobnpllppohofaaGreatDoor
