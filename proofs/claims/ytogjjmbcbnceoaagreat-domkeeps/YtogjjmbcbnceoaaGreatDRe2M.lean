/- Going through a net: what lies in memory. -/
import Derived.Test.YtogjjmbcbnceoaaGreatDMay
namespace Go.Proofs.YtogjjmbcbnceoaaGreat
open Go.RowKit

/-- Truths in a row of one's own, n of them, at a block. -/
abbrev OwnB (w : World) (base b n : Nat) (l : List Bool) : Prop := w.ownsRow base 4 1 (.slice (some ⟨b, 0, none⟩) n n) n (l.map Value.bool)
theorem OwnB.len {w : World} {base b n : Nat} {l : List Bool} (h : OwnB w base b n l) : l.length = n := by have := h.1; simpa using this
theorem OwnB.at' {w : World} {base b n : Nat} {l : List Bool} (h : OwnB w base b n l) {k : Nat} (hk : k < n) (d : Bool) : w.cell? ⟨b, k, none⟩ = some (.bool (l.getD k d)) := by
  rw [h.cellAt k (by omega), List.getElem?_map, List.getElem?_eq_getElem (by rw [h.len]; exact hk), getD_of (by rw [h.len]; exact hk)]
  rfl
theorem OwnB.lt' {w : World} {base b n : Nat} {l : List Bool} (h : OwnB w base b n l) : base ≤ b ∧ b < w.heap.size := h.lt b rfl
theorem OwnB.set' {w : World} {base b n : Nat} {l : List Bool} (h : OwnB w base b n l) (k : Nat) (u : Bool) : OwnB (w.setCell ⟨b, k, none⟩ (.bool u)) base b n (l.set k u) := by
  have := (World.ownsRow.stored h k (.bool u)).1
  show World.ownsRow _ _ _ _ _ _ _
  rw [List.map_set]
  exact this
theorem OwnB.made (w : World) (base n : Nat) (hb : base ≤ w.heap.size) (hn : n ≤ 1000000) : OwnB (w.alloc (.cells (madeCells #[.bool false] n) 4)) base w.heap.size n (List.replicate n false) := by
  have r1 := World.ownsRow_lit (base := base) (e := 4) (size := 1) w (madeCells #[.bool false] n) n hb (by unfold maxLen; omega) (by simp [size_madeCells])
  rw [made_bools] at r1
  exact r1
theorem alloc_set0 (w : World) (cs : Array Value) (t : TypeId) (j : Nat) (u : Value) : (w.alloc (.cells cs t)).setCell ⟨w.heap.size, j, none⟩ u = w.alloc (.cells (cs.setIfInBounds j u) t) := World.setCell_alloc_at (w := w) cs t _ j u rfl
structure GoS (w : World) (n : Nat) (wr : World) (vw : Value) (met : List Bool) (wait : List Int) : Prop where
  bel : Below w.heap.size w wr
  mrow : OwnB wr w.heap.size w.heap.size n met
  wrow : OwnI wr (w.heap.size + 1) vw wait
theorem GoS.below {w wr wr' : World} {n : Nat} {vw : Value} {met : List Bool} {wait : List Int} (h : GoS w n wr vw met wait) (hb : Below wr.heap.size wr wr') : GoS w n wr' vw met wait :=
  ⟨below_trans h.bel hb, owns_below h.mrow hb, owns_below h.wrow hb⟩
theorem GoS.mark {w wr : World} {n : Nat} {vw : Value} {met : List Bool} {wait : List Int} (h : GoS w n wr vw met wait) (k : Nat) : GoS w n (wr.setCell ⟨w.heap.size, k, none⟩ (.bool true)) vw (met.set k true) wait :=
  ⟨below_set h.bel (Nat.le_refl _) _ _, h.mrow.set' k true, owns_other h.wrow (fun e => by have := (h.wrow.lt _ e).1; simp at this; omega) _⟩
theorem GoS.push {w wr w2 : World} {n : Nat} {vw v2 : Value} {met : List Bool} {wait : List Int} {x : Int} (h : GoS w n wr vw met wait) (ho : w2.ownsRow (w.heap.size + 1) 3 1 v2 (wait.length + 1) (wait.map intV ++ [intV x])) (hg : wr.grownBy w2 vw.ownBlock) : GoS w n w2 v2 met (wait ++ [x]) := by
  have hne : ∀ q, vw.ownBlock = some q → w.heap.size + 1 ≤ q := fun q hq => (h.wrow.lt q hq).1
  refine ⟨below_grown h.bel hg fun q hq => Nat.le_trans (Nat.le_succ _) (hne q hq), owns_same h.mrow fun q hq => ?_, ?_⟩
  · have e : w.heap.size = q := by simpa [Value.ownBlock] using hq
    subst e
    exact hg.block _ h.mrow.lt'.2 (fun e => by have := hne _ e.symm; omega)
  · show World.ownsRow _ _ _ _ _ _ _
    simpa using ho
theorem GoS.pop {w wr : World} {n g m c : Nat} {met : List Bool} {wait : List Int} {x : Int} (hm : m = wait.length + 1) (h : GoS w n wr (.slice (some ⟨g, 0, none⟩) m c) met (wait ++ [x])) : GoS w n wr (.slice (some ⟨g, 0, none⟩) wait.length c) met wait :=
  ⟨h.bel, h.mrow, own_cut hm h.wrow⟩
end Go.Proofs.YtogjjmbcbnceoaaGreat
/- What is reached, as the document finds it. -/
namespace Go.Proofs.YtogjjmbcbnceoaaGreat
open Go.RowKit

theorem snoc_mem {l : List Int} {x : Int} : ∀ y, y ∈ l ++ [x] ↔ y = x ∨ y ∈ l := fun y => by simp [or_comm]
set_option maxRecDepth 100000 in
set_option maxHeartbeats 2000000 in
theorem rreach_any (nx : List (List Int)) (v : Value) (wo : Int) (S : Nat → Prop) (hS : ∀ i : Nat, S i ↔ (i : Int) = wo) (w : World) (h : NetAt w v nx) (hM : May nx) (hn : nx.length ≤ 100000) :
    Calls Tryz.prog 55 #[v, .int .i64 wo] w fun e w' => e = .returned (.slice (some ⟨w.heap.size, 0, none⟩) nx.length nx.length) ∧ OwnB w' w.heap.size w.heap.size nx.length (reachL nx S) ∧ Below w.heap.size w w' := by
  obtain ⟨a, c, rfl, _⟩ := h.form
  have HI : Hid (∀ i, i < nx.length → _) := fun i hi => h.get (i := i) hi
  have HM : Hid (May nx) := hM
  have HS : Hid _ := hS
  have HD : Hid (∀ met, RI nx S met [] → met = reachL nx S) := fun met hr => hr.done hM
  have HST : Hid _ := RI.start (S := S) hM
  obtain ⟨R, hR⟩ : ∃ R, R = reachL nx S := ⟨_, rfl⟩
  rw [← hR] at HD
  rw [← hR]
  have hn0 : 0 < nx.length := hM.1
  clear hR h hM hS
  obtain ⟨n, hnn⟩ : ∃ n, n = nx.length := ⟨_, rfl⟩
  rw [← hnn] at HI hn hn0 HST
  rw [← hnn]
  have HNN : Hid (n = nx.length) := hnn
  clear hnn
  have hmk := run_make_row' (P := Tryz.prog) 53 4 (.bool false) 1 Tryz.underlying53 infoB rfl .i64 .i64 n (by omega) (by omega)
  obtain ⟨i0, hi0, hz0, hz1, hz2⟩ := info_parts infoI
  have HG0 : Hid (GoS w n (((w.alloc (.cells (madeCells #[.bool false] n) 4)).setCell ⟨w.heap.size, 0, none⟩ (.bool true)).alloc (.cells #[.int .i64 0] 3)) (.slice (some ⟨w.heap.size + 1, 0, none⟩) 1 1) ((List.replicate n false).set 0 true) [0]) := by
    have h1 := OwnB.made w w.heap.size n (Nat.le_refl _) (by omega)
    have h2 : GoS w n (w.alloc (.cells (madeCells #[.bool false] n) 4)) nilV (List.replicate n false) [] := ⟨below_alloc (Below.refl _ _) _, h1, World.ownsRow_nil _ _ _ _⟩
    have h3 := h2.mark 0
    have h4 := h3.below (below_alloc (Below.refl _ _) (.cells #[.int .i64 0] 3))
    refine ⟨h4.bel, h4.mrow, ?_⟩
    have h5 := World.ownsRow_lit (base := w.heap.size + 1) (e := 3) (size := 1) ((w.alloc (.cells (madeCells #[.bool false] n) 4)).setCell ⟨w.heap.size, 0, none⟩ (.bool true)) #[.int .i64 0] 1 (by simp [World.setCell]) (by decide) rfl
    have e : ((w.alloc (.cells (madeCells #[.bool false] n) 4)).setCell ⟨w.heap.size, 0, none⟩ (.bool true)).heap.size = w.heap.size + 1 := by simp [World.setCell]
    rw [e] at h5
    exact h5
  rw [alloc_set0] at HG0
  have k0 : (w.alloc (.cells (madeCells #[.bool false] n) 4)).cell? ⟨w.heap.size, 0, none⟩ = some (.bool false) := by
    have h1 := OwnB.made w w.heap.size n (Nat.le_refl _) (by omega)
    have := h1.at' hn0 false
    rw [this]
    simp [List.getD, hn0]
  have k1 : (w.alloc (.cells (madeCells #[.bool false] n) 4)).frozen? ⟨w.heap.size, 0, none⟩ = false := (OwnB.made w w.heap.size n (Nat.le_refl _) (by omega)).frozenAt 0
  go_enter Tryz.func55, Tryz.ntmps55
  go_wp2
  clear k0 k1 hmk
  go_loopg [6] n (fun gm vw wr => ∃ met wait, Hid (GoS w n wr vw met wait ∧ RI nx S met wait ∧ cntF met + wait.length ≤ gm))
  case atStart => exact ⟨_, _, HG0.out, HST.out, by have := HST.out.cnt; rw [← HNN.out] at this; exact this⟩
  case round =>
    obtain ⟨met, wait, hr⟩ := hrel
    clear HG0 HST
    generalize wr = wo' at *
    rcases List.eq_nil_or_concat wait with rfl | ⟨l, x, rfl⟩
    · have HX : Hid (met = R) := HD.out met hr.out.2.1
      obtain ⟨sa, sc, rfl, _⟩ := (OwnI.at' hr.out.1.wrow (by simp)).form
      clear HI HD HS
      go_wp2
      go_ret
      exact ⟨rfl, by rw [← HX.out]; exact hr.out.1.mrow, hr.out.1.bel⟩
    · rw [List.concat_eq_append] at hr
      obtain ⟨i, hxi, hin, hmi⟩ := hr.out.2.1.wt x (by simp)
      subst hxi
      have hcn := hr.out.2.1.cnt
      rw [← HNN.out] at hcn hin
      have hll : l.length + 1 ≤ 100000 := by have : (l ++ [(i : Int)]).length = l.length + 1 := by simp
                                             omega
      obtain ⟨wg, wc, rfl, hwg1, hwg2, hwc1, hwc2⟩ := own_form (own_snoc hr.out.1.wrow)
      have cl : wo'.cell? ⟨wg, l.length, none⟩ = some (.int .i64 (i : Int)) := own_last rfl hr.out.1.wrow
      have hcut := slice_cut (g := wg) (m := l.length + 1) (c := wc) (f := l.length) hwc1 (by omega)
      have HP : Hid (GoS w n wo' (.slice (some ⟨wg, 0, none⟩) l.length wc) met l) := hr.out.1.pop rfl
      have hin' : (i : Int) < n := by omega
      have HGM : Hid (cntF met + l.length + 1 ≤ gk) := by have h9 := hr.out.2.2; simp at h9; show _ ≤ _; omega
      by_cases hs : (i : Int) = wo
      · have HRI : Hid (RI nx S met l) := hr.out.2.1.skip snoc_mem (by simp) ((HS.out i).2 hs)
        subst hs
        clear HI HD hr hcn hmi
        go_wp2
        go_roundg (cntF met + l.length)
        case measure => have := HGM.out; omega
        case rel => exact ⟨met, l, HP.out, HRI.out, Nat.le_refl _⟩
      · have HRJ : Hid (RJ nx S i 0 met l) := hr.out.2.1.take snoc_mem (by simp) (fun h9 => hs ((HS.out i).1 h9))
        have hsf : ((i : Int) == wo) = false := beq_false_of_ne hs
        obtain ⟨g, o, ra, rc, rfl, hg, c0, hIr⟩ := HI.out i hin
        obtain ⟨_, _, _, hml⟩ := hIr.form
        have HRW : Hid (∀ k, k < (nx.getD i []).length → _) := fun k hk => hIr.get (i := k) hk
        have HMW : Hid (∀ k, k < (nx.getD i []).length → _) := fun k hk => HM.out.row (i := i) (k := k) (by rw [← HNN.out]; exact hin) hk
        rw [← HNN.out] at HMW
        clear HI HD hr hcn hmi hs hIr HS
        obtain ⟨m, hm⟩ : ∃ m, m = (nx.getD i []).length := ⟨_, rfl⟩
        have HML : Hid (m = (nx.getD i []).length) := hm
        rw [← hm] at HRW c0 hml HMW
        clear hm
        have c0' : wo'.cell? ⟨g, o + i, none⟩ = some (.slice ra m rc) := (HP.out.bel.cell (p := ⟨g, o + i, none⟩) hg).trans c0
        go_wp2
        go_loopw [6, 8] (fun vw vk wr => ∃ (k : Nat) (met : List Bool) (wait : List Int), vk = .int .i64 k ∧ k ≤ m ∧ Hid (GoS w n wr vw met wait ∧ RJ nx S i k met wait ∧ cntF met + wait.length + 1 ≤ gk)) (fun _ vk _ => m - (intOf vk).toNat)
        case atStart => exact ⟨0, met, l, rfl, by omega, HP.out, HRJ.out, HGM.out⟩
        case round =>
          obtain ⟨k, met2, wait2, rfl, hk, hq⟩ := hrel
          clear HP HRJ HGM cl hcut c0'
          have c0' : wr.cell? ⟨g, o + i, none⟩ = some (.slice ra m rc) := (hq.out.1.bel.cell (p := ⟨g, o + i, none⟩) hg).trans c0
          have hcn := hq.out.2.1.cnt
          rw [← HNN.out] at hcn
          have hw2 : wait2.length ≤ 100000 := by omega
          obtain ⟨sa, sc, rfl, _⟩ := (OwnI.at' hq.out.1.wrow (by omega)).form
          by_cases hkm : k < m
          · obtain ⟨gr, or, rfl, hgr, cr⟩ := HRW.out k hkm
            obtain ⟨hx0, hx1⟩ := HMW.out k hkm
            obtain ⟨t, ht⟩ : ∃ t : Nat, (nx.getD i []).getD k 0 = (t : Int) := Int.eq_ofNat_of_zero_le hx0
            have HT : Hid ((nx.getD i []).getD k 0 = (t : Int)) := ht
            have hkm' : (k : Int) < m := by omega
            have cr' : wr.cell? ⟨gr, or + k, none⟩ = some (.int .i64 (t : Int)) := by rw [← ht]; exact (hq.out.1.bel.cell (p := ⟨gr, or + k, none⟩) hgr).trans cr
            have htn : t < n := by rw [ht] at hx1; omega
            have htn' : (t : Int) < n := by omega
            clear HRW HMW cr ht hx0 hx1 c0
            have cm : wr.cell? ⟨w.heap.size, t, none⟩ = some (.bool (met2.getD t false)) := hq.out.1.mrow.at' htn false
            have fm : wr.frozen? ⟨w.heap.size, t, none⟩ = false := hq.out.1.mrow.frozenAt t
            rcases hb : met2.getD t false with _ | _
            · have hbt : met2.getD t true = false := by
                have e := hq.out.1.mrow.len
                rw [getD_of (by omega)] at hb ⊢
                exact hb
              have HRJ : Hid (RJ nx S i (k + 1) (met2.set t true) (wait2 ++ [(t : Int)])) := hq.out.2.1.new HM.out (by rw [← HML.out]; exact hkm) HT.out hbt
              have HCN : Hid (cntF (met2.set t true) + (wait2 ++ [(t : Int)]).length + 1 ≤ gk) := by
                show _ ≤ _
                have h8 := cntF_set hbt
                have h9 := hq.out.2.2
                simp
                omega
              have HMK : Hid _ := hq.out.1.mark t
              rw [hb] at cm
              have hsz : (wr.setCell ⟨w.heap.size, t, none⟩ (.bool true)).heap.size = wr.heap.size := by simp [World.setCell]
              have HSZ : Hid _ := hsz
              have c0'' : (wr.setCell ⟨w.heap.size, t, none⟩ (.bool true)).cell? ⟨g, o + i, none⟩ = some (.slice (some ⟨gr, or, none⟩) m rc) := by
                rw [World.cell?_setCell_other _ _ _ _ (by intro hh; simp at hh; try omega)]
                exact c0'
              have cr'' : (wr.setCell ⟨w.heap.size, t, none⟩ (.bool true)).cell? ⟨gr, or + k, none⟩ = some (.int .i64 (t : Int)) := by
                rw [World.cell?_setCell_other _ _ _ _ (by intro hh; simp at hh; try omega)]
                exact cr'
              have HW2 : Hid (wait2.length ≤ 100000) := hw2
              clear hb hbt hsz
              go_wp2_with (at_builtin; go_loud (refine wpList_append_own_at _ rfl _ _ 23 rfl (w.heap.size + 1) 3 i0 (.int .i64 0) 1 8 Tryz.underlying23 hi0 hz0 hz1 hz2 rfl (by decide) _ wait2.length (wait2.map intV) rfl (HMK.out.wrow.alloc _) ⟨wr.heap.size, 0, none⟩ 1 1 [intV t] rfl rfl ?c1 ?c2 ?c3 ?c4 ?c5 ?_))
              case c1 => have := cell_one_new (wr.setCell ⟨w.heap.size, t, none⟩ (.bool true)) (intV t) 3; rw [HSZ.out] at this; exact this
              case c2 => intro u hu; simp at hu; subst hu; rfl
              case c3 => have := HW2.out; unfold maxLen; omega
              case c4 => have := HW2.out; omega
              case c5 => have := HMK.out.mrow.lt'.2; simp; rw [HSZ.out] at this; omega
              intro v2 w2 ho hg2 _ hat
              have HPU : Hid _ := (HMK.out.below (below_alloc (Below.refl _ _) (.cells #[intV t] 3))).push ho hg2
              clear ho hg2 hat
              go_wp2
              go_roundw
              case rel => exact ⟨k + 1, _, _, by first | rfl | (congr 1; omega), by omega, HPU.out, HRJ.out, HCN.out⟩
              case measure => simp [intOf]; omega
            · have HRJ : Hid (RJ nx S i (k + 1) met2 wait2) := hq.out.2.1.old (by rw [HT.out, Int.toNat_natCast]; exact hb)
              rw [hb] at cm
              clear hb
              go_wp2
              go_roundw
              case rel => exact ⟨k + 1, met2, wait2, by first | rfl | (congr 1; omega), by omega, hq.out.1, HRJ.out, hq.out.2.2⟩
              case measure => simp [intOf]; omega
          · obtain rfl : k = m := by omega
            have HRI : Hid (RI nx S met2 wait2) := hq.out.2.1.done (by rw [← HML.out]; exact Nat.le_refl _)
            clear HRW HMW c0
            go_wp2
            go_roundg (cntF met2 + wait2.length)
            case measure => have := hq.out.2.2; omega
            case rel => exact ⟨met2, wait2, hq.out.1, HRI.out, Nat.le_refl _⟩
end Go.Proofs.YtogjjmbcbnceoaaGreat
