/- The law DomNear: its run, given what the program's functions do. -/
import Derived.Test.YthedgacidphgnaaDLaw2
namespace Go.Proofs.Ythedgacidphgnaa
open Go.RowKit

/-- The nearest one of a node to which an edge leads from a reached one stands over that. -/
theorem near_edge {nx : List (List Int)} (h : May nx) {i to : Nat} (hi : Rch nx noneS i) (he : (to : Int) ∈ nx.getD i []) (h0 : to ≠ 0) : overL (treeL nx) ((treeL nx).getD to 0) (i : Int) = true := by
  have hto : Rch nx noneS to := .step hi (fun h => h) he
  rw [treeL_get (hto.lt h)]
  rcases near_is h to with ⟨k, e, hk, ho, _⟩ | ⟨_, hn⟩
  · rw [e, overL_is h (ho.1.lt h) hi]
    exact dec_true (ho.ahead hk hi he)
  · exact absurd (Ov.entry hto) (hn 0 (fun e => h0 e.symm))
theorem near_under {nx : List (List Int)} (h : May nx) {i : Nat} (hi : i < nx.length) (h0 : 0 ≤ (treeL nx).getD i 0) : ∃ k : Nat, (treeL nx).getD i 0 = (k : Int) ∧ k < nx.length ∧ (i : Int) ∈ (underT (treeL nx)).getD k [] := by
  rcases near_is h i with ⟨k, e, hk, ho, _⟩ | ⟨e, _⟩
  · have e2 : (treeL nx).getD i 0 = (k : Int) := by rw [treeL_get hi]; exact e
    exact ⟨k, e2, ho.1.lt h, under_mem (by rw [treeL_len]; exact hi) (by rw [treeL_len]; exact ho.1.lt h) e2⟩
  · rw [treeL_get hi, e] at h0
    omega
set_option maxRecDepth 100000 in
set_option maxHeartbeats 2000000 in
theorem near_any (nx : List (List Int)) (v : Value) (w : World) (h : NetAt w v nx) (hT : TreeOk nx) (hO : OverOk) (hU : nx.length ≤ 300 → UnderOk (treeL nx)) (hA : ∀ W, Calls Try.prog 9 #[] W fun e w' => e = .returned (.bool true) ∧ Below W.heap.size W w') :
    Calls Try.prog 7 #[v] w fun e w' => e = .returned (.bool true) ∧ Below w.heap.size w w' := by
  have HG : Hid (∀ W, Below w.heap.size w W → _) := fun W hb => great_any nx v W (h.below hb)
  have HA : Hid _ := hA w
  have HT : Hid (∀ W, Below w.heap.size w W → _) := fun W hb => hT v W (h.below hb)
  by_cases hM : May nx
  rotate_left
  · have HM : Hid (¬ May nx) := hM
    clear hT hO hU hA h hM HG
    go_enter Try.func7, Try.ntmps7
    go_wp2_with (first
      | (go_at_call 9; go_loud (refine Calls.mono (by exact HA.out) ?_; rintro e w0 ⟨rfl, hb0⟩; have HB0 : Hid _ := hb0; clear hb0))
      | (go_at_call 10; go_loud (refine Calls.mono (by exact HT.out _ HB0.out) ?_; rintro e w1 ⟨_, ht1, hb1⟩; have he1 := ht1 HM.out; subst he1; have HB1 : Hid (Below w.heap.size w w1) := below_trans HB0.out hb1; clear ht1 hb1)))
    go_ret
    exact ⟨rfl, HB1.out⟩
  have HM : Hid (May nx) := hM
  have HTL : Hid (nx.length ≤ 300 → (treeL nx).length ≤ 300) := fun h1 => by rw [treeL_len]; exact h1
  rcases hgr : greatB nx with _ | _
  rotate_left
  · rw [hgr] at HG
    have hnl : nx.length ≤ 140737488355328 := by obtain ⟨_, _, _, hl⟩ := h.form; exact hl
    have HTB : Hid ((treeL nx).length ≤ 140737488355328) := by show _ ≤ _; rw [treeL_len]; exact hnl
    clear hT hO hU hA h hM hgr HTL hnl
    go_enter Try.func7, Try.ntmps7
    go_wp2_with (first
      | (go_at_call 9; go_loud (refine Calls.mono (by exact HA.out) ?_; rintro e w0 ⟨rfl, hb0⟩; have HB0 : Hid _ := hb0; clear hb0))
      | (go_at_call 10; go_loud (refine Calls.mono (by exact HT.out _ HB0.out) ?_; rintro e w1 ⟨ht1, _, hb1⟩; obtain ⟨v1, rfl, ho1⟩ := ht1 HM.out; have HB1 : Hid (Below w.heap.size w w1) := below_trans HB0.out hb1; clear ht1 hb1 ho1))
      | (go_at_call 8; go_loud (refine Calls.mono (by exact HG.out _ HB1.out) ?_; rintro e w2 ⟨rfl, hw2⟩; have hw3 := hw2.symm; subst hw3)))
    go_ret
    exact ⟨rfl, HB1.out⟩
  rw [hgr] at HG
  obtain ⟨hn3, hl3⟩ := greatB_no hgr
  have HU : Hid _ := hU hn3
  have HO : Hid _ := hO
  have HTB : Hid _ := HTL.out hn3
  have HW : Hid (∀ W, Below w.heap.size w W → _) := fun W hb => without_any nx v (-1) noneS (fun i => ⟨fun h => h.elim, fun h => by omega⟩) W (h.below hb) hM (by omega)
  obtain ⟨va, vc, rfl, _⟩ := h.form
  have HI : Hid (∀ i, i < nx.length → _) := fun i hi => h.get (i := i) hi
  have HMR : Hid (∀ i k, i < nx.length → k < (nx.getD i []).length → _) := fun i k hi hk => hM.row (i := i) (k := k) hi hk
  have HNE : Hid (∀ (i to : Nat), Rch nx noneS i → (to : Int) ∈ nx.getD i [] → to ≠ 0 → _) := fun i to hi he h0 => near_edge hM hi he h0
  have HNU : Hid (∀ (i : Nat), i < nx.length → 0 ≤ (treeL nx).getD i 0 → _) := fun i hi h0 => near_under hM hi h0
  have HLT : Hid ((treeL nx).length = nx.length) := treeL_len nx
  have HUT : Hid ((underT (treeL nx)).length = nx.length) := by show _ = _; rw [underT_len, treeL_len]
  have HRG : Hid (∀ S j, j < nx.length → (reachL nx S).getD j false = dec (Rch nx S j)) := fun S j hj => reachL_get hj false
  obtain ⟨n, hnn⟩ : ∃ n, n = nx.length := ⟨_, rfl⟩
  rw [← hnn] at HI HMR HNU HLT HUT hn3 HW HRG HG HT
  rw [← hnn]
  clear hT hO hU hA h hM hgr HTL hl3 hnn
  generalize treeL nx = T at *
  generalize underT T = U at *
  go_enter Try.func7, Try.ntmps7
  go_wp2_with (first
    | (go_at_call 9; go_loud (refine Calls.mono (by exact HA.out) ?_; rintro e w0 ⟨rfl, hb0⟩; have HB0 : Hid _ := hb0; clear hb0))
    | (go_at_call 10; go_loud (refine Calls.mono (by exact HT.out _ HB0.out) ?_; rintro e w1 ⟨ht1, _, hb1⟩; obtain ⟨v1, rfl, ho1⟩ := ht1 HM.out; have HI1 : Hid (IntsAt w1 v1 T) := OwnI.at' ho1 (by have := HTB.out; omega); have HB1 : Hid (Below w.heap.size w w1) := below_trans HB0.out hb1; clear ht1 hb1 ho1))
    | (go_at_call 8; go_loud (refine Calls.mono (by exact HG.out _ HB1.out) ?_; rintro e w2 ⟨rfl, hw2⟩; have hw3 := hw2.symm; subst hw3))
    | (go_at_call 16; go_loud (refine Calls.mono (by exact HU.out _ _ HI1.out) ?_; rintro e w3 ⟨v3, rfl, hn3', hb3⟩; have HN3 : Hid _ := hn3'; have HB3 : Hid (Below w.heap.size w w3) := below_trans HB1.out hb3; have HI3 : Hid (IntsAt w3 v1 T) := HI1.out.below hb3; clear hn3' hb3))
    | (go_at_call 19; go_loud (refine Calls.mono (by exact HW.out _ HB3.out) ?_; rintro e w4 ⟨rfl, ho4, hb4⟩; have HO4 : Hid (OwnZ w4 w3.heap.size w3.heap.size n (reachL nx noneS)) := ho4; have HB4 : Hid (Below w.heap.size w w4) := below_trans HB3.out hb4; have HI4 : Hid (IntsAt w4 v1 T) := HI3.out.below hb4; have HN4 : Hid (NetAt w4 v3 U) := HN3.out.below hb4; obtain ⟨ta, tc, hte, _⟩ := HI4.out.form; obtain ⟨ua, uc, hue, _⟩ := HN4.out.form; subst hte; subst hue; rw [HLT.out] at HI4; rw [HUT.out] at HN4; rw [HLT.out, HUT.out]; clear ho4 hb4 HI1 HI3 HN3)))
  have HAL : Hid (∀ i, i < n → w4.cell? ⟨w3.heap.size, i, none⟩ = some (.int .i64 (b2i (dec (Rch nx noneS i)))) ∧ w3.heap.size < w4.heap.size) := fun i hi => ⟨by rw [HO4.out.at' hi false, HRG.out _ _ hi], HO4.out.lt'.2⟩
  have HTI : Hid (∀ i, i < n → _) := fun i hi => HI4.out.get (i := i) (by rw [HLT.out]; exact hi)
  have HUI : Hid (∀ i, i < n → _) := fun i hi => HN4.out.get (i := i) (by rw [HUT.out]; exact hi)
  clear HA HT HG HU HW HB0 HB1 HB3 HO4 HRG
  go_loopw [7] (fun vi wr => ∃ i : Nat, vi = .int .i64 i ∧ i ≤ n ∧ Hid (Below w4.heap.size w4 wr)) (fun vi _ => n - (intOf vi).toNat)
  case atStart => exact ⟨0, rfl, by omega, Below.refl _ _⟩
  case round =>
    obtain ⟨i, rfl, hi, hr⟩ := hrel
    generalize wr = wo at *
    by_cases hin : i < n
    · have hin' : (i : Int) < n := by omega
      obtain ⟨g, o, ra, rc, rfl, hg, c0, hIr⟩ := HI.out i hin
      have hml : (nx.getD i []).length ≤ 140737488355328 := by obtain ⟨_, _, _, hl⟩ := hIr.form; exact hl
      obtain ⟨hcA, hgA⟩ := HAL.out i hin
      have HRW : Hid (∀ k, k < (nx.getD i []).length → _) := fun k hk => hIr.get (i := k) hk
      have HMW : Hid (∀ k, k < (nx.getD i []).length → _) := fun k hk => HMR.out i k hin hk
      have HNW : Hid (∀ (to : Nat), Rch nx noneS i → (to : Int) ∈ nx.getD i [] → to ≠ 0 → _) := fun to => HNE.out i to
      have HNUI : Hid _ := HNU.out i hin
      clear HI HMR HNE HNU hIr
      obtain ⟨m, hm⟩ : ∃ m, m = (nx.getD i []).length := ⟨_, rfl⟩
      have HML : Hid (m = (nx.getD i []).length) := hm
      rw [← hm] at HRW HMW hml c0
      clear hm
      have hg4 : g < w4.heap.size := Nat.lt_of_lt_of_le hg HB4.out.size
      have c04 : w4.cell? ⟨g, o + i, none⟩ = some (.slice ra m rc) := (HB4.out.cell (p := ⟨g, o + i, none⟩) hg).trans c0
      clear c0
      go_wp2
      go_loopw [8] (fun vk wq => ∃ k : Nat, vk = .int .i64 k ∧ k ≤ m ∧ Hid (Below w4.heap.size w4 wq)) (fun vk _ => m - (intOf vk).toNat)
      case atStart => exact ⟨0, rfl, by omega, hr.out⟩
      case round =>
        obtain ⟨k, rfl, hk, hq⟩ := hrel
        have c0' : wr.cell? ⟨g, o + i, none⟩ = some (.slice ra m rc) := (hq.out.cell (p := ⟨g, o + i, none⟩) hg4).trans c04
        by_cases hkm : k < m
        · obtain ⟨gr, or, rfl, hgr, cr⟩ := HRW.out k hkm
          obtain ⟨hx0, hx1⟩ := HMW.out k hkm
          obtain ⟨t, ht⟩ : ∃ t : Nat, (nx.getD i []).getD k 0 = (t : Int) := Int.eq_ofNat_of_zero_le hx0
          have HMEM : Hid ((t : Int) ∈ nx.getD i []) := by show _ ∈ _; rw [← ht]; exact getD_mem (by rw [← HML.out]; exact hkm)
          have hkm' : (k : Int) < m := by omega
          have hgr4 : gr < w4.heap.size := Nat.lt_of_lt_of_le hgr HB4.out.size
          have cr' : wr.cell? ⟨gr, or + k, none⟩ = some (.int .i64 (t : Int)) := by rw [← ht]; exact (hq.out.cell (p := ⟨gr, or + k, none⟩) hgr4).trans ((HB4.out.cell (p := ⟨gr, or + k, none⟩) hgr).trans cr)
          have htn : t < n := by rw [ht] at hx1; omega
          have htn' : (t : Int) < n := by omega
          have cA' : wr.cell? ⟨w3.heap.size, i, none⟩ = some (.int .i64 (b2i (dec (Rch nx noneS i)))) := (hq.out.cell (p := ⟨w3.heap.size, i, none⟩) hgA).trans hcA
          clear HRW HMW cr ht hx0 hx1 hgr
          by_cases hR : Rch nx noneS i
          rotate_left
          · rw [dec_false hR, show b2i false = 0 from rfl] at cA'
            clear hR HNW HNUI
            go_wp2
            go_roundw
            case rel => exact ⟨k + 1, by first | rfl | (congr 1; omega), by omega, hq.out⟩
            case measure => simp [intOf]; omega
          rw [dec_true hR, show b2i true = 1 from rfl] at cA'
          by_cases ht0 : t = 0
          · subst ht0
            clear hR HNW HNUI
            go_wp2
            go_roundw
            case rel => exact ⟨k + 1, by first | rfl | (congr 1; omega), by omega, hq.out⟩
            case measure => simp [intOf]; omega
          · have ht0' : ((t : Int) != 0) = true := bne_iff_ne.2 (by omega)
            obtain ⟨gt, ot, rfl, hgt, ct⟩ := HTI.out t htn
            have ct' : wr.cell? ⟨gt, ot + t, none⟩ = some (.int .i64 (T.getD t 0)) := (hq.out.cell (p := ⟨gt, ot + t, none⟩) hgt).trans ct
            have HOV : Hid _ := HO.out T (T.getD t 0) (i : Int) _ wr (HI4.out.below hq.out)
            rw [HNW.out t hR HMEM.out ht0] at HOV
            generalize T.getD t 0 = y at *
            clear hR HNW HNUI ct
            go_wp2_with (go_at_call 13; go_loud (refine Calls.mono (by exact HOV.out) ?_; rintro e w5 ⟨rfl, hd5⟩; have HB5 : Hid (Below w4.heap.size w4 w5) := below_trans hq.out (below_of_drew hd5); clear hd5))
            go_roundw
            case rel => exact ⟨k + 1, by first | rfl | (congr 1; omega), by omega, HB5.out⟩
            case measure => simp [intOf]; omega
        · obtain rfl : k = m := by omega
          clear HRW HMW
          obtain ⟨gt, ot, rfl, hgt, ct⟩ := HTI.out i hin
          have ct' : wr.cell? ⟨gt, ot + i, none⟩ = some (.int .i64 (T.getD i 0)) := (hq.out.cell (p := ⟨gt, ot + i, none⟩) hgt).trans ct
          clear ct HNW
          by_cases hy : 0 ≤ T.getD i 0
          · obtain ⟨j, ej, hjn, hmem⟩ := HNUI.out hy
            have hjn' : (j : Int) < n := by omega
            rw [ej] at ct'
            obtain ⟨gu, ou, rau, rcu, rfl, hgu, cu, hIu⟩ := HUI.out j hjn
            have cu' : wr.cell? ⟨gu, ou + j, none⟩ = some (.slice rau (U.getD j []).length rcu) := (hq.out.cell (p := ⟨gu, ou + j, none⟩) hgu).trans cu
            have HAM : Hid _ := among_any (U.getD j []) (i : Int) _ wr (hIu.below hq.out)
            rw [show amongB (U.getD j []) (i : Int) = true from decide_eq_true hmem] at HAM
            clear cu hIu HNUI hmem hy ej
            generalize (U.getD j []).length = ul at *
            go_wp2_with (go_at_call 20; go_loud (refine Calls.mono (by exact HAM.out) ?_; rintro e w5 ⟨rfl, hw5⟩; have hw6 := hw5.symm; subst hw6))
            go_roundw
            case rel => exact ⟨i + 1, by first | rfl | (congr 1; omega), by omega, hq.out⟩
            case measure => simp [intOf]; omega
          · clear HNUI
            generalize T.getD i 0 = y at *
            go_wp2
            go_roundw
            case rel => exact ⟨i + 1, by first | rfl | (congr 1; omega), by omega, hq.out⟩
            case measure => simp [intOf]; omega
    · obtain rfl : i = n := by omega
      clear HI HMR HNE HNU
      go_wp2
      go_ret
      exact ⟨rfl, below_trans HB4.out hr.out⟩
end Go.Proofs.Ythedgacidphgnaa
