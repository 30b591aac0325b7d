/- Phis are set: the walk. -/
import Derived.Test.YtdgpdmohfnealaaGreatDoorURd2M
namespace Go.Proofs.YtdgpdmohfnealaaGreatDoor
open Go.RowKit

set_option maxRecDepth 100000 in
set_option maxHeartbeats 4000000 in
theorem phis_walk {bs B C cb m pg po n qc tg tb bg bo bn bc ig io il ic pl hg ho an ac place np : Nat} {rv : Value} {a0 a1 : Option Addr} {n0 c0 c1 : Nat} {fr : Int} {fd : Bool} {w : World} {R1 : Nat → World → Prop} {R2 : Option Addr → Nat → Nat → World → Prop} {Q : World → Prop}
    (HNW : Hid (∀ W j, W = w.drewN j → Calls Tryz.prog 17 #[ptr B] W fun e w' => e = .returned (.pointer (some ⟨cb, m * 5, none⟩)) ∧ ∃ j, w' = W.drewN j))
    (b0 : w.cell? ⟨B, 0, none⟩ = some (.slice (some ⟨pg, po, none⟩) n qc)) (t0 : w.cell? ⟨cb, m * 5, none⟩ = some (.int .i64 (tg : Int))) (t1 : w.cell? ⟨cb, m * 5 + 1, none⟩ = some (.int .i64 (tb : Int))) (p5 : w.cell? ⟨pg, po + tg * 6 + 5, none⟩ = some (.slice (some ⟨bg, bo, none⟩) bn bc)) (q0 : w.cell? ⟨bg, bo + tb * 6, none⟩ = some (.slice (some ⟨ig, io, none⟩) il ic)) (htg : (tg : Int) < n) (htb : (tb : Int) < bn)
    (i0 : w.cell? ⟨ig, io, none⟩ = some (.int .u8 1)) (hil : (0 : Int) < il) (hilz : ((il : Int) == 0) = false) (hilb : (il : Int) ≤ 1000000000)
    (b3 : w.cell? ⟨B, 3, none⟩ = some (.slice (some ⟨C, 0, none⟩) pl pl)) (htp : (tg : Int) < pl) (k0 : w.cell? ⟨C, tg * 2, none⟩ = some (.slice (some ⟨hg, ho, none⟩) an ac)) (hta : (tb : Int) < an) (hr : w.cell? ⟨hg, ho + tb, none⟩ = some rv)
    (HB : Hid (∀ W k, W = w.drewN k → Calls Tryz.prog 76 #[rv, .int .i64 fr] W fun e w' => e = .returned (.tuple #[.int .i64 (place : Int), .bool fd]) ∧ ∃ k, w' = W.drewN k))
    (b7 : w.cell? ⟨B, 7, none⟩ = some (.slice a0 n0 c0)) (f7 : w.frozen? ⟨B, 7, none⟩ = false)
    (hs : ∀ W, (Instr.slice 33 (.slice a0 n0 c0) none (some (.int .i64 0)) none).run Tryz.prog W = .ok (.slice a1 0 c1) W)
    (HR0 : Hid (∀ k, R1 0 ((w.drewN k).setCell ⟨B, 7, none⟩ (.slice a1 0 c1)))) (hnp : np ≤ il)
    (HRS : Hid (∀ i wq, i < np → R1 i wq → ∃ (ag ao xn xc v : Nat) (x : Int) (wv : Value) (ws : List Value), wq.cell? ⟨ig, io + i * 6, none⟩ = some (.int .u8 1) ∧ wq.cell? ⟨ig, io + i * 6 + 3, none⟩ = some (.slice (some ⟨ag, ao, none⟩) xn xc) ∧ (place : Int) < xn ∧ wq.cell? ⟨ag, ao + place, none⟩ = some (.int .i64 (v : Int)) ∧ wq.cell? ⟨B, 7, none⟩ = some wv ∧ (∀ k ob, ((wq.drewN k).alloc ob).cell? ⟨B, 7, none⟩ = some wv) ∧ bs ≤ wq.heap.size ∧
      (∀ k, (wq.drewN k).ownsRow bs 24 1 wv i ws) ∧
      (∀ W k, W = wq.drewN k → Calls Tryz.prog 33 #[ptr B, .int .i64 (v : Int)] W fun e w' => e = .returned (.int .u64 x) ∧ ∃ k, w' = W.drewN k) ∧
      (∀ k ob w2 wv', w2.ownsRow bs 24 1 wv' (i + 1) (ws ++ [.int .u64 x]) → ((wq.drewN k).alloc ob).grownBy w2 wv.ownBlock → (wv'.ownBlock = wv.ownBlock ∨ wv'.ownBlock = some ((wq.drewN k).alloc ob).heap.size) → w2.cell? ⟨B, 7, none⟩ = some wv ∧ w2.frozen? ⟨B, 7, none⟩ = false ∧ R1 (i + 1) (w2.setCell ⟨B, 7, none⟩ wv'))))
    (HE1 : Hid (∀ wq, R1 np wq → (np < il → ∃ k : Int, wq.cell? ⟨ig, io + np * 6, none⟩ = some (.int .u8 k) ∧ (k == 1) = false) ∧ ∃ wa wc, wq.cell? ⟨B, 7, none⟩ = some (.slice wa np wc) ∧ R2 wa wc 0 wq))
    (HR2 : Hid (∀ wa wc i wq, i < np → R2 wa wc i wq → ∃ (wg wo d : Nat) (x : Int), wa = some ⟨wg, wo, none⟩ ∧ wq.cell? ⟨wg, wo + i, none⟩ = some (.int .u64 x) ∧ wq.cell? ⟨ig, io + i * 6 + 2, none⟩ = some (.int .i64 (d : Int)) ∧ ∀ W k, W = wq.drewN k → Calls Tryz.prog 31 #[ptr B, .int .i64 (d : Int), .int .u64 x] W fun e w' => e = .returned (.tuple #[]) ∧ R2 wa wc (i + 1) w'))
    (HE2 : Hid (∀ wa wc wq, R2 wa wc np wq → wq.cell? ⟨B, 7, none⟩ = some (.slice wa np wc) ∧ Q wq)) :
    Calls Tryz.prog 59 #[ptr B, .int .i64 fr] w fun e w' => e = .returned (.int .i64 (np : Int)) ∧ Q w' := by
  obtain ⟨i1, hi0, hz0, hz1, hz2⟩ := info_parts infoW
  go_enter Tryz.func59, Tryz.ntmps59
  go_wp2_with (go_at_call 17; refine Calls.mono (HNW.out _ 0 rfl) ?_; rintro e w1 ⟨rfl, kq, rfl⟩)
  go_quiet (fail)
  go_wp2
  go_quiet ((go_at_call 76; exact quiet_add2 (HB.out _ _ rfl)))
  go_wp2
  go_loopw [9] (fun vi wq => ∃ i : Nat, vi = .int .i64 i ∧ i ≤ np ∧ Hid (R1 i wq)) (fun vi _ => np - (intOf vi).toNat)
  case atStart => exact ⟨0, rfl, by omega, HR0.out _⟩
  case round =>
    obtain ⟨i, rfl, hi, hrr⟩ := hrel
    clear HR0 HB HNW b0 t0 t1 p5 q0 htg htb i0 b3 htp k0 hta hr b7 f7 hs
    by_cases hin : i < np
    · obtain ⟨ag, ao, xn, xc, v, x, wv, ws, ck, c3, hpl, cv, b7, b7', hbs0, ho0, hg0, hx0⟩ := HRS.out i wr hin hrr.out
      have hin' : (i : Int) < il := by omega
      have HG : Hid _ := hg0
      have HO : Hid _ := ho0
      have HX : Hid _ := hx0
      have HBS : Hid _ := hbs0
      have HIB : Hid (i ≤ 1000000000) := by show _ ≤ _; omega
      clear hg0 ho0 hx0 hbs0 HRS HE1 HR2 HE2 hrr
      go_wp2
      go_region_law (first
        | (refine step_append_own rfl (.tmp 90) (.tmp 101) 33 rfl bs 24 i1 (.int .u64 0) 1 8 Tryz.underlying33 hi0 hz0 hz1 hz2 rfl (by decide) wv i ws ?e1 ?e2 ⟨wr.heap.size, 0, none⟩ 1 1 [.int .u64 x] ?e3 rfl ?e4 ?e5 ?e6 ?e7 ?e8 ?_; (case e1 => simp [Act.eval]); (case e2 => exact (HO.out _).alloc _); (case e3 => simp [Act.eval]); (case e4 => exact cell_one_new _ _ _); (case e5 => intro u hu; simp at hu; subst hu; rfl); (case e6 => have := HIB.out; unfold maxLen; omega); (case e7 => have := HIB.out; omega); (case e8 => have := HBS.out; simp; omega); intro v2 w2 ho hg2 hat; obtain ⟨g2, cc2, rfl, _, _, _, _⟩ := own_form ho; obtain ⟨q1, q2, hrr⟩ := HX.out _ _ w2 _ ho hg2 hat; have HQ : Hid (R1 _ _) := hrr; clear ho hg2 hat hrr)
        | (go_simp; go_at_call 33; refine Calls.mono (HG.out _ 1 rfl) ?_; rintro e w1 ⟨rfl, kt, rfl⟩))
      all_goals (
        go_wp2
        go_roundw
        case rel => exact ⟨i + 1, by first | rfl | (congr 1; omega), by omega, HQ⟩
        case measure => simp [intOf]; omega)
    · obtain rfl : i = np := by omega
      obtain ⟨hstop, wa, wc', b7, hr20⟩ := HE1.out wr hrr.out
      have HR20 : Hid _ := hr20
      clear hr20 HE1 HRS hrr
      have hib : (i : Int) ≤ 1000000000 := by omega
      by_cases hil2 : i < il
      · obtain ⟨k, ck, hk⟩ := hstop hil2
        have hil3 : (i : Int) < il := by omega
        clear hstop
        generalize wr = wo at *
        go_wp2
        go_loopw [110] (fun vi wq => ∃ j : Nat, vi = .int .i64 j ∧ j ≤ i ∧ Hid (R2 wa wc' j wq)) (fun vi _ => i - (intOf vi).toNat)
        case atStart => exact ⟨0, rfl, by omega, HR20⟩
        case round =>
          obtain ⟨j, rfl, hj, hrj⟩ := hrel
          clear HR20 b7
          by_cases hjn : j < i
          · obtain ⟨wg, wo2, d, x, rfl, cx, cd, hset⟩ := HR2.out wa wc' j wr hjn hrj.out
            have hjn' : (j : Int) < i := by omega
            have hjl : (j : Int) < il := by omega
            have HT : Hid _ := hset
            clear hset HR2 HE2 hrj
            go_wp2_with (go_at_call 31; refine Calls.mono (HT.out _ 0 rfl) ?_; rintro e w6 ⟨rfl, hr2⟩; have HR3 : Hid _ := hr2; clear hr2)
            go_roundw
            case rel => exact ⟨j + 1, by first | rfl | (congr 1; omega), by omega, HR3⟩
            case measure => simp [intOf]; omega
          · obtain rfl : j = i := by omega
            obtain ⟨b7, hq⟩ := HE2.out wa wc' wr hrj.out
            clear HE2 HR2 hrj
            go_wp2
            go_ret
            exact ⟨rfl, hq⟩
      · have hil3 : (il : Int) ≤ i := by omega
        have hil4 : ¬ (i : Int) < il := by omega
        clear hstop
        generalize wr = wo at *
        go_wp2
        go_loopw [110] (fun vi wq => ∃ j : Nat, vi = .int .i64 j ∧ j ≤ i ∧ Hid (R2 wa wc' j wq)) (fun vi _ => i - (intOf vi).toNat)
        case atStart => exact ⟨0, rfl, by omega, HR20⟩
        case round =>
          obtain ⟨j, rfl, hj, hrj⟩ := hrel
          clear HR20 b7
          by_cases hjn : j < i
          · obtain ⟨wg, wo2, d, x, rfl, cx, cd, hset⟩ := HR2.out wa wc' j wr hjn hrj.out
            have hjn' : (j : Int) < i := by omega
            have hjl : (j : Int) < il := by omega
            have HT : Hid _ := hset
            clear hset HR2 HE2 hrj
            go_wp2_with (go_at_call 31; refine Calls.mono (HT.out _ 0 rfl) ?_; rintro e w6 ⟨rfl, hr2⟩; have HR3 : Hid _ := hr2; clear hr2)
            go_roundw
            case rel => exact ⟨j + 1, by first | rfl | (congr 1; omega), by omega, HR3⟩
            case measure => simp [intOf]; omega
          · obtain rfl : j = i := by omega
            obtain ⟨b7, hq⟩ := HE2.out wa wc' wr hrj.out
            clear HE2 HR2 hrj
            go_wp2
            go_ret
            exact ⟨rfl, hq⟩
end Go.Proofs.YtdgpdmohfnealaaGreatDoor
