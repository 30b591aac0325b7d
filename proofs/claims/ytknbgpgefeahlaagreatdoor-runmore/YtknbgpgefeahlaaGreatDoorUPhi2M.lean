/- Words are read. -/
import Derived.Test.YtknbgpgefeahlaaGreatDoorURdM
import Derived.Test.YtknbgpgefeahlaaGreatDoorUTellM
namespace Go.Proofs.YtknbgpgefeahlaaGreatDoor
open Go.RowKit

/-- The words that were read. -/
def HasW (ss : List Slot) (V : Vals) (ws : List Int) : Prop := ss[5]? = some ⟨V.wv, 28, 1, ws.length, ws.map wordV⟩
theorem Rn.setW {E : Env} {W w2 : World} {V : Vals} {ss : List Slot} {S : St} (h : Rn E W V ss S) {wv' : Value} {ws ws' : List Int} (hw : HasW ss V ws)
    (ho : w2.ownsRow E.w0.heap.size 28 1 wv' ws'.length (ws'.map wordV)) (hgr : W.grownBy w2 V.wv.ownBlock) (hat : wv'.ownBlock = V.wv.ownBlock ∨ wv'.ownBlock = some W.heap.size) :
    ∃ ss', Rn E (w2.setCell ⟨E.B, 7, Option.none⟩ wv') { V with wv := wv' } ss' S ∧ HasW ss' { V with wv := wv' } ws' := by
  have ho' : (⟨wv', 28, 1, ws'.length, ws'.map wordV⟩ : Slot).At w2 E.w0.heap.size := ho
  have H1 := h.heap.grow hw ho' hgr hat
  have L1 : Below E.w0.heap.size E.w0 w2 := below_grown h.low hgr (fun g hg => ((h.heap.own 5 _ hw).lt g hg).1)
  have z1 : (ss.set 5 ⟨wv', 28, 1, ws'.length, ws'.map wordV⟩)[0]? = _ := set_other h.s0 (by omega)
  have H2 := H1.store z1 7 wv'
  have L2 := below_set L1 (H1.lt z1).1 7 wv'
  have s5 := set_other (b := (⟨.slice (some ⟨E.B, 0, Option.none⟩) 1 1, 65, 14, 1, (rnCells E V S).set 7 wv'⟩ : Slot)) (set_self (b := (⟨wv', 28, 1, ws'.length, ws'.map wordV⟩ : Slot)) hw) (i := 0) (by omega)
  refine ⟨_, ⟨L2, h.prog, H2, set_self z1, set_other (set_other h.s1 (by omega)) (by omega), set_other (set_other h.s2 (by omega)) (by omega), set_other (set_other h.s3 (by omega)) (by omega), set_other (set_other h.s4 (by omega)) (by omega), ⟨ws', s5⟩, set_other (set_other h.s6 (by omega)) (by omega), h.cll, h.nwl, ?_, ?_⟩, s5⟩
  · intro i q hq
    obtain ⟨a2, N2, h1, h2, h3⟩ := h.news i q hq
    exact ⟨a2, N2, h1, set_other (set_other h2 (by omega)) (by omega), (h3.set (by omega) _).set (by omega) _⟩
  · intro i hi
    obtain ⟨h1, h2⟩ := h.none i hi
    exact ⟨h1, set_other (set_other h2 (by omega)) (by omega)⟩
theorem read_any {E : Env} {w : World} {V : Vals} {ss : List Slot} {S : St} (h : Rn E w V ss S) {m : Nat} {l : List Int} (ha : Asks E S m l) {vv : Value} {vs : List Int} (hv : IntsAt E.w0 vv vs) (hr : ∀ v ∈ vs, 0 ≤ v ∧ v < (l.length : Int)) (hvl : vs.length ≤ 1000000000) :
    Calls Tryz.prog 27 #[ptr E.B, vv] w fun e w' => ∃ wv', e = .returned wv' ∧ ∃ ss', Rn E w' { V with wv := wv' } ss' S ∧ HasW ss' { V with wv := wv' } (vs.map fun v => S.get v.toNat) := by
  obtain ⟨ws0, hw0⟩ := h.s5
  have hv0 := hv
  obtain ⟨va, vc, rfl, _⟩ := hv.form
  obtain ⟨b0, b1, b2, b3, b4, b5, b6, b7, b8, b9, b10, b11, b12, b13⟩ := h.box
  obtain ⟨a0, c0, v2, a1, c1, hwv, hc0, hv2, hsl, ho2, hb2⟩ := own_ends (h.heap.own 5 _ hw0) (Nat.zero_le _)
  dsimp only at hwv ho2 hb2 hsl
  rw [hwv] at b7
  refine (read_walk (bs := E.w0.heap.size) (B := E.B) (n := vs.length) (vc := vc) (va := va) (a0 := a0) (a1 := a1) (n0 := ws0.length) (c0 := c0) (c1 := c1) (w := w)
    (R := fun i wq => ∃ wv' ss', Rn E wq { V with wv := wv' } ss' S ∧ HasW ss' { V with wv := wv' } ((vs.take i).map fun v => S.get v.toNat))
    (Q := fun wv' wq => ∃ ss', Rn E wq { V with wv := wv' } ss' S ∧ HasW ss' { V with wv := wv' } (vs.map fun v => S.get v.toNat)) b7 (h.fz 7) (fun W => ?_) ?_ (by omega) (fun i wq hi hq => ?_) (fun wq hq => ?_))
  · have hs : ∀ W : World, (sizeOf (Tryz.prog.elem 23)).run Tryz.prog W = .ok 1 W := fun W => by kernel_rfl
    have hu : Tryz.prog.underlying 23 = some (.slice (Tryz.prog.elem 23)) := by kernel_rfl
    rw [run_slice_h W 23 _ _ _ hu .i64 0 (by omega) (by omega), hs]
    show Result.ok (sliced a0 0 0 c0 1) W = _
    rw [← hsl, hv2]
  · show ∃ wv' ss', _
    refine ⟨.slice a1 0 c1, ?_⟩
    rw [hv2] at ho2 hb2
    exact h.setW (ws' := []) hw0 (by simpa using ho2) ⟨rfl, rfl, rfl, Nat.le_refl _, fun _ _ _ => rfl⟩ (.inl hb2)
  · obtain ⟨wv', ss', hR, hW⟩ := hq
    obtain ⟨vg, vo, rfl, hvg, hcell⟩ := hv.get (i := i) hi
    have hge : vs[i]? = some (vs.getD i 0) := by rw [List.getD, List.getElem?_eq_getElem hi]; rfl
    obtain ⟨hv1, hv3⟩ := hr (vs.getD i 0) (List.mem_of_getElem? hge)
    obtain ⟨v, hvn⟩ : ∃ v : Nat, vs.getD i 0 = (v : Int) := Int.eq_ofNat_of_zero_le hv1
    rw [hvn] at hcell hv3
    have hlen : ((vs.take i).map fun v => S.get v.toNat).length = i := by rw [List.length_map, List.length_take]; omega
    have hown := hR.heap.own 5 _ hW
    have hown' : wq.ownsRow E.w0.heap.size 28 1 wv' i (((vs.take i).map fun v => S.get v.toNat).map wordV) := by
      have := hown
      unfold Slot.At at this
      dsimp only at this
      rw [hlen] at this
      exact this
    have hBl := (hR.heap.lt hR.s0).2
    have hne : ∀ g, wv'.ownBlock = some g → g ≠ E.B := fun g hg e => hR.heap.apart 5 0 _ _ g (by omega) hW hR.s0 hg (by rw [e]; rfl)
    have h7 := hR.box.2.2.2.2.2.2.2.1
    refine ⟨vg, vo, v, S.get v, wv', _, rfl, (hR.low.cell (p := ⟨vg, vo + i, none⟩) hvg).trans hcell, h7, fun k ob => ?_, hR.low.size, fun k => hown', fun W k hW' => by subst hW'; exact get_any (hR.drewN k) ha v (by omega), fun k ob w2 wv2 ho hg hat => ?_⟩
    · exact ((hR.drewN k).alloc ob).box.2.2.2.2.2.2.2.1
    · have hRA := (hR.drewN k).alloc ob
      have hBW : w2.heap[E.B]? = ((wq.drewN k).alloc ob).heap[E.B]? := hg.block E.B (hRA.heap.lt hRA.s0).2 (fun e => hne E.B e.symm rfl)
      refine ⟨(World.cell?_of_block (w := (wq.drewN k).alloc ob) (a := ⟨E.B, 7, none⟩) hBW).trans hRA.box.2.2.2.2.2.2.2.1, (World.frozen?_of_block (w := (wq.drewN k).alloc ob) (a := ⟨E.B, 7, none⟩) hBW).trans (hRA.fz 7), ?_⟩
      have e2 : (vs.take (i + 1)).map (fun v => S.get v.toNat) = (vs.take i).map (fun v => S.get v.toNat) ++ [S.get v] := by
        rw [List.take_add_one, List.map_append, hge, hvn]
        simp
      refine ⟨wv2, ?_⟩
      rw [e2]
      refine hRA.setW hW ?_ hg hat
      rw [List.length_append, hlen, List.map_append]
      exact ho
  · obtain ⟨wv', ss', hR, hW⟩ := hq
    rw [List.take_length] at hW
    exact ⟨wv', hR.box.2.2.2.2.2.2.2.1, ss', hR, hW⟩
end Go.Proofs.YtknbgpgefeahlaaGreatDoor
/- Phis are set: the walk. -/
namespace Go.Proofs.YtknbgpgefeahlaaGreatDoor
open Go.RowKit

set_option maxRecDepth 100000 in
set_option maxHeartbeats 4000000 in
theorem phis_walk {bs B C cb m pg po n qc tg tb bg bo bn bc ig io il ic pl hg ho an ac place np : Nat} {rv : Value} {a0 a1 : Option Addr} {n0 c0 c1 : Nat} {fr : Int} {fd : Bool} {w : World} {R1 : Nat → World → Prop} {R2 : Option Addr → Nat → Nat → World → Prop} {Q : World → Prop}
    (HNW : Hid (∀ W j, W = w.drewN j → Calls Tryz.prog 25 #[ptr B] W fun e w' => e = .returned (.pointer (some ⟨cb, m * 5, none⟩)) ∧ ∃ j, w' = W.drewN j))
    (b0 : w.cell? ⟨B, 0, none⟩ = some (.slice (some ⟨pg, po, none⟩) n qc)) (t0 : w.cell? ⟨cb, m * 5, none⟩ = some (.int .i64 (tg : Int))) (t1 : w.cell? ⟨cb, m * 5 + 1, none⟩ = some (.int .i64 (tb : Int))) (p5 : w.cell? ⟨pg, po + tg * 6 + 5, none⟩ = some (.slice (some ⟨bg, bo, none⟩) bn bc)) (q0 : w.cell? ⟨bg, bo + tb * 6, none⟩ = some (.slice (some ⟨ig, io, none⟩) il ic)) (htg : (tg : Int) < n) (htb : (tb : Int) < bn)
    (i0 : w.cell? ⟨ig, io, none⟩ = some (.int .u8 1)) (hil : (0 : Int) < il) (hilz : ((il : Int) == 0) = false) (hilb : (il : Int) ≤ 1000000000)
    (b3 : w.cell? ⟨B, 3, none⟩ = some (.slice (some ⟨C, 0, none⟩) pl pl)) (htp : (tg : Int) < pl) (k0 : w.cell? ⟨C, tg * 2, none⟩ = some (.slice (some ⟨hg, ho, none⟩) an ac)) (hta : (tb : Int) < an) (hr : w.cell? ⟨hg, ho + tb, none⟩ = some rv)
    (HB : Hid (∀ W k, W = w.drewN k → Calls Tryz.prog 102 #[rv, .int .i64 fr] W fun e w' => e = .returned (.tuple #[.int .i64 (place : Int), .bool fd]) ∧ ∃ k, w' = W.drewN k))
    (b7 : w.cell? ⟨B, 7, none⟩ = some (.slice a0 n0 c0)) (f7 : w.frozen? ⟨B, 7, none⟩ = false)
    (hs : ∀ W, (Instr.slice 23 (.slice a0 n0 c0) none (some (.int .i64 0)) none).run Tryz.prog W = .ok (.slice a1 0 c1) W)
    (HR0 : Hid (∀ k, R1 0 ((w.drewN k).setCell ⟨B, 7, none⟩ (.slice a1 0 c1)))) (hnp : np ≤ il)
    (HRS : Hid (∀ i wq, i < np → R1 i wq → ∃ (ag ao xn xc v : Nat) (x : Int) (wv : Value) (ws : List Value), wq.cell? ⟨ig, io + i * 6, none⟩ = some (.int .u8 1) ∧ wq.cell? ⟨ig, io + i * 6 + 3, none⟩ = some (.slice (some ⟨ag, ao, none⟩) xn xc) ∧ (place : Int) < xn ∧ wq.cell? ⟨ag, ao + place, none⟩ = some (.int .i64 (v : Int)) ∧ wq.cell? ⟨B, 7, none⟩ = some wv ∧ (∀ k ob, ((wq.drewN k).alloc ob).cell? ⟨B, 7, none⟩ = some wv) ∧ bs ≤ wq.heap.size ∧
      (∀ k, (wq.drewN k).ownsRow bs 28 1 wv i ws) ∧
      (∀ W k, W = wq.drewN k → Calls Tryz.prog 44 #[ptr B, .int .i64 (v : Int)] W fun e w' => e = .returned (.int .u64 x) ∧ ∃ k, w' = W.drewN k) ∧
      (∀ k ob w2 wv', w2.ownsRow bs 28 1 wv' (i + 1) (ws ++ [.int .u64 x]) → ((wq.drewN k).alloc ob).grownBy w2 wv.ownBlock → (wv'.ownBlock = wv.ownBlock ∨ wv'.ownBlock = some ((wq.drewN k).alloc ob).heap.size) → w2.cell? ⟨B, 7, none⟩ = some wv ∧ w2.frozen? ⟨B, 7, none⟩ = false ∧ R1 (i + 1) (w2.setCell ⟨B, 7, none⟩ wv'))))
    (HE1 : Hid (∀ wq, R1 np wq → (np < il → ∃ k : Int, wq.cell? ⟨ig, io + np * 6, none⟩ = some (.int .u8 k) ∧ (k == 1) = false) ∧ ∃ wa wc, wq.cell? ⟨B, 7, none⟩ = some (.slice wa np wc) ∧ R2 wa wc 0 wq))
    (HR2 : Hid (∀ wa wc i wq, i < np → R2 wa wc i wq → ∃ (wg wo d : Nat) (x : Int), wa = some ⟨wg, wo, none⟩ ∧ wq.cell? ⟨wg, wo + i, none⟩ = some (.int .u64 x) ∧ wq.cell? ⟨ig, io + i * 6 + 2, none⟩ = some (.int .i64 (d : Int)) ∧ ∀ W k, W = wq.drewN k → Calls Tryz.prog 42 #[ptr B, .int .i64 (d : Int), .int .u64 x] W fun e w' => e = .returned (.tuple #[]) ∧ R2 wa wc (i + 1) w'))
    (HE2 : Hid (∀ wa wc wq, R2 wa wc np wq → wq.cell? ⟨B, 7, none⟩ = some (.slice wa np wc) ∧ Q wq)) :
    Calls Tryz.prog 76 #[ptr B, .int .i64 fr] w fun e w' => e = .returned (.int .i64 (np : Int)) ∧ Q w' := by
  obtain ⟨i1, hi0, hz0, hz1, hz2⟩ := info_parts infoW
  go_enter Tryz.func76, Tryz.ntmps76
  go_wp2_with (go_at_call 25; refine Calls.mono (HNW.out _ 0 rfl) ?_; rintro e w1 ⟨rfl, kq, rfl⟩)
  go_quiet (fail)
  go_wp2
  go_quiet ((go_at_call 102; exact quiet_add2 (HB.out _ _ rfl)))
  go_wp2
  go_loopw [9] (fun vi wq => ∃ i : Nat, vi = .int .i64 i ∧ i ≤ np ∧ Hid (R1 i wq)) (fun vi _ => np - (intOf vi).toNat)
  case atStart => exact ⟨0, rfl, by omega, HR0.out _⟩
  case round =>
    obtain ⟨i, rfl, hi, hrr⟩ := hrel
    clear HR0 HB HNW b0 t0 t1 p5 q0 htg htb i0 b3 htp k0 hta hr b7 f7 hs
    by_cases hin : i < np
    · obtain ⟨ag, ao, xn, xc, v, x, wv, ws, ck, c3, hpl, cv, b7, b7', hbs0, ho0, hg0, hx0⟩ := HRS.out i wr hin hrr.out
      have hin' : (i : Int) < il := by omega
      have HG : Hid _ := hg0
      have HO : Hid _ := ho0
      have HX : Hid _ := hx0
      have HBS : Hid _ := hbs0
      have HIB : Hid (i ≤ 1000000000) := by show _ ≤ _; omega
      clear hg0 ho0 hx0 hbs0 HRS HE1 HR2 HE2 hrr
      go_wp2
      go_region_law (first
        | (refine step_append_own rfl (.tmp 90) (.tmp 101) 23 rfl bs 28 i1 (.int .u64 0) 1 8 Tryz.underlying23 hi0 hz0 hz1 hz2 rfl (by decide) wv i ws ?e1 ?e2 ⟨wr.heap.size, 0, none⟩ 1 1 [.int .u64 x] ?e3 rfl ?e4 ?e5 ?e6 ?e7 ?e8 ?_; (case e1 => simp [Act.eval]); (case e2 => exact (HO.out _).alloc _); (case e3 => simp [Act.eval]); (case e4 => exact cell_one_new _ _ _); (case e5 => intro u hu; simp at hu; subst hu; rfl); (case e6 => have := HIB.out; unfold maxLen; omega); (case e7 => have := HIB.out; omega); (case e8 => have := HBS.out; simp; omega); intro v2 w2 ho hg2 hat; obtain ⟨g2, cc2, rfl, _, _, _, _⟩ := own_form ho; obtain ⟨q1, q2, hrr⟩ := HX.out _ _ w2 _ ho hg2 hat; have HQ : Hid (R1 _ _) := hrr; clear ho hg2 hat hrr)
        | (go_simp; go_at_call 44; refine Calls.mono (HG.out _ 1 rfl) ?_; rintro e w1 ⟨rfl, kt, rfl⟩))
      all_goals (
        go_wp2
        go_roundw
        case rel => exact ⟨i + 1, by first | rfl | (congr 1; omega), by omega, HQ⟩
        case measure => simp [intOf]; omega)
    · obtain rfl : i = np := by omega
      obtain ⟨hstop, wa, wc', b7, hr20⟩ := HE1.out wr hrr.out
      have HR20 : Hid _ := hr20
      clear hr20 HE1 HRS hrr
      have hib : (i : Int) ≤ 1000000000 := by omega
      by_cases hil2 : i < il
      · obtain ⟨k, ck, hk⟩ := hstop hil2
        have hil3 : (i : Int) < il := by omega
        clear hstop
        generalize wr = wo at *
        go_wp2
        go_loopw [110] (fun vi wq => ∃ j : Nat, vi = .int .i64 j ∧ j ≤ i ∧ Hid (R2 wa wc' j wq)) (fun vi _ => i - (intOf vi).toNat)
        case atStart => exact ⟨0, rfl, by omega, HR20⟩
        case round =>
          obtain ⟨j, rfl, hj, hrj⟩ := hrel
          clear HR20 b7
          by_cases hjn : j < i
          · obtain ⟨wg, wo2, d, x, rfl, cx, cd, hset⟩ := HR2.out wa wc' j wr hjn hrj.out
            have hjn' : (j : Int) < i := by omega
            have hjl : (j : Int) < il := by omega
            have HT : Hid _ := hset
            clear hset HR2 HE2 hrj
            go_wp2_with (go_at_call 42; refine Calls.mono (HT.out _ 0 rfl) ?_; rintro e w6 ⟨rfl, hr2⟩; have HR3 : Hid _ := hr2; clear hr2)
            go_roundw
            case rel => exact ⟨j + 1, by first | rfl | (congr 1; omega), by omega, HR3⟩
            case measure => simp [intOf]; omega
          · obtain rfl : j = i := by omega
            obtain ⟨b7, hq⟩ := HE2.out wa wc' wr hrj.out
            clear HE2 HR2 hrj
            go_wp2
            go_ret
            exact ⟨rfl, hq⟩
      · have hil3 : (il : Int) ≤ i := by omega
        have hil4 : ¬ (i : Int) < il := by omega
        clear hstop
        generalize wr = wo at *
        go_wp2
        go_loopw [110] (fun vi wq => ∃ j : Nat, vi = .int .i64 j ∧ j ≤ i ∧ Hid (R2 wa wc' j wq)) (fun vi _ => i - (intOf vi).toNat)
        case atStart => exact ⟨0, rfl, by omega, HR20⟩
        case round =>
          obtain ⟨j, rfl, hj, hrj⟩ := hrel
          clear HR20 b7
          by_cases hjn : j < i
          · obtain ⟨wg, wo2, d, x, rfl, cx, cd, hset⟩ := HR2.out wa wc' j wr hjn hrj.out
            have hjn' : (j : Int) < i := by omega
            have hjl : (j : Int) < il := by omega
            have HT : Hid _ := hset
            clear hset HR2 HE2 hrj
            go_wp2_with (go_at_call 42; refine Calls.mono (HT.out _ 0 rfl) ?_; rintro e w6 ⟨rfl, hr2⟩; have HR3 : Hid _ := hr2; clear hr2)
            go_roundw
            case rel => exact ⟨j + 1, by first | rfl | (congr 1; omega), by omega, HR3⟩
            case measure => simp [intOf]; omega
          · obtain rfl : j = i := by omega
            obtain ⟨b7, hq⟩ := HE2.out wa wc' wr hrj.out
            clear HE2 HR2 hrj
            go_wp2
            go_ret
            exact ⟨rfl, hq⟩
end Go.Proofs.YtknbgpgefeahlaaGreatDoor
