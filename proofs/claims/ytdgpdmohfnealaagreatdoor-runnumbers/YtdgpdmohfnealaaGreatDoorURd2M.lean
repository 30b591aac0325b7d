/- Phis: a block that has none. -/
import Derived.Test.YtdgpdmohfnealaaGreatDoorUTell2M
import Derived.Test.YtdgpdmohfnealaaGreatDoorUForg2M
namespace Go.Proofs.YtdgpdmohfnealaaGreatDoor
open Go.RowKit

set_option maxRecDepth 100000 in
set_option maxHeartbeats 1000000 in
theorem phis_empty_walk {B cb m pg po n qc tg tb bg bo bn bc ic : Nat} {ia : Option Addr} {fr : Int} {w : World}
    (HNW : Hid (∀ W j, W = w.drewN j → Calls Tryz.prog 17 #[ptr B] W fun e w' => e = .returned (.pointer (some ⟨cb, m * 5, none⟩)) ∧ ∃ j, w' = W.drewN j))
    (b0 : w.cell? ⟨B, 0, none⟩ = some (.slice (some ⟨pg, po, none⟩) n qc)) (t0 : w.cell? ⟨cb, m * 5, none⟩ = some (.int .i64 (tg : Int))) (t1 : w.cell? ⟨cb, m * 5 + 1, none⟩ = some (.int .i64 (tb : Int))) (p5 : w.cell? ⟨pg, po + tg * 6 + 5, none⟩ = some (.slice (some ⟨bg, bo, none⟩) bn bc)) (q0 : w.cell? ⟨bg, bo + tb * 6, none⟩ = some (.slice ia 0 ic)) (htg : (tg : Int) < n) (htb : (tb : Int) < bn) :
    Calls Tryz.prog 59 #[ptr B, .int .i64 fr] w fun e w' => e = .returned (.int .i64 0) ∧ ∃ k, w' = w.drewN k := by
  go_enter Tryz.func59, Tryz.ntmps59
  go_wp2_with (go_at_call 17; refine Calls.mono (HNW.out _ 0 rfl) ?_; rintro e w1 ⟨rfl, kq, rfl⟩)
  go_quiet (fail)
  go_wp2
  go_ret
  exact ⟨rfl, _, rfl⟩
set_option maxRecDepth 100000 in
set_option maxHeartbeats 1000000 in
theorem phis_none_walk {B cb m pg po n qc tg tb bg bo bn bc ig io il ic : Nat} {k fr : Int} {w : World}
    (HNW : Hid (∀ W j, W = w.drewN j → Calls Tryz.prog 17 #[ptr B] W fun e w' => e = .returned (.pointer (some ⟨cb, m * 5, none⟩)) ∧ ∃ j, w' = W.drewN j))
    (b0 : w.cell? ⟨B, 0, none⟩ = some (.slice (some ⟨pg, po, none⟩) n qc)) (t0 : w.cell? ⟨cb, m * 5, none⟩ = some (.int .i64 (tg : Int))) (t1 : w.cell? ⟨cb, m * 5 + 1, none⟩ = some (.int .i64 (tb : Int))) (p5 : w.cell? ⟨pg, po + tg * 6 + 5, none⟩ = some (.slice (some ⟨bg, bo, none⟩) bn bc)) (q0 : w.cell? ⟨bg, bo + tb * 6, none⟩ = some (.slice (some ⟨ig, io, none⟩) (il + 1) ic)) (htg : (tg : Int) < n) (htb : (tb : Int) < bn)
    (i0 : w.cell? ⟨ig, io, none⟩ = some (.int .u8 k)) (hk : (k != 1) = true) :
    Calls Tryz.prog 59 #[ptr B, .int .i64 fr] w fun e w' => e = .returned (.int .i64 0) ∧ ∃ k, w' = w.drewN k := by
  have hz : ((il : Int) + 1 == 0) = false := by simpa using (by omega : ¬ ((il : Int) + 1 = 0))
  have hlt : (0 : Int) < (il : Int) + 1 := by omega
  go_enter Tryz.func59, Tryz.ntmps59
  go_wp2_with (go_at_call 17; refine Calls.mono (HNW.out _ 0 rfl) ?_; rintro e w1 ⟨rfl, kq, rfl⟩)
  go_quiet (fail)
  go_wp2
  go_ret
  exact ⟨rfl, _, rfl⟩
end Go.Proofs.YtdgpdmohfnealaaGreatDoor
/- A word is shown: what is kept. -/
namespace Go.Proofs.YtdgpdmohfnealaaGreatDoor
open Go.RowKit

/-- A show more. -/
theorem Rn.show {E : Env} {W w2 : World} {V : Vals} {ss : List Slot} {S : St} (h : Rn E W V ss S) {sv' : Value} {t x : Int}
    (ho : w2.ownsRow E.w0.heap.size 54 2 sv' (S.shows.length + 1) (flat shCells S.shows ++ shCells (t, x))) (hgr : W.grownBy w2 V.sv.ownBlock) (hat : sv'.ownBlock = V.sv.ownBlock ∨ sv'.ownBlock = some W.heap.size) :
    ∃ ss', Rn E (w2.setCell ⟨E.B, 8, Option.none⟩ sv') { V with sv := sv' } ss' { S with shows := S.shows ++ [(t, x)] } := by
  have ho' : (⟨sv', 54, 2, S.shows.length + 1, flat shCells S.shows ++ shCells (t, x)⟩ : Slot).At w2 E.w0.heap.size := ho
  have H1 := h.heap.grow h.s6 ho' hgr hat
  have L1 : Below E.w0.heap.size E.w0 w2 := below_grown h.low hgr (fun g hg => ((h.heap.own 6 _ h.s6).lt g hg).1)
  have z1 : (ss.set 6 ⟨sv', 54, 2, S.shows.length + 1, flat shCells S.shows ++ shCells (t, x)⟩)[0]? = _ := set_other h.s0 (by omega)
  have H2 := H1.store z1 8 sv'
  have L2 := below_set L1 (H1.lt z1).1 8 sv'
  refine ⟨_, L2, h.prog, H2, ?_, ?_, ?_, ?_, ?_, ?_, ?_, h.cll, h.nwl, ?_, ?_⟩
  · exact set_self z1
  · exact set_other (set_other h.s1 (by omega)) (by omega)
  · exact set_other (set_other h.s2 (by omega)) (by omega)
  · exact set_other (set_other h.s3 (by omega)) (by omega)
  · exact set_other (set_other h.s4 (by omega)) (by omega)
  · obtain ⟨ws, hw⟩ := h.s5
    exact ⟨ws, set_other (set_other hw (by omega)) (by omega)⟩
  · have e1 : flat shCells S.shows ++ shCells (t, x) = flat shCells (S.shows ++ [(t, x)]) := (flat_snoc _ _ _).symm
    have e2 : S.shows.length + 1 = (S.shows ++ [(t, x)]).length := by simp
    have := set_other (b := (⟨.slice (some ⟨E.B, 0, Option.none⟩) 1 1, 64, 14, 1, (rnCells E V S).set 8 sv'⟩ : Slot)) (set_self (b := (⟨sv', 54, 2, S.shows.length + 1, flat shCells S.shows ++ shCells (t, x)⟩ : Slot)) h.s6) (i := 0) (by omega)
    rw [this, e1, e2]
  · intro i q hq
    obtain ⟨a2, N2, h1, h2, h3⟩ := h.news i q hq
    exact ⟨a2, N2, h1, set_other (set_other h2 (by omega)) (by omega), (h3.set (by omega) _).set (by omega) _⟩
  · intro i hi
    obtain ⟨h1, h2⟩ := h.none i hi
    exact ⟨h1, set_other (set_other h2 (by omega)) (by omega)⟩
theorem infoSh : (Tryz.prog.info? 54).map (fun i => (i.zero, i.size, i.bytes)) = some (some (.agg #[.int .u8 0, .int .u64 0]), 2, 16) := by kernel_rfl
theorem cells2_new {w : World} {B : Nat} (hB : B = w.heap.size) (x0 x1 : Value) (t : TypeId) : ∀ j u, [x0, x1][j]? = some u → (w.alloc (.cells #[x0, x1] t)).cell? ((⟨B, 0, none⟩ : Addr).add j) = some u := by
  subst hB
  intro j u hu
  have h := (Box.new w [x0, x1] t).cell j u hu
  rw [Addr.add_lit, Nat.zero_add]
  exact h
end Go.Proofs.YtdgpdmohfnealaaGreatDoor
/- Words are read: the walk. -/
namespace Go.Proofs.YtdgpdmohfnealaaGreatDoor
open Go.RowKit

set_option maxRecDepth 100000 in
set_option maxHeartbeats 4000000 in
theorem read_walk {bs B n vc : Nat} {va : Option Addr} {a0 a1 : Option Addr} {n0 c0 c1 : Nat} {w : World} {R : Nat → World → Prop} {Q : Value → World → Prop}
    (b7 : w.cell? ⟨B, 7, none⟩ = some (.slice a0 n0 c0)) (f7 : w.frozen? ⟨B, 7, none⟩ = false)
    (hs : ∀ W, (Instr.slice 33 (.slice a0 n0 c0) none (some (.int .i64 0)) none).run Tryz.prog W = .ok (.slice a1 0 c1) W)
    (HR0 : Hid (R 0 (w.setCell ⟨B, 7, none⟩ (.slice a1 0 c1)))) (hnb : (n : Int) ≤ 1000000000)
    (HRS : Hid (∀ i wq, i < n → R i wq → ∃ (vg vo v : Nat) (x : Int) (wv : Value) (ws : List Value), va = some ⟨vg, vo, none⟩ ∧ wq.cell? ⟨vg, vo + i, none⟩ = some (.int .i64 (v : Int)) ∧ wq.cell? ⟨B, 7, none⟩ = some wv ∧ (∀ k ob, ((wq.drewN k).alloc ob).cell? ⟨B, 7, none⟩ = some wv) ∧ bs ≤ wq.heap.size ∧
      (∀ k, (wq.drewN k).ownsRow bs 24 1 wv i ws) ∧
      (∀ W k, W = wq.drewN k → Calls Tryz.prog 33 #[ptr B, .int .i64 (v : Int)] W fun e w' => e = .returned (.int .u64 x) ∧ ∃ k, w' = W.drewN k) ∧
      (∀ k ob w2 wv', w2.ownsRow bs 24 1 wv' (i + 1) (ws ++ [.int .u64 x]) → ((wq.drewN k).alloc ob).grownBy w2 wv.ownBlock → (wv'.ownBlock = wv.ownBlock ∨ wv'.ownBlock = some ((wq.drewN k).alloc ob).heap.size) → w2.cell? ⟨B, 7, none⟩ = some wv ∧ w2.frozen? ⟨B, 7, none⟩ = false ∧ R (i + 1) (w2.setCell ⟨B, 7, none⟩ wv'))))
    (HE : Hid (∀ wq, R n wq → ∃ wv, wq.cell? ⟨B, 7, none⟩ = some wv ∧ Q wv wq)) :
    Calls Tryz.prog 19 #[ptr B, .slice va n vc] w fun e w' => ∃ wv, e = .returned wv ∧ Q wv w' := by
  obtain ⟨i0, hi0, hz0, hz1, hz2⟩ := info_parts infoW
  go_enter Tryz.func19, Tryz.ntmps19
  go_wp2
  go_loopw [17] (fun vi wq => ∃ i : Nat, vi = .int .i64 i ∧ i ≤ n ∧ Hid (R i wq)) (fun vi _ => n - (intOf vi).toNat)
  case atStart => exact ⟨0, rfl, by omega, HR0⟩
  case round =>
    obtain ⟨i, rfl, hi, hr⟩ := hrel
    clear HR0 b7 f7
    by_cases hin : i < n
    · obtain ⟨vg, vo, v, x, wv, ws, rfl, cv, b7, b7', hbs0, ho0, hg0, hx0⟩ := HRS.out i wr hin hr.out
      have hin' : (i : Int) < n := by omega
      have HG : Hid _ := hg0
      have HO : Hid _ := ho0
      have HX : Hid _ := hx0
      have HBS : Hid _ := hbs0
      have HIB : Hid (i ≤ 1000000000) := by show _ ≤ _; omega
      clear hg0 ho0 hx0 hbs0 HRS HE hr
      go_wp2
      go_region_law (first
        | (refine step_append_own rfl (.tmp 25) (.tmp 29) 33 rfl bs 24 i0 (.int .u64 0) 1 8 Tryz.underlying33 hi0 hz0 hz1 hz2 rfl (by decide) wv i ws ?e1 ?e2 ⟨wr.heap.size, 0, none⟩ 1 1 [.int .u64 x] ?e3 rfl ?e4 ?e5 ?e6 ?e7 ?e8 ?_; (case e1 => simp [Act.eval]); (case e2 => exact (HO.out _).alloc _); (case e3 => simp [Act.eval]); (case e4 => exact cell_one_new _ _ _); (case e5 => intro u hu; simp at hu; subst hu; rfl); (case e6 => have := HIB.out; unfold maxLen; omega); (case e7 => have := HIB.out; omega); (case e8 => have := HBS.out; simp; omega); intro v2 w2 ho hg2 hat; obtain ⟨g2, cc2, rfl, _, _, _, _⟩ := own_form ho; obtain ⟨q1, q2, hrr⟩ := HX.out _ _ w2 _ ho hg2 hat; have HQ : Hid (R _ _) := hrr; clear ho hg2 hat hrr)
        | (go_simp; go_at_call 33; refine Calls.mono (HG.out _ 1 rfl) ?_; rintro e w1 ⟨rfl, kt, rfl⟩))
      all_goals (
        go_wp2
        go_roundw
        case rel => exact ⟨i + 1, by first | rfl | (congr 1; omega), by omega, HQ⟩
        case measure => simp [intOf]; omega)
    · obtain rfl : i = n := by omega
      obtain ⟨wv, b7, hq⟩ := HE.out wr hr.out
      clear HE HRS
      go_wp2
      go_ret
      exact ⟨wv, rfl, hq⟩
end Go.Proofs.YtdgpdmohfnealaaGreatDoor
/- Words are read. -/
namespace Go.Proofs.YtdgpdmohfnealaaGreatDoor
open Go.RowKit

/-- The words that were read. -/
def HasW (ss : List Slot) (V : Vals) (ws : List Int) : Prop := ss[5]? = some ⟨V.wv, 24, 1, ws.length, ws.map wordV⟩
theorem Rn.setW {E : Env} {W w2 : World} {V : Vals} {ss : List Slot} {S : St} (h : Rn E W V ss S) {wv' : Value} {ws ws' : List Int} (hw : HasW ss V ws)
    (ho : w2.ownsRow E.w0.heap.size 24 1 wv' ws'.length (ws'.map wordV)) (hgr : W.grownBy w2 V.wv.ownBlock) (hat : wv'.ownBlock = V.wv.ownBlock ∨ wv'.ownBlock = some W.heap.size) :
    ∃ ss', Rn E (w2.setCell ⟨E.B, 7, Option.none⟩ wv') { V with wv := wv' } ss' S ∧ HasW ss' { V with wv := wv' } ws' := by
  have ho' : (⟨wv', 24, 1, ws'.length, ws'.map wordV⟩ : Slot).At w2 E.w0.heap.size := ho
  have H1 := h.heap.grow hw ho' hgr hat
  have L1 : Below E.w0.heap.size E.w0 w2 := below_grown h.low hgr (fun g hg => ((h.heap.own 5 _ hw).lt g hg).1)
  have z1 : (ss.set 5 ⟨wv', 24, 1, ws'.length, ws'.map wordV⟩)[0]? = _ := set_other h.s0 (by omega)
  have H2 := H1.store z1 7 wv'
  have L2 := below_set L1 (H1.lt z1).1 7 wv'
  have s5 := set_other (b := (⟨.slice (some ⟨E.B, 0, Option.none⟩) 1 1, 64, 14, 1, (rnCells E V S).set 7 wv'⟩ : Slot)) (set_self (b := (⟨wv', 24, 1, ws'.length, ws'.map wordV⟩ : Slot)) hw) (i := 0) (by omega)
  refine ⟨_, ⟨L2, h.prog, H2, set_self z1, set_other (set_other h.s1 (by omega)) (by omega), set_other (set_other h.s2 (by omega)) (by omega), set_other (set_other h.s3 (by omega)) (by omega), set_other (set_other h.s4 (by omega)) (by omega), ⟨ws', s5⟩, set_other (set_other h.s6 (by omega)) (by omega), h.cll, h.nwl, ?_, ?_⟩, s5⟩
  · intro i q hq
    obtain ⟨a2, N2, h1, h2, h3⟩ := h.news i q hq
    exact ⟨a2, N2, h1, set_other (set_other h2 (by omega)) (by omega), (h3.set (by omega) _).set (by omega) _⟩
  · intro i hi
    obtain ⟨h1, h2⟩ := h.none i hi
    exact ⟨h1, set_other (set_other h2 (by omega)) (by omega)⟩
theorem read_any {E : Env} {w : World} {V : Vals} {ss : List Slot} {S : St} (h : Rn E w V ss S) {m : Nat} {l : List Int} (ha : Asks E S m l) {vv : Value} {vs : List Int} (hv : IntsAt E.w0 vv vs) (hr : ∀ v ∈ vs, 0 ≤ v ∧ v < (l.length : Int)) (hvl : vs.length ≤ 1000000000) :
    Calls Tryz.prog 19 #[ptr E.B, vv] w fun e w' => ∃ wv', e = .returned wv' ∧ ∃ ss', Rn E w' { V with wv := wv' } ss' S ∧ HasW ss' { V with wv := wv' } (vs.map fun v => S.get v.toNat) := by
  obtain ⟨ws0, hw0⟩ := h.s5
  have hv0 := hv
  obtain ⟨va, vc, rfl, _⟩ := hv.form
  obtain ⟨b0, b1, b2, b3, b4, b5, b6, b7, b8, b9, b10, b11, b12, b13⟩ := h.box
  obtain ⟨a0, c0, v2, a1, c1, hwv, hc0, hv2, hsl, ho2, hb2⟩ := own_ends (h.heap.own 5 _ hw0) (Nat.zero_le _)
  dsimp only at hwv ho2 hb2 hsl
  rw [hwv] at b7
  refine (read_walk (bs := E.w0.heap.size) (B := E.B) (n := vs.length) (vc := vc) (va := va) (a0 := a0) (a1 := a1) (n0 := ws0.length) (c0 := c0) (c1 := c1) (w := w)
    (R := fun i wq => ∃ wv' ss', Rn E wq { V with wv := wv' } ss' S ∧ HasW ss' { V with wv := wv' } ((vs.take i).map fun v => S.get v.toNat))
    (Q := fun wv' wq => ∃ ss', Rn E wq { V with wv := wv' } ss' S ∧ HasW ss' { V with wv := wv' } (vs.map fun v => S.get v.toNat)) b7 (h.fz 7) (fun W => ?_) ?_ (by omega) (fun i wq hi hq => ?_) (fun wq hq => ?_))
  · have hs : ∀ W : World, (sizeOf (Tryz.prog.elem 33)).run Tryz.prog W = .ok 1 W := fun W => by kernel_rfl
    have hu : Tryz.prog.underlying 33 = some (.slice (Tryz.prog.elem 33)) := by kernel_rfl
    rw [run_slice_h W 33 _ _ _ hu .i64 0 (by omega) (by omega), hs]
    show Result.ok (sliced a0 0 0 c0 1) W = _
    rw [← hsl, hv2]
  · show ∃ wv' ss', _
    refine ⟨.slice a1 0 c1, ?_⟩
    rw [hv2] at ho2 hb2
    exact h.setW (ws' := []) hw0 (by simpa using ho2) ⟨rfl, rfl, rfl, Nat.le_refl _, fun _ _ _ => rfl⟩ (.inl hb2)
  · obtain ⟨wv', ss', hR, hW⟩ := hq
    obtain ⟨vg, vo, rfl, hvg, hcell⟩ := hv.get (i := i) hi
    have hge : vs[i]? = some (vs.getD i 0) := by rw [List.getD, List.getElem?_eq_getElem hi]; rfl
    obtain ⟨hv1, hv3⟩ := hr (vs.getD i 0) (List.mem_of_getElem? hge)
    obtain ⟨v, hvn⟩ : ∃ v : Nat, vs.getD i 0 = (v : Int) := Int.eq_ofNat_of_zero_le hv1
    rw [hvn] at hcell hv3
    have hlen : ((vs.take i).map fun v => S.get v.toNat).length = i := by rw [List.length_map, List.length_take]; omega
    have hown := hR.heap.own 5 _ hW
    have hown' : wq.ownsRow E.w0.heap.size 24 1 wv' i (((vs.take i).map fun v => S.get v.toNat).map wordV) := by
      have := hown
      unfold Slot.At at this
      dsimp only at this
      rw [hlen] at this
      exact this
    have hBl := (hR.heap.lt hR.s0).2
    have hne : ∀ g, wv'.ownBlock = some g → g ≠ E.B := fun g hg e => hR.heap.apart 5 0 _ _ g (by omega) hW hR.s0 hg (by rw [e]; rfl)
    have h7 := hR.box.2.2.2.2.2.2.2.1
    refine ⟨vg, vo, v, S.get v, wv', _, rfl, (hR.low.cell (p := ⟨vg, vo + i, none⟩) hvg).trans hcell, h7, fun k ob => ?_, hR.low.size, fun k => hown', fun W k hW' => by subst hW'; exact get_any (hR.drewN k) ha v (by omega), fun k ob w2 wv2 ho hg hat => ?_⟩
    · exact ((hR.drewN k).alloc ob).box.2.2.2.2.2.2.2.1
    · have hRA := (hR.drewN k).alloc ob
      have hBW : w2.heap[E.B]? = ((wq.drewN k).alloc ob).heap[E.B]? := hg.block E.B (hRA.heap.lt hRA.s0).2 (fun e => hne E.B e.symm rfl)
      refine ⟨(World.cell?_of_block (w := (wq.drewN k).alloc ob) (a := ⟨E.B, 7, none⟩) hBW).trans hRA.box.2.2.2.2.2.2.2.1, (World.frozen?_of_block (w := (wq.drewN k).alloc ob) (a := ⟨E.B, 7, none⟩) hBW).trans (hRA.fz 7), ?_⟩
      have e2 : (vs.take (i + 1)).map (fun v => S.get v.toNat) = (vs.take i).map (fun v => S.get v.toNat) ++ [S.get v] := by
        rw [List.take_add_one, List.map_append, hge, hvn]
        simp
      refine ⟨wv2, ?_⟩
      rw [e2]
      refine hRA.setW hW ?_ hg hat
      rw [List.length_append, hlen, List.map_append]
      exact ho
  · obtain ⟨wv', ss', hR, hW⟩ := hq
    rw [List.take_length] at hW
    exact ⟨wv', hR.box.2.2.2.2.2.2.2.1, ss', hR, hW⟩
end Go.Proofs.YtdgpdmohfnealaaGreatDoor
