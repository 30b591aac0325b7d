/- Phis are set. -/
import Derived.Test.YtdgpdmohfnealaaGreatDoorUPhi2
import Derived.Test.YtdgpdmohfnealaaGreatDoorUBeg2M
import Derived.Test.YtdgpdmohfnealaaGreatDoorShelf
import Derived.Test.YtdgpdmohfnealaaGreatDoorUSet2M
import Derived.Test.YtdgpdmohfnealaaGreatDoorUTell2M
namespace Go.Proofs.YtdgpdmohfnealaaGreatDoor
open Go.RowKit

/-- The search for a block among those ahead, in a row of one's own. -/
theorem search_own {w : World} {base : Nat} {v : Value} {r : List Int} (h : w.ownsRow base 3 1 v r.length (r.map intV)) (hs : r.Pairwise (· ≤ ·)) (hl : r.length < 4611686018427387904) (x : Int) :
    Calls Tryz.prog 76 #[v, .int .i64 x] w fun e w' => e = .returned (.tuple #[.int .i64 (r.countP (· < x) : Nat), .bool (r.contains x)]) ∧ ∃ q, w' = w.drewN q := by
  rcases own_shape h with ⟨rfl, hn⟩ | ⟨g, c, rfl, _, _, _, _⟩
  · have hr : r = [] := List.eq_nil_of_length_eq_zero hn
    subst hr
    refine (Tryz.slices_BinarySearch_int_empty none 0 x w).mono ?_
    rintro e w' ⟨rfl, rfl⟩
    exact ⟨rfl, 0, rfl⟩
  · refine (Tryz.slices_BinarySearch_int g 0 r.length c r x w (Nat.le_refl _) hl (fun j hj => ?_) (by rw [List.take_length]; exact hs)).mono ?_
    · rw [Nat.zero_add, h.cellAt j (by omega), List.getElem?_map, List.getElem?_eq_getElem hj]
      simp [List.getD, List.getElem?_eq_getElem hj]
    · rintro e w' ⟨rfl, q, rfl⟩
      rw [List.take_length]
      exact ⟨rfl, q, rfl⟩
/-- What the phis of a block set. -/
def phiSets (S : St) (I : List In) (place np : Nat) : List (Nat × Int) := (List.range np).map fun i => ((I.getD i default).dst.toNat, S.get ((I.getD i default).args.getD place 0).toNat)
theorem setPhis_any {E : Env} {w : World} {V : Vals} {ss : List Slot} {S : St} (h : Rn E w V ss S) {m : Nat} {l : List Int} (ha : Asks E S m l) (htg : S.top.g < E.P.length) (htb : S.top.b < (E.P.getD S.top.g default).blocks.length) {I : List In} (hI : ((E.P.getD S.top.g default).blocks.getD S.top.b default).ins = I) {np : Nat} (h0 : 0 < np) (hnp : np ≤ I.length) (hIb : I.length ≤ 1000000)
    {row : List Int} (hrow : (aheadT (tms (E.P.getD S.top.g default).blocks))[S.top.b]? = some row) (hsort : row.Pairwise (· ≤ ·)) (hrl : row.length < 4611686018427387904) (fr : Int)
    (hphi : ∀ i, i < np → (I.getD i default).kind = 1 ∧ row.countP (· < fr) < (I.getD i default).args.length ∧ (0 ≤ (I.getD i default).args.getD (row.countP (· < fr)) 0 ∧ (I.getD i default).args.getD (row.countP (· < fr)) 0 < (l.length : Int)) ∧ 0 ≤ (I.getD i default).dst ∧ (I.getD i default).dst < (l.length : Int))
    (hstop : np < I.length → ¬ (I.getD np default).kind = 1) (hkl : S.kept.length + np ≤ 1000000000) :
    Calls Tryz.prog 59 #[ptr E.B, .int .i64 fr] w fun e w' => e = .returned (.int .i64 (np : Int)) ∧ ∃ wv' kv' ss', Rn E w' { V with wv := wv', kv := kv' } ss' (S.sets (phiSets S I (row.countP (· < fr)) np)) := by
  obtain ⟨b0, b1, b2, b3, b4, b5, b6, b7, b8, b9, b10, b11, b12, b13⟩ := h.box
  obtain ⟨cb, cc, hcv, _, _, _, t0, t1, _, _, _⟩ := h.last ha.hm
  obtain ⟨a, N, _, _, k0, _, _, _, _, hah⟩ := h.new ha.hg
  obtain ⟨ja, kvs, hgA, hja, rfl, hA1, hA2, hA3⟩ := hah
  obtain ⟨kv0, hkv0⟩ : ∃ kv0, kvs[S.top.b]? = some kv0 := ⟨_, List.getElem?_eq_getElem (by rw [hA2]; exact (List.getElem?_eq_some_iff.1 hrow).1)⟩
  have hAc := h.heap.cell hA1 hkv0
  have hAr := hA3 _ _ _ hrow hkv0
  rw [hcv] at b4
  obtain ⟨ws0, hw0⟩ := h.s5
  obtain ⟨a0, c0, v2, a1, c1, hwv, hc0, hv2, hsl, ho2, hb2⟩ := own_ends (h.heap.own 5 _ hw0) (Nat.zero_le _)
  dsimp only at hwv ho2 hb2 hsl
  rw [hwv] at b7
  have hp := h.prog
  obtain ⟨qa, qc, hq, _⟩ := hp.form
  rw [hq] at hp
  obtain ⟨pg, po, pv, vv, av, bv, rfl, hlt, _, _, _, _, _, c5, hG⟩ := hp.get htg
  obtain ⟨_, _, _, _, _, _, ba, bc, _, _, _, hbv, _, _, _, _⟩ := hG.openF
  have hbs := hG.bs
  rw [hbv] at hbs c5
  obtain ⟨bg, bo, iv, rfl, hbg, d0, _, _, _, _, _, hins⟩ := hbs.get htb
  rw [hI] at hins
  obtain ⟨ia, ic, hiv, hil⟩ := hins.form
  rw [hiv] at hins d0
  obtain ⟨ig, io, _, rfl, hig, ik0, _, _, _, _, _, _⟩ := hins.get (i := 0) (by omega)
  have hget : ∀ i, i < I.length → ∃ xav, E.w0.cell? ⟨ig, io + i * 6, none⟩ = some (.int .u8 (I.getD i default).kind) ∧ E.w0.cell? ⟨ig, io + i * 6 + 2, none⟩ = some (.int .i64 (I.getD i default).dst) ∧ E.w0.cell? ⟨ig, io + i * 6 + 3, none⟩ = some xav ∧ IntsAt E.w0 xav (I.getD i default).args := fun i hi => by
    obtain ⟨ig', io', xav, e, _, x0, _, x2, x3, _, _, x6⟩ := hins.get (i := i) hi
    cases e
    exact ⟨xav, x0, x2, x3, x6⟩
  obtain ⟨place, hplace⟩ : ∃ place, place = row.countP (· < fr) := ⟨_, rfl⟩
  rw [← hplace] at hphi ⊢
  have low : ∀ (W : World) (V' : Vals) (ss' : List Slot) (S' : St), Rn E W V' ss' S' → ∀ g j, g < E.w0.heap.size → W.cell? ⟨g, j, none⟩ = E.w0.cell? ⟨g, j, none⟩ := fun W V' ss' S' hR g j hg => hR.low.cell (p := ⟨g, j, none⟩) hg
  obtain ⟨xw, hxw⟩ : ∃ xw : List Int, xw = (List.range np).map fun i => S.get ((I.getD i default).args.getD place 0).toNat := ⟨_, rfl⟩
  have hxl : xw.length = np := by rw [hxw]; simp
  have hxi : ∀ i, i < np → xw[i]? = some (S.get ((I.getD i default).args.getD place 0).toNat) := fun i hi => by rw [hxw, List.getElem?_map, List.getElem?_range hi]; rfl
  obtain ⟨qs, hqs⟩ : ∃ qs, qs = phiSets S I place np := ⟨_, rfl⟩
  rw [← hqs]
  have hql : qs.length = np := by rw [hqs]; unfold phiSets; simp
  have hqi : ∀ i, i < np → qs.take (i + 1) = qs.take i ++ [((I.getD i default).dst.toNat, xw.getD i 0)] := fun i hi => by
    have e1 : qs[i]? = some ((I.getD i default).dst.toNat, xw.getD i 0) := by
      rw [hqs]
      unfold phiSets
      have e0 : xw.getD i 0 = S.get ((I.getD i default).args.getD place 0).toNat := by rw [List.getD, hxi i hi]; rfl
      rw [List.getElem?_map, List.getElem?_range hi, e0]
      rfl
    rw [List.take_add_one, e1]
    rfl
  refine phis_walk (bs := E.w0.heap.size) (B := E.B) (C := E.C) (cb := cb) (m := m) (pg := pg) (po := po) (n := E.P.length) (qc := qc) (tg := S.top.g) (tb := S.top.b) (bg := bg) (bo := bo) (bn := (E.P.getD S.top.g default).blocks.length) (bc := bc) (ig := ig) (io := io) (il := I.length) (ic := ic) (pl := E.P.length) (hg := hgA) (ho := 0) (an := (aheadT (tms (E.P.getD S.top.g default).blocks)).length) (ac := (aheadT (tms (E.P.getD S.top.g default).blocks)).length) (place := place) (np := np) (rv := kv0) (a0 := a0) (a1 := a1) (n0 := ws0.length) (c0 := c0) (c1 := c1) (fd := row.contains fr)
    (R1 := fun i wq => ∃ wv' ss', Rn E wq { V with wv := wv' } ss' S ∧ HasW ss' { V with wv := wv' } (xw.take i))
    (R2 := fun wa wc j wq => ∃ kv' ss' l', Rn E wq { V with wv := .slice wa np wc, kv := kv' } ss' (S.sets (qs.take j)) ∧ HasW ss' { V with wv := .slice wa np wc, kv := kv' } xw ∧ Asks E (S.sets (qs.take j)) m l' ∧ l'.length = l.length ∧ (S.sets (qs.take j)).kept.length ≤ S.kept.length + j)
    (fun W j hW => now_at E.B cb m cc W (by rw [hW]; exact b4) ha.hmb) (by rw [← hq]; exact b0) t0 t1 ((low _ _ _ _ h _ _ hlt).trans c5) ((low _ _ _ _ h _ _ hbg).trans d0) (by omega) (by omega) ?_ (by omega) ?_ (by omega) b3 (by omega) k0 ?_ (by rw [Nat.zero_add]; exact hAc) (fun W k hW => ?_) b7 (h.fz 7) (fun W => ?_) (fun k => ?_) hnp (fun i wq hi hq1 => ?_) (fun wq hq1 => ?_) (fun wa wc i wq hi hq1 => ?_) (fun wa wc wq hq1 => ?_)
  · have := (low _ _ _ _ h ig (io + 0 * 6) hig).trans ik0
    rw [(hphi 0 h0).1] at this
    simpa using this
  · simpa using (by omega : ¬ ((I.length : Int) = 0))
  · have := (List.getElem?_eq_some_iff.1 hrow).1
    omega
  · subst hW
    rw [hplace]
    exact search_own ((h.drewN k).heap.own _ _ hAr) hsort hrl fr
  · have hs : ∀ W : World, (sizeOf (Tryz.prog.elem 33)).run Tryz.prog W = .ok 1 W := fun W => by kernel_rfl
    have hu : Tryz.prog.underlying 33 = some (.slice (Tryz.prog.elem 33)) := by kernel_rfl
    rw [run_slice_h W 33 _ _ _ hu .i64 0 (by omega) (by omega), hs]
    show Result.ok (sliced a0 0 0 c0 1) W = _
    rw [← hsl, hv2]
  · refine ⟨.slice a1 0 c1, ?_⟩
    rw [hv2] at ho2 hb2
    rw [List.take_zero]
    exact (h.drewN k).setW (ws' := []) hw0 (by show w.ownsRow _ _ _ _ _ _; simpa using ho2) ⟨rfl, rfl, rfl, Nat.le_refl _, fun _ _ _ => rfl⟩ (.inl hb2)
  · obtain ⟨wv', ss', hR, hW⟩ := hq1
    obtain ⟨hk1, hpl, ⟨hv1, hv3⟩, _⟩ := hphi i hi
    obtain ⟨xav, x0, x2, x3, x6⟩ := hget i (by omega)
    obtain ⟨xa, xc, rfl, _⟩ := x6.form
    obtain ⟨ag, ao, rfl, hag, hcell⟩ := x6.get (i := place) hpl
    obtain ⟨v, hvn⟩ : ∃ v : Nat, (I.getD i default).args.getD place 0 = (v : Int) := Int.eq_ofNat_of_zero_le hv1
    rw [hvn] at hcell hv3
    rw [hk1] at x0
    have hlen : (xw.take i).length = i := by rw [List.length_take]; omega
    have hown' : wq.ownsRow E.w0.heap.size 24 1 wv' i ((xw.take i).map wordV) := by
      have := hR.heap.own 5 _ hW
      unfold Slot.At at this
      dsimp only at this
      rw [hlen] at this
      exact this
    have hne : ∀ g, wv'.ownBlock = some g → g ≠ E.B := fun g hg e => hR.heap.apart 5 0 _ _ g (by omega) hW hR.s0 hg (by rw [e]; rfl)
    refine ⟨ag, ao, _, xc, v, S.get v, wv', _, (low _ _ _ _ hR _ _ hig).trans x0, (low _ _ _ _ hR _ _ hig).trans x3, by omega, (low _ _ _ _ hR _ _ hag).trans hcell, hR.box.2.2.2.2.2.2.2.1, fun k ob => ((hR.drewN k).alloc ob).box.2.2.2.2.2.2.2.1, hR.low.size, fun k => hown', fun W k hW' => by subst hW'; exact get_any (hR.drewN k) ha v (by omega), fun k ob w2 wv2 ho hg hat => ?_⟩
    have hRA := (hR.drewN k).alloc ob
    have hBW : w2.heap[E.B]? = ((wq.drewN k).alloc ob).heap[E.B]? := hg.block E.B (hRA.heap.lt hRA.s0).2 (fun e => hne E.B e.symm rfl)
    refine ⟨(World.cell?_of_block (w := (wq.drewN k).alloc ob) (a := ⟨E.B, 7, none⟩) hBW).trans hRA.box.2.2.2.2.2.2.2.1, (World.frozen?_of_block (w := (wq.drewN k).alloc ob) (a := ⟨E.B, 7, none⟩) hBW).trans (hRA.fz 7), wv2, ?_⟩
    have e2 : xw.take (i + 1) = xw.take i ++ [S.get v] := by
      rw [List.take_add_one, hxi i hi, hvn]
      rfl
    rw [e2]
    refine hRA.setW hW ?_ hg hat
    rw [List.length_append, hlen, List.map_append]
    exact ho
  · obtain ⟨wv', ss', hR, hW⟩ := hq1
    rw [List.take_of_length_le (by omega)] at hW
    refine ⟨fun hlt2 => ?_, ?_⟩
    · obtain ⟨xav, x0, _, _, _⟩ := hget np hlt2
      exact ⟨_, (low _ _ _ _ hR _ _ hig).trans x0, by simpa using hstop hlt2⟩
    · obtain ⟨wa, wc, _, _, _, hwv1, _⟩ := own_ends (hR.heap.own 5 _ hW) (Nat.zero_le _)
      dsimp only at hwv1
      rw [hxl] at hwv1
      subst hwv1
      refine ⟨wa, wc, hR.box.2.2.2.2.2.2.2.1, V.kv, ss', l, ?_, hW, ?_, rfl, ?_⟩
      · rw [List.take_zero]; exact hR
      · rw [List.take_zero]; exact ha
      · rw [List.take_zero]; exact Nat.le_refl _
  · obtain ⟨kv', ss', l', hR, hW, hAs, hl', hkk⟩ := hq1
    obtain ⟨_, _, _, hd1, hd2⟩ := hphi i hi
    obtain ⟨xav, _, x2, _, _⟩ := hget i (by omega)
    obtain ⟨d, hdn⟩ : ∃ d : Nat, (I.getD i default).dst = (d : Int) := Int.eq_ofNat_of_zero_le hd1
    rw [hdn] at x2 hd2
    rcases own_shape (hR.heap.own 5 _ hW) with ⟨_, hn⟩ | ⟨wg, wc', hwv1, _⟩
    · dsimp only at hn; omega
    · dsimp only at hwv1
      injection hwv1 with e1 _ e3
      have hWs : ss'[5]? = some ⟨.slice (some ⟨wg, 0, none⟩) xw.length wc, 24, 1, xw.length, xw.map wordV⟩ := by
        have := hW
        unfold HasW at this
        rw [this, e1, hxl]
      have hcx := hR.heap.cell hWs (j := i) (u := wordV (xw.getD i 0)) (by rw [List.getElem?_map, List.getD, hxi i hi]; rfl)
      refine ⟨wg, 0, d, xw.getD i 0, e1, by rw [Nat.zero_add]; exact hcx, (low _ _ _ _ hR _ _ hig).trans x2, fun W k hW2 => ?_⟩
      subst hW2
      refine (set_anyW (hR.drewN k) hAs d (by omega) (xw.getD i 0) (by omega)).mono ?_
      rintro e w' ⟨he, kv2, s2, r2, h52⟩
      obtain ⟨l2, hAs2, hl2⟩ := hAs.set (c := d) (by omega) (xw.getD i 0)
      refine ⟨he, kv2, s2, l2, ?_⟩
      have := hqi i hi
      rw [hdn, Int.toNat_natCast] at this
      rw [this, St.sets_snoc]
      refine ⟨r2, h52.trans hW, hAs2, by rw [hl2, hl'], ?_⟩
      have := St.set_kept (S.sets (qs.take i)) d (xw.getD i 0)
      show ((S.sets (qs.take i)).set d (xw.getD i 0)).kept.length ≤ _
      omega
  · obtain ⟨kv', ss', l', hR, hW, _⟩ := hq1
    rw [← hql, List.take_length] at hR
    rw [hql] at hR
    exact ⟨hR.box.2.2.2.2.2.2.2.1, _, kv', ss', hR⟩
end Go.Proofs.YtdgpdmohfnealaaGreatDoor
/- A block's end: the walks. -/
namespace Go.Proofs.YtdgpdmohfnealaaGreatDoor
open Go.RowKit

set_option maxRecDepth 100000 in
set_option maxHeartbeats 1000000 in
theorem end_jump_walk {B g o : Nat} {t : Int} {b : Bool} {w : World} {Q : World → Prop} (c0 : w.cell? ⟨g, o, none⟩ = some (.int .u8 1)) (c2 : w.cell? ⟨g, o + 2, none⟩ = some (.int .i64 t))
    (HE : Hid (∀ W k, W = w.drewN k → Calls Tryz.prog 40 #[ptr B, .int .i64 t] W fun e w' => e = .returned (.bool b) ∧ Q w')) :
    Calls Tryz.prog 20 #[ptr B, .pointer (some ⟨g, o, none⟩)] w fun e w' => e = .returned (.bool b) ∧ Q w' := by
  go_enter Tryz.func20, Tryz.ntmps20
  go_wp2_with (go_at_call 40; refine Calls.mono (HE.out _ 0 rfl) ?_; rintro e w1 ⟨rfl, hq⟩)
  go_ret
  exact ⟨rfl, hq⟩
set_option maxRecDepth 100000 in
set_option maxHeartbeats 1000000 in
theorem end_true_walk {B g o v : Nat} {t : Int} {b : Bool} {w : World} {Q : World → Prop} (c0 : w.cell? ⟨g, o, none⟩ = some (.int .u8 2)) (c1 : w.cell? ⟨g, o + 1, none⟩ = some (.int .i64 (v : Int))) (c2 : w.cell? ⟨g, o + 2, none⟩ = some (.int .i64 t))
    (HG : Hid (∀ W k, W = w.drewN k → Calls Tryz.prog 33 #[ptr B, .int .i64 (v : Int)] W fun e w' => e = .returned (.int .u64 1) ∧ ∃ k, w' = W.drewN k))
    (HE : Hid (∀ W k, W = w.drewN k → Calls Tryz.prog 40 #[ptr B, .int .i64 t] W fun e w' => e = .returned (.bool b) ∧ Q w')) :
    Calls Tryz.prog 20 #[ptr B, .pointer (some ⟨g, o, none⟩)] w fun e w' => e = .returned (.bool b) ∧ Q w' := by
  go_enter Tryz.func20, Tryz.ntmps20
  go_wp2_with (first | (go_at_call 33; refine Calls.mono (HG.out _ 0 rfl) ?_; rintro e w1 ⟨rfl, kq, rfl⟩) | (go_at_call 40; refine Calls.mono (HE.out _ _ rfl) ?_; rintro e w1 ⟨rfl, hq⟩))
  go_ret
  exact ⟨rfl, hq⟩
set_option maxRecDepth 100000 in
set_option maxHeartbeats 1000000 in
theorem end_false_walk {B g o v : Nat} {t x : Int} {b : Bool} {w : World} {Q : World → Prop} (c0 : w.cell? ⟨g, o, none⟩ = some (.int .u8 2)) (c1 : w.cell? ⟨g, o + 1, none⟩ = some (.int .i64 (v : Int))) (c3 : w.cell? ⟨g, o + 3, none⟩ = some (.int .i64 t)) (hx : ¬ x = 1)
    (HG : Hid (∀ W k, W = w.drewN k → Calls Tryz.prog 33 #[ptr B, .int .i64 (v : Int)] W fun e w' => e = .returned (.int .u64 x) ∧ ∃ k, w' = W.drewN k))
    (HE : Hid (∀ W k, W = w.drewN k → Calls Tryz.prog 40 #[ptr B, .int .i64 t] W fun e w' => e = .returned (.bool b) ∧ Q w')) :
    Calls Tryz.prog 20 #[ptr B, .pointer (some ⟨g, o, none⟩)] w fun e w' => e = .returned (.bool b) ∧ Q w' := by
  have hxb : (x == 1) = false := by simpa using hx
  go_enter Tryz.func20, Tryz.ntmps20
  go_wp2_with (first | (go_at_call 33; refine Calls.mono (HG.out _ 0 rfl) ?_; rintro e w1 ⟨rfl, kq, rfl⟩) | (go_at_call 40; refine Calls.mono (HE.out _ _ rfl) ?_; rintro e w1 ⟨rfl, hq⟩))
  go_ret
  exact ⟨rfl, hq⟩
set_option maxRecDepth 100000 in
set_option maxHeartbeats 1000000 in
theorem end_back_walk {B g o v : Nat} {x : Int} {b : Bool} {w : World} {Q : World → Prop} (c0 : w.cell? ⟨g, o, none⟩ = some (.int .u8 3)) (c1 : w.cell? ⟨g, o + 1, none⟩ = some (.int .i64 (v : Int)))
    (HG : Hid (∀ W k, W = w.drewN k → Calls Tryz.prog 33 #[ptr B, .int .i64 (v : Int)] W fun e w' => e = .returned (.int .u64 x) ∧ ∃ k, w' = W.drewN k))
    (HE : Hid (∀ W k, W = w.drewN k → Calls Tryz.prog 41 #[ptr B, .int .u64 x] W fun e w' => e = .returned (.bool b) ∧ Q w')) :
    Calls Tryz.prog 20 #[ptr B, .pointer (some ⟨g, o, none⟩)] w fun e w' => e = .returned (.bool b) ∧ Q w' := by
  go_enter Tryz.func20, Tryz.ntmps20
  go_wp2_with (first | (go_at_call 33; refine Calls.mono (HG.out _ 0 rfl) ?_; rintro e w1 ⟨rfl, kq, rfl⟩) | (go_at_call 41; refine Calls.mono (HE.out _ _ rfl) ?_; rintro e w1 ⟨rfl, hq⟩))
  go_ret
  exact ⟨rfl, hq⟩
set_option maxRecDepth 100000 in
set_option maxHeartbeats 1000000 in
theorem end_trap_walk {B g o : Nat} {k x y : Int} {w : World} {Q : World → Prop} (c0 : w.cell? ⟨g, o, none⟩ = some (.int .u8 k)) (h1 : (k == 1) = false) (h2 : (k == 2) = false) (h3 : (k == 3) = false) (c4 : w.cell? ⟨g, o + 4, none⟩ = some (.int .u8 x)) (b11 : w.cell? ⟨B, 11, none⟩ = some (.int .u8 y)) (f11 : w.frozen? ⟨B, 11, none⟩ = false)
    (HE : Hid (Calls Tryz.prog 29 #[ptr B, .int .u8 2] (w.setCell ⟨B, 11, none⟩ (.int .u8 x)) fun e w' => e = .returned (.bool false) ∧ Q w')) :
    Calls Tryz.prog 20 #[ptr B, .pointer (some ⟨g, o, none⟩)] w fun e w' => e = .returned (.bool false) ∧ Q w' := by
  go_enter Tryz.func20, Tryz.ntmps20
  go_wp2_with (go_at_call 29; refine Calls.mono HE.out ?_; rintro e w1 ⟨rfl, hq⟩)
  go_ret
  exact ⟨rfl, hq⟩
set_option maxRecDepth 100000 in
set_option maxHeartbeats 1000000 in
theorem enter_no_walk {B : Nat} {t : Int} {w : World} {Q : World → Prop}
    (HE : Hid (∀ W k, W = w.drewN k → Calls Tryz.prog 32 #[ptr B] W fun e w' => e = .returned (.bool false) ∧ Q w')) :
    Calls Tryz.prog 40 #[ptr B, .int .i64 t] w fun e w' => e = .returned (.bool false) ∧ Q w' := by
  go_enter Tryz.func40, Tryz.ntmps40
  go_wp2_with (go_at_call 32; refine Calls.mono (HE.out _ 0 rfl) ?_; rintro e w1 ⟨rfl, hq⟩)
  go_ret
  exact ⟨rfl, hq⟩
set_option maxRecDepth 100000 in
set_option maxHeartbeats 1000000 in
theorem enter_walk {B cb m : Nat} {t fr : Int} {w : World} {Q1 Q : World → Prop}
    (HE : Hid (∀ W k, W = w.drewN k → Calls Tryz.prog 32 #[ptr B] W fun e w' => e = .returned (.bool true) ∧ Q1 w'))
    (HN : Hid (∀ w1, Q1 w1 → (∀ W k, W = w1.drewN k → Calls Tryz.prog 17 #[ptr B] W fun e w' => e = .returned (.pointer (some ⟨cb, m * 5, none⟩)) ∧ ∃ k, w' = W.drewN k) ∧ w1.cell? ⟨cb, m * 5 + 1, none⟩ = some (.int .i64 fr) ∧ w1.frozen? ⟨cb, m * 5 + 1, none⟩ = false ∧
      ∀ k, Calls Tryz.prog 59 #[ptr B, .int .i64 fr] ((w1.drewN k).setCell ⟨cb, m * 5 + 1, none⟩ (.int .i64 t)) fun e w' => ∃ z q : Int, e = .returned (.int .i64 z) ∧ w'.cell? ⟨cb, m * 5 + 2, none⟩ = some (.int .i64 q) ∧ w'.frozen? ⟨cb, m * 5 + 2, none⟩ = false ∧ Q (w'.setCell ⟨cb, m * 5 + 2, none⟩ (.int .i64 z)))) :
    Calls Tryz.prog 40 #[ptr B, .int .i64 t] w fun e w' => e = .returned (.bool true) ∧ Q w' := by
  go_enter Tryz.func40, Tryz.ntmps40
  go_wp2_with (first
    | (go_at_call 32; refine Calls.mono (HE.out _ 0 rfl) ?_; rintro e w1 ⟨rfl, hq⟩; obtain ⟨hnow0, d1, f1, hsp0⟩ := HN.out w1 hq; have HW : Hid _ := hnow0; have HS : Hid _ := hsp0; clear hnow0 hsp0)
    | (go_at_call 17; refine Calls.mono (HW.out _ 0 rfl) ?_; rintro e w2 ⟨rfl, kq, rfl⟩)
    | (go_at_call 59; refine Calls.mono (HS.out _) ?_; rintro e w3 ⟨z, q, rfl, d2, f2, hq2⟩))
  go_ret
  exact ⟨rfl, hq2⟩
end Go.Proofs.YtdgpdmohfnealaaGreatDoor
/- The last call goes on in another block. -/
namespace Go.Proofs.YtdgpdmohfnealaaGreatDoor
open Go.RowKit

def St.last (S : St) (m : Nat) (c : Cl) : St := { S with calls := S.calls.set m c }
theorem Rn.lastSet {E : Env} {w : World} {V : Vals} {ss : List Slot} {S : St} (h : Rn E w V ss S) {m cb cc : Nat} (hm : S.calls.length = m + 1) (hcv : V.cv = .slice (some ⟨cb, 0, Option.none⟩) (m + 1) cc) (j : Nat) (hj : j < 5) (u : Value) (c' : Cl) (hc : clCells c' = (clCells S.top).set j u) :
    ∃ ss', Rn E (w.setCell ⟨cb, m * 5 + j, Option.none⟩ u) V ss' (S.last m c') ∧ ss'[5]? = ss[5]? := by
  have h2 := h.s2
  rw [hcv, hm] at h2
  have hB := (h.heap.lt h2).1
  have e1 : S.calls[m]? = some S.top := by
    unfold St.top
    rw [List.getLastD_eq_getLast?, List.getLast?_eq_getElem?, hm]
    simp [List.getElem?_eq_getElem (show m < S.calls.length by omega)]
  have hh := h.heap.store h2 (m * 5 + j) u
  rw [flat_set clCells_len S.calls m j _ c' u e1 hj hc] at hh
  refine ⟨_, ⟨below_set h.low hB _ _, h.prog, hh, set_other h.s0 (by omega), set_other h.s1 (by omega), ?_, set_other h.s3 (by omega), set_other h.s4 (by omega), ?_, set_other h.s6 (by omega), h.cll, h.nwl, ?_, ?_⟩, set_same (by omega)⟩
  · have e2 : (S.last m c').calls.length = m + 1 := by show (S.calls.set m c').length = _; rw [List.length_set, hm]
    rw [hcv, e2]
    exact set_self h2
  · obtain ⟨ws, hw⟩ := h.s5
    exact ⟨ws, set_other hw (by omega)⟩
  · intro j l hl
    obtain ⟨a, N, h1, h2, h3⟩ := h.news j l hl
    exact ⟨a, N, h1, set_other h2 (by omega), h3.set (by omega) _⟩
  · intro j hj
    obtain ⟨h1, h2⟩ := h.none j hj
    exact ⟨h1, set_other h2 (by omega)⟩
theorem St.last_top {S : St} {m : Nat} (hm : S.calls.length = m + 1) (c : Cl) : (S.last m c).top = c := by
  show (S.calls.set m c).getLastD default = c
  rw [List.getLastD_eq_getLast?, List.getLast?_eq_getElem?, List.length_set, hm]
  simp [show m < S.calls.length by omega]
/-- Into another block. -/
def St.goto (S : St) (m t : Nat) : St := S.last m { S.top with b := t }
def St.ahead (S : St) (m z : Nat) : St := S.last m { S.top with nx := z }
theorem enter_no {E : Env} {w : World} {V : Vals} {ss : List Slot} {S : St} (h : Rn E w V ss S) (hst : S.steps ≤ 1000000000000) (hle : E.lim ≤ S.steps) (t : Int) :
    Calls Tryz.prog 40 #[ptr E.B, .int .i64 t] w fun e w' => e = .returned (.bool false) ∧ ∃ ss', Rn E w' V ss' (S.stop 3) := by
  have e1 : S.step E.lim = (S.stop 3, false) := by unfold St.step; rw [if_pos hle]
  refine enter_no_walk (fun W k hW => ?_)
  subst hW
  have := step_any (h.drewN k) hst
  rw [e1] at this
  exact this
/-- A step into the block t, whose phis are z and set what S2 says. -/
theorem enter_any {E : Env} {w : World} {V : Vals} {ss : List Slot} {S : St} (h : Rn E w V ss S) {m : Nat} (hm : S.calls.length = m + 1) (hmb : m + 1 ≤ 140737488355328) (hst : S.steps ≤ 1000000000000) (hlt : S.steps < E.lim) (t z : Nat) {S1 S2 : St} (hS1 : S1 = ({ S with steps := S.steps + 1 } : St).goto m t)
    (hm2 : S2.calls = S1.calls)
    (hphi : ∀ (W : World) (ssW : List Slot), Rn E W V ssW S1 → Calls Tryz.prog 59 #[ptr E.B, .int .i64 (S.top.b : Int)] W fun e w' => e = .returned (.int .i64 (z : Int)) ∧ ∃ wv' kv' ss', Rn E w' { V with wv := wv', kv := kv' } ss' S2) :
    Calls Tryz.prog 40 #[ptr E.B, .int .i64 (t : Int)] w fun e w' => e = .returned (.bool true) ∧ ∃ wv' kv' ss', Rn E w' { V with wv := wv', kv := kv' } ss' (S2.ahead m z) := by
  obtain ⟨cb, cc, hcv, _⟩ := h.last hm
  have e1 : S.step E.lim = (({ S with steps := S.steps + 1 } : St), true) := by unfold St.step; rw [if_neg (by omega)]
  have htop : ({ S with steps := S.steps + 1 } : St).top = S.top := rfl
  refine enter_walk (B := E.B) (cb := cb) (m := m) (t := (t : Int)) (fr := (S.top.b : Int)) (Q1 := fun w1 => ∃ ss', Rn E w1 V ss' ({ S with steps := S.steps + 1 } : St)) (fun W k hW => ?_) (fun w1 hq => ?_)
  · subst hW
    have := step_any (h.drewN k) hst
    rw [e1] at this
    exact this
  · obtain ⟨ss1, hR⟩ := hq
    obtain ⟨cb', cc', hcv', _, _, _, t0, t1, t2, t3, t4⟩ := hR.last (m := m) hm
    rw [hcv] at hcv'
    cases hcv'
    have b4 := hR.box.2.2.2.2.1
    rw [hcv] at b4
    have h2 := hR.s2
    rw [hcv, show ({ S with steps := S.steps + 1 } : St).calls.length = m + 1 from hm] at h2
    refine ⟨fun W k hW => now_at E.B cb m cc W (by rw [hW]; exact b4) hmb, t1, hR.heap.fz h2 _, fun k => ?_⟩
    obtain ⟨ss2, hR2, _⟩ := (hR.drewN k).lastSet (m := m) hm hcv 1 (by omega) (intV t) { S.top with b := t } rfl
    have hR2' : Rn E ((w1.drewN k).setCell ⟨cb, m * 5 + 1, none⟩ (intV t)) V ss2 S1 := by rw [hS1]; exact hR2
    refine (hphi _ ss2 hR2').mono ?_
    rintro e w' ⟨he, wv', kv', ss3, hR3⟩
    have hl2 : S2.calls.length = m + 1 := by rw [hm2, hS1]; show (S.calls.set m _).length = _; rw [List.length_set, hm]
    obtain ⟨cb2, cc2, hcv2, _, _, _, u0, u1, u2, u3, u4⟩ := hR3.last (m := m) hl2
    dsimp only at hcv2
    rw [hcv] at hcv2
    cases hcv2
    have h23 := hR3.s2
    dsimp only at h23
    rw [hcv, hl2] at h23
    obtain ⟨ss4, hR4, _⟩ := hR3.lastSet (m := m) hl2 hcv 2 (by omega) (intV z) { S2.top with nx := z } rfl
    exact ⟨z, S2.top.nx, he, u2, hR3.heap.fz h23 _, wv', kv', ss4, hR4⟩
end Go.Proofs.YtdgpdmohfnealaaGreatDoor
/- A block's end, by its kind: over what enter and tell do. -/
namespace Go.Proofs.YtdgpdmohfnealaaGreatDoor
open Go.RowKit

/-- An end that lies there. -/
structure TmAt (w : World) (g o : Nat) (t : Tm) : Prop where
  lt : g < w.heap.size
  c0 : w.cell? ⟨g, o, none⟩ = some (.int .u8 t.kind)
  c1 : w.cell? ⟨g, o + 1, none⟩ = some (.int .i64 t.arg)
  c2 : w.cell? ⟨g, o + 2, none⟩ = some (.int .i64 t.t0)
  c3 : w.cell? ⟨g, o + 3, none⟩ = some (.int .i64 t.t1)
  c4 : w.cell? ⟨g, o + 4, none⟩ = some (.int .u8 t.trap)
theorem TmAt.below {w w' : World} {g o : Nat} {t : Tm} (h : TmAt w g o t) (hb : Below w.heap.size w w') : TmAt w' g o t := by
  have hc : ∀ j, w'.cell? ⟨g, j, none⟩ = w.cell? ⟨g, j, none⟩ := fun j => hb.cell (p := ⟨g, j, none⟩) h.lt
  exact ⟨Nat.lt_of_lt_of_le h.lt hb.size, (hc _).trans h.c0, (hc _).trans h.c1, (hc _).trans h.c2, (hc _).trans h.c3, (hc _).trans h.c4⟩
theorem end_jump {E : Env} {w : World} {V : Vals} {ss : List Slot} {S : St} (h : Rn E w V ss S) {g o : Nat} {t : Tm} (ht : TmAt E.w0 g o t) (hk : t.kind = 1) {b : Bool} {Q : World → Prop}
    (he : ∀ k, Calls Tryz.prog 40 #[ptr E.B, .int .i64 t.t0] (w.drewN k) fun e w' => e = .returned (.bool b) ∧ Q w') :
    Calls Tryz.prog 20 #[ptr E.B, .pointer (some ⟨g, o, none⟩)] w fun e w' => e = .returned (.bool b) ∧ Q w' := by
  have hx := ht.below h.low
  exact end_jump_walk (by rw [hx.c0, hk]) hx.c2 (fun W k hW => by subst hW; exact he k)
theorem end_branch {E : Env} {w : World} {V : Vals} {ss : List Slot} {S : St} (h : Rn E w V ss S) {m : Nat} {l : List Int} (ha : Asks E S m l) {g o : Nat} {t : Tm} (ht : TmAt E.w0 g o t) (hk : t.kind = 2) {v : Nat} (hv : t.arg = (v : Int)) (hvl : v < l.length) {b : Bool} {Q : World → Prop}
    (he : ∀ k, Calls Tryz.prog 40 #[ptr E.B, .int .i64 (if S.get v = 1 then t.t0 else t.t1)] (w.drewN k) fun e w' => e = .returned (.bool b) ∧ Q w') :
    Calls Tryz.prog 20 #[ptr E.B, .pointer (some ⟨g, o, none⟩)] w fun e w' => e = .returned (.bool b) ∧ Q w' := by
  have hx := ht.below h.low
  by_cases h1 : S.get v = 1
  · rw [if_pos h1] at he
    exact end_true_walk (v := v) (by rw [hx.c0, hk]) (by rw [hx.c1, hv]) hx.c2 (fun W k hW => by subst hW; rw [← h1]; exact get_any (h.drewN k) ha v hvl) (fun W k hW => by subst hW; exact he k)
  · rw [if_neg h1] at he
    exact end_false_walk (v := v) (by rw [hx.c0, hk]) (by rw [hx.c1, hv]) hx.c3 h1 (fun W k hW => by subst hW; exact get_any (h.drewN k) ha v hvl) (fun W k hW => by subst hW; exact he k)
theorem end_back {E : Env} {w : World} {V : Vals} {ss : List Slot} {S : St} (h : Rn E w V ss S) {m : Nat} {l : List Int} (ha : Asks E S m l) {g o : Nat} {t : Tm} (ht : TmAt E.w0 g o t) (hk : t.kind = 3) {v : Nat} (hv : t.arg = (v : Int)) (hvl : v < l.length) {b : Bool} {Q : World → Prop}
    (he : ∀ k, Calls Tryz.prog 41 #[ptr E.B, .int .u64 (S.get v)] (w.drewN k) fun e w' => e = .returned (.bool b) ∧ Q w') :
    Calls Tryz.prog 20 #[ptr E.B, .pointer (some ⟨g, o, none⟩)] w fun e w' => e = .returned (.bool b) ∧ Q w' := by
  have hx := ht.below h.low
  exact end_back_walk (v := v) (by rw [hx.c0, hk]) (by rw [hx.c1, hv]) (fun W k hW => by subst hW; exact get_any (h.drewN k) ha v hvl) (fun W k hW => by subst hW; exact he k)
def St.trapped (S : St) (x : Int) : St := { S with trap := x }
theorem end_trap {E : Env} {w : World} {V : Vals} {ss : List Slot} {S : St} (h : Rn E w V ss S) {g o : Nat} {t : Tm} (ht : TmAt E.w0 g o t) (hk : ¬ t.kind = 1 ∧ ¬ t.kind = 2 ∧ ¬ t.kind = 3) :
    Calls Tryz.prog 20 #[ptr E.B, .pointer (some ⟨g, o, none⟩)] w fun e w' => e = .returned (.bool false) ∧ ∃ ss', Rn E w' V ss' ((S.trapped t.trap).stop 2) := by
  have hx := ht.below h.low
  obtain ⟨s1, r1⟩ := h.num (S' := S.trapped t.trap) 11 (bytV t.trap) rfl rfl rfl rfl rfl rfl
  exact end_trap_walk hx.c0 (by simpa using hk.1) (by simpa using hk.2.1) (by simpa using hk.2.2) hx.c4 h.box.2.2.2.2.2.2.2.2.2.2.2.1 (h.fz 11) (stop_any r1 2)
end Go.Proofs.YtdgpdmohfnealaaGreatDoor
