/- The document's walk through a graph, step by step. -/
import Derived.Test.YtobnpllppohofaaGreatDoorGLstM
import Derived.Test.YtobnpllppohofaaGreatDoorGTrQM
namespace Go.Proofs.YtobnpllppohofaaGreatDoor
open Go.RowKit

/-- a walk under way: its boxes, what it has done -/
structure WU (w0 Wb wr : World) (gm n B : Nat) (gc tc : List Value) (lv lv' : Value) (m : List Bool) (l : List Int) : Prop where
 wr' : WR w0 wr gm n lv' m l
 wt : WT Wb wr gm lv lv'
 bg : Box wr B gc
 bt : Box wr (B + 1) tc
 sz : Wb.heap.size = B + 2
 lb : ∀ g, lv.ownBlock = some g → g < B
 gb : gm < B
theorem WU.lvb {w0 Wb wr : World} {gm n B : Nat} {gc tc : List Value} {lv lv' : Value} {m : List Bool} {l : List Int} (h : WU w0 Wb wr gm n B gc tc lv lv' m l) : lv'.ownBlock ≠ some B ∧ lv'.ownBlock ≠ some (B + 1) := by
 constructor
 ·intro e
  rcases h.wt.at' _ e with q | q
  ·have := h.lb _ q; omega
  ·rw [h.sz] at q; omega
 ·intro e
  rcases h.wt.at' _ e with q | q
  ·have := h.lb _ q; omega
  ·rw [h.sz] at q; omega
theorem WU.next {w0 Wb wr w' : World} {gm n B : Nat} {gc tc : List Value} {lv lv' lv2 : Value} {m m2 : List Bool} {l l2 : List Int} (h : WU w0 Wb wr gm n B gc tc lv lv' m l) (h2 : WR w0 w' gm n lv2 m2 l2) (ht : WT wr w' gm lv' lv2) : WU w0 Wb w' gm n B gc tc lv lv2 m2 l2 :=
 ⟨h2, h.wt.trans ht, h.bg.same (ht.keep B h.bg.lt (by have := h.gb; omega) h.lvb.1), h.bt.same (ht.keep (B + 1) h.bt.lt (by have := h.gb; omega) h.lvb.2), h.sz, h.lb, h.gb⟩
theorem WU.below {w0 Wb wr w' : World} {gm n B : Nat} {gc tc : List Value} {lv lv' : Value} {m : List Bool} {l : List Int} (h : WU w0 Wb wr gm n B gc tc lv lv' m l) (hb : Below wr.heap.size wr w') : WU w0 Wb w' gm n B gc tc lv lv' m l := h.next (h.wr'.below hb) (WT.below hb)
theorem fold_snoc {α β : Type} {L : List β} {k : Nat} {x : β} (hx : L[k]? = some x) (F : α → β → α) (s : α) : (L.take (k + 1)).foldl F s = F ((L.take k).foldl F s) x := by
 rw [List.take_add_one, hx, List.foldl_append]; rfl
theorem fold_same {α β : Type} {L : List β} {k : Nat} (hx : L.length ≤ k) (F : α → β → α) (s : α) : (L.take (k + 1)).foldl F s = (L.take k).foldl F s := by
 rw [List.take_of_length_le hx, List.take_of_length_le (by omega)]
theorem fold_all {ts : List Tm} {f : Nat} : ∀ (ys : List Int) (s : List Bool × List Int), s.1.length = ts.length → cntF s.1 ≤ f →
  (ys.foldl (stepOf ts f) s).1.length = ts.length ∧ cntF (ys.foldl (stepOf ts f) s).1 ≤ f ∧ (ys.foldl (stepOf ts f) s).2.length + cntF (ys.foldl (stepOf ts f) s).1 = s.2.length + cntF s.1
 | [], s, hl, hc => ⟨hl, hc, rfl⟩
 | y :: ys, s, hl, hc => by
  rw [List.foldl_cons]
  obtain ⟨h1, h2, h3, _⟩ := step_all (ts := ts) s y hl hc
  obtain ⟨g1, g2, g3⟩ := fold_all (f := f) ys _ h1 (by omega)
  exact ⟨g1, g2, by omega⟩
set_option maxRecDepth 100000 in
set_option maxHeartbeats 8000000 in
theorem rwalk_step {w0 : World} {G : Gr} {pv vv av bv : Value} {gm n : Nat} (hG : GrAt w0 pv vv av bv G) (hn : G.blocks.length = n) {f : Nat} (ih : ∀ f', f = f' + 1 → DoesRW w0 G pv vv av bv gm n f') : DoesRW w0 G pv vv av bv gm n f := by
 intro a met left lv W hW ha hcf hlen
 obtain ⟨pa, pc, va, vc, aa, ac, ba, bc, rfl, rfl, rfl, rfl, _, _, _, _⟩ := hG.openF
 obtain ⟨g, o, iv, rfl, hg, c0, c1, c2, c3, c4, c5, _⟩ := hG.bs.get (i := a) (by omega)
 have hTM : (tms G.blocks).getD a default = (G.blocks.getD a default).tm := tms_get (by omega)
 have htl : (tms G.blocks).length = n := by simp [tms, hn]
 obtain ⟨t, ht⟩ : ∃ t, t = (G.blocks.getD a default).tm := ⟨_, rfl⟩
 rw [← ht] at c1 c2 c3 c4 c5 hTM
 clear ht
 rw [dfs_eq, hTM]
 have hml := hW.mlen
 have HFA : Hid (∀ k, (((namedT t).take k).foldl (stepOf (tms G.blocks) f) (met.set a true, left)).1.length = (tms G.blocks).length ∧ cntF (((namedT t).take k).foldl (stepOf (tms G.blocks) f) (met.set a true, left)).1 ≤ f ∧ (((namedT t).take k).foldl (stepOf (tms G.blocks) f) (met.set a true, left)).2.length + cntF (((namedT t).take k).foldl (stepOf (tms G.blocks) f) (met.set a true, left)).1 = left.length + cntF (met.set a true)) := fun k => fold_all _ _ (by simp [hml, htl]) hcf
 have hcm : cntF (met.set a true) ≤ cntF met := cntF_mono (by simp) fun k hk => by rw [getD_set (by omega)]; split; rfl; exact hk
 have hgm := hW.mrow.lt gm rfl
 have HLN : Hid (left.length + cntF (met.set a true) ≤ 4000) := by show _ ≤ _; omega
 obtain ⟨la, lc, rfl⟩ : ∃ la lc, lv = .slice la left.length lc := by obtain ⟨x, y, hv, _⟩ := own_blk (Nat.le_refl _) hW.lrow; exact ⟨x, y, hv⟩
 have HLB : Hid (∀ g, (Value.slice la left.length lc).ownBlock = some g → g < W.heap.size) := fun g hg => (hW.lrow.lt g hg).2
 have hcl : ∀ j, W.cell? ⟨g, j, none⟩ = w0.cell? ⟨g, j, none⟩ := fun j => hW.bel.cell (p := ⟨g, j, none⟩) hg
 rw [← hcl] at c0 c1 c2 c3 c4 c5
 have hgg : g ≠ gm := by omega
 have cm := hW.cell ha
 have fm := hW.mrow.frozenAt a
 have HIH : Hid _ := ih
 have HWR : Hid (WR w0 W gm n (.slice la left.length lc) met left) := hW
 clear hW ih hcl
 obtain ⟨nm, ps, r, vs, ars, bs⟩ := G
 dsimp only at *
 obtain ⟨tk, ta, t0, t1, tt⟩ := t
 dsimp only at *
 have ha' : (a : Int) < n := by omega
 have hsw : ∀ j, (W.setCell ⟨gm, a, none⟩ (.bool true)).cell? ⟨g, j, none⟩ = W.cell? ⟨g, j, none⟩ := fun j => World.cell?_of_block (w := W) (a := ⟨g, j, none⟩) (Below.heap_setCell W ⟨gm, a, none⟩ _ g (by show g ≠ gm; exact hgg))
 rw [← hsw] at c1 c2 c3 c4 c5
 have hszs : (W.setCell ⟨gm, a, none⟩ (.bool true)).heap.size = W.heap.size := by simp [World.setCell]
 have hgl : g < W.heap.size := Nat.lt_of_lt_of_le hg HWR.out.bel.size
 clear hsw
 subst hn
 generalize hbn : bs.length = n at *
 generalize ps.length = pl at *
 generalize vs.length = vl at *
 generalize ars.length = al at *
 generalize hll : left.length = ll at *
 have HLL : Hid (left.length = ll) := hll
 have HBN : Hid (bs.length = n) := hbn
 clear hll hbn
 go_enter Tryz.func50, Tryz.ntmps50
 go_wp2
 have HU0 : Hid (WU w0 (((W.setCell ⟨gm, a, none⟩ (.bool true)).alloc (.cells #[.string nm, .slice pa pl pc, .int .u8 r, .slice va vl vc, .slice aa al ac, .slice (some ⟨g, o, none⟩) n bc] 28)).alloc (.cells #[.int .u8 tk, .int .i64 ta, .int .i64 t0, .int .i64 t1, .int .u8 tt] 47)) (((W.setCell ⟨gm, a, none⟩ (.bool true)).alloc (.cells #[.string nm, .slice pa pl pc, .int .u8 r, .slice va vl vc, .slice aa al ac, .slice (some ⟨g, o, none⟩) n bc] 28)).alloc (.cells #[.int .u8 tk, .int .i64 ta, .int .i64 t0, .int .i64 t1, .int .u8 tt] 47)) gm n W.heap.size [.string nm, .slice pa pl pc, .int .u8 r, .slice va vl vc, .slice aa al ac, .slice (some ⟨g, o, none⟩) n bc] [.int .u8 tk, .int .i64 ta, .int .i64 t0, .int .i64 t1, .int .u8 tt] (.slice la ll lc) (.slice la ll lc) (met.set a true) left) := by
  have hm := HWR.out.mark a
  have hb1 : Below (W.setCell ⟨gm, a, none⟩ (.bool true)).heap.size (W.setCell ⟨gm, a, none⟩ (.bool true)) (((W.setCell ⟨gm, a, none⟩ (.bool true)).alloc (.cells #[.string nm, .slice pa pl pc, .int .u8 r, .slice va vl vc, .slice aa al ac, .slice (some ⟨g, o, none⟩) n bc] 28)).alloc (.cells #[.int .u8 tk, .int .i64 ta, .int .i64 t0, .int .i64 t1, .int .u8 tt] 47)) := below_alloc (below_alloc (Below.refl _ _) _) _
  have b1 := (Box.new (W.setCell ⟨gm, a, none⟩ (.bool true)) [.string nm, .slice pa pl pc, .int .u8 r, .slice va vl vc, .slice aa al ac, .slice (some ⟨g, o, none⟩) n bc] 28).below (below_alloc (Below.refl _ _) (.cells #[.int .u8 tk, .int .i64 ta, .int .i64 t0, .int .i64 t1, .int .u8 tt] 47))
  have b2 := Box.new ((W.setCell ⟨gm, a, none⟩ (.bool true)).alloc (.cells #[.string nm, .slice pa pl pc, .int .u8 r, .slice va vl vc, .slice aa al ac, .slice (some ⟨g, o, none⟩) n bc] 28)) [.int .u8 tk, .int .i64 ta, .int .i64 t0, .int .i64 t1, .int .u8 tt] 47
  rw [World.size_alloc, hszs] at b2
  rw [hszs] at b1
  exact ⟨hm.below hb1, WT.refl _ _ _, b1, b2, by rw [World.size_alloc, World.size_alloc, hszs], HLB.out, hgm.2⟩
 have HWT : Hid (WT W (((W.setCell ⟨gm, a, none⟩ (.bool true)).alloc (.cells #[.string nm, .slice pa pl pc, .int .u8 r, .slice va vl vc, .slice aa al ac, .slice (some ⟨g, o, none⟩) n bc] 28)).alloc (.cells #[.int .u8 tk, .int .i64 ta, .int .i64 t0, .int .i64 t1, .int .u8 tt] 47)) gm (.slice la ll lc) (.slice la ll lc)) := (WT.mark W gm a _ _).trans (WT.below (below_alloc (below_alloc (Below.refl _ _) _) _))
 clear c0 c1 c2 c3 c4 c5 cm fm
 generalize (((W.setCell ⟨gm, a, none⟩ (.bool true)).alloc (.cells #[.string nm, .slice pa pl pc, .int .u8 r, .slice va vl vc, .slice aa al ac, .slice (some ⟨g, o, none⟩) n bc] 28)).alloc (.cells #[.int .u8 tk, .int .i64 ta, .int .i64 t0, .int .i64 t1, .int .u8 tt] 47)) = Wb at *
 go_loopw [3, 10] (fun v3 vk wr => ∃ (k x : Nat) (m : List Bool) (l : List Int) (xa : Option Addr) (xc : Nat), v3 = .slice xa x xc ∧ vk = .int .i64 k ∧ k ≤ 2 ∧ Hid (WU w0 Wb wr gm n W.heap.size [.string nm, .slice pa pl pc, .int .u8 r, .slice va vl vc, .slice aa al ac, .slice (some ⟨g, o, none⟩) n bc] [.int .u8 tk, .int .i64 ta, .int .i64 t0, .int .i64 t1, .int .u8 tt] (.slice la ll lc) (.slice xa x xc) m l ∧ x = l.length ∧ (m, l) = ((namedT ⟨tk, ta, t0, t1, tt⟩).take k).foldl (stepOf (tms bs) f) (met.set a true, left))) (fun _ vk _ => 2 - (intOf vk).toNat)
 case atStart => exact ⟨0, ll, _, left, _, _, rfl, rfl, by omega, HU0.out, HLL.out.symm, rfl⟩
 case round =>
  obtain ⟨k, x, m, l, xa, xc, rfl, rfl, hk, hr⟩ := hrel
  clear HU0
  generalize wr = wo at *
  have HRU : Hid (WU w0 Wb wo gm n W.heap.size [.string nm, .slice pa pl pc, .int .u8 r, .slice va vl vc, .slice aa al ac, .slice (some ⟨g, o, none⟩) n bc] [.int .u8 tk, .int .i64 ta, .int .i64 t0, .int .i64 t1, .int .u8 tt] (.slice la ll lc) (.slice xa x xc) m l) := hr.out.1
  have HXL : Hid (x = l.length) := hr.out.2.1
  have HRE : Hid ((m, l) = ((namedT ⟨tk, ta, t0, t1, tt⟩).take k).foldl (stepOf (tms bs) f) (met.set a true, left)) := hr.out.2.2
  have hmlen : m.length = n := HRU.out.wr'.mlen
  obtain ⟨b0, b1, b2, b3, b4⟩ := box5 HRU.out.bt
  have hbl := HRU.out.bt.lt
  clear hr
  obtain rfl | rfl | rfl : k = 0 ∨ k = 1 ∨ k = 2 := by omega
  ·by_cases k1 : tk = 1
   ·subst k1
    have hx0 : (namedT ⟨1, ta, t0, t1, tt⟩)[0]? = some t0 := rfl
    have HSN : Hid (((namedT ⟨1, ta, t0, t1, tt⟩).take (0 + 1)).foldl (stepOf (tms bs) f) (met.set a true, left) = stepOf (tms bs) f (m, l) t0) := by show _ = _; rw [fold_snoc hx0, ← HRE.out]
    clear hx0
    cases hb : inB t0 n with
    | false =>
     have HPY : Hid (∀ W, Calls Tryz.prog 49 #[.int .i64 t0, .int .i64 (n : Int)] W fun e w' => e = .returned (.bool false) ∧ w' = W) := fun W => by have h9 := rin_any t0 n W; rw [show placeB t0 (n : Int) = false from hb] at h9; exact h9
     have HN : Hid ((m, l) = ((namedT ⟨1, ta, t0, t1, tt⟩).take (0 + 1)).foldl (stepOf (tms bs) f) (met.set a true, left)) := by show _ = _; rw [HSN.out, stepOf_out (.inl (by rw [hmlen]; exact hb))]
     clear hb HSN HRE
     go_wp2_with (go_at_call 49; refine Calls.mono (HPY.out _) ?_; rintro e wx ⟨rfl, hwx⟩; subst wx)
     go_roundw
     case rel => exact ⟨0 + 1, x, m, l, _, _, rfl, by first | rfl | (congr 1; omega), by omega, HRU.out, HXL.out, HN.out⟩
     case measure => simp [intOf]
    | true =>
     obtain ⟨q, hq⟩ := Int.eq_ofNat_of_zero_le (inB_iff.1 hb).1
     have hqn : q < n := by have := (inB_iff.1 hb).2; omega
     have HPY : Hid (∀ W, Calls Tryz.prog 49 #[.int .i64 t0, .int .i64 (n : Int)] W fun e w' => e = .returned (.bool true) ∧ w' = W) := fun W => by have h9 := rin_any t0 n W; rw [show placeB t0 (n : Int) = true from hb] at h9; exact h9
     have cq := HRU.out.wr'.cell hqn
     have hqn' : (q : Int) < n := by omega
     have HSQ : Hid (((namedT ⟨1, ta, t0, t1, tt⟩).take (0 + 1)).foldl (stepOf (tms bs) f) (met.set a true, left) = stepOf (tms bs) f (m, l) (q : Int)) := HSN.out.trans (by rw [hq])
     clear HSN
     rw [hq] at HPY b2
     clear hq hb
     cases hmq : m.getD q true with
     | true =>
      rw [hmq] at cq
      have HN : Hid ((m, l) = ((namedT ⟨1, ta, t0, t1, tt⟩).take (0 + 1)).foldl (stepOf (tms bs) f) (met.set a true, left)) := by show _ = _; rw [HSQ.out, stepOf_out (.inr (by rw [Int.toNat_natCast]; exact hmq))]
      clear HSQ HRE hmq
      go_wp2_with (go_at_call 49; refine Calls.mono (HPY.out _) ?_; rintro e wx ⟨rfl, hwx⟩; subst wx)
      go_roundw
      case rel => exact ⟨0 + 1, x, m, l, _, _, rfl, by first | rfl | (congr 1; omega), by omega, HRU.out, HXL.out, HN.out⟩
      case measure => simp [intOf]
     | false =>
      rw [hmq] at cq
      obtain ⟨fa1, fa2, fa3⟩ := HFA.out 0
      rw [← HRE.out] at fa1 fa2 fa3
      have hct := cntF_set hmq
      obtain ⟨f', rfl⟩ : ∃ f', f = f' + 1 := ⟨f - 1, by dsimp only at fa2; omega⟩
      rw [stepOf_in hmq] at HSQ
      have HCW : Hid (∀ V, Below wo.heap.size wo V → Calls Tryz.prog 50 #[.agg #[.string nm, .slice pa pl pc, .int .u8 r, .slice va vl vc, .slice aa al ac, .slice (some ⟨g, o, none⟩) n bc], .int .i64 (q : Int), .slice (some ⟨gm, 0, none⟩) n n, .slice xa x xc] V fun e w' => ∃ lv', e = .returned lv' ∧ WR w0 w' gm n lv' (dfs (tms bs) f' q (m.set q true) l).1 (dfs (tms bs) f' q (m.set q true) l).2 ∧ WT V w' gm (.slice xa x xc) lv') := fun V hV => HIH.out f' rfl q m l (.slice xa x xc) V (HRU.out.wr'.below hV) hqn (by dsimp only at fa2; omega) (by dsimp only at fa3; have h9 := HLN.out; omega)
      generalize dfs (tms bs) f' q (m.set q true) l = D at *
      obtain ⟨m2, l2⟩ := D
      obtain ⟨e0, e1, e2, e3, e4, e5⟩ := box6 HRU.out.bg
      have hel := HRU.out.bg.lt
      clear fa1 fa2 fa3 hct hmq HRE
      go_wp2_with (go_at_call 49; refine Calls.mono (HPY.out _) ?_; rintro e wx ⟨rfl, hwx⟩; subst wx)
      refine wp_region_last2 7 _ _ rfl rfl rfl rfl (by kernel_rfl) (by kernel_rfl) (by kernel_rfl) (by kernel_rfl) (by kernel_rfl) (by kernel_rfl) (by kernel_rfl) ?_
      simp only [List.take_succ_cons, List.take_zero]
      repeat (go_big_quiet_step (fail))
      refine wpQuiet_nil ?_
      intro _ hw'
      obtain ⟨nq, hw''⟩ := hw'
      subst hw''
      intro K hK
      go_simp
      refine Calls.mono (by exact HCW.out _ (below_drewN (Below.refl _ _) nq)) ?_
      rintro e w7 ⟨lv7, rfl, hw7, ht7⟩
      obtain ⟨xa7, xc7, rfl⟩ : ∃ xa7 xc7, lv7 = .slice xa7 l2.length xc7 := by obtain ⟨u, v, hv, _⟩ := own_blk (Nat.le_refl _) hw7.lrow; exact ⟨u, v, hv⟩
      refine hK _ _ ?_
      clear hK K
      have HZ : Hid (WU w0 Wb w7 gm n W.heap.size [.string nm, .slice pa pl pc, .int .u8 r, .slice va vl vc, .slice aa al ac, .slice (some ⟨g, o, none⟩) n bc] [.int .u8 1, .int .i64 ta, .int .i64 t0, .int .i64 t1, .int .u8 tt] (.slice la ll lc) (.slice xa7 l2.length xc7) m2 l2) := (HRU.out.below (below_drewN (Below.refl _ _) nq)).next hw7 ht7
      clear hw7 ht7 HCW
      go_simp
      go_wp2
      go_roundw
      case rel => exact ⟨0 + 1, l2.length, m2, l2, _, _, rfl, by first | rfl | (congr 1; omega), by omega, HZ.out, rfl, HSQ.out.symm⟩
      case measure => simp [intOf]
   ·by_cases k2 : tk = 2
    ·subst k2
     have hx0 : (namedT ⟨2, ta, t0, t1, tt⟩)[0]? = some t0 := rfl
     have HSN : Hid (((namedT ⟨2, ta, t0, t1, tt⟩).take (0 + 1)).foldl (stepOf (tms bs) f) (met.set a true, left) = stepOf (tms bs) f (m, l) t0) := by show _ = _; rw [fold_snoc hx0, ← HRE.out]
     clear hx0
     cases hb : inB t0 n with
     | false =>
      have HPY : Hid (∀ W, Calls Tryz.prog 49 #[.int .i64 t0, .int .i64 (n : Int)] W fun e w' => e = .returned (.bool false) ∧ w' = W) := fun W => by have h9 := rin_any t0 n W; rw [show placeB t0 (n : Int) = false from hb] at h9; exact h9
      have HN : Hid ((m, l) = ((namedT ⟨2, ta, t0, t1, tt⟩).take (0 + 1)).foldl (stepOf (tms bs) f) (met.set a true, left)) := by show _ = _; rw [HSN.out, stepOf_out (.inl (by rw [hmlen]; exact hb))]
      clear hb HSN HRE
      go_wp2_with (go_at_call 49; refine Calls.mono (HPY.out _) ?_; rintro e wx ⟨rfl, hwx⟩; subst wx)
      go_roundw
      case rel => exact ⟨0 + 1, x, m, l, _, _, rfl, by first | rfl | (congr 1; omega), by omega, HRU.out, HXL.out, HN.out⟩
      case measure => simp [intOf]
     | true =>
      obtain ⟨q, hq⟩ := Int.eq_ofNat_of_zero_le (inB_iff.1 hb).1
      have hqn : q < n := by have := (inB_iff.1 hb).2; omega
      have HPY : Hid (∀ W, Calls Tryz.prog 49 #[.int .i64 t0, .int .i64 (n : Int)] W fun e w' => e = .returned (.bool true) ∧ w' = W) := fun W => by have h9 := rin_any t0 n W; rw [show placeB t0 (n : Int) = true from hb] at h9; exact h9
      have cq := HRU.out.wr'.cell hqn
      have hqn' : (q : Int) < n := by omega
      have HSQ : Hid (((namedT ⟨2, ta, t0, t1, tt⟩).take (0 + 1)).foldl (stepOf (tms bs) f) (met.set a true, left) = stepOf (tms bs) f (m, l) (q : Int)) := HSN.out.trans (by rw [hq])
      clear HSN
      rw [hq] at HPY b2
      clear hq hb
      cases hmq : m.getD q true with
      | true =>
       rw [hmq] at cq
       have HN : Hid ((m, l) = ((namedT ⟨2, ta, t0, t1, tt⟩).take (0 + 1)).foldl (stepOf (tms bs) f) (met.set a true, left)) := by show _ = _; rw [HSQ.out, stepOf_out (.inr (by rw [Int.toNat_natCast]; exact hmq))]
       clear HSQ HRE hmq
       go_wp2_with (go_at_call 49; refine Calls.mono (HPY.out _) ?_; rintro e wx ⟨rfl, hwx⟩; subst wx)
       go_roundw
       case rel => exact ⟨0 + 1, x, m, l, _, _, rfl, by first | rfl | (congr 1; omega), by omega, HRU.out, HXL.out, HN.out⟩
       case measure => simp [intOf]
      | false =>
       rw [hmq] at cq
       obtain ⟨fa1, fa2, fa3⟩ := HFA.out 0
       rw [← HRE.out] at fa1 fa2 fa3
       have hct := cntF_set hmq
       obtain ⟨f', rfl⟩ : ∃ f', f = f' + 1 := ⟨f - 1, by dsimp only at fa2; omega⟩
       rw [stepOf_in hmq] at HSQ
       have HCW : Hid (∀ V, Below wo.heap.size wo V → Calls Tryz.prog 50 #[.agg #[.string nm, .slice pa pl pc, .int .u8 r, .slice va vl vc, .slice aa al ac, .slice (some ⟨g, o, none⟩) n bc], .int .i64 (q : Int), .slice (some ⟨gm, 0, none⟩) n n, .slice xa x xc] V fun e w' => ∃ lv', e = .returned lv' ∧ WR w0 w' gm n lv' (dfs (tms bs) f' q (m.set q true) l).1 (dfs (tms bs) f' q (m.set q true) l).2 ∧ WT V w' gm (.slice xa x xc) lv') := fun V hV => HIH.out f' rfl q m l (.slice xa x xc) V (HRU.out.wr'.below hV) hqn (by dsimp only at fa2; omega) (by dsimp only at fa3; have h9 := HLN.out; omega)
       generalize dfs (tms bs) f' q (m.set q true) l = D at *
       obtain ⟨m2, l2⟩ := D
       obtain ⟨e0, e1, e2, e3, e4, e5⟩ := box6 HRU.out.bg
       have hel := HRU.out.bg.lt
       clear fa1 fa2 fa3 hct hmq HRE
       go_wp2_with (go_at_call 49; refine Calls.mono (HPY.out _) ?_; rintro e wx ⟨rfl, hwx⟩; subst wx)
       refine wp_region_last2 7 _ _ rfl rfl rfl rfl (by kernel_rfl) (by kernel_rfl) (by kernel_rfl) (by kernel_rfl) (by kernel_rfl) (by kernel_rfl) (by kernel_rfl) ?_
       simp only [List.take_succ_cons, List.take_zero]
       repeat (go_big_quiet_step (fail))
       refine wpQuiet_nil ?_
       intro _ hw'
       obtain ⟨nq, hw''⟩ := hw'
       subst hw''
       intro K hK
       go_simp
       refine Calls.mono (by exact HCW.out _ (below_drewN (Below.refl _ _) nq)) ?_
       rintro e w7 ⟨lv7, rfl, hw7, ht7⟩
       obtain ⟨xa7, xc7, rfl⟩ : ∃ xa7 xc7, lv7 = .slice xa7 l2.length xc7 := by obtain ⟨u, v, hv, _⟩ := own_blk (Nat.le_refl _) hw7.lrow; exact ⟨u, v, hv⟩
       refine hK _ _ ?_
       clear hK K
       have HZ : Hid (WU w0 Wb w7 gm n W.heap.size [.string nm, .slice pa pl pc, .int .u8 r, .slice va vl vc, .slice aa al ac, .slice (some ⟨g, o, none⟩) n bc] [.int .u8 2, .int .i64 ta, .int .i64 t0, .int .i64 t1, .int .u8 tt] (.slice la ll lc) (.slice xa7 l2.length xc7) m2 l2) := (HRU.out.below (below_drewN (Below.refl _ _) nq)).next hw7 ht7
       clear hw7 ht7 HCW
       go_simp
       go_wp2
       go_roundw
       case rel => exact ⟨0 + 1, l2.length, m2, l2, _, _, rfl, by first | rfl | (congr 1; omega), by omega, HZ.out, rfl, HSQ.out.symm⟩
       case measure => simp [intOf]
    ·have f1 : (tk == 1) = false := beq_false_of_ne k1
     have f2 : (tk == 2) = false := beq_false_of_ne k2
     have HN : Hid ((m, l) = ((namedT ⟨tk, ta, t0, t1, tt⟩).take (0 + 1)).foldl (stepOf (tms bs) f) (met.set a true, left)) := by show _ = _; rw [fold_same (by unfold namedT; simp [k1, k2]), ← HRE.out]
     clear HRE
     go_wp2
     go_roundw
     case rel => exact ⟨0 + 1, x, m, l, _, _, rfl, by first | rfl | (congr 1; omega), by omega, HRU.out, HXL.out, HN.out⟩
     case measure => simp [intOf]
  ·by_cases k1 : tk = 1
   ·subst k1
    have HN : Hid ((m, l) = ((namedT ⟨1, ta, t0, t1, tt⟩).take (1 + 1)).foldl (stepOf (tms bs) f) (met.set a true, left)) := by show _ = _; rw [fold_same (by show 1 ≤ 1; omega), ← HRE.out]
    clear HRE
    go_wp2
    go_roundw
    case rel => exact ⟨1 + 1, x, m, l, _, _, rfl, by first | rfl | (congr 1; omega), by omega, HRU.out, HXL.out, HN.out⟩
    case measure => simp [intOf]
   ·by_cases k2 : tk = 2
    ·subst k2
     have hx0 : (namedT ⟨2, ta, t0, t1, tt⟩)[1]? = some t1 := rfl
     have HSN : Hid (((namedT ⟨2, ta, t0, t1, tt⟩).take (1 + 1)).foldl (stepOf (tms bs) f) (met.set a true, left) = stepOf (tms bs) f (m, l) t1) := by show _ = _; rw [fold_snoc hx0, ← HRE.out]
     clear hx0
     cases hb : inB t1 n with
     | false =>
      have HPY : Hid (∀ W, Calls Tryz.prog 49 #[.int .i64 t1, .int .i64 (n : Int)] W fun e w' => e = .returned (.bool false) ∧ w' = W) := fun W => by have h9 := rin_any t1 n W; rw [show placeB t1 (n : Int) = false from hb] at h9; exact h9
      have HN : Hid ((m, l) = ((namedT ⟨2, ta, t0, t1, tt⟩).take (1 + 1)).foldl (stepOf (tms bs) f) (met.set a true, left)) := by show _ = _; rw [HSN.out, stepOf_out (.inl (by rw [hmlen]; exact hb))]
      clear hb HSN HRE
      go_wp2_with (go_at_call 49; refine Calls.mono (HPY.out _) ?_; rintro e wx ⟨rfl, hwx⟩; subst wx)
      go_roundw
      case rel => exact ⟨1 + 1, x, m, l, _, _, rfl, by first | rfl | (congr 1; omega), by omega, HRU.out, HXL.out, HN.out⟩
      case measure => simp [intOf]
     | true =>
      obtain ⟨q, hq⟩ := Int.eq_ofNat_of_zero_le (inB_iff.1 hb).1
      have hqn : q < n := by have := (inB_iff.1 hb).2; omega
      have HPY : Hid (∀ W, Calls Tryz.prog 49 #[.int .i64 t1, .int .i64 (n : Int)] W fun e w' => e = .returned (.bool true) ∧ w' = W) := fun W => by have h9 := rin_any t1 n W; rw [show placeB t1 (n : Int) = true from hb] at h9; exact h9
      have cq := HRU.out.wr'.cell hqn
      have hqn' : (q : Int) < n := by omega
      have HSQ : Hid (((namedT ⟨2, ta, t0, t1, tt⟩).take (1 + 1)).foldl (stepOf (tms bs) f) (met.set a true, left) = stepOf (tms bs) f (m, l) (q : Int)) := HSN.out.trans (by rw [hq])
      clear HSN
      rw [hq] at HPY b3
      clear hq hb
      cases hmq : m.getD q true with
      | true =>
       rw [hmq] at cq
       have HN : Hid ((m, l) = ((namedT ⟨2, ta, t0, t1, tt⟩).take (1 + 1)).foldl (stepOf (tms bs) f) (met.set a true, left)) := by show _ = _; rw [HSQ.out, stepOf_out (.inr (by rw [Int.toNat_natCast]; exact hmq))]
       clear HSQ HRE hmq
       go_wp2_with (go_at_call 49; refine Calls.mono (HPY.out _) ?_; rintro e wx ⟨rfl, hwx⟩; subst wx)
       go_roundw
       case rel => exact ⟨1 + 1, x, m, l, _, _, rfl, by first | rfl | (congr 1; omega), by omega, HRU.out, HXL.out, HN.out⟩
       case measure => simp [intOf]
      | false =>
       rw [hmq] at cq
       obtain ⟨fa1, fa2, fa3⟩ := HFA.out 1
       rw [← HRE.out] at fa1 fa2 fa3
       have hct := cntF_set hmq
       obtain ⟨f', rfl⟩ : ∃ f', f = f' + 1 := ⟨f - 1, by dsimp only at fa2; omega⟩
       rw [stepOf_in hmq] at HSQ
       have HCW : Hid (∀ V, Below wo.heap.size wo V → Calls Tryz.prog 50 #[.agg #[.string nm, .slice pa pl pc, .int .u8 r, .slice va vl vc, .slice aa al ac, .slice (some ⟨g, o, none⟩) n bc], .int .i64 (q : Int), .slice (some ⟨gm, 0, none⟩) n n, .slice xa x xc] V fun e w' => ∃ lv', e = .returned lv' ∧ WR w0 w' gm n lv' (dfs (tms bs) f' q (m.set q true) l).1 (dfs (tms bs) f' q (m.set q true) l).2 ∧ WT V w' gm (.slice xa x xc) lv') := fun V hV => HIH.out f' rfl q m l (.slice xa x xc) V (HRU.out.wr'.below hV) hqn (by dsimp only at fa2; omega) (by dsimp only at fa3; have h9 := HLN.out; omega)
       generalize dfs (tms bs) f' q (m.set q true) l = D at *
       obtain ⟨m2, l2⟩ := D
       obtain ⟨e0, e1, e2, e3, e4, e5⟩ := box6 HRU.out.bg
       have hel := HRU.out.bg.lt
       clear fa1 fa2 fa3 hct hmq HRE
       go_wp2_with (go_at_call 49; refine Calls.mono (HPY.out _) ?_; rintro e wx ⟨rfl, hwx⟩; subst wx)
       refine wp_region_last2 7 _ _ rfl rfl rfl rfl (by kernel_rfl) (by kernel_rfl) (by kernel_rfl) (by kernel_rfl) (by kernel_rfl) (by kernel_rfl) (by kernel_rfl) ?_
       simp only [List.take_succ_cons, List.take_zero]
       repeat (go_big_quiet_step (fail))
       refine wpQuiet_nil ?_
       intro _ hw'
       obtain ⟨nq, hw''⟩ := hw'
       subst hw''
       intro K hK
       go_simp
       refine Calls.mono (by exact HCW.out _ (below_drewN (Below.refl _ _) nq)) ?_
       rintro e w7 ⟨lv7, rfl, hw7, ht7⟩
       obtain ⟨xa7, xc7, rfl⟩ : ∃ xa7 xc7, lv7 = .slice xa7 l2.length xc7 := by obtain ⟨u, v, hv, _⟩ := own_blk (Nat.le_refl _) hw7.lrow; exact ⟨u, v, hv⟩
       refine hK _ _ ?_
       clear hK K
       have HZ : Hid (WU w0 Wb w7 gm n W.heap.size [.string nm, .slice pa pl pc, .int .u8 r, .slice va vl vc, .slice aa al ac, .slice (some ⟨g, o, none⟩) n bc] [.int .u8 2, .int .i64 ta, .int .i64 t0, .int .i64 t1, .int .u8 tt] (.slice la ll lc) (.slice xa7 l2.length xc7) m2 l2) := (HRU.out.below (below_drewN (Below.refl _ _) nq)).next hw7 ht7
       clear hw7 ht7 HCW
       go_simp
       go_wp2
       go_roundw
       case rel => exact ⟨1 + 1, l2.length, m2, l2, _, _, rfl, by first | rfl | (congr 1; omega), by omega, HZ.out, rfl, HSQ.out.symm⟩
       case measure => simp [intOf]
    ·have f1 : (tk == 1) = false := beq_false_of_ne k1
     have f2 : (tk == 2) = false := beq_false_of_ne k2
     have HN : Hid ((m, l) = ((namedT ⟨tk, ta, t0, t1, tt⟩).take (1 + 1)).foldl (stepOf (tms bs) f) (met.set a true, left)) := by show _ = _; rw [fold_same (by unfold namedT; simp [k1, k2]), ← HRE.out]
     clear HRE
     go_wp2
     go_roundw
     case rel => exact ⟨1 + 1, x, m, l, _, _, rfl, by first | rfl | (congr 1; omega), by omega, HRU.out, HXL.out, HN.out⟩
     case measure => simp [intOf]
  ·have HEQ : Hid ((m, l) = (namedT ⟨tk, ta, t0, t1, tt⟩).foldl (stepOf (tms bs) f) (met.set a true, left)) := by
    have h9 := HRE.out
    rw [List.take_of_length_le (named_two _)] at h9
    exact h9
   obtain ⟨fa1, fa2, fa3⟩ := HFA.out 2
   rw [← HRE.out] at fa1 fa2 fa3
   have hxl : x ≤ 4000 := by rw [HXL.out]; dsimp only at fa3; have h9 := HLN.out; omega
   have HOW : Hid (wo.ownsRow w0.heap.size 3 1 (.slice xa x xc) x (l.map intV)) := by have h9 := HRU.out.wr'.lrow; unfold OwnI at h9; rw [← HXL.out] at h9; exact h9
   have hws : w0.heap.size ≤ wo.heap.size := HRU.out.wr'.bel.size
   obtain ⟨i0, hi0, hz0, hz1, hz2⟩ := info_parts infoI
   clear HRE HFA fa1 fa2 fa3 HIH
   go_wp2_with (at_builtin; go_loud (refine wpList_append_own_at _ rfl _ _ 22 rfl w0.heap.size 3 i0 (.int .i64 0) 1 8 Tryz.underlying22 hi0 hz0 hz1 hz2 rfl (by decide) _ x (l.map intV) rfl (HOW.out.alloc _) ⟨wo.heap.size, 0, none⟩ 1 1 [intV (a : Int)] rfl rfl ?c1 ?c2 ?c3 ?c4 ?c5 ?_))
   case c1 => exact cell_one_new wo (intV (a : Int)) 3
   case c2 => intro u hu; simp at hu; subst hu; rfl
   case c3 => unfold maxLen; omega
   case c4 => omega
   case c5 => simp; omega
   intro v2 w2 ho hg2 _ hat
   have HF : Hid (WR w0 w2 gm n v2 m (l ++ [(a : Int)]) ∧ WT W w2 gm (.slice la ll lc) v2) := by
    have h8 := (HRU.out.wr'.below (below_alloc (Below.refl wo.heap.size wo) (.cells #[.int .i64 (a : Int)] 3)))
    obtain ⟨p1, p2⟩ := h8.push (x := (a : Int)) (by rw [← HXL.out]; exact ho) hg2 (by rcases hat with e | e; exact .inl e; exact .inr (by rw [World.size_alloc]; exact e))
    exact ⟨p1, ((HWT.out.trans HRU.out.wt).trans (WT.below (below_alloc (Below.refl _ _) _))).trans p2⟩
   clear ho hg2 hat
   go_wp2
   go_ret
   refine ⟨_, rfl, ?_, HF.out.2⟩
   rw [← HEQ.out]
   exact HF.out.1
theorem rwalk_all {w0 : World} {G : Gr} {pv vv av bv : Value} {gm n : Nat} (hG : GrAt w0 pv vv av bv G) (hn : G.blocks.length = n) : ∀ f, DoesRW w0 G pv vv av bv gm n f
 | 0 => rwalk_step hG hn fun f' he => by omega
 | f + 1 => rwalk_step hG hn fun f' he => by cases he; exact rwalk_all hG hn f
end Go.Proofs.YtobnpllppohofaaGreatDoor
