/- The program's walk: one node more is met. -/
import Derived.Test.YtogjjmbcbnceoaaGreatDMt0
import Derived.Test.YtogjjmbcbnceoaaGreatDLate2
namespace Go.Proofs.YtogjjmbcbnceoaaGreat
open Go.RowKit Lt

set_option maxRecDepth 100000 in
set_option maxHeartbeats 4000000 in
theorem meet_any (base : Nat) (e : WEnv) (s : WSt) (v : Nat) (w : World) (A : WAt w base e s) (hv : v < e.n) (hpl : s.ps.length = e.n) (hn : e.n ≤ 2000000) (h1 : s.ns.length ≤ 2000000) (h2 : s.fs.length ≤ 2000000) (h3 : s.gs.length ≤ 2000000) :
    Calls Tryz.prog 47 #[.int .i64 (v : Int), ptr e.WB, ptr e.AB, ptr e.GB] w fun r w' => r = .returned (.tuple #[]) ∧ (∃ nsV fsV gsV, WAt w' base e { s with at' := (s.ns.length : Int), nsV := nsV, fsV := fsV, gsV := gsV, ns := s.ns ++ [(v : Int)], fs := s.fs ++ [s.at'], gs := s.gs ++ [0], ps := s.ps.set v (s.ns.length : Int) }) ∧ Below base w w' := by
  obtain ⟨WB, GB, AB, MB, pg, n, mf⟩ := e
  obtain ⟨at', nsV, fsV, gsV, ns, fs, gs, ps⟩ := s
  simp only at hv hpl hn h1 h2 h3
  obtain ⟨na, nc, hnsV⟩ := own_sl A.rn
  simp only at hnsV
  subst hnsV
  obtain ⟨c0, c1, c2⟩ := A.wb
  simp only at c0 c1 c2
  obtain ⟨y, hy⟩ : ∃ y, ps[v]? = some y := ⟨_, List.getElem?_eq_getElem (by omega)⟩
  obtain ⟨c3, f3⟩ := A.p hy
  simp only at c3 f3
  have hv' : (v : Int) < n := by omega
  have HA1 : Hid _ := A.setP v (ns.length : Int)
  have HBL : Hid (Below base w (w.setCell ⟨pg, v, none⟩ (.int .i64 (ns.length : Int)))) := Below.setCell (p := ⟨pg, v, none⟩) (Below.refl _ _) (A.hp.lt (i := 6) (n := n) (c := n) rfl).1 _
  have HBW : Hid (base ≤ w.heap.size) := A.hb
  have HPL : Hid (ps.length = n) := hpl
  clear A hy hpl
  go_enter Tryz.func47, Tryz.ntmps47
  go_wp2
  clear c0 c1 c2 c3 f3
  generalize w.setCell ⟨pg, v, none⟩ (.int .i64 (ns.length : Int)) = w1 at *
  obtain ⟨c0, c1, c2⟩ := HA1.out.wb
  simp only at c0 c1 c2
  obtain ⟨c3, f3⟩ := HA1.out.ab
  simp only at c3 f3
  have c4 := HA1.out.gb
  simp only at c4
  have HME0 : Hid (MeAt w1.drew w1.drew base ⟨WB, GB, AB, MB, pg, n, mf⟩ ⟨at', .slice na ns.length nc, fsV, gsV, ns, fs, gs, ps.set v (ns.length : Int)⟩ (v : Int) 0 0 0 undef undef undef undef undef undef) := (HA1.out.same (w' := w1.drew) rfl).me (v : Int) undef undef undef undef undef undef
  have hl1 : ns.length ≤ 10000000 := by omega
  have hl2 : fs.length ≤ 10000000 := by omega
  have hl3 : gs.length ≤ 10000000 := by omega
  refine wp_region_late (SM ⟨WB, GB, AB, MB, pg, n, mf⟩ ⟨at', .slice na ns.length nc, fsV, gsV, ns, fs, gs, ps.set v (ns.length : Int)⟩) (fun j => j == 14 || j == 15 || j == 16 || j == 17) (by kernel_rfl) HME0.out.s (fun hHeld => ?_)
  have HB2 : Hid (base ≤ w1.drew.heap.size) := HA1.out.hb
  have HBD : Hid (Below base w w1.drew) := bel_drewN HBL.out 1
  have HM := HME0
  clear HME0 HA1 HBL c0 c1 c2 c3 f3 c4
  generalize w1.drew = w2 at *
  refine wpAnyL_take2 0 (v := ?_) rfl (by kernel_rfl) (by kernel_rfl) (by kernel_rfl) (by kernel_rfl) (by kernel_rfl) (fun _ _ _ h => h) hHeld (Or.inl ⟨by rfl, ?_⟩) ?_
  rotate_left 1
  · (intro w hSw; obtain ⟨hS1, hS2, hS3, hS4⟩ := hSw; (try dsimp only at hS1 hS2 hS3 hS4); first | (go_simp; done) | (go_simp; with_reducible rfl))
  simp only [Act.put, List.setIfInBounds_toArray]
  refine wpAnyL_take2 1 (v := ?_) rfl (by kernel_rfl) (by kernel_rfl) (by kernel_rfl) (by kernel_rfl) (by kernel_rfl) (fun _ _ _ h => h) hHeld (Or.inl ⟨by rfl, ?_⟩) ?_
  rotate_left 1
  · (intro w hSw; obtain ⟨hS1, hS2, hS3, hS4⟩ := hSw; (try dsimp only at hS1 hS2 hS3 hS4); first | (go_simp; done) | (go_simp; with_reducible rfl))
  simp only [Act.put]
  refine wpAnyL_take2 2 (v := ?_) rfl (by kernel_rfl) (by kernel_rfl) (by kernel_rfl) (by kernel_rfl) (by kernel_rfl) (fun _ _ _ h => h) hHeld (Or.inl ⟨by rfl, ?_⟩) ?_
  rotate_left 1
  · (intro w hSw; obtain ⟨hS1, hS2, hS3, hS4⟩ := hSw; (try dsimp only at hS1 hS2 hS3 hS4); first | (go_simp; done) | (go_simp; with_reducible rfl))
  simp only [Act.put]
  refine wpAnyL_take2 5 (v := ?_) rfl (by kernel_rfl) (by kernel_rfl) (by kernel_rfl) (by kernel_rfl) (by kernel_rfl) (fun _ _ _ h => h) hHeld (Or.inl ⟨by rfl, ?_⟩) ?_
  rotate_left 1
  · (intro w hSw; obtain ⟨hS1, hS2, hS3, hS4⟩ := hSw; (try dsimp only at hS1 hS2 hS3 hS4); first | (go_simp; done) | (go_simp; with_reducible rfl))
  simp only [Act.put]
  refine wpAnyL_take2 6 (v := ?_) rfl (by kernel_rfl) (by kernel_rfl) (by kernel_rfl) (by kernel_rfl) (by kernel_rfl) (fun _ _ _ h => h) hHeld (Or.inl ⟨by rfl, ?_⟩) ?_
  rotate_left 1
  · (intro w hSw; obtain ⟨hS1, hS2, hS3, hS4⟩ := hSw; (try dsimp only at hS1 hS2 hS3 hS4); first | (go_simp; done) | (go_simp; with_reducible rfl))
  simp only [Act.put]
  refine wpAnyL_take2 7 (v := ?_) rfl (by kernel_rfl) (by kernel_rfl) (by kernel_rfl) (by kernel_rfl) (by kernel_rfl) (fun _ _ _ h => h) hHeld (Or.inl ⟨by rfl, ?_⟩) ?_
  rotate_left 1
  · (intro w hSw; obtain ⟨hS1, hS2, hS3, hS4⟩ := hSw; (try dsimp only at hS1 hS2 hS3 hS4); first | (go_simp; done) | (go_simp; with_reducible rfl))
  simp only [Act.put]
  refine wpAnyL_take2 10 (v := ?_) rfl (by kernel_rfl) (by kernel_rfl) (by kernel_rfl) (by kernel_rfl) (by kernel_rfl) (fun _ _ _ h => h) hHeld (Or.inl ⟨by rfl, ?_⟩) ?_
  rotate_left 1
  · (intro w hSw; obtain ⟨hS1, hS2, hS3, hS4⟩ := hSw; (try dsimp only at hS1 hS2 hS3 hS4); first | (go_simp; done) | (go_simp; with_reducible rfl))
  simp only [Act.put]
  clear hHeld
  refine wpAnyL_ready [3, 8, 11] (by kernel_rfl) (by simp) (all_cons (wpOp_step rfl (fun K hK0 => ?_)) (all_cons (wpOp_step rfl (fun K hK0 => ?_)) (all_cons (wpOp_step rfl (fun K hK0 => ?_)) (all_nil))))
  · skip
    have hK : Shut _ := hK0
    clear hK0
    go_simp
    have HM2 : Hid (MeAt w2 (w2.alloc (.cells #[.int .i64 (v : Int)] 3)) base ⟨WB, GB, AB, MB, pg, n, mf⟩ ⟨at', .slice na ns.length nc, fsV, gsV, ns, fs, gs, ps.set v (ns.length : Int)⟩ (v : Int) 1 0 0 (slV w2.heap.size 1) undef undef undef undef undef) := HM.out.b1 HB2.out
    refine hK.out _ _ ⟨fun _ => HM2.out.s, ?_⟩
    clear hK K HM
    have HM := HM2
    clear HM2
    generalize w2.alloc (.cells #[.int .i64 (v : Int)] 3) = w11 at *
    refine wpAnyL_ready [4, 8, 11] (by kernel_rfl) (by simp) (all_cons (wpOp_step rfl (fun K hK0 => ?_)) (all_cons (wpOp_step rfl (fun K hK0 => ?_)) (all_cons (wpOp_step rfl (fun K hK0 => ?_)) (all_nil))))
    · skip
      have hK : Shut _ := hK0
      clear hK0
      obtain ⟨q2, d2, w12, hrun, hme⟩ := HM.out.a1 hl1
      have HM2 : Hid (MeAt w2 w12 base ⟨WB, GB, AB, MB, pg, n, mf⟩ ⟨at', .slice na ns.length nc, fsV, gsV, ns, fs, gs, ps.set v (ns.length : Int)⟩ (v : Int) 2 0 0 (slV w2.heap.size 1) (.slice (some ⟨q2, 0, none⟩) (ns.length + 1) d2) undef undef undef undef) := hme
      refine step_append_run rfl (.tmp 13) (.tmp 15) 23 rfl _ _ _ _ ?e1 ?e2 (hrun _) ?_
      case e1 => simp [Act.eval]
      case e2 => simp [Act.eval]
      refine hK.out _ _ ⟨fun _ => HM2.out.s, ?_⟩
      clear hK K HM hrun hme
      have HM := HM2
      clear HM2
      simp only [Act.put]
      have hHeld := HM.out.s
      refine wpAnyL_take2 13 (v := ?_) rfl (by kernel_rfl) (by kernel_rfl) (by kernel_rfl) (by kernel_rfl) (by kernel_rfl) (fun _ _ _ h => h) hHeld (Or.inl ⟨by rfl, ?_⟩) ?_
      rotate_left 1
      · (intro w hSw; obtain ⟨hS1, hS2, hS3, hS4⟩ := hSw; (try dsimp only at hS1 hS2 hS3 hS4); first | (go_simp; done) | (go_simp; with_reducible rfl))
      simp only [Act.put]
      clear hHeld
      refine wpAnyL_ready [8, 11] (by kernel_rfl) (by simp) (all_cons (wpOp_step rfl (fun K hK0 => ?_)) (all_cons (wpOp_step rfl (fun K hK0 => ?_)) (all_nil)))
      · skip
        have hK : Shut _ := hK0
        clear hK0
        go_simp
        have HM2 : Hid (MeAt w2 (w12.alloc (.cells #[.int .i64 at'] 3)) base ⟨WB, GB, AB, MB, pg, n, mf⟩ ⟨at', .slice na ns.length nc, fsV, gsV, ns, fs, gs, ps.set v (ns.length : Int)⟩ (v : Int) 2 1 0 (slV w2.heap.size 1) (.slice (some ⟨q2, 0, none⟩) (ns.length + 1) d2) (slV w12.heap.size 1) undef undef undef) := HM.out.b2 HB2.out
        refine hK.out _ _ ⟨fun _ => HM2.out.s, ?_⟩
        clear hK K HM
        have HM := HM2
        clear HM2
        generalize w12.alloc (.cells #[.int .i64 at'] 3) = w13 at *
        refine wpAnyL_ready [9, 11] (by kernel_rfl) (by simp) (all_cons (wpOp_step rfl (fun K hK0 => ?_)) (all_cons (wpOp_step rfl (fun K hK0 => ?_)) (all_nil)))
        · skip
          have hK : Shut _ := hK0
          clear hK0
          obtain ⟨q4, d4, w14, hrun, hme⟩ := HM.out.a2 hl2
          have HM2 : Hid (MeAt w2 w14 base ⟨WB, GB, AB, MB, pg, n, mf⟩ ⟨at', .slice na ns.length nc, fsV, gsV, ns, fs, gs, ps.set v (ns.length : Int)⟩ (v : Int) 2 2 0 (slV w2.heap.size 1) (.slice (some ⟨q2, 0, none⟩) (ns.length + 1) d2) (slV w12.heap.size 1) (.slice (some ⟨q4, 0, none⟩) (fs.length + 1) d4) undef undef) := hme
          refine step_append_run rfl (.tmp 18) (.tmp 20) 23 rfl _ _ _ _ ?e1 ?e2 (hrun _) ?_
          case e1 => simp [Act.eval]
          case e2 => simp [Act.eval]
          refine hK.out _ _ ⟨fun _ => HM2.out.s, ?_⟩
          clear hK K HM hrun hme
          have HM := HM2
          clear HM2
          simp only [Act.put]
          refine wpAnyL_one 11 (by kernel_rfl) rfl (fun K hK0 => ?_)
          have hK : Shut _ := hK0
          clear hK0
          go_simp
          have HM2 : Hid (MeAt w2 (w14.alloc (.cells #[.int .i64 0] 3)) base ⟨WB, GB, AB, MB, pg, n, mf⟩ ⟨at', .slice na ns.length nc, fsV, gsV, ns, fs, gs, ps.set v (ns.length : Int)⟩ (v : Int) 2 2 1 (slV w2.heap.size 1) (.slice (some ⟨q2, 0, none⟩) (ns.length + 1) d2) (slV w12.heap.size 1) (.slice (some ⟨q4, 0, none⟩) (fs.length + 1) d4) (slV w14.heap.size 1) undef) := HM.out.b3 HB2.out
          refine hK.out _ _ (fun _ => HM2.out.s) ?_
          clear hK K HM
          have HM := HM2
          clear HM2
          generalize w14.alloc (.cells #[.int .i64 0] 3) = w15 at *
          refine wpAnyL_one 12 (by kernel_rfl) rfl (fun K hK0 => ?_)
          have hK : Shut _ := hK0
          clear hK0
          obtain ⟨q6, d6, w16, hrun, hme⟩ := HM.out.a3 hl3
          have HM2 : Hid (MeAt w2 w16 base ⟨WB, GB, AB, MB, pg, n, mf⟩ ⟨at', .slice na ns.length nc, fsV, gsV, ns, fs, gs, ps.set v (ns.length : Int)⟩ (v : Int) 2 2 2 (slV w2.heap.size 1) (.slice (some ⟨q2, 0, none⟩) (ns.length + 1) d2) (slV w12.heap.size 1) (.slice (some ⟨q4, 0, none⟩) (fs.length + 1) d4) (slV w14.heap.size 1) (.slice (some ⟨q6, 0, none⟩) (gs.length + 1) d6)) := hme
          refine step_append_run rfl (.tmp 22) (.tmp 23) 23 rfl _ _ _ _ ?e1 ?e2 (hrun _) ?_
          case e1 => simp [Act.eval]
          case e2 => simp [Act.eval]
          refine hK.out _ _ (fun _ => HM2.out.s) ?_
          clear hK K HM hrun hme
          have HM := HM2
          clear HM2
          simp only [Act.put]
          obtain ⟨⟨_, _, e1⟩, ⟨_, _, e2⟩, ⟨_, _, e3⟩, hA9⟩ := HM.out.put
          clear e1 e2 e3
          obtain ⟨hS1, hS2, hS3, hS4⟩ := HM.out.s
          simp only at hS1 hS2 hS3 hS4
          have hB9 := HM.out.bel
          obtain ⟨fw1, fw2, fw3, ⟨lw, lg, la⟩, nw1, nw2⟩ := HM.out.fz
          simp only at fw1 fw2 fw3 nw1 nw2 lw lg la hA9
          refine wpAnyL_one 14 (by kernel_rfl) rfl (fun K hK0 => ?_)
          have hK : Shut _ := hK0
          clear hK0
          go_simp
          refine hK.out _ _ (fun h => by cases h) ?_
          clear hK K
          refine wpAnyL_one 15 (by kernel_rfl) rfl (fun K hK0 => ?_)
          have hK : Shut _ := hK0
          clear hK0
          go_simp
          refine hK.out _ _ (fun h => by cases h) ?_
          clear hK K
          refine wpAnyL_one 16 (by kernel_rfl) rfl (fun K hK0 => ?_)
          have hK : Shut _ := hK0
          clear hK0
          go_simp
          refine hK.out _ _ (fun h => by cases h) ?_
          clear hK K
          refine wpAnyL_one 17 (by kernel_rfl) rfl (fun K hK0 => ?_)
          have hK : Shut _ := hK0
          clear hK0
          go_simp
          refine hK.out _ _ (fun h => by cases h) ?_
          clear hK K
          refine wpAnyL_done (by kernel_rfl) ?_
          have HA9 : Hid (WAt (((w16.setCell ⟨WB, 0, none⟩ (.slice (some ⟨q2, 0, none⟩) (ns.length + 1) d2)).setCell ⟨WB, 1, none⟩ (.slice (some ⟨q4, 0, none⟩) (fs.length + 1) d4)).setCell ⟨GB, 0, none⟩ (.slice (some ⟨q6, 0, none⟩) (gs.length + 1) d6)) base ⟨WB, GB, AB, MB, pg, n, mf⟩ ⟨at', (.slice (some ⟨q2, 0, none⟩) (ns.length + 1) d2), (.slice (some ⟨q4, 0, none⟩) (fs.length + 1) d4), (.slice (some ⟨q6, 0, none⟩) (gs.length + 1) d6), ns ++ [(v : Int)], fs ++ [at'], gs ++ [0], ps.set v (ns.length : Int)⟩) := hA9
          have HB9 : Hid (Below base w (((w16.setCell ⟨WB, 0, none⟩ (.slice (some ⟨q2, 0, none⟩) (ns.length + 1) d2)).setCell ⟨WB, 1, none⟩ (.slice (some ⟨q4, 0, none⟩) (fs.length + 1) d4)).setCell ⟨GB, 0, none⟩ (.slice (some ⟨q6, 0, none⟩) (gs.length + 1) d6))) := Below.setCell (p := ⟨GB, 0, none⟩) (Below.setCell (p := ⟨WB, 1, none⟩) (Below.setCell (p := ⟨WB, 0, none⟩) (HBD.out.trans hB9) lw _) lw _) lg _
          have LA : Hid _ := la
          clear hA9 hB9 hS1 hS2 hS3 hS4 fw1 fw2 fw3 lw lg la nw1 nw2 HM HB2 HBD
          generalize (((w16.setCell ⟨WB, 0, none⟩ (.slice (some ⟨q2, 0, none⟩) (ns.length + 1) d2)).setCell ⟨WB, 1, none⟩ (.slice (some ⟨q4, 0, none⟩) (fs.length + 1) d4)).setCell ⟨GB, 0, none⟩ (.slice (some ⟨q6, 0, none⟩) (gs.length + 1) d6)) = w9 at *
          obtain ⟨_, _, k2⟩ := HA9.out.wb
          obtain ⟨k3, k4⟩ := HA9.out.p (i := v) (x := (ns.length : Int)) (by show (ps.set v (ns.length : Int))[v]? = _; rw [List.getElem?_set, if_pos rfl, if_pos (by rw [HPL.out]; exact hv)])
          obtain ⟨k5, k6⟩ := HA9.out.ab
          simp only at k2 k3 k4 k5 k6
          have HA10 : Hid _ := HA9.out.setAt (ns.length : Int)
          have HB10 : Hid (Below base w (w9.setCell ⟨AB, 0, none⟩ (.int .i64 (ns.length : Int)))) := Below.setCell (p := ⟨AB, 0, none⟩) HB9.out LA.out _
          clear HA9 HB9
          go_wp2
          go_end0
          exact ⟨rfl, ⟨_, _, _, HA10.out⟩, HB10.out⟩
        · skip
          have hK : Shut _ := hK0
          clear hK0
          go_simp
          have HM2 : Hid (MeAt w2 (w13.alloc (.cells #[.int .i64 0] 3)) base ⟨WB, GB, AB, MB, pg, n, mf⟩ ⟨at', .slice na ns.length nc, fsV, gsV, ns, fs, gs, ps.set v (ns.length : Int)⟩ (v : Int) 2 1 1 (slV w2.heap.size 1) (.slice (some ⟨q2, 0, none⟩) (ns.length + 1) d2) (slV w12.heap.size 1) undef (slV w13.heap.size 1) undef) := HM.out.b3 HB2.out
          refine hK.out _ _ ⟨fun _ => HM2.out.s, ?_⟩
          clear hK K HM
          have HM := HM2
          clear HM2
          generalize w13.alloc (.cells #[.int .i64 0] 3) = w17 at *
          refine wpAnyL_one 9 (by kernel_rfl) rfl (fun K hK0 => ?_)
          have hK : Shut _ := hK0
          clear hK0
          obtain ⟨q8, d8, w18, hrun, hme⟩ := HM.out.a2 hl2
          have HM2 : Hid (MeAt w2 w18 base ⟨WB, GB, AB, MB, pg, n, mf⟩ ⟨at', .slice na ns.length nc, fsV, gsV, ns, fs, gs, ps.set v (ns.length : Int)⟩ (v : Int) 2 2 1 (slV w2.heap.size 1) (.slice (some ⟨q2, 0, none⟩) (ns.length + 1) d2) (slV w12.heap.size 1) (.slice (some ⟨q8, 0, none⟩) (fs.length + 1) d8) (slV w13.heap.size 1) undef) := hme
          refine step_append_run rfl (.tmp 18) (.tmp 20) 23 rfl _ _ _ _ ?e1 ?e2 (hrun _) ?_
          case e1 => simp [Act.eval]
          case e2 => simp [Act.eval]
          refine hK.out _ _ (fun _ => HM2.out.s) ?_
          clear hK K HM hrun hme
          have HM := HM2
          clear HM2
          simp only [Act.put]
          refine wpAnyL_one 12 (by kernel_rfl) rfl (fun K hK0 => ?_)
          have hK : Shut _ := hK0
          clear hK0
          obtain ⟨q9, d9, w19, hrun, hme⟩ := HM.out.a3 hl3
          have HM2 : Hid (MeAt w2 w19 base ⟨WB, GB, AB, MB, pg, n, mf⟩ ⟨at', .slice na ns.length nc, fsV, gsV, ns, fs, gs, ps.set v (ns.length : Int)⟩ (v : Int) 2 2 2 (slV w2.heap.size 1) (.slice (some ⟨q2, 0, none⟩) (ns.length + 1) d2) (slV w12.heap.size 1) (.slice (some ⟨q8, 0, none⟩) (fs.length + 1) d8) (slV w13.heap.size 1) (.slice (some ⟨q9, 0, none⟩) (gs.length + 1) d9)) := hme
          refine step_append_run rfl (.tmp 22) (.tmp 23) 23 rfl _ _ _ _ ?e1 ?e2 (hrun _) ?_
          case e1 => simp [Act.eval]
          case e2 => simp [Act.eval]
          refine hK.out _ _ (fun _ => HM2.out.s) ?_
          clear hK K HM hrun hme
          have HM := HM2
          clear HM2
          simp only [Act.put]
          obtain ⟨⟨_, _, e1⟩, ⟨_, _, e2⟩, ⟨_, _, e3⟩, hA9⟩ := HM.out.put
          clear e1 e2 e3
          obtain ⟨hS1, hS2, hS3, hS4⟩ := HM.out.s
          simp only at hS1 hS2 hS3 hS4
          have hB9 := HM.out.bel
          obtain ⟨fw1, fw2, fw3, ⟨lw, lg, la⟩, nw1, nw2⟩ := HM.out.fz
          simp only at fw1 fw2 fw3 nw1 nw2 lw lg la hA9
          refine wpAnyL_one 14 (by kernel_rfl) rfl (fun K hK0 => ?_)
          have hK : Shut _ := hK0
          clear hK0
          go_simp
          refine hK.out _ _ (fun h => by cases h) ?_
          clear hK K
          refine wpAnyL_one 15 (by kernel_rfl) rfl (fun K hK0 => ?_)
          have hK : Shut _ := hK0
          clear hK0
          go_simp
          refine hK.out _ _ (fun h => by cases h) ?_
          clear hK K
          refine wpAnyL_one 16 (by kernel_rfl) rfl (fun K hK0 => ?_)
          have hK : Shut _ := hK0
          clear hK0
          go_simp
          refine hK.out _ _ (fun h => by cases h) ?_
          clear hK K
          refine wpAnyL_one 17 (by kernel_rfl) rfl (fun K hK0 => ?_)
          have hK : Shut _ := hK0
          clear hK0
          go_simp
          refine hK.out _ _ (fun h => by cases h) ?_
          clear hK K
          refine wpAnyL_done (by kernel_rfl) ?_
          have HA9 : Hid (WAt (((w19.setCell ⟨WB, 0, none⟩ (.slice (some ⟨q2, 0, none⟩) (ns.length + 1) d2)).setCell ⟨WB, 1, none⟩ (.slice (some ⟨q8, 0, none⟩) (fs.length + 1) d8)).setCell ⟨GB, 0, none⟩ (.slice (some ⟨q9, 0, none⟩) (gs.length + 1) d9)) base ⟨WB, GB, AB, MB, pg, n, mf⟩ ⟨at', (.slice (some ⟨q2, 0, none⟩) (ns.length + 1) d2), (.slice (some ⟨q8, 0, none⟩) (fs.length + 1) d8), (.slice (some ⟨q9, 0, none⟩) (gs.length + 1) d9), ns ++ [(v : Int)], fs ++ [at'], gs ++ [0], ps.set v (ns.length : Int)⟩) := hA9
          have HB9 : Hid (Below base w (((w19.setCell ⟨WB, 0, none⟩ (.slice (some ⟨q2, 0, none⟩) (ns.length + 1) d2)).setCell ⟨WB, 1, none⟩ (.slice (some ⟨q8, 0, none⟩) (fs.length + 1) d8)).setCell ⟨GB, 0, none⟩ (.slice (some ⟨q9, 0, none⟩) (gs.length + 1) d9))) := Below.setCell (p := ⟨GB, 0, none⟩) (Below.setCell (p := ⟨WB, 1, none⟩) (Below.setCell (p := ⟨WB, 0, none⟩) (HBD.out.trans hB9) lw _) lw _) lg _
          have LA : Hid _ := la
          clear hA9 hB9 hS1 hS2 hS3 hS4 fw1 fw2 fw3 lw lg la nw1 nw2 HM HB2 HBD
          generalize (((w19.setCell ⟨WB, 0, none⟩ (.slice (some ⟨q2, 0, none⟩) (ns.length + 1) d2)).setCell ⟨WB, 1, none⟩ (.slice (some ⟨q8, 0, none⟩) (fs.length + 1) d8)).setCell ⟨GB, 0, none⟩ (.slice (some ⟨q9, 0, none⟩) (gs.length + 1) d9)) = w9 at *
          obtain ⟨_, _, k2⟩ := HA9.out.wb
          obtain ⟨k3, k4⟩ := HA9.out.p (i := v) (x := (ns.length : Int)) (by show (ps.set v (ns.length : Int))[v]? = _; rw [List.getElem?_set, if_pos rfl, if_pos (by rw [HPL.out]; exact hv)])
          obtain ⟨k5, k6⟩ := HA9.out.ab
          simp only at k2 k3 k4 k5 k6
          have HA10 : Hid _ := HA9.out.setAt (ns.length : Int)
          have HB10 : Hid (Below base w (w9.setCell ⟨AB, 0, none⟩ (.int .i64 (ns.length : Int)))) := Below.setCell (p := ⟨AB, 0, none⟩) HB9.out LA.out _
          clear HA9 HB9
          go_wp2
          go_end0
          exact ⟨rfl, ⟨_, _, _, HA10.out⟩, HB10.out⟩
      · skip
        have hK : Shut _ := hK0
        clear hK0
        go_simp
        have HM2 : Hid (MeAt w2 (w12.alloc (.cells #[.int .i64 0] 3)) base ⟨WB, GB, AB, MB, pg, n, mf⟩ ⟨at', .slice na ns.length nc, fsV, gsV, ns, fs, gs, ps.set v (ns.length : Int)⟩ (v : Int) 2 0 1 (slV w2.heap.size 1) (.slice (some ⟨q2, 0, none⟩) (ns.length + 1) d2) undef undef (slV w12.heap.size 1) undef) := HM.out.b3 HB2.out
        refine hK.out _ _ ⟨fun _ => HM2.out.s, ?_⟩
        clear hK K HM
        have HM := HM2
        clear HM2
        generalize w12.alloc (.cells #[.int .i64 0] 3) = w20 at *
        refine wpAnyL_one 8 (by kernel_rfl) rfl (fun K hK0 => ?_)
        have hK : Shut _ := hK0
        clear hK0
        go_simp
        have HM2 : Hid (MeAt w2 (w20.alloc (.cells #[.int .i64 at'] 3)) base ⟨WB, GB, AB, MB, pg, n, mf⟩ ⟨at', .slice na ns.length nc, fsV, gsV, ns, fs, gs, ps.set v (ns.length : Int)⟩ (v : Int) 2 1 1 (slV w2.heap.size 1) (.slice (some ⟨q2, 0, none⟩) (ns.length + 1) d2) (slV w20.heap.size 1) undef (slV w12.heap.size 1) undef) := HM.out.b2 HB2.out
        refine hK.out _ _ (fun _ => HM2.out.s) ?_
        clear hK K HM
        have HM := HM2
        clear HM2
        generalize w20.alloc (.cells #[.int .i64 at'] 3) = w21 at *
        refine wpAnyL_one 9 (by kernel_rfl) rfl (fun K hK0 => ?_)
        have hK : Shut _ := hK0
        clear hK0
        obtain ⟨q12, d12, w22, hrun, hme⟩ := HM.out.a2 hl2
        have HM2 : Hid (MeAt w2 w22 base ⟨WB, GB, AB, MB, pg, n, mf⟩ ⟨at', .slice na ns.length nc, fsV, gsV, ns, fs, gs, ps.set v (ns.length : Int)⟩ (v : Int) 2 2 1 (slV w2.heap.size 1) (.slice (some ⟨q2, 0, none⟩) (ns.length + 1) d2) (slV w20.heap.size 1) (.slice (some ⟨q12, 0, none⟩) (fs.length + 1) d12) (slV w12.heap.size 1) undef) := hme
        refine step_append_run rfl (.tmp 18) (.tmp 20) 23 rfl _ _ _ _ ?e1 ?e2 (hrun _) ?_
        case e1 => simp [Act.eval]
        case e2 => simp [Act.eval]
        refine hK.out _ _ (fun _ => HM2.out.s) ?_
        clear hK K HM hrun hme
        have HM := HM2
        clear HM2
        simp only [Act.put]
        refine wpAnyL_one 12 (by kernel_rfl) rfl (fun K hK0 => ?_)
        have hK : Shut _ := hK0
        clear hK0
        obtain ⟨q13, d13, w23, hrun, hme⟩ := HM.out.a3 hl3
        have HM2 : Hid (MeAt w2 w23 base ⟨WB, GB, AB, MB, pg, n, mf⟩ ⟨at', .slice na ns.length nc, fsV, gsV, ns, fs, gs, ps.set v (ns.length : Int)⟩ (v : Int) 2 2 2 (slV w2.heap.size 1) (.slice (some ⟨q2, 0, none⟩) (ns.length + 1) d2) (slV w20.heap.size 1) (.slice (some ⟨q12, 0, none⟩) (fs.length + 1) d12) (slV w12.heap.size 1) (.slice (some ⟨q13, 0, none⟩) (gs.length + 1) d13)) := hme
        refine step_append_run rfl (.tmp 22) (.tmp 23) 23 rfl _ _ _ _ ?e1 ?e2 (hrun _) ?_
        case e1 => simp [Act.eval]
        case e2 => simp [Act.eval]
        refine hK.out _ _ (fun _ => HM2.out.s) ?_
        clear hK K HM hrun hme
        have HM := HM2
        clear HM2
        simp only [Act.put]
        obtain ⟨⟨_, _, e1⟩, ⟨_, _, e2⟩, ⟨_, _, e3⟩, hA9⟩ := HM.out.put
        clear e1 e2 e3
        obtain ⟨hS1, hS2, hS3, hS4⟩ := HM.out.s
        simp only at hS1 hS2 hS3 hS4
        have hB9 := HM.out.bel
        obtain ⟨fw1, fw2, fw3, ⟨lw, lg, la⟩, nw1, nw2⟩ := HM.out.fz
        simp only at fw1 fw2 fw3 nw1 nw2 lw lg la hA9
        refine wpAnyL_one 14 (by kernel_rfl) rfl (fun K hK0 => ?_)
        have hK : Shut _ := hK0
        clear hK0
        go_simp
        refine hK.out _ _ (fun h => by cases h) ?_
        clear hK K
        refine wpAnyL_one 15 (by kernel_rfl) rfl (fun K hK0 => ?_)
        have hK : Shut _ := hK0
        clear hK0
        go_simp
        refine hK.out _ _ (fun h => by cases h) ?_
        clear hK K
        refine wpAnyL_one 16 (by kernel_rfl) rfl (fun K hK0 => ?_)
        have hK : Shut _ := hK0
        clear hK0
        go_simp
        refine hK.out _ _ (fun h => by cases h) ?_
        clear hK K
        refine wpAnyL_one 17 (by kernel_rfl) rfl (fun K hK0 => ?_)
        have hK : Shut _ := hK0
        clear hK0
        go_simp
        refine hK.out _ _ (fun h => by cases h) ?_
        clear hK K
        refine wpAnyL_done (by kernel_rfl) ?_
        have HA9 : Hid (WAt (((w23.setCell ⟨WB, 0, none⟩ (.slice (some ⟨q2, 0, none⟩) (ns.length + 1) d2)).setCell ⟨WB, 1, none⟩ (.slice (some ⟨q12, 0, none⟩) (fs.length + 1) d12)).setCell ⟨GB, 0, none⟩ (.slice (some ⟨q13, 0, none⟩) (gs.length + 1) d13)) base ⟨WB, GB, AB, MB, pg, n, mf⟩ ⟨at', (.slice (some ⟨q2, 0, none⟩) (ns.length + 1) d2), (.slice (some ⟨q12, 0, none⟩) (fs.length + 1) d12), (.slice (some ⟨q13, 0, none⟩) (gs.length + 1) d13), ns ++ [(v : Int)], fs ++ [at'], gs ++ [0], ps.set v (ns.length : Int)⟩) := hA9
        have HB9 : Hid (Below base w (((w23.setCell ⟨WB, 0, none⟩ (.slice (some ⟨q2, 0, none⟩) (ns.length + 1) d2)).setCell ⟨WB, 1, none⟩ (.slice (some ⟨q12, 0, none⟩) (fs.length + 1) d12)).setCell ⟨GB, 0, none⟩ (.slice (some ⟨q13, 0, none⟩) (gs.length + 1) d13))) := Below.setCell (p := ⟨GB, 0, none⟩) (Below.setCell (p := ⟨WB, 1, none⟩) (Below.setCell (p := ⟨WB, 0, none⟩) (HBD.out.trans hB9) lw _) lw _) lg _
        have LA : Hid _ := la
        clear hA9 hB9 hS1 hS2 hS3 hS4 fw1 fw2 fw3 lw lg la nw1 nw2 HM HB2 HBD
        generalize (((w23.setCell ⟨WB, 0, none⟩ (.slice (some ⟨q2, 0, none⟩) (ns.length + 1) d2)).setCell ⟨WB, 1, none⟩ (.slice (some ⟨q12, 0, none⟩) (fs.length + 1) d12)).setCell ⟨GB, 0, none⟩ (.slice (some ⟨q13, 0, none⟩) (gs.length + 1) d13)) = w9 at *
        obtain ⟨_, _, k2⟩ := HA9.out.wb
        obtain ⟨k3, k4⟩ := HA9.out.p (i := v) (x := (ns.length : Int)) (by show (ps.set v (ns.length : Int))[v]? = _; rw [List.getElem?_set, if_pos rfl, if_pos (by rw [HPL.out]; exact hv)])
        obtain ⟨k5, k6⟩ := HA9.out.ab
        simp only at k2 k3 k4 k5 k6
        have HA10 : Hid _ := HA9.out.setAt (ns.length : Int)
        have HB10 : Hid (Below base w (w9.setCell ⟨AB, 0, none⟩ (.int .i64 (ns.length : Int)))) := Below.setCell (p := ⟨AB, 0, none⟩) HB9.out LA.out _
        clear HA9 HB9
        go_wp2
        go_end0
        exact ⟨rfl, ⟨_, _, _, HA10.out⟩, HB10.out⟩
    · skip
      have hK : Shut _ := hK0
      clear hK0
      go_simp
      have HM2 : Hid (MeAt w2 (w11.alloc (.cells #[.int .i64 at'] 3)) base ⟨WB, GB, AB, MB, pg, n, mf⟩ ⟨at', .slice na ns.length nc, fsV, gsV, ns, fs, gs, ps.set v (ns.length : Int)⟩ (v : Int) 1 1 0 (slV w2.heap.size 1) undef (slV w11.heap.size 1) undef undef undef) := HM.out.b2 HB2.out
      refine hK.out _ _ ⟨fun _ => HM2.out.s, ?_⟩
      clear hK K HM
      have HM := HM2
      clear HM2
      generalize w11.alloc (.cells #[.int .i64 at'] 3) = w24 at *
      refine wpAnyL_ready [4, 11] (by kernel_rfl) (by simp) (all_cons (wpOp_step rfl (fun K hK0 => ?_)) (all_cons (wpOp_step rfl (fun K hK0 => ?_)) (all_nil)))
      · skip
        have hK : Shut _ := hK0
        clear hK0
        obtain ⟨q15, d15, w25, hrun, hme⟩ := HM.out.a1 hl1
        have HM2 : Hid (MeAt w2 w25 base ⟨WB, GB, AB, MB, pg, n, mf⟩ ⟨at', .slice na ns.length nc, fsV, gsV, ns, fs, gs, ps.set v (ns.length : Int)⟩ (v : Int) 2 1 0 (slV w2.heap.size 1) (.slice (some ⟨q15, 0, none⟩) (ns.length + 1) d15) (slV w11.heap.size 1) undef undef undef) := hme
        refine step_append_run rfl (.tmp 13) (.tmp 15) 23 rfl _ _ _ _ ?e1 ?e2 (hrun _) ?_
        case e1 => simp [Act.eval]
        case e2 => simp [Act.eval]
        refine hK.out _ _ ⟨fun _ => HM2.out.s, ?_⟩
        clear hK K HM hrun hme
        have HM := HM2
        clear HM2
        simp only [Act.put]
        have hHeld := HM.out.s
        refine wpAnyL_take2 13 (v := ?_) rfl (by kernel_rfl) (by kernel_rfl) (by kernel_rfl) (by kernel_rfl) (by kernel_rfl) (fun _ _ _ h => h) hHeld (Or.inl ⟨by rfl, ?_⟩) ?_
        rotate_left 1
        · (intro w hSw; obtain ⟨hS1, hS2, hS3, hS4⟩ := hSw; (try dsimp only at hS1 hS2 hS3 hS4); first | (go_simp; done) | (go_simp; with_reducible rfl))
        simp only [Act.put]
        clear hHeld
        refine wpAnyL_ready [9, 11] (by kernel_rfl) (by simp) (all_cons (wpOp_step rfl (fun K hK0 => ?_)) (all_cons (wpOp_step rfl (fun K hK0 => ?_)) (all_nil)))
        · skip
          have hK : Shut _ := hK0
          clear hK0
          obtain ⟨q16, d16, w26, hrun, hme⟩ := HM.out.a2 hl2
          have HM2 : Hid (MeAt w2 w26 base ⟨WB, GB, AB, MB, pg, n, mf⟩ ⟨at', .slice na ns.length nc, fsV, gsV, ns, fs, gs, ps.set v (ns.length : Int)⟩ (v : Int) 2 2 0 (slV w2.heap.size 1) (.slice (some ⟨q15, 0, none⟩) (ns.length + 1) d15) (slV w11.heap.size 1) (.slice (some ⟨q16, 0, none⟩) (fs.length + 1) d16) undef undef) := hme
          refine step_append_run rfl (.tmp 18) (.tmp 20) 23 rfl _ _ _ _ ?e1 ?e2 (hrun _) ?_
          case e1 => simp [Act.eval]
          case e2 => simp [Act.eval]
          refine hK.out _ _ ⟨fun _ => HM2.out.s, ?_⟩
          clear hK K HM hrun hme
          have HM := HM2
          clear HM2
          simp only [Act.put]
          refine wpAnyL_one 11 (by kernel_rfl) rfl (fun K hK0 => ?_)
          have hK : Shut _ := hK0
          clear hK0
          go_simp
          have HM2 : Hid (MeAt w2 (w26.alloc (.cells #[.int .i64 0] 3)) base ⟨WB, GB, AB, MB, pg, n, mf⟩ ⟨at', .slice na ns.length nc, fsV, gsV, ns, fs, gs, ps.set v (ns.length : Int)⟩ (v : Int) 2 2 1 (slV w2.heap.size 1) (.slice (some ⟨q15, 0, none⟩) (ns.length + 1) d15) (slV w11.heap.size 1) (.slice (some ⟨q16, 0, none⟩) (fs.length + 1) d16) (slV w26.heap.size 1) undef) := HM.out.b3 HB2.out
          refine hK.out _ _ (fun _ => HM2.out.s) ?_
          clear hK K HM
          have HM := HM2
          clear HM2
          generalize w26.alloc (.cells #[.int .i64 0] 3) = w27 at *
          refine wpAnyL_one 12 (by kernel_rfl) rfl (fun K hK0 => ?_)
          have hK : Shut _ := hK0
          clear hK0
          obtain ⟨q18, d18, w28, hrun, hme⟩ := HM.out.a3 hl3
          have HM2 : Hid (MeAt w2 w28 base ⟨WB, GB, AB, MB, pg, n, mf⟩ ⟨at', .slice na ns.length nc, fsV, gsV, ns, fs, gs, ps.set v (ns.length : Int)⟩ (v : Int) 2 2 2 (slV w2.heap.size 1) (.slice (some ⟨q15, 0, none⟩) (ns.length + 1) d15) (slV w11.heap.size 1) (.slice (some ⟨q16, 0, none⟩) (fs.length + 1) d16) (slV w26.heap.size 1) (.slice (some ⟨q18, 0, none⟩) (gs.length + 1) d18)) := hme
          refine step_append_run rfl (.tmp 22) (.tmp 23) 23 rfl _ _ _ _ ?e1 ?e2 (hrun _) ?_
          case e1 => simp [Act.eval]
          case e2 => simp [Act.eval]
          refine hK.out _ _ (fun _ => HM2.out.s) ?_
          clear hK K HM hrun hme
          have HM := HM2
          clear HM2
          simp only [Act.put]
          obtain ⟨⟨_, _, e1⟩, ⟨_, _, e2⟩, ⟨_, _, e3⟩, hA9⟩ := HM.out.put
          clear e1 e2 e3
          obtain ⟨hS1, hS2, hS3, hS4⟩ := HM.out.s
          simp only at hS1 hS2 hS3 hS4
          have hB9 := HM.out.bel
          obtain ⟨fw1, fw2, fw3, ⟨lw, lg, la⟩, nw1, nw2⟩ := HM.out.fz
          simp only at fw1 fw2 fw3 nw1 nw2 lw lg la hA9
          refine wpAnyL_one 14 (by kernel_rfl) rfl (fun K hK0 => ?_)
          have hK : Shut _ := hK0
          clear hK0
          go_simp
          refine hK.out _ _ (fun h => by cases h) ?_
          clear hK K
          refine wpAnyL_one 15 (by kernel_rfl) rfl (fun K hK0 => ?_)
          have hK : Shut _ := hK0
          clear hK0
          go_simp
          refine hK.out _ _ (fun h => by cases h) ?_
          clear hK K
          refine wpAnyL_one 16 (by kernel_rfl) rfl (fun K hK0 => ?_)
          have hK : Shut _ := hK0
          clear hK0
          go_simp
          refine hK.out _ _ (fun h => by cases h) ?_
          clear hK K
          refine wpAnyL_one 17 (by kernel_rfl) rfl (fun K hK0 => ?_)
          have hK : Shut _ := hK0
          clear hK0
          go_simp
          refine hK.out _ _ (fun h => by cases h) ?_
          clear hK K
          refine wpAnyL_done (by kernel_rfl) ?_
          have HA9 : Hid (WAt (((w28.setCell ⟨WB, 0, none⟩ (.slice (some ⟨q15, 0, none⟩) (ns.length + 1) d15)).setCell ⟨WB, 1, none⟩ (.slice (some ⟨q16, 0, none⟩) (fs.length + 1) d16)).setCell ⟨GB, 0, none⟩ (.slice (some ⟨q18, 0, none⟩) (gs.length + 1) d18)) base ⟨WB, GB, AB, MB, pg, n, mf⟩ ⟨at', (.slice (some ⟨q15, 0, none⟩) (ns.length + 1) d15), (.slice (some ⟨q16, 0, none⟩) (fs.length + 1) d16), (.slice (some ⟨q18, 0, none⟩) (gs.length + 1) d18), ns ++ [(v : Int)], fs ++ [at'], gs ++ [0], ps.set v (ns.length : Int)⟩) := hA9
          have HB9 : Hid (Below base w (((w28.setCell ⟨WB, 0, none⟩ (.slice (some ⟨q15, 0, none⟩) (ns.length + 1) d15)).setCell ⟨WB, 1, none⟩ (.slice (some ⟨q16, 0, none⟩) (fs.length + 1) d16)).setCell ⟨GB, 0, none⟩ (.slice (some ⟨q18, 0, none⟩) (gs.length + 1) d18))) := Below.setCell (p := ⟨GB, 0, none⟩) (Below.setCell (p := ⟨WB, 1, none⟩) (Below.setCell (p := ⟨WB, 0, none⟩) (HBD.out.trans hB9) lw _) lw _) lg _
          have LA : Hid _ := la
          clear hA9 hB9 hS1 hS2 hS3 hS4 fw1 fw2 fw3 lw lg la nw1 nw2 HM HB2 HBD
          generalize (((w28.setCell ⟨WB, 0, none⟩ (.slice (some ⟨q15, 0, none⟩) (ns.length + 1) d15)).setCell ⟨WB, 1, none⟩ (.slice (some ⟨q16, 0, none⟩) (fs.length + 1) d16)).setCell ⟨GB, 0, none⟩ (.slice (some ⟨q18, 0, none⟩) (gs.length + 1) d18)) = w9 at *
          obtain ⟨_, _, k2⟩ := HA9.out.wb
          obtain ⟨k3, k4⟩ := HA9.out.p (i := v) (x := (ns.length : Int)) (by show (ps.set v (ns.length : Int))[v]? = _; rw [List.getElem?_set, if_pos rfl, if_pos (by rw [HPL.out]; exact hv)])
          obtain ⟨k5, k6⟩ := HA9.out.ab
          simp only at k2 k3 k4 k5 k6
          have HA10 : Hid _ := HA9.out.setAt (ns.length : Int)
          have HB10 : Hid (Below base w (w9.setCell ⟨AB, 0, none⟩ (.int .i64 (ns.length : Int)))) := Below.setCell (p := ⟨AB, 0, none⟩) HB9.out LA.out _
          clear HA9 HB9
          go_wp2
          go_end0
          exact ⟨rfl, ⟨_, _, _, HA10.out⟩, HB10.out⟩
        · skip
          have hK : Shut _ := hK0
          clear hK0
          go_simp
          have HM2 : Hid (MeAt w2 (w25.alloc (.cells #[.int .i64 0] 3)) base ⟨WB, GB, AB, MB, pg, n, mf⟩ ⟨at', .slice na ns.length nc, fsV, gsV, ns, fs, gs, ps.set v (ns.length : Int)⟩ (v : Int) 2 1 1 (slV w2.heap.size 1) (.slice (some ⟨q15, 0, none⟩) (ns.length + 1) d15) (slV w11.heap.size 1) undef (slV w25.heap.size 1) undef) := HM.out.b3 HB2.out
          refine hK.out _ _ ⟨fun _ => HM2.out.s, ?_⟩
          clear hK K HM
          have HM := HM2
          clear HM2
          generalize w25.alloc (.cells #[.int .i64 0] 3) = w29 at *
          refine wpAnyL_one 9 (by kernel_rfl) rfl (fun K hK0 => ?_)
          have hK : Shut _ := hK0
          clear hK0
          obtain ⟨q20, d20, w30, hrun, hme⟩ := HM.out.a2 hl2
          have HM2 : Hid (MeAt w2 w30 base ⟨WB, GB, AB, MB, pg, n, mf⟩ ⟨at', .slice na ns.length nc, fsV, gsV, ns, fs, gs, ps.set v (ns.length : Int)⟩ (v : Int) 2 2 1 (slV w2.heap.size 1) (.slice (some ⟨q15, 0, none⟩) (ns.length + 1) d15) (slV w11.heap.size 1) (.slice (some ⟨q20, 0, none⟩) (fs.length + 1) d20) (slV w25.heap.size 1) undef) := hme
          refine step_append_run rfl (.tmp 18) (.tmp 20) 23 rfl _ _ _ _ ?e1 ?e2 (hrun _) ?_
          case e1 => simp [Act.eval]
          case e2 => simp [Act.eval]
          refine hK.out _ _ (fun _ => HM2.out.s) ?_
          clear hK K HM hrun hme
          have HM := HM2
          clear HM2
          simp only [Act.put]
          refine wpAnyL_one 12 (by kernel_rfl) rfl (fun K hK0 => ?_)
          have hK : Shut _ := hK0
          clear hK0
          obtain ⟨q21, d21, w31, hrun, hme⟩ := HM.out.a3 hl3
          have HM2 : Hid (MeAt w2 w31 base ⟨WB, GB, AB, MB, pg, n, mf⟩ ⟨at', .slice na ns.length nc, fsV, gsV, ns, fs, gs, ps.set v (ns.length : Int)⟩ (v : Int) 2 2 2 (slV w2.heap.size 1) (.slice (some ⟨q15, 0, none⟩) (ns.length + 1) d15) (slV w11.heap.size 1) (.slice (some ⟨q20, 0, none⟩) (fs.length + 1) d20) (slV w25.heap.size 1) (.slice (some ⟨q21, 0, none⟩) (gs.length + 1) d21)) := hme
          refine step_append_run rfl (.tmp 22) (.tmp 23) 23 rfl _ _ _ _ ?e1 ?e2 (hrun _) ?_
          case e1 => simp [Act.eval]
          case e2 => simp [Act.eval]
          refine hK.out _ _ (fun _ => HM2.out.s) ?_
          clear hK K HM hrun hme
          have HM := HM2
          clear HM2
          simp only [Act.put]
          obtain ⟨⟨_, _, e1⟩, ⟨_, _, e2⟩, ⟨_, _, e3⟩, hA9⟩ := HM.out.put
          clear e1 e2 e3
          obtain ⟨hS1, hS2, hS3, hS4⟩ := HM.out.s
          simp only at hS1 hS2 hS3 hS4
          have hB9 := HM.out.bel
          obtain ⟨fw1, fw2, fw3, ⟨lw, lg, la⟩, nw1, nw2⟩ := HM.out.fz
          simp only at fw1 fw2 fw3 nw1 nw2 lw lg la hA9
          refine wpAnyL_one 14 (by kernel_rfl) rfl (fun K hK0 => ?_)
          have hK : Shut _ := hK0
          clear hK0
          go_simp
          refine hK.out _ _ (fun h => by cases h) ?_
          clear hK K
          refine wpAnyL_one 15 (by kernel_rfl) rfl (fun K hK0 => ?_)
          have hK : Shut _ := hK0
          clear hK0
          go_simp
          refine hK.out _ _ (fun h => by cases h) ?_
          clear hK K
          refine wpAnyL_one 16 (by kernel_rfl) rfl (fun K hK0 => ?_)
          have hK : Shut _ := hK0
          clear hK0
          go_simp
          refine hK.out _ _ (fun h => by cases h) ?_
          clear hK K
          refine wpAnyL_one 17 (by kernel_rfl) rfl (fun K hK0 => ?_)
          have hK : Shut _ := hK0
          clear hK0
          go_simp
          refine hK.out _ _ (fun h => by cases h) ?_
          clear hK K
          refine wpAnyL_done (by kernel_rfl) ?_
          have HA9 : Hid (WAt (((w31.setCell ⟨WB, 0, none⟩ (.slice (some ⟨q15, 0, none⟩) (ns.length + 1) d15)).setCell ⟨WB, 1, none⟩ (.slice (some ⟨q20, 0, none⟩) (fs.length + 1) d20)).setCell ⟨GB, 0, none⟩ (.slice (some ⟨q21, 0, none⟩) (gs.length + 1) d21)) base ⟨WB, GB, AB, MB, pg, n, mf⟩ ⟨at', (.slice (some ⟨q15, 0, none⟩) (ns.length + 1) d15), (.slice (some ⟨q20, 0, none⟩) (fs.length + 1) d20), (.slice (some ⟨q21, 0, none⟩) (gs.length + 1) d21), ns ++ [(v : Int)], fs ++ [at'], gs ++ [0], ps.set v (ns.length : Int)⟩) := hA9
          have HB9 : Hid (Below base w (((w31.setCell ⟨WB, 0, none⟩ (.slice (some ⟨q15, 0, none⟩) (ns.length + 1) d15)).setCell ⟨WB, 1, none⟩ (.slice (some ⟨q20, 0, none⟩) (fs.length + 1) d20)).setCell ⟨GB, 0, none⟩ (.slice (some ⟨q21, 0, none⟩) (gs.length + 1) d21))) := Below.setCell (p := ⟨GB, 0, none⟩) (Below.setCell (p := ⟨WB, 1, none⟩) (Below.setCell (p := ⟨WB, 0, none⟩) (HBD.out.trans hB9) lw _) lw _) lg _
          have LA : Hid _ := la
          clear hA9 hB9 hS1 hS2 hS3 hS4 fw1 fw2 fw3 lw lg la nw1 nw2 HM HB2 HBD
          generalize (((w31.setCell ⟨WB, 0, none⟩ (.slice (some ⟨q15, 0, none⟩) (ns.length + 1) d15)).setCell ⟨WB, 1, none⟩ (.slice (some ⟨q20, 0, none⟩) (fs.length + 1) d20)).setCell ⟨GB, 0, none⟩ (.slice (some ⟨q21, 0, none⟩) (gs.length + 1) d21)) = w9 at *
          obtain ⟨_, _, k2⟩ := HA9.out.wb
          obtain ⟨k3, k4⟩ := HA9.out.p (i := v) (x := (ns.length : Int)) (by show (ps.set v (ns.length : Int))[v]? = _; rw [List.getElem?_set, if_pos rfl, if_pos (by rw [HPL.out]; exact hv)])
          obtain ⟨k5, k6⟩ := HA9.out.ab
          simp only at k2 k3 k4 k5 k6
          have HA10 : Hid _ := HA9.out.setAt (ns.length : Int)
          have HB10 : Hid (Below base w (w9.setCell ⟨AB, 0, none⟩ (.int .i64 (ns.length : Int)))) := Below.setCell (p := ⟨AB, 0, none⟩) HB9.out LA.out _
          clear HA9 HB9
          go_wp2
          go_end0
          exact ⟨rfl, ⟨_, _, _, HA10.out⟩, HB10.out⟩
      · skip
        have hK : Shut _ := hK0
        clear hK0
        go_simp
        have HM2 : Hid (MeAt w2 (w24.alloc (.cells #[.int .i64 0] 3)) base ⟨WB, GB, AB, MB, pg, n, mf⟩ ⟨at', .slice na ns.length nc, fsV, gsV, ns, fs, gs, ps.set v (ns.length : Int)⟩ (v : Int) 1 1 1 (slV w2.heap.size 1) undef (slV w11.heap.size 1) undef (slV w24.heap.size 1) undef) := HM.out.b3 HB2.out
        refine hK.out _ _ ⟨fun _ => HM2.out.s, ?_⟩
        clear hK K HM
        have HM := HM2
        clear HM2
        generalize w24.alloc (.cells #[.int .i64 0] 3) = w32 at *
        refine wpAnyL_one 4 (by kernel_rfl) rfl (fun K hK0 => ?_)
        have hK : Shut _ := hK0
        clear hK0
        obtain ⟨q23, d23, w33, hrun, hme⟩ := HM.out.a1 hl1
        have HM2 : Hid (MeAt w2 w33 base ⟨WB, GB, AB, MB, pg, n, mf⟩ ⟨at', .slice na ns.length nc, fsV, gsV, ns, fs, gs, ps.set v (ns.length : Int)⟩ (v : Int) 2 1 1 (slV w2.heap.size 1) (.slice (some ⟨q23, 0, none⟩) (ns.length + 1) d23) (slV w11.heap.size 1) undef (slV w24.heap.size 1) undef) := hme
        refine step_append_run rfl (.tmp 13) (.tmp 15) 23 rfl _ _ _ _ ?e1 ?e2 (hrun _) ?_
        case e1 => simp [Act.eval]
        case e2 => simp [Act.eval]
        refine hK.out _ _ (fun _ => HM2.out.s) ?_
        clear hK K HM hrun hme
        have HM := HM2
        clear HM2
        simp only [Act.put]
        have hHeld := HM.out.s
        refine wpAnyL_take2 13 (v := ?_) rfl (by kernel_rfl) (by kernel_rfl) (by kernel_rfl) (by kernel_rfl) (by kernel_rfl) (fun _ _ _ h => h) hHeld (Or.inl ⟨by rfl, ?_⟩) ?_
        rotate_left 1
        · (intro w hSw; obtain ⟨hS1, hS2, hS3, hS4⟩ := hSw; (try dsimp only at hS1 hS2 hS3 hS4); first | (go_simp; done) | (go_simp; with_reducible rfl))
        simp only [Act.put]
        clear hHeld
        refine wpAnyL_one 9 (by kernel_rfl) rfl (fun K hK0 => ?_)
        have hK : Shut _ := hK0
        clear hK0
        obtain ⟨q24, d24, w34, hrun, hme⟩ := HM.out.a2 hl2
        have HM2 : Hid (MeAt w2 w34 base ⟨WB, GB, AB, MB, pg, n, mf⟩ ⟨at', .slice na ns.length nc, fsV, gsV, ns, fs, gs, ps.set v (ns.length : Int)⟩ (v : Int) 2 2 1 (slV w2.heap.size 1) (.slice (some ⟨q23, 0, none⟩) (ns.length + 1) d23) (slV w11.heap.size 1) (.slice (some ⟨q24, 0, none⟩) (fs.length + 1) d24) (slV w24.heap.size 1) undef) := hme
        refine step_append_run rfl (.tmp 18) (.tmp 20) 23 rfl _ _ _ _ ?e1 ?e2 (hrun _) ?_
        case e1 => simp [Act.eval]
        case e2 => simp [Act.eval]
        refine hK.out _ _ (fun _ => HM2.out.s) ?_
        clear hK K HM hrun hme
        have HM := HM2
        clear HM2
        simp only [Act.put]
        refine wpAnyL_one 12 (by kernel_rfl) rfl (fun K hK0 => ?_)
        have hK : Shut _ := hK0
        clear hK0
        obtain ⟨q25, d25, w35, hrun, hme⟩ := HM.out.a3 hl3
        have HM2 : Hid (MeAt w2 w35 base ⟨WB, GB, AB, MB, pg, n, mf⟩ ⟨at', .slice na ns.length nc, fsV, gsV, ns, fs, gs, ps.set v (ns.length : Int)⟩ (v : Int) 2 2 2 (slV w2.heap.size 1) (.slice (some ⟨q23, 0, none⟩) (ns.length + 1) d23) (slV w11.heap.size 1) (.slice (some ⟨q24, 0, none⟩) (fs.length + 1) d24) (slV w24.heap.size 1) (.slice (some ⟨q25, 0, none⟩) (gs.length + 1) d25)) := hme
        refine step_append_run rfl (.tmp 22) (.tmp 23) 23 rfl _ _ _ _ ?e1 ?e2 (hrun _) ?_
        case e1 => simp [Act.eval]
        case e2 => simp [Act.eval]
        refine hK.out _ _ (fun _ => HM2.out.s) ?_
        clear hK K HM hrun hme
        have HM := HM2
        clear HM2
        simp only [Act.put]
        obtain ⟨⟨_, _, e1⟩, ⟨_, _, e2⟩, ⟨_, _, e3⟩, hA9⟩ := HM.out.put
        clear e1 e2 e3
        obtain ⟨hS1, hS2, hS3, hS4⟩ := HM.out.s
        simp only at hS1 hS2 hS3 hS4
        have hB9 := HM.out.bel
        obtain ⟨fw1, fw2, fw3, ⟨lw, lg, la⟩, nw1, nw2⟩ := HM.out.fz
        simp only at fw1 fw2 fw3 nw1 nw2 lw lg la hA9
        refine wpAnyL_one 14 (by kernel_rfl) rfl (fun K hK0 => ?_)
        have hK : Shut _ := hK0
        clear hK0
        go_simp
        refine hK.out _ _ (fun h => by cases h) ?_
        clear hK K
        refine wpAnyL_one 15 (by kernel_rfl) rfl (fun K hK0 => ?_)
        have hK : Shut _ := hK0
        clear hK0
        go_simp
        refine hK.out _ _ (fun h => by cases h) ?_
        clear hK K
        refine wpAnyL_one 16 (by kernel_rfl) rfl (fun K hK0 => ?_)
        have hK : Shut _ := hK0
        clear hK0
        go_simp
        refine hK.out _ _ (fun h => by cases h) ?_
        clear hK K
        refine wpAnyL_one 17 (by kernel_rfl) rfl (fun K hK0 => ?_)
        have hK : Shut _ := hK0
        clear hK0
        go_simp
        refine hK.out _ _ (fun h => by cases h) ?_
        clear hK K
        refine wpAnyL_done (by kernel_rfl) ?_
        have HA9 : Hid (WAt (((w35.setCell ⟨WB, 0, none⟩ (.slice (some ⟨q23, 0, none⟩) (ns.length + 1) d23)).setCell ⟨WB, 1, none⟩ (.slice (some ⟨q24, 0, none⟩) (fs.length + 1) d24)).setCell ⟨GB, 0, none⟩ (.slice (some ⟨q25, 0, none⟩) (gs.length + 1) d25)) base ⟨WB, GB, AB, MB, pg, n, mf⟩ ⟨at', (.slice (some ⟨q23, 0, none⟩) (ns.length + 1) d23), (.slice (some ⟨q24, 0, none⟩) (fs.length + 1) d24), (.slice (some ⟨q25, 0, none⟩) (gs.length + 1) d25), ns ++ [(v : Int)], fs ++ [at'], gs ++ [0], ps.set v (ns.length : Int)⟩) := hA9
        have HB9 : Hid (Below base w (((w35.setCell ⟨WB, 0, none⟩ (.slice (some ⟨q23, 0, none⟩) (ns.length + 1) d23)).setCell ⟨WB, 1, none⟩ (.slice (some ⟨q24, 0, none⟩) (fs.length + 1) d24)).setCell ⟨GB, 0, none⟩ (.slice (some ⟨q25, 0, none⟩) (gs.length + 1) d25))) := Below.setCell (p := ⟨GB, 0, none⟩) (Below.setCell (p := ⟨WB, 1, none⟩) (Below.setCell (p := ⟨WB, 0, none⟩) (HBD.out.trans hB9) lw _) lw _) lg _
        have LA : Hid _ := la
        clear hA9 hB9 hS1 hS2 hS3 hS4 fw1 fw2 fw3 lw lg la nw1 nw2 HM HB2 HBD
        generalize (((w35.setCell ⟨WB, 0, none⟩ (.slice (some ⟨q23, 0, none⟩) (ns.length + 1) d23)).setCell ⟨WB, 1, none⟩ (.slice (some ⟨q24, 0, none⟩) (fs.length + 1) d24)).setCell ⟨GB, 0, none⟩ (.slice (some ⟨q25, 0, none⟩) (gs.length + 1) d25)) = w9 at *
        obtain ⟨_, _, k2⟩ := HA9.out.wb
        obtain ⟨k3, k4⟩ := HA9.out.p (i := v) (x := (ns.length : Int)) (by show (ps.set v (ns.length : Int))[v]? = _; rw [List.getElem?_set, if_pos rfl, if_pos (by rw [HPL.out]; exact hv)])
        obtain ⟨k5, k6⟩ := HA9.out.ab
        simp only at k2 k3 k4 k5 k6
        have HA10 : Hid _ := HA9.out.setAt (ns.length : Int)
        have HB10 : Hid (Below base w (w9.setCell ⟨AB, 0, none⟩ (.int .i64 (ns.length : Int)))) := Below.setCell (p := ⟨AB, 0, none⟩) HB9.out LA.out _
        clear HA9 HB9
        go_wp2
        go_end0
        exact ⟨rfl, ⟨_, _, _, HA10.out⟩, HB10.out⟩
    · skip
      have hK : Shut _ := hK0
      clear hK0
      go_simp
      have HM2 : Hid (MeAt w2 (w11.alloc (.cells #[.int .i64 0] 3)) base ⟨WB, GB, AB, MB, pg, n, mf⟩ ⟨at', .slice na ns.length nc, fsV, gsV, ns, fs, gs, ps.set v (ns.length : Int)⟩ (v : Int) 1 0 1 (slV w2.heap.size 1) undef undef undef (slV w11.heap.size 1) undef) := HM.out.b3 HB2.out
      refine hK.out _ _ ⟨fun _ => HM2.out.s, ?_⟩
      clear hK K HM
      have HM := HM2
      clear HM2
      generalize w11.alloc (.cells #[.int .i64 0] 3) = w36 at *
      refine wpAnyL_ready [4, 8] (by kernel_rfl) (by simp) (all_cons (wpOp_step rfl (fun K hK0 => ?_)) (all_cons (wpOp_step rfl (fun K hK0 => ?_)) (all_nil)))
      · skip
        have hK : Shut _ := hK0
        clear hK0
        obtain ⟨q27, d27, w37, hrun, hme⟩ := HM.out.a1 hl1
        have HM2 : Hid (MeAt w2 w37 base ⟨WB, GB, AB, MB, pg, n, mf⟩ ⟨at', .slice na ns.length nc, fsV, gsV, ns, fs, gs, ps.set v (ns.length : Int)⟩ (v : Int) 2 0 1 (slV w2.heap.size 1) (.slice (some ⟨q27, 0, none⟩) (ns.length + 1) d27) undef undef (slV w11.heap.size 1) undef) := hme
        refine step_append_run rfl (.tmp 13) (.tmp 15) 23 rfl _ _ _ _ ?e1 ?e2 (hrun _) ?_
        case e1 => simp [Act.eval]
        case e2 => simp [Act.eval]
        refine hK.out _ _ ⟨fun _ => HM2.out.s, ?_⟩
        clear hK K HM hrun hme
        have HM := HM2
        clear HM2
        simp only [Act.put]
        have hHeld := HM.out.s
        refine wpAnyL_take2 13 (v := ?_) rfl (by kernel_rfl) (by kernel_rfl) (by kernel_rfl) (by kernel_rfl) (by kernel_rfl) (fun _ _ _ h => h) hHeld (Or.inl ⟨by rfl, ?_⟩) ?_
        rotate_left 1
        · (intro w hSw; obtain ⟨hS1, hS2, hS3, hS4⟩ := hSw; (try dsimp only at hS1 hS2 hS3 hS4); first | (go_simp; done) | (go_simp; with_reducible rfl))
        simp only [Act.put]
        clear hHeld
        refine wpAnyL_one 8 (by kernel_rfl) rfl (fun K hK0 => ?_)
        have hK : Shut _ := hK0
        clear hK0
        go_simp
        have HM2 : Hid (MeAt w2 (w37.alloc (.cells #[.int .i64 at'] 3)) base ⟨WB, GB, AB, MB, pg, n, mf⟩ ⟨at', .slice na ns.length nc, fsV, gsV, ns, fs, gs, ps.set v (ns.length : Int)⟩ (v : Int) 2 1 1 (slV w2.heap.size 1) (.slice (some ⟨q27, 0, none⟩) (ns.length + 1) d27) (slV w37.heap.size 1) undef (slV w11.heap.size 1) undef) := HM.out.b2 HB2.out
        refine hK.out _ _ (fun _ => HM2.out.s) ?_
        clear hK K HM
        have HM := HM2
        clear HM2
        generalize w37.alloc (.cells #[.int .i64 at'] 3) = w38 at *
        refine wpAnyL_one 9 (by kernel_rfl) rfl (fun K hK0 => ?_)
        have hK : Shut _ := hK0
        clear hK0
        obtain ⟨q29, d29, w39, hrun, hme⟩ := HM.out.a2 hl2
        have HM2 : Hid (MeAt w2 w39 base ⟨WB, GB, AB, MB, pg, n, mf⟩ ⟨at', .slice na ns.length nc, fsV, gsV, ns, fs, gs, ps.set v (ns.length : Int)⟩ (v : Int) 2 2 1 (slV w2.heap.size 1) (.slice (some ⟨q27, 0, none⟩) (ns.length + 1) d27) (slV w37.heap.size 1) (.slice (some ⟨q29, 0, none⟩) (fs.length + 1) d29) (slV w11.heap.size 1) undef) := hme
        refine step_append_run rfl (.tmp 18) (.tmp 20) 23 rfl _ _ _ _ ?e1 ?e2 (hrun _) ?_
        case e1 => simp [Act.eval]
        case e2 => simp [Act.eval]
        refine hK.out _ _ (fun _ => HM2.out.s) ?_
        clear hK K HM hrun hme
        have HM := HM2
        clear HM2
        simp only [Act.put]
        refine wpAnyL_one 12 (by kernel_rfl) rfl (fun K hK0 => ?_)
        have hK : Shut _ := hK0
        clear hK0
        obtain ⟨q30, d30, w40, hrun, hme⟩ := HM.out.a3 hl3
        have HM2 : Hid (MeAt w2 w40 base ⟨WB, GB, AB, MB, pg, n, mf⟩ ⟨at', .slice na ns.length nc, fsV, gsV, ns, fs, gs, ps.set v (ns.length : Int)⟩ (v : Int) 2 2 2 (slV w2.heap.size 1) (.slice (some ⟨q27, 0, none⟩) (ns.length + 1) d27) (slV w37.heap.size 1) (.slice (some ⟨q29, 0, none⟩) (fs.length + 1) d29) (slV w11.heap.size 1) (.slice (some ⟨q30, 0, none⟩) (gs.length + 1) d30)) := hme
        refine step_append_run rfl (.tmp 22) (.tmp 23) 23 rfl _ _ _ _ ?e1 ?e2 (hrun _) ?_
        case e1 => simp [Act.eval]
        case e2 => simp [Act.eval]
        refine hK.out _ _ (fun _ => HM2.out.s) ?_
        clear hK K HM hrun hme
        have HM := HM2
        clear HM2
        simp only [Act.put]
        obtain ⟨⟨_, _, e1⟩, ⟨_, _, e2⟩, ⟨_, _, e3⟩, hA9⟩ := HM.out.put
        clear e1 e2 e3
        obtain ⟨hS1, hS2, hS3, hS4⟩ := HM.out.s
        simp only at hS1 hS2 hS3 hS4
        have hB9 := HM.out.bel
        obtain ⟨fw1, fw2, fw3, ⟨lw, lg, la⟩, nw1, nw2⟩ := HM.out.fz
        simp only at fw1 fw2 fw3 nw1 nw2 lw lg la hA9
        refine wpAnyL_one 14 (by kernel_rfl) rfl (fun K hK0 => ?_)
        have hK : Shut _ := hK0
        clear hK0
        go_simp
        refine hK.out _ _ (fun h => by cases h) ?_
        clear hK K
        refine wpAnyL_one 15 (by kernel_rfl) rfl (fun K hK0 => ?_)
        have hK : Shut _ := hK0
        clear hK0
        go_simp
        refine hK.out _ _ (fun h => by cases h) ?_
        clear hK K
        refine wpAnyL_one 16 (by kernel_rfl) rfl (fun K hK0 => ?_)
        have hK : Shut _ := hK0
        clear hK0
        go_simp
        refine hK.out _ _ (fun h => by cases h) ?_
        clear hK K
        refine wpAnyL_one 17 (by kernel_rfl) rfl (fun K hK0 => ?_)
        have hK : Shut _ := hK0
        clear hK0
        go_simp
        refine hK.out _ _ (fun h => by cases h) ?_
        clear hK K
        refine wpAnyL_done (by kernel_rfl) ?_
        have HA9 : Hid (WAt (((w40.setCell ⟨WB, 0, none⟩ (.slice (some ⟨q27, 0, none⟩) (ns.length + 1) d27)).setCell ⟨WB, 1, none⟩ (.slice (some ⟨q29, 0, none⟩) (fs.length + 1) d29)).setCell ⟨GB, 0, none⟩ (.slice (some ⟨q30, 0, none⟩) (gs.length + 1) d30)) base ⟨WB, GB, AB, MB, pg, n, mf⟩ ⟨at', (.slice (some ⟨q27, 0, none⟩) (ns.length + 1) d27), (.slice (some ⟨q29, 0, none⟩) (fs.length + 1) d29), (.slice (some ⟨q30, 0, none⟩) (gs.length + 1) d30), ns ++ [(v : Int)], fs ++ [at'], gs ++ [0], ps.set v (ns.length : Int)⟩) := hA9
        have HB9 : Hid (Below base w (((w40.setCell ⟨WB, 0, none⟩ (.slice (some ⟨q27, 0, none⟩) (ns.length + 1) d27)).setCell ⟨WB, 1, none⟩ (.slice (some ⟨q29, 0, none⟩) (fs.length + 1) d29)).setCell ⟨GB, 0, none⟩ (.slice (some ⟨q30, 0, none⟩) (gs.length + 1) d30))) := Below.setCell (p := ⟨GB, 0, none⟩) (Below.setCell (p := ⟨WB, 1, none⟩) (Below.setCell (p := ⟨WB, 0, none⟩) (HBD.out.trans hB9) lw _) lw _) lg _
        have LA : Hid _ := la
        clear hA9 hB9 hS1 hS2 hS3 hS4 fw1 fw2 fw3 lw lg la nw1 nw2 HM HB2 HBD
        generalize (((w40.setCell ⟨WB, 0, none⟩ (.slice (some ⟨q27, 0, none⟩) (ns.length + 1) d27)).setCell ⟨WB, 1, none⟩ (.slice (some ⟨q29, 0, none⟩) (fs.length + 1) d29)).setCell ⟨GB, 0, none⟩ (.slice (some ⟨q30, 0, none⟩) (gs.length + 1) d30)) = w9 at *
        obtain ⟨_, _, k2⟩ := HA9.out.wb
        obtain ⟨k3, k4⟩ := HA9.out.p (i := v) (x := (ns.length : Int)) (by show (ps.set v (ns.length : Int))[v]? = _; rw [List.getElem?_set, if_pos rfl, if_pos (by rw [HPL.out]; exact hv)])
        obtain ⟨k5, k6⟩ := HA9.out.ab
        simp only at k2 k3 k4 k5 k6
        have HA10 : Hid _ := HA9.out.setAt (ns.length : Int)
        have HB10 : Hid (Below base w (w9.setCell ⟨AB, 0, none⟩ (.int .i64 (ns.length : Int)))) := Below.setCell (p := ⟨AB, 0, none⟩) HB9.out LA.out _
        clear HA9 HB9
        go_wp2
        go_end0
        exact ⟨rfl, ⟨_, _, _, HA10.out⟩, HB10.out⟩
      · skip
        have hK : Shut _ := hK0
        clear hK0
        go_simp
        have HM2 : Hid (MeAt w2 (w36.alloc (.cells #[.int .i64 at'] 3)) base ⟨WB, GB, AB, MB, pg, n, mf⟩ ⟨at', .slice na ns.length nc, fsV, gsV, ns, fs, gs, ps.set v (ns.length : Int)⟩ (v : Int) 1 1 1 (slV w2.heap.size 1) undef (slV w36.heap.size 1) undef (slV w11.heap.size 1) undef) := HM.out.b2 HB2.out
        refine hK.out _ _ ⟨fun _ => HM2.out.s, ?_⟩
        clear hK K HM
        have HM := HM2
        clear HM2
        generalize w36.alloc (.cells #[.int .i64 at'] 3) = w41 at *
        refine wpAnyL_one 4 (by kernel_rfl) rfl (fun K hK0 => ?_)
        have hK : Shut _ := hK0
        clear hK0
        obtain ⟨q32, d32, w42, hrun, hme⟩ := HM.out.a1 hl1
        have HM2 : Hid (MeAt w2 w42 base ⟨WB, GB, AB, MB, pg, n, mf⟩ ⟨at', .slice na ns.length nc, fsV, gsV, ns, fs, gs, ps.set v (ns.length : Int)⟩ (v : Int) 2 1 1 (slV w2.heap.size 1) (.slice (some ⟨q32, 0, none⟩) (ns.length + 1) d32) (slV w36.heap.size 1) undef (slV w11.heap.size 1) undef) := hme
        refine step_append_run rfl (.tmp 13) (.tmp 15) 23 rfl _ _ _ _ ?e1 ?e2 (hrun _) ?_
        case e1 => simp [Act.eval]
        case e2 => simp [Act.eval]
        refine hK.out _ _ (fun _ => HM2.out.s) ?_
        clear hK K HM hrun hme
        have HM := HM2
        clear HM2
        simp only [Act.put]
        have hHeld := HM.out.s
        refine wpAnyL_take2 13 (v := ?_) rfl (by kernel_rfl) (by kernel_rfl) (by kernel_rfl) (by kernel_rfl) (by kernel_rfl) (fun _ _ _ h => h) hHeld (Or.inl ⟨by rfl, ?_⟩) ?_
        rotate_left 1
        · (intro w hSw; obtain ⟨hS1, hS2, hS3, hS4⟩ := hSw; (try dsimp only at hS1 hS2 hS3 hS4); first | (go_simp; done) | (go_simp; with_reducible rfl))
        simp only [Act.put]
        clear hHeld
        refine wpAnyL_one 9 (by kernel_rfl) rfl (fun K hK0 => ?_)
        have hK : Shut _ := hK0
        clear hK0
        obtain ⟨q33, d33, w43, hrun, hme⟩ := HM.out.a2 hl2
        have HM2 : Hid (MeAt w2 w43 base ⟨WB, GB, AB, MB, pg, n, mf⟩ ⟨at', .slice na ns.length nc, fsV, gsV, ns, fs, gs, ps.set v (ns.length : Int)⟩ (v : Int) 2 2 1 (slV w2.heap.size 1) (.slice (some ⟨q32, 0, none⟩) (ns.length + 1) d32) (slV w36.heap.size 1) (.slice (some ⟨q33, 0, none⟩) (fs.length + 1) d33) (slV w11.heap.size 1) undef) := hme
        refine step_append_run rfl (.tmp 18) (.tmp 20) 23 rfl _ _ _ _ ?e1 ?e2 (hrun _) ?_
        case e1 => simp [Act.eval]
        case e2 => simp [Act.eval]
        refine hK.out _ _ (fun _ => HM2.out.s) ?_
        clear hK K HM hrun hme
        have HM := HM2
        clear HM2
        simp only [Act.put]
        refine wpAnyL_one 12 (by kernel_rfl) rfl (fun K hK0 => ?_)
        have hK : Shut _ := hK0
        clear hK0
        obtain ⟨q34, d34, w44, hrun, hme⟩ := HM.out.a3 hl3
        have HM2 : Hid (MeAt w2 w44 base ⟨WB, GB, AB, MB, pg, n, mf⟩ ⟨at', .slice na ns.length nc, fsV, gsV, ns, fs, gs, ps.set v (ns.length : Int)⟩ (v : Int) 2 2 2 (slV w2.heap.size 1) (.slice (some ⟨q32, 0, none⟩) (ns.length + 1) d32) (slV w36.heap.size 1) (.slice (some ⟨q33, 0, none⟩) (fs.length + 1) d33) (slV w11.heap.size 1) (.slice (some ⟨q34, 0, none⟩) (gs.length + 1) d34)) := hme
        refine step_append_run rfl (.tmp 22) (.tmp 23) 23 rfl _ _ _ _ ?e1 ?e2 (hrun _) ?_
        case e1 => simp [Act.eval]
        case e2 => simp [Act.eval]
        refine hK.out _ _ (fun _ => HM2.out.s) ?_
        clear hK K HM hrun hme
        have HM := HM2
        clear HM2
        simp only [Act.put]
        obtain ⟨⟨_, _, e1⟩, ⟨_, _, e2⟩, ⟨_, _, e3⟩, hA9⟩ := HM.out.put
        clear e1 e2 e3
        obtain ⟨hS1, hS2, hS3, hS4⟩ := HM.out.s
        simp only at hS1 hS2 hS3 hS4
        have hB9 := HM.out.bel
        obtain ⟨fw1, fw2, fw3, ⟨lw, lg, la⟩, nw1, nw2⟩ := HM.out.fz
        simp only at fw1 fw2 fw3 nw1 nw2 lw lg la hA9
        refine wpAnyL_one 14 (by kernel_rfl) rfl (fun K hK0 => ?_)
        have hK : Shut _ := hK0
        clear hK0
        go_simp
        refine hK.out _ _ (fun h => by cases h) ?_
        clear hK K
        refine wpAnyL_one 15 (by kernel_rfl) rfl (fun K hK0 => ?_)
        have hK : Shut _ := hK0
        clear hK0
        go_simp
        refine hK.out _ _ (fun h => by cases h) ?_
        clear hK K
        refine wpAnyL_one 16 (by kernel_rfl) rfl (fun K hK0 => ?_)
        have hK : Shut _ := hK0
        clear hK0
        go_simp
        refine hK.out _ _ (fun h => by cases h) ?_
        clear hK K
        refine wpAnyL_one 17 (by kernel_rfl) rfl (fun K hK0 => ?_)
        have hK : Shut _ := hK0
        clear hK0
        go_simp
        refine hK.out _ _ (fun h => by cases h) ?_
        clear hK K
        refine wpAnyL_done (by kernel_rfl) ?_
        have HA9 : Hid (WAt (((w44.setCell ⟨WB, 0, none⟩ (.slice (some ⟨q32, 0, none⟩) (ns.length + 1) d32)).setCell ⟨WB, 1, none⟩ (.slice (some ⟨q33, 0, none⟩) (fs.length + 1) d33)).setCell ⟨GB, 0, none⟩ (.slice (some ⟨q34, 0, none⟩) (gs.length + 1) d34)) base ⟨WB, GB, AB, MB, pg, n, mf⟩ ⟨at', (.slice (some ⟨q32, 0, none⟩) (ns.length + 1) d32), (.slice (some ⟨q33, 0, none⟩) (fs.length + 1) d33), (.slice (some ⟨q34, 0, none⟩) (gs.length + 1) d34), ns ++ [(v : Int)], fs ++ [at'], gs ++ [0], ps.set v (ns.length : Int)⟩) := hA9
        have HB9 : Hid (Below base w (((w44.setCell ⟨WB, 0, none⟩ (.slice (some ⟨q32, 0, none⟩) (ns.length + 1) d32)).setCell ⟨WB, 1, none⟩ (.slice (some ⟨q33, 0, none⟩) (fs.length + 1) d33)).setCell ⟨GB, 0, none⟩ (.slice (some ⟨q34, 0, none⟩) (gs.length + 1) d34))) := Below.setCell (p := ⟨GB, 0, none⟩) (Below.setCell (p := ⟨WB, 1, none⟩) (Below.setCell (p := ⟨WB, 0, none⟩) (HBD.out.trans hB9) lw _) lw _) lg _
        have LA : Hid _ := la
        clear hA9 hB9 hS1 hS2 hS3 hS4 fw1 fw2 fw3 lw lg la nw1 nw2 HM HB2 HBD
        generalize (((w44.setCell ⟨WB, 0, none⟩ (.slice (some ⟨q32, 0, none⟩) (ns.length + 1) d32)).setCell ⟨WB, 1, none⟩ (.slice (some ⟨q33, 0, none⟩) (fs.length + 1) d33)).setCell ⟨GB, 0, none⟩ (.slice (some ⟨q34, 0, none⟩) (gs.length + 1) d34)) = w9 at *
        obtain ⟨_, _, k2⟩ := HA9.out.wb
        obtain ⟨k3, k4⟩ := HA9.out.p (i := v) (x := (ns.length : Int)) (by show (ps.set v (ns.length : Int))[v]? = _; rw [List.getElem?_set, if_pos rfl, if_pos (by rw [HPL.out]; exact hv)])
        obtain ⟨k5, k6⟩ := HA9.out.ab
        simp only at k2 k3 k4 k5 k6
        have HA10 : Hid _ := HA9.out.setAt (ns.length : Int)
        have HB10 : Hid (Below base w (w9.setCell ⟨AB, 0, none⟩ (.int .i64 (ns.length : Int)))) := Below.setCell (p := ⟨AB, 0, none⟩) HB9.out LA.out _
        clear HA9 HB9
        go_wp2
        go_end0
        exact ⟨rfl, ⟨_, _, _, HA10.out⟩, HB10.out⟩
  · skip
    have hK : Shut _ := hK0
    clear hK0
    go_simp
    have HM2 : Hid (MeAt w2 (w2.alloc (.cells #[.int .i64 at'] 3)) base ⟨WB, GB, AB, MB, pg, n, mf⟩ ⟨at', .slice na ns.length nc, fsV, gsV, ns, fs, gs, ps.set v (ns.length : Int)⟩ (v : Int) 0 1 0 undef undef (slV w2.heap.size 1) undef undef undef) := HM.out.b2 HB2.out
    refine hK.out _ _ ⟨fun _ => HM2.out.s, ?_⟩
    clear hK K HM
    have HM := HM2
    clear HM2
    generalize w2.alloc (.cells #[.int .i64 at'] 3) = w45 at *
    refine wpAnyL_ready [3, 11] (by kernel_rfl) (by simp) (all_cons (wpOp_step rfl (fun K hK0 => ?_)) (all_cons (wpOp_step rfl (fun K hK0 => ?_)) (all_nil)))
    · skip
      have hK : Shut _ := hK0
      clear hK0
      go_simp
      have HM2 : Hid (MeAt w2 (w45.alloc (.cells #[.int .i64 (v : Int)] 3)) base ⟨WB, GB, AB, MB, pg, n, mf⟩ ⟨at', .slice na ns.length nc, fsV, gsV, ns, fs, gs, ps.set v (ns.length : Int)⟩ (v : Int) 1 1 0 (slV w45.heap.size 1) undef (slV w2.heap.size 1) undef undef undef) := HM.out.b1 HB2.out
      refine hK.out _ _ ⟨fun _ => HM2.out.s, ?_⟩
      clear hK K HM
      have HM := HM2
      clear HM2
      generalize w45.alloc (.cells #[.int .i64 (v : Int)] 3) = w46 at *
      refine wpAnyL_ready [4, 11] (by kernel_rfl) (by simp) (all_cons (wpOp_step rfl (fun K hK0 => ?_)) (all_cons (wpOp_step rfl (fun K hK0 => ?_)) (all_nil)))
      · skip
        have hK : Shut _ := hK0
        clear hK0
        obtain ⟨q37, d37, w47, hrun, hme⟩ := HM.out.a1 hl1
        have HM2 : Hid (MeAt w2 w47 base ⟨WB, GB, AB, MB, pg, n, mf⟩ ⟨at', .slice na ns.length nc, fsV, gsV, ns, fs, gs, ps.set v (ns.length : Int)⟩ (v : Int) 2 1 0 (slV w45.heap.size 1) (.slice (some ⟨q37, 0, none⟩) (ns.length + 1) d37) (slV w2.heap.size 1) undef undef undef) := hme
        refine step_append_run rfl (.tmp 13) (.tmp 15) 23 rfl _ _ _ _ ?e1 ?e2 (hrun _) ?_
        case e1 => simp [Act.eval]
        case e2 => simp [Act.eval]
        refine hK.out _ _ ⟨fun _ => HM2.out.s, ?_⟩
        clear hK K HM hrun hme
        have HM := HM2
        clear HM2
        simp only [Act.put]
        have hHeld := HM.out.s
        refine wpAnyL_take2 13 (v := ?_) rfl (by kernel_rfl) (by kernel_rfl) (by kernel_rfl) (by kernel_rfl) (by kernel_rfl) (fun _ _ _ h => h) hHeld (Or.inl ⟨by rfl, ?_⟩) ?_
        rotate_left 1
        · (intro w hSw; obtain ⟨hS1, hS2, hS3, hS4⟩ := hSw; (try dsimp only at hS1 hS2 hS3 hS4); first | (go_simp; done) | (go_simp; with_reducible rfl))
        simp only [Act.put]
        clear hHeld
        refine wpAnyL_ready [9, 11] (by kernel_rfl) (by simp) (all_cons (wpOp_step rfl (fun K hK0 => ?_)) (all_cons (wpOp_step rfl (fun K hK0 => ?_)) (all_nil)))
        · skip
          have hK : Shut _ := hK0
          clear hK0
          obtain ⟨q38, d38, w48, hrun, hme⟩ := HM.out.a2 hl2
          have HM2 : Hid (MeAt w2 w48 base ⟨WB, GB, AB, MB, pg, n, mf⟩ ⟨at', .slice na ns.length nc, fsV, gsV, ns, fs, gs, ps.set v (ns.length : Int)⟩ (v : Int) 2 2 0 (slV w45.heap.size 1) (.slice (some ⟨q37, 0, none⟩) (ns.length + 1) d37) (slV w2.heap.size 1) (.slice (some ⟨q38, 0, none⟩) (fs.length + 1) d38) undef undef) := hme
          refine step_append_run rfl (.tmp 18) (.tmp 20) 23 rfl _ _ _ _ ?e1 ?e2 (hrun _) ?_
          case e1 => simp [Act.eval]
          case e2 => simp [Act.eval]
          refine hK.out _ _ ⟨fun _ => HM2.out.s, ?_⟩
          clear hK K HM hrun hme
          have HM := HM2
          clear HM2
          simp only [Act.put]
          refine wpAnyL_one 11 (by kernel_rfl) rfl (fun K hK0 => ?_)
          have hK : Shut _ := hK0
          clear hK0
          go_simp
          have HM2 : Hid (MeAt w2 (w48.alloc (.cells #[.int .i64 0] 3)) base ⟨WB, GB, AB, MB, pg, n, mf⟩ ⟨at', .slice na ns.length nc, fsV, gsV, ns, fs, gs, ps.set v (ns.length : Int)⟩ (v : Int) 2 2 1 (slV w45.heap.size 1) (.slice (some ⟨q37, 0, none⟩) (ns.length + 1) d37) (slV w2.heap.size 1) (.slice (some ⟨q38, 0, none⟩) (fs.length + 1) d38) (slV w48.heap.size 1) undef) := HM.out.b3 HB2.out
          refine hK.out _ _ (fun _ => HM2.out.s) ?_
          clear hK K HM
          have HM := HM2
          clear HM2
          generalize w48.alloc (.cells #[.int .i64 0] 3) = w49 at *
          refine wpAnyL_one 12 (by kernel_rfl) rfl (fun K hK0 => ?_)
          have hK : Shut _ := hK0
          clear hK0
          obtain ⟨q40, d40, w50, hrun, hme⟩ := HM.out.a3 hl3
          have HM2 : Hid (MeAt w2 w50 base ⟨WB, GB, AB, MB, pg, n, mf⟩ ⟨at', .slice na ns.length nc, fsV, gsV, ns, fs, gs, ps.set v (ns.length : Int)⟩ (v : Int) 2 2 2 (slV w45.heap.size 1) (.slice (some ⟨q37, 0, none⟩) (ns.length + 1) d37) (slV w2.heap.size 1) (.slice (some ⟨q38, 0, none⟩) (fs.length + 1) d38) (slV w48.heap.size 1) (.slice (some ⟨q40, 0, none⟩) (gs.length + 1) d40)) := hme
          refine step_append_run rfl (.tmp 22) (.tmp 23) 23 rfl _ _ _ _ ?e1 ?e2 (hrun _) ?_
          case e1 => simp [Act.eval]
          case e2 => simp [Act.eval]
          refine hK.out _ _ (fun _ => HM2.out.s) ?_
          clear hK K HM hrun hme
          have HM := HM2
          clear HM2
          simp only [Act.put]
          obtain ⟨⟨_, _, e1⟩, ⟨_, _, e2⟩, ⟨_, _, e3⟩, hA9⟩ := HM.out.put
          clear e1 e2 e3
          obtain ⟨hS1, hS2, hS3, hS4⟩ := HM.out.s
          simp only at hS1 hS2 hS3 hS4
          have hB9 := HM.out.bel
          obtain ⟨fw1, fw2, fw3, ⟨lw, lg, la⟩, nw1, nw2⟩ := HM.out.fz
          simp only at fw1 fw2 fw3 nw1 nw2 lw lg la hA9
          refine wpAnyL_one 14 (by kernel_rfl) rfl (fun K hK0 => ?_)
          have hK : Shut _ := hK0
          clear hK0
          go_simp
          refine hK.out _ _ (fun h => by cases h) ?_
          clear hK K
          refine wpAnyL_one 15 (by kernel_rfl) rfl (fun K hK0 => ?_)
          have hK : Shut _ := hK0
          clear hK0
          go_simp
          refine hK.out _ _ (fun h => by cases h) ?_
          clear hK K
          refine wpAnyL_one 16 (by kernel_rfl) rfl (fun K hK0 => ?_)
          have hK : Shut _ := hK0
          clear hK0
          go_simp
          refine hK.out _ _ (fun h => by cases h) ?_
          clear hK K
          refine wpAnyL_one 17 (by kernel_rfl) rfl (fun K hK0 => ?_)
          have hK : Shut _ := hK0
          clear hK0
          go_simp
          refine hK.out _ _ (fun h => by cases h) ?_
          clear hK K
          refine wpAnyL_done (by kernel_rfl) ?_
          have HA9 : Hid (WAt (((w50.setCell ⟨WB, 0, none⟩ (.slice (some ⟨q37, 0, none⟩) (ns.length + 1) d37)).setCell ⟨WB, 1, none⟩ (.slice (some ⟨q38, 0, none⟩) (fs.length + 1) d38)).setCell ⟨GB, 0, none⟩ (.slice (some ⟨q40, 0, none⟩) (gs.length + 1) d40)) base ⟨WB, GB, AB, MB, pg, n, mf⟩ ⟨at', (.slice (some ⟨q37, 0, none⟩) (ns.length + 1) d37), (.slice (some ⟨q38, 0, none⟩) (fs.length + 1) d38), (.slice (some ⟨q40, 0, none⟩) (gs.length + 1) d40), ns ++ [(v : Int)], fs ++ [at'], gs ++ [0], ps.set v (ns.length : Int)⟩) := hA9
          have HB9 : Hid (Below base w (((w50.setCell ⟨WB, 0, none⟩ (.slice (some ⟨q37, 0, none⟩) (ns.length + 1) d37)).setCell ⟨WB, 1, none⟩ (.slice (some ⟨q38, 0, none⟩) (fs.length + 1) d38)).setCell ⟨GB, 0, none⟩ (.slice (some ⟨q40, 0, none⟩) (gs.length + 1) d40))) := Below.setCell (p := ⟨GB, 0, none⟩) (Below.setCell (p := ⟨WB, 1, none⟩) (Below.setCell (p := ⟨WB, 0, none⟩) (HBD.out.trans hB9) lw _) lw _) lg _
          have LA : Hid _ := la
          clear hA9 hB9 hS1 hS2 hS3 hS4 fw1 fw2 fw3 lw lg la nw1 nw2 HM HB2 HBD
          generalize (((w50.setCell ⟨WB, 0, none⟩ (.slice (some ⟨q37, 0, none⟩) (ns.length + 1) d37)).setCell ⟨WB, 1, none⟩ (.slice (some ⟨q38, 0, none⟩) (fs.length + 1) d38)).setCell ⟨GB, 0, none⟩ (.slice (some ⟨q40, 0, none⟩) (gs.length + 1) d40)) = w9 at *
          obtain ⟨_, _, k2⟩ := HA9.out.wb
          obtain ⟨k3, k4⟩ := HA9.out.p (i := v) (x := (ns.length : Int)) (by show (ps.set v (ns.length : Int))[v]? = _; rw [List.getElem?_set, if_pos rfl, if_pos (by rw [HPL.out]; exact hv)])
          obtain ⟨k5, k6⟩ := HA9.out.ab
          simp only at k2 k3 k4 k5 k6
          have HA10 : Hid _ := HA9.out.setAt (ns.length : Int)
          have HB10 : Hid (Below base w (w9.setCell ⟨AB, 0, none⟩ (.int .i64 (ns.length : Int)))) := Below.setCell (p := ⟨AB, 0, none⟩) HB9.out LA.out _
          clear HA9 HB9
          go_wp2
          go_end0
          exact ⟨rfl, ⟨_, _, _, HA10.out⟩, HB10.out⟩
        · skip
          have hK : Shut _ := hK0
          clear hK0
          go_simp
          have HM2 : Hid (MeAt w2 (w47.alloc (.cells #[.int .i64 0] 3)) base ⟨WB, GB, AB, MB, pg, n, mf⟩ ⟨at', .slice na ns.length nc, fsV, gsV, ns, fs, gs, ps.set v (ns.length : Int)⟩ (v : Int) 2 1 1 (slV w45.heap.size 1) (.slice (some ⟨q37, 0, none⟩) (ns.length + 1) d37) (slV w2.heap.size 1) undef (slV w47.heap.size 1) undef) := HM.out.b3 HB2.out
          refine hK.out _ _ ⟨fun _ => HM2.out.s, ?_⟩
          clear hK K HM
          have HM := HM2
          clear HM2
          generalize w47.alloc (.cells #[.int .i64 0] 3) = w51 at *
          refine wpAnyL_one 9 (by kernel_rfl) rfl (fun K hK0 => ?_)
          have hK : Shut _ := hK0
          clear hK0
          obtain ⟨q42, d42, w52, hrun, hme⟩ := HM.out.a2 hl2
          have HM2 : Hid (MeAt w2 w52 base ⟨WB, GB, AB, MB, pg, n, mf⟩ ⟨at', .slice na ns.length nc, fsV, gsV, ns, fs, gs, ps.set v (ns.length : Int)⟩ (v : Int) 2 2 1 (slV w45.heap.size 1) (.slice (some ⟨q37, 0, none⟩) (ns.length + 1) d37) (slV w2.heap.size 1) (.slice (some ⟨q42, 0, none⟩) (fs.length + 1) d42) (slV w47.heap.size 1) undef) := hme
          refine step_append_run rfl (.tmp 18) (.tmp 20) 23 rfl _ _ _ _ ?e1 ?e2 (hrun _) ?_
          case e1 => simp [Act.eval]
          case e2 => simp [Act.eval]
          refine hK.out _ _ (fun _ => HM2.out.s) ?_
          clear hK K HM hrun hme
          have HM := HM2
          clear HM2
          simp only [Act.put]
          refine wpAnyL_one 12 (by kernel_rfl) rfl (fun K hK0 => ?_)
          have hK : Shut _ := hK0
          clear hK0
          obtain ⟨q43, d43, w53, hrun, hme⟩ := HM.out.a3 hl3
          have HM2 : Hid (MeAt w2 w53 base ⟨WB, GB, AB, MB, pg, n, mf⟩ ⟨at', .slice na ns.length nc, fsV, gsV, ns, fs, gs, ps.set v (ns.length : Int)⟩ (v : Int) 2 2 2 (slV w45.heap.size 1) (.slice (some ⟨q37, 0, none⟩) (ns.length + 1) d37) (slV w2.heap.size 1) (.slice (some ⟨q42, 0, none⟩) (fs.length + 1) d42) (slV w47.heap.size 1) (.slice (some ⟨q43, 0, none⟩) (gs.length + 1) d43)) := hme
          refine step_append_run rfl (.tmp 22) (.tmp 23) 23 rfl _ _ _ _ ?e1 ?e2 (hrun _) ?_
          case e1 => simp [Act.eval]
          case e2 => simp [Act.eval]
          refine hK.out _ _ (fun _ => HM2.out.s) ?_
          clear hK K HM hrun hme
          have HM := HM2
          clear HM2
          simp only [Act.put]
          obtain ⟨⟨_, _, e1⟩, ⟨_, _, e2⟩, ⟨_, _, e3⟩, hA9⟩ := HM.out.put
          clear e1 e2 e3
          obtain ⟨hS1, hS2, hS3, hS4⟩ := HM.out.s
          simp only at hS1 hS2 hS3 hS4
          have hB9 := HM.out.bel
          obtain ⟨fw1, fw2, fw3, ⟨lw, lg, la⟩, nw1, nw2⟩ := HM.out.fz
          simp only at fw1 fw2 fw3 nw1 nw2 lw lg la hA9
          refine wpAnyL_one 14 (by kernel_rfl) rfl (fun K hK0 => ?_)
          have hK : Shut _ := hK0
          clear hK0
          go_simp
          refine hK.out _ _ (fun h => by cases h) ?_
          clear hK K
          refine wpAnyL_one 15 (by kernel_rfl) rfl (fun K hK0 => ?_)
          have hK : Shut _ := hK0
          clear hK0
          go_simp
          refine hK.out _ _ (fun h => by cases h) ?_
          clear hK K
          refine wpAnyL_one 16 (by kernel_rfl) rfl (fun K hK0 => ?_)
          have hK : Shut _ := hK0
          clear hK0
          go_simp
          refine hK.out _ _ (fun h => by cases h) ?_
          clear hK K
          refine wpAnyL_one 17 (by kernel_rfl) rfl (fun K hK0 => ?_)
          have hK : Shut _ := hK0
          clear hK0
          go_simp
          refine hK.out _ _ (fun h => by cases h) ?_
          clear hK K
          refine wpAnyL_done (by kernel_rfl) ?_
          have HA9 : Hid (WAt (((w53.setCell ⟨WB, 0, none⟩ (.slice (some ⟨q37, 0, none⟩) (ns.length + 1) d37)).setCell ⟨WB, 1, none⟩ (.slice (some ⟨q42, 0, none⟩) (fs.length + 1) d42)).setCell ⟨GB, 0, none⟩ (.slice (some ⟨q43, 0, none⟩) (gs.length + 1) d43)) base ⟨WB, GB, AB, MB, pg, n, mf⟩ ⟨at', (.slice (some ⟨q37, 0, none⟩) (ns.length + 1) d37), (.slice (some ⟨q42, 0, none⟩) (fs.length + 1) d42), (.slice (some ⟨q43, 0, none⟩) (gs.length + 1) d43), ns ++ [(v : Int)], fs ++ [at'], gs ++ [0], ps.set v (ns.length : Int)⟩) := hA9
          have HB9 : Hid (Below base w (((w53.setCell ⟨WB, 0, none⟩ (.slice (some ⟨q37, 0, none⟩) (ns.length + 1) d37)).setCell ⟨WB, 1, none⟩ (.slice (some ⟨q42, 0, none⟩) (fs.length + 1) d42)).setCell ⟨GB, 0, none⟩ (.slice (some ⟨q43, 0, none⟩) (gs.length + 1) d43))) := Below.setCell (p := ⟨GB, 0, none⟩) (Below.setCell (p := ⟨WB, 1, none⟩) (Below.setCell (p := ⟨WB, 0, none⟩) (HBD.out.trans hB9) lw _) lw _) lg _
          have LA : Hid _ := la
          clear hA9 hB9 hS1 hS2 hS3 hS4 fw1 fw2 fw3 lw lg la nw1 nw2 HM HB2 HBD
          generalize (((w53.setCell ⟨WB, 0, none⟩ (.slice (some ⟨q37, 0, none⟩) (ns.length + 1) d37)).setCell ⟨WB, 1, none⟩ (.slice (some ⟨q42, 0, none⟩) (fs.length + 1) d42)).setCell ⟨GB, 0, none⟩ (.slice (some ⟨q43, 0, none⟩) (gs.length + 1) d43)) = w9 at *
          obtain ⟨_, _, k2⟩ := HA9.out.wb
          obtain ⟨k3, k4⟩ := HA9.out.p (i := v) (x := (ns.length : Int)) (by show (ps.set v (ns.length : Int))[v]? = _; rw [List.getElem?_set, if_pos rfl, if_pos (by rw [HPL.out]; exact hv)])
          obtain ⟨k5, k6⟩ := HA9.out.ab
          simp only at k2 k3 k4 k5 k6
          have HA10 : Hid _ := HA9.out.setAt (ns.length : Int)
          have HB10 : Hid (Below base w (w9.setCell ⟨AB, 0, none⟩ (.int .i64 (ns.length : Int)))) := Below.setCell (p := ⟨AB, 0, none⟩) HB9.out LA.out _
          clear HA9 HB9
          go_wp2
          go_end0
          exact ⟨rfl, ⟨_, _, _, HA10.out⟩, HB10.out⟩
      · skip
        have hK : Shut _ := hK0
        clear hK0
        go_simp
        have HM2 : Hid (MeAt w2 (w46.alloc (.cells #[.int .i64 0] 3)) base ⟨WB, GB, AB, MB, pg, n, mf⟩ ⟨at', .slice na ns.length nc, fsV, gsV, ns, fs, gs, ps.set v (ns.length : Int)⟩ (v : Int) 1 1 1 (slV w45.heap.size 1) undef (slV w2.heap.size 1) undef (slV w46.heap.size 1) undef) := HM.out.b3 HB2.out
        refine hK.out _ _ ⟨fun _ => HM2.out.s, ?_⟩
        clear hK K HM
        have HM := HM2
        clear HM2
        generalize w46.alloc (.cells #[.int .i64 0] 3) = w54 at *
        refine wpAnyL_one 4 (by kernel_rfl) rfl (fun K hK0 => ?_)
        have hK : Shut _ := hK0
        clear hK0
        obtain ⟨q45, d45, w55, hrun, hme⟩ := HM.out.a1 hl1
        have HM2 : Hid (MeAt w2 w55 base ⟨WB, GB, AB, MB, pg, n, mf⟩ ⟨at', .slice na ns.length nc, fsV, gsV, ns, fs, gs, ps.set v (ns.length : Int)⟩ (v : Int) 2 1 1 (slV w45.heap.size 1) (.slice (some ⟨q45, 0, none⟩) (ns.length + 1) d45) (slV w2.heap.size 1) undef (slV w46.heap.size 1) undef) := hme
        refine step_append_run rfl (.tmp 13) (.tmp 15) 23 rfl _ _ _ _ ?e1 ?e2 (hrun _) ?_
        case e1 => simp [Act.eval]
        case e2 => simp [Act.eval]
        refine hK.out _ _ (fun _ => HM2.out.s) ?_
        clear hK K HM hrun hme
        have HM := HM2
        clear HM2
        simp only [Act.put]
        have hHeld := HM.out.s
        refine wpAnyL_take2 13 (v := ?_) rfl (by kernel_rfl) (by kernel_rfl) (by kernel_rfl) (by kernel_rfl) (by kernel_rfl) (fun _ _ _ h => h) hHeld (Or.inl ⟨by rfl, ?_⟩) ?_
        rotate_left 1
        · (intro w hSw; obtain ⟨hS1, hS2, hS3, hS4⟩ := hSw; (try dsimp only at hS1 hS2 hS3 hS4); first | (go_simp; done) | (go_simp; with_reducible rfl))
        simp only [Act.put]
        clear hHeld
        refine wpAnyL_one 9 (by kernel_rfl) rfl (fun K hK0 => ?_)
        have hK : Shut _ := hK0
        clear hK0
        obtain ⟨q46, d46, w56, hrun, hme⟩ := HM.out.a2 hl2
        have HM2 : Hid (MeAt w2 w56 base ⟨WB, GB, AB, MB, pg, n, mf⟩ ⟨at', .slice na ns.length nc, fsV, gsV, ns, fs, gs, ps.set v (ns.length : Int)⟩ (v : Int) 2 2 1 (slV w45.heap.size 1) (.slice (some ⟨q45, 0, none⟩) (ns.length + 1) d45) (slV w2.heap.size 1) (.slice (some ⟨q46, 0, none⟩) (fs.length + 1) d46) (slV w46.heap.size 1) undef) := hme
        refine step_append_run rfl (.tmp 18) (.tmp 20) 23 rfl _ _ _ _ ?e1 ?e2 (hrun _) ?_
        case e1 => simp [Act.eval]
        case e2 => simp [Act.eval]
        refine hK.out _ _ (fun _ => HM2.out.s) ?_
        clear hK K HM hrun hme
        have HM := HM2
        clear HM2
        simp only [Act.put]
        refine wpAnyL_one 12 (by kernel_rfl) rfl (fun K hK0 => ?_)
        have hK : Shut _ := hK0
        clear hK0
        obtain ⟨q47, d47, w57, hrun, hme⟩ := HM.out.a3 hl3
        have HM2 : Hid (MeAt w2 w57 base ⟨WB, GB, AB, MB, pg, n, mf⟩ ⟨at', .slice na ns.length nc, fsV, gsV, ns, fs, gs, ps.set v (ns.length : Int)⟩ (v : Int) 2 2 2 (slV w45.heap.size 1) (.slice (some ⟨q45, 0, none⟩) (ns.length + 1) d45) (slV w2.heap.size 1) (.slice (some ⟨q46, 0, none⟩) (fs.length + 1) d46) (slV w46.heap.size 1) (.slice (some ⟨q47, 0, none⟩) (gs.length + 1) d47)) := hme
        refine step_append_run rfl (.tmp 22) (.tmp 23) 23 rfl _ _ _ _ ?e1 ?e2 (hrun _) ?_
        case e1 => simp [Act.eval]
        case e2 => simp [Act.eval]
        refine hK.out _ _ (fun _ => HM2.out.s) ?_
        clear hK K HM hrun hme
        have HM := HM2
        clear HM2
        simp only [Act.put]
        obtain ⟨⟨_, _, e1⟩, ⟨_, _, e2⟩, ⟨_, _, e3⟩, hA9⟩ := HM.out.put
        clear e1 e2 e3
        obtain ⟨hS1, hS2, hS3, hS4⟩ := HM.out.s
        simp only at hS1 hS2 hS3 hS4
        have hB9 := HM.out.bel
        obtain ⟨fw1, fw2, fw3, ⟨lw, lg, la⟩, nw1, nw2⟩ := HM.out.fz
        simp only at fw1 fw2 fw3 nw1 nw2 lw lg la hA9
        refine wpAnyL_one 14 (by kernel_rfl) rfl (fun K hK0 => ?_)
        have hK : Shut _ := hK0
        clear hK0
        go_simp
        refine hK.out _ _ (fun h => by cases h) ?_
        clear hK K
        refine wpAnyL_one 15 (by kernel_rfl) rfl (fun K hK0 => ?_)
        have hK : Shut _ := hK0
        clear hK0
        go_simp
        refine hK.out _ _ (fun h => by cases h) ?_
        clear hK K
        refine wpAnyL_one 16 (by kernel_rfl) rfl (fun K hK0 => ?_)
        have hK : Shut _ := hK0
        clear hK0
        go_simp
        refine hK.out _ _ (fun h => by cases h) ?_
        clear hK K
        refine wpAnyL_one 17 (by kernel_rfl) rfl (fun K hK0 => ?_)
        have hK : Shut _ := hK0
        clear hK0
        go_simp
        refine hK.out _ _ (fun h => by cases h) ?_
        clear hK K
        refine wpAnyL_done (by kernel_rfl) ?_
        have HA9 : Hid (WAt (((w57.setCell ⟨WB, 0, none⟩ (.slice (some ⟨q45, 0, none⟩) (ns.length + 1) d45)).setCell ⟨WB, 1, none⟩ (.slice (some ⟨q46, 0, none⟩) (fs.length + 1) d46)).setCell ⟨GB, 0, none⟩ (.slice (some ⟨q47, 0, none⟩) (gs.length + 1) d47)) base ⟨WB, GB, AB, MB, pg, n, mf⟩ ⟨at', (.slice (some ⟨q45, 0, none⟩) (ns.length + 1) d45), (.slice (some ⟨q46, 0, none⟩) (fs.length + 1) d46), (.slice (some ⟨q47, 0, none⟩) (gs.length + 1) d47), ns ++ [(v : Int)], fs ++ [at'], gs ++ [0], ps.set v (ns.length : Int)⟩) := hA9
        have HB9 : Hid (Below base w (((w57.setCell ⟨WB, 0, none⟩ (.slice (some ⟨q45, 0, none⟩) (ns.length + 1) d45)).setCell ⟨WB, 1, none⟩ (.slice (some ⟨q46, 0, none⟩) (fs.length + 1) d46)).setCell ⟨GB, 0, none⟩ (.slice (some ⟨q47, 0, none⟩) (gs.length + 1) d47))) := Below.setCell (p := ⟨GB, 0, none⟩) (Below.setCell (p := ⟨WB, 1, none⟩) (Below.setCell (p := ⟨WB, 0, none⟩) (HBD.out.trans hB9) lw _) lw _) lg _
        have LA : Hid _ := la
        clear hA9 hB9 hS1 hS2 hS3 hS4 fw1 fw2 fw3 lw lg la nw1 nw2 HM HB2 HBD
        generalize (((w57.setCell ⟨WB, 0, none⟩ (.slice (some ⟨q45, 0, none⟩) (ns.length + 1) d45)).setCell ⟨WB, 1, none⟩ (.slice (some ⟨q46, 0, none⟩) (fs.length + 1) d46)).setCell ⟨GB, 0, none⟩ (.slice (some ⟨q47, 0, none⟩) (gs.length + 1) d47)) = w9 at *
        obtain ⟨_, _, k2⟩ := HA9.out.wb
        obtain ⟨k3, k4⟩ := HA9.out.p (i := v) (x := (ns.length : Int)) (by show (ps.set v (ns.length : Int))[v]? = _; rw [List.getElem?_set, if_pos rfl, if_pos (by rw [HPL.out]; exact hv)])
        obtain ⟨k5, k6⟩ := HA9.out.ab
        simp only at k2 k3 k4 k5 k6
        have HA10 : Hid _ := HA9.out.setAt (ns.length : Int)
        have HB10 : Hid (Below base w (w9.setCell ⟨AB, 0, none⟩ (.int .i64 (ns.length : Int)))) := Below.setCell (p := ⟨AB, 0, none⟩) HB9.out LA.out _
        clear HA9 HB9
        go_wp2
        go_end0
        exact ⟨rfl, ⟨_, _, _, HA10.out⟩, HB10.out⟩
    · skip
      have hK : Shut _ := hK0
      clear hK0
      go_simp
      have HM2 : Hid (MeAt w2 (w45.alloc (.cells #[.int .i64 0] 3)) base ⟨WB, GB, AB, MB, pg, n, mf⟩ ⟨at', .slice na ns.length nc, fsV, gsV, ns, fs, gs, ps.set v (ns.length : Int)⟩ (v : Int) 0 1 1 undef undef (slV w2.heap.size 1) undef (slV w45.heap.size 1) undef) := HM.out.b3 HB2.out
      refine hK.out _ _ ⟨fun _ => HM2.out.s, ?_⟩
      clear hK K HM
      have HM := HM2
      clear HM2
      generalize w45.alloc (.cells #[.int .i64 0] 3) = w58 at *
      refine wpAnyL_one 3 (by kernel_rfl) rfl (fun K hK0 => ?_)
      have hK : Shut _ := hK0
      clear hK0
      go_simp
      have HM2 : Hid (MeAt w2 (w58.alloc (.cells #[.int .i64 (v : Int)] 3)) base ⟨WB, GB, AB, MB, pg, n, mf⟩ ⟨at', .slice na ns.length nc, fsV, gsV, ns, fs, gs, ps.set v (ns.length : Int)⟩ (v : Int) 1 1 1 (slV w58.heap.size 1) undef (slV w2.heap.size 1) undef (slV w45.heap.size 1) undef) := HM.out.b1 HB2.out
      refine hK.out _ _ (fun _ => HM2.out.s) ?_
      clear hK K HM
      have HM := HM2
      clear HM2
      generalize w58.alloc (.cells #[.int .i64 (v : Int)] 3) = w59 at *
      refine wpAnyL_one 4 (by kernel_rfl) rfl (fun K hK0 => ?_)
      have hK : Shut _ := hK0
      clear hK0
      obtain ⟨q50, d50, w60, hrun, hme⟩ := HM.out.a1 hl1
      have HM2 : Hid (MeAt w2 w60 base ⟨WB, GB, AB, MB, pg, n, mf⟩ ⟨at', .slice na ns.length nc, fsV, gsV, ns, fs, gs, ps.set v (ns.length : Int)⟩ (v : Int) 2 1 1 (slV w58.heap.size 1) (.slice (some ⟨q50, 0, none⟩) (ns.length + 1) d50) (slV w2.heap.size 1) undef (slV w45.heap.size 1) undef) := hme
      refine step_append_run rfl (.tmp 13) (.tmp 15) 23 rfl _ _ _ _ ?e1 ?e2 (hrun _) ?_
      case e1 => simp [Act.eval]
      case e2 => simp [Act.eval]
      refine hK.out _ _ (fun _ => HM2.out.s) ?_
      clear hK K HM hrun hme
      have HM := HM2
      clear HM2
      simp only [Act.put]
      have hHeld := HM.out.s
      refine wpAnyL_take2 13 (v := ?_) rfl (by kernel_rfl) (by kernel_rfl) (by kernel_rfl) (by kernel_rfl) (by kernel_rfl) (fun _ _ _ h => h) hHeld (Or.inl ⟨by rfl, ?_⟩) ?_
      rotate_left 1
      · (intro w hSw; obtain ⟨hS1, hS2, hS3, hS4⟩ := hSw; (try dsimp only at hS1 hS2 hS3 hS4); first | (go_simp; done) | (go_simp; with_reducible rfl))
      simp only [Act.put]
      clear hHeld
      refine wpAnyL_one 9 (by kernel_rfl) rfl (fun K hK0 => ?_)
      have hK : Shut _ := hK0
      clear hK0
      obtain ⟨q51, d51, w61, hrun, hme⟩ := HM.out.a2 hl2
      have HM2 : Hid (MeAt w2 w61 base ⟨WB, GB, AB, MB, pg, n, mf⟩ ⟨at', .slice na ns.length nc, fsV, gsV, ns, fs, gs, ps.set v (ns.length : Int)⟩ (v : Int) 2 2 1 (slV w58.heap.size 1) (.slice (some ⟨q50, 0, none⟩) (ns.length + 1) d50) (slV w2.heap.size 1) (.slice (some ⟨q51, 0, none⟩) (fs.length + 1) d51) (slV w45.heap.size 1) undef) := hme
      refine step_append_run rfl (.tmp 18) (.tmp 20) 23 rfl _ _ _ _ ?e1 ?e2 (hrun _) ?_
      case e1 => simp [Act.eval]
      case e2 => simp [Act.eval]
      refine hK.out _ _ (fun _ => HM2.out.s) ?_
      clear hK K HM hrun hme
      have HM := HM2
      clear HM2
      simp only [Act.put]
      refine wpAnyL_one 12 (by kernel_rfl) rfl (fun K hK0 => ?_)
      have hK : Shut _ := hK0
      clear hK0
      obtain ⟨q52, d52, w62, hrun, hme⟩ := HM.out.a3 hl3
      have HM2 : Hid (MeAt w2 w62 base ⟨WB, GB, AB, MB, pg, n, mf⟩ ⟨at', .slice na ns.length nc, fsV, gsV, ns, fs, gs, ps.set v (ns.length : Int)⟩ (v : Int) 2 2 2 (slV w58.heap.size 1) (.slice (some ⟨q50, 0, none⟩) (ns.length + 1) d50) (slV w2.heap.size 1) (.slice (some ⟨q51, 0, none⟩) (fs.length + 1) d51) (slV w45.heap.size 1) (.slice (some ⟨q52, 0, none⟩) (gs.length + 1) d52)) := hme
      refine step_append_run rfl (.tmp 22) (.tmp 23) 23 rfl _ _ _ _ ?e1 ?e2 (hrun _) ?_
      case e1 => simp [Act.eval]
      case e2 => simp [Act.eval]
      refine hK.out _ _ (fun _ => HM2.out.s) ?_
      clear hK K HM hrun hme
      have HM := HM2
      clear HM2
      simp only [Act.put]
      obtain ⟨⟨_, _, e1⟩, ⟨_, _, e2⟩, ⟨_, _, e3⟩, hA9⟩ := HM.out.put
      clear e1 e2 e3
      obtain ⟨hS1, hS2, hS3, hS4⟩ := HM.out.s
      simp only at hS1 hS2 hS3 hS4
      have hB9 := HM.out.bel
      obtain ⟨fw1, fw2, fw3, ⟨lw, lg, la⟩, nw1, nw2⟩ := HM.out.fz
      simp only at fw1 fw2 fw3 nw1 nw2 lw lg la hA9
      refine wpAnyL_one 14 (by kernel_rfl) rfl (fun K hK0 => ?_)
      have hK : Shut _ := hK0
      clear hK0
      go_simp
      refine hK.out _ _ (fun h => by cases h) ?_
      clear hK K
      refine wpAnyL_one 15 (by kernel_rfl) rfl (fun K hK0 => ?_)
      have hK : Shut _ := hK0
      clear hK0
      go_simp
      refine hK.out _ _ (fun h => by cases h) ?_
      clear hK K
      refine wpAnyL_one 16 (by kernel_rfl) rfl (fun K hK0 => ?_)
      have hK : Shut _ := hK0
      clear hK0
      go_simp
      refine hK.out _ _ (fun h => by cases h) ?_
      clear hK K
      refine wpAnyL_one 17 (by kernel_rfl) rfl (fun K hK0 => ?_)
      have hK : Shut _ := hK0
      clear hK0
      go_simp
      refine hK.out _ _ (fun h => by cases h) ?_
      clear hK K
      refine wpAnyL_done (by kernel_rfl) ?_
      have HA9 : Hid (WAt (((w62.setCell ⟨WB, 0, none⟩ (.slice (some ⟨q50, 0, none⟩) (ns.length + 1) d50)).setCell ⟨WB, 1, none⟩ (.slice (some ⟨q51, 0, none⟩) (fs.length + 1) d51)).setCell ⟨GB, 0, none⟩ (.slice (some ⟨q52, 0, none⟩) (gs.length + 1) d52)) base ⟨WB, GB, AB, MB, pg, n, mf⟩ ⟨at', (.slice (some ⟨q50, 0, none⟩) (ns.length + 1) d50), (.slice (some ⟨q51, 0, none⟩) (fs.length + 1) d51), (.slice (some ⟨q52, 0, none⟩) (gs.length + 1) d52), ns ++ [(v : Int)], fs ++ [at'], gs ++ [0], ps.set v (ns.length : Int)⟩) := hA9
      have HB9 : Hid (Below base w (((w62.setCell ⟨WB, 0, none⟩ (.slice (some ⟨q50, 0, none⟩) (ns.length + 1) d50)).setCell ⟨WB, 1, none⟩ (.slice (some ⟨q51, 0, none⟩) (fs.length + 1) d51)).setCell ⟨GB, 0, none⟩ (.slice (some ⟨q52, 0, none⟩) (gs.length + 1) d52))) := Below.setCell (p := ⟨GB, 0, none⟩) (Below.setCell (p := ⟨WB, 1, none⟩) (Below.setCell (p := ⟨WB, 0, none⟩) (HBD.out.trans hB9) lw _) lw _) lg _
      have LA : Hid _ := la
      clear hA9 hB9 hS1 hS2 hS3 hS4 fw1 fw2 fw3 lw lg la nw1 nw2 HM HB2 HBD
      generalize (((w62.setCell ⟨WB, 0, none⟩ (.slice (some ⟨q50, 0, none⟩) (ns.length + 1) d50)).setCell ⟨WB, 1, none⟩ (.slice (some ⟨q51, 0, none⟩) (fs.length + 1) d51)).setCell ⟨GB, 0, none⟩ (.slice (some ⟨q52, 0, none⟩) (gs.length + 1) d52)) = w9 at *
      obtain ⟨_, _, k2⟩ := HA9.out.wb
      obtain ⟨k3, k4⟩ := HA9.out.p (i := v) (x := (ns.length : Int)) (by show (ps.set v (ns.length : Int))[v]? = _; rw [List.getElem?_set, if_pos rfl, if_pos (by rw [HPL.out]; exact hv)])
      obtain ⟨k5, k6⟩ := HA9.out.ab
      simp only at k2 k3 k4 k5 k6
      have HA10 : Hid _ := HA9.out.setAt (ns.length : Int)
      have HB10 : Hid (Below base w (w9.setCell ⟨AB, 0, none⟩ (.int .i64 (ns.length : Int)))) := Below.setCell (p := ⟨AB, 0, none⟩) HB9.out LA.out _
      clear HA9 HB9
      go_wp2
      go_end0
      exact ⟨rfl, ⟨_, _, _, HA10.out⟩, HB10.out⟩
  · skip
    have hK : Shut _ := hK0
    clear hK0
    go_simp
    have HM2 : Hid (MeAt w2 (w2.alloc (.cells #[.int .i64 0] 3)) base ⟨WB, GB, AB, MB, pg, n, mf⟩ ⟨at', .slice na ns.length nc, fsV, gsV, ns, fs, gs, ps.set v (ns.length : Int)⟩ (v : Int) 0 0 1 undef undef undef undef (slV w2.heap.size 1) undef) := HM.out.b3 HB2.out
    refine hK.out _ _ ⟨fun _ => HM2.out.s, ?_⟩
    clear hK K HM
    have HM := HM2
    clear HM2
    generalize w2.alloc (.cells #[.int .i64 0] 3) = w63 at *
    refine wpAnyL_ready [3, 8] (by kernel_rfl) (by simp) (all_cons (wpOp_step rfl (fun K hK0 => ?_)) (all_cons (wpOp_step rfl (fun K hK0 => ?_)) (all_nil)))
    · skip
      have hK : Shut _ := hK0
      clear hK0
      go_simp
      have HM2 : Hid (MeAt w2 (w63.alloc (.cells #[.int .i64 (v : Int)] 3)) base ⟨WB, GB, AB, MB, pg, n, mf⟩ ⟨at', .slice na ns.length nc, fsV, gsV, ns, fs, gs, ps.set v (ns.length : Int)⟩ (v : Int) 1 0 1 (slV w63.heap.size 1) undef undef undef (slV w2.heap.size 1) undef) := HM.out.b1 HB2.out
      refine hK.out _ _ ⟨fun _ => HM2.out.s, ?_⟩
      clear hK K HM
      have HM := HM2
      clear HM2
      generalize w63.alloc (.cells #[.int .i64 (v : Int)] 3) = w64 at *
      refine wpAnyL_ready [4, 8] (by kernel_rfl) (by simp) (all_cons (wpOp_step rfl (fun K hK0 => ?_)) (all_cons (wpOp_step rfl (fun K hK0 => ?_)) (all_nil)))
      · skip
        have hK : Shut _ := hK0
        clear hK0
        obtain ⟨q55, d55, w65, hrun, hme⟩ := HM.out.a1 hl1
        have HM2 : Hid (MeAt w2 w65 base ⟨WB, GB, AB, MB, pg, n, mf⟩ ⟨at', .slice na ns.length nc, fsV, gsV, ns, fs, gs, ps.set v (ns.length : Int)⟩ (v : Int) 2 0 1 (slV w63.heap.size 1) (.slice (some ⟨q55, 0, none⟩) (ns.length + 1) d55) undef undef (slV w2.heap.size 1) undef) := hme
        refine step_append_run rfl (.tmp 13) (.tmp 15) 23 rfl _ _ _ _ ?e1 ?e2 (hrun _) ?_
        case e1 => simp [Act.eval]
        case e2 => simp [Act.eval]
        refine hK.out _ _ ⟨fun _ => HM2.out.s, ?_⟩
        clear hK K HM hrun hme
        have HM := HM2
        clear HM2
        simp only [Act.put]
        have hHeld := HM.out.s
        refine wpAnyL_take2 13 (v := ?_) rfl (by kernel_rfl) (by kernel_rfl) (by kernel_rfl) (by kernel_rfl) (by kernel_rfl) (fun _ _ _ h => h) hHeld (Or.inl ⟨by rfl, ?_⟩) ?_
        rotate_left 1
        · (intro w hSw; obtain ⟨hS1, hS2, hS3, hS4⟩ := hSw; (try dsimp only at hS1 hS2 hS3 hS4); first | (go_simp; done) | (go_simp; with_reducible rfl))
        simp only [Act.put]
        clear hHeld
        refine wpAnyL_one 8 (by kernel_rfl) rfl (fun K hK0 => ?_)
        have hK : Shut _ := hK0
        clear hK0
        go_simp
        have HM2 : Hid (MeAt w2 (w65.alloc (.cells #[.int .i64 at'] 3)) base ⟨WB, GB, AB, MB, pg, n, mf⟩ ⟨at', .slice na ns.length nc, fsV, gsV, ns, fs, gs, ps.set v (ns.length : Int)⟩ (v : Int) 2 1 1 (slV w63.heap.size 1) (.slice (some ⟨q55, 0, none⟩) (ns.length + 1) d55) (slV w65.heap.size 1) undef (slV w2.heap.size 1) undef) := HM.out.b2 HB2.out
        refine hK.out _ _ (fun _ => HM2.out.s) ?_
        clear hK K HM
        have HM := HM2
        clear HM2
        generalize w65.alloc (.cells #[.int .i64 at'] 3) = w66 at *
        refine wpAnyL_one 9 (by kernel_rfl) rfl (fun K hK0 => ?_)
        have hK : Shut _ := hK0
        clear hK0
        obtain ⟨q57, d57, w67, hrun, hme⟩ := HM.out.a2 hl2
        have HM2 : Hid (MeAt w2 w67 base ⟨WB, GB, AB, MB, pg, n, mf⟩ ⟨at', .slice na ns.length nc, fsV, gsV, ns, fs, gs, ps.set v (ns.length : Int)⟩ (v : Int) 2 2 1 (slV w63.heap.size 1) (.slice (some ⟨q55, 0, none⟩) (ns.length + 1) d55) (slV w65.heap.size 1) (.slice (some ⟨q57, 0, none⟩) (fs.length + 1) d57) (slV w2.heap.size 1) undef) := hme
        refine step_append_run rfl (.tmp 18) (.tmp 20) 23 rfl _ _ _ _ ?e1 ?e2 (hrun _) ?_
        case e1 => simp [Act.eval]
        case e2 => simp [Act.eval]
        refine hK.out _ _ (fun _ => HM2.out.s) ?_
        clear hK K HM hrun hme
        have HM := HM2
        clear HM2
        simp only [Act.put]
        refine wpAnyL_one 12 (by kernel_rfl) rfl (fun K hK0 => ?_)
        have hK : Shut _ := hK0
        clear hK0
        obtain ⟨q58, d58, w68, hrun, hme⟩ := HM.out.a3 hl3
        have HM2 : Hid (MeAt w2 w68 base ⟨WB, GB, AB, MB, pg, n, mf⟩ ⟨at', .slice na ns.length nc, fsV, gsV, ns, fs, gs, ps.set v (ns.length : Int)⟩ (v : Int) 2 2 2 (slV w63.heap.size 1) (.slice (some ⟨q55, 0, none⟩) (ns.length + 1) d55) (slV w65.heap.size 1) (.slice (some ⟨q57, 0, none⟩) (fs.length + 1) d57) (slV w2.heap.size 1) (.slice (some ⟨q58, 0, none⟩) (gs.length + 1) d58)) := hme
        refine step_append_run rfl (.tmp 22) (.tmp 23) 23 rfl _ _ _ _ ?e1 ?e2 (hrun _) ?_
        case e1 => simp [Act.eval]
        case e2 => simp [Act.eval]
        refine hK.out _ _ (fun _ => HM2.out.s) ?_
        clear hK K HM hrun hme
        have HM := HM2
        clear HM2
        simp only [Act.put]
        obtain ⟨⟨_, _, e1⟩, ⟨_, _, e2⟩, ⟨_, _, e3⟩, hA9⟩ := HM.out.put
        clear e1 e2 e3
        obtain ⟨hS1, hS2, hS3, hS4⟩ := HM.out.s
        simp only at hS1 hS2 hS3 hS4
        have hB9 := HM.out.bel
        obtain ⟨fw1, fw2, fw3, ⟨lw, lg, la⟩, nw1, nw2⟩ := HM.out.fz
        simp only at fw1 fw2 fw3 nw1 nw2 lw lg la hA9
        refine wpAnyL_one 14 (by kernel_rfl) rfl (fun K hK0 => ?_)
        have hK : Shut _ := hK0
        clear hK0
        go_simp
        refine hK.out _ _ (fun h => by cases h) ?_
        clear hK K
        refine wpAnyL_one 15 (by kernel_rfl) rfl (fun K hK0 => ?_)
        have hK : Shut _ := hK0
        clear hK0
        go_simp
        refine hK.out _ _ (fun h => by cases h) ?_
        clear hK K
        refine wpAnyL_one 16 (by kernel_rfl) rfl (fun K hK0 => ?_)
        have hK : Shut _ := hK0
        clear hK0
        go_simp
        refine hK.out _ _ (fun h => by cases h) ?_
        clear hK K
        refine wpAnyL_one 17 (by kernel_rfl) rfl (fun K hK0 => ?_)
        have hK : Shut _ := hK0
        clear hK0
        go_simp
        refine hK.out _ _ (fun h => by cases h) ?_
        clear hK K
        refine wpAnyL_done (by kernel_rfl) ?_
        have HA9 : Hid (WAt (((w68.setCell ⟨WB, 0, none⟩ (.slice (some ⟨q55, 0, none⟩) (ns.length + 1) d55)).setCell ⟨WB, 1, none⟩ (.slice (some ⟨q57, 0, none⟩) (fs.length + 1) d57)).setCell ⟨GB, 0, none⟩ (.slice (some ⟨q58, 0, none⟩) (gs.length + 1) d58)) base ⟨WB, GB, AB, MB, pg, n, mf⟩ ⟨at', (.slice (some ⟨q55, 0, none⟩) (ns.length + 1) d55), (.slice (some ⟨q57, 0, none⟩) (fs.length + 1) d57), (.slice (some ⟨q58, 0, none⟩) (gs.length + 1) d58), ns ++ [(v : Int)], fs ++ [at'], gs ++ [0], ps.set v (ns.length : Int)⟩) := hA9
        have HB9 : Hid (Below base w (((w68.setCell ⟨WB, 0, none⟩ (.slice (some ⟨q55, 0, none⟩) (ns.length + 1) d55)).setCell ⟨WB, 1, none⟩ (.slice (some ⟨q57, 0, none⟩) (fs.length + 1) d57)).setCell ⟨GB, 0, none⟩ (.slice (some ⟨q58, 0, none⟩) (gs.length + 1) d58))) := Below.setCell (p := ⟨GB, 0, none⟩) (Below.setCell (p := ⟨WB, 1, none⟩) (Below.setCell (p := ⟨WB, 0, none⟩) (HBD.out.trans hB9) lw _) lw _) lg _
        have LA : Hid _ := la
        clear hA9 hB9 hS1 hS2 hS3 hS4 fw1 fw2 fw3 lw lg la nw1 nw2 HM HB2 HBD
        generalize (((w68.setCell ⟨WB, 0, none⟩ (.slice (some ⟨q55, 0, none⟩) (ns.length + 1) d55)).setCell ⟨WB, 1, none⟩ (.slice (some ⟨q57, 0, none⟩) (fs.length + 1) d57)).setCell ⟨GB, 0, none⟩ (.slice (some ⟨q58, 0, none⟩) (gs.length + 1) d58)) = w9 at *
        obtain ⟨_, _, k2⟩ := HA9.out.wb
        obtain ⟨k3, k4⟩ := HA9.out.p (i := v) (x := (ns.length : Int)) (by show (ps.set v (ns.length : Int))[v]? = _; rw [List.getElem?_set, if_pos rfl, if_pos (by rw [HPL.out]; exact hv)])
        obtain ⟨k5, k6⟩ := HA9.out.ab
        simp only at k2 k3 k4 k5 k6
        have HA10 : Hid _ := HA9.out.setAt (ns.length : Int)
        have HB10 : Hid (Below base w (w9.setCell ⟨AB, 0, none⟩ (.int .i64 (ns.length : Int)))) := Below.setCell (p := ⟨AB, 0, none⟩) HB9.out LA.out _
        clear HA9 HB9
        go_wp2
        go_end0
        exact ⟨rfl, ⟨_, _, _, HA10.out⟩, HB10.out⟩
      · skip
        have hK : Shut _ := hK0
        clear hK0
        go_simp
        have HM2 : Hid (MeAt w2 (w64.alloc (.cells #[.int .i64 at'] 3)) base ⟨WB, GB, AB, MB, pg, n, mf⟩ ⟨at', .slice na ns.length nc, fsV, gsV, ns, fs, gs, ps.set v (ns.length : Int)⟩ (v : Int) 1 1 1 (slV w63.heap.size 1) undef (slV w64.heap.size 1) undef (slV w2.heap.size 1) undef) := HM.out.b2 HB2.out
        refine hK.out _ _ ⟨fun _ => HM2.out.s, ?_⟩
        clear hK K HM
        have HM := HM2
        clear HM2
        generalize w64.alloc (.cells #[.int .i64 at'] 3) = w69 at *
        refine wpAnyL_one 4 (by kernel_rfl) rfl (fun K hK0 => ?_)
        have hK : Shut _ := hK0
        clear hK0
        obtain ⟨q60, d60, w70, hrun, hme⟩ := HM.out.a1 hl1
        have HM2 : Hid (MeAt w2 w70 base ⟨WB, GB, AB, MB, pg, n, mf⟩ ⟨at', .slice na ns.length nc, fsV, gsV, ns, fs, gs, ps.set v (ns.length : Int)⟩ (v : Int) 2 1 1 (slV w63.heap.size 1) (.slice (some ⟨q60, 0, none⟩) (ns.length + 1) d60) (slV w64.heap.size 1) undef (slV w2.heap.size 1) undef) := hme
        refine step_append_run rfl (.tmp 13) (.tmp 15) 23 rfl _ _ _ _ ?e1 ?e2 (hrun _) ?_
        case e1 => simp [Act.eval]
        case e2 => simp [Act.eval]
        refine hK.out _ _ (fun _ => HM2.out.s) ?_
        clear hK K HM hrun hme
        have HM := HM2
        clear HM2
        simp only [Act.put]
        have hHeld := HM.out.s
        refine wpAnyL_take2 13 (v := ?_) rfl (by kernel_rfl) (by kernel_rfl) (by kernel_rfl) (by kernel_rfl) (by kernel_rfl) (fun _ _ _ h => h) hHeld (Or.inl ⟨by rfl, ?_⟩) ?_
        rotate_left 1
        · (intro w hSw; obtain ⟨hS1, hS2, hS3, hS4⟩ := hSw; (try dsimp only at hS1 hS2 hS3 hS4); first | (go_simp; done) | (go_simp; with_reducible rfl))
        simp only [Act.put]
        clear hHeld
        refine wpAnyL_one 9 (by kernel_rfl) rfl (fun K hK0 => ?_)
        have hK : Shut _ := hK0
        clear hK0
        obtain ⟨q61, d61, w71, hrun, hme⟩ := HM.out.a2 hl2
        have HM2 : Hid (MeAt w2 w71 base ⟨WB, GB, AB, MB, pg, n, mf⟩ ⟨at', .slice na ns.length nc, fsV, gsV, ns, fs, gs, ps.set v (ns.length : Int)⟩ (v : Int) 2 2 1 (slV w63.heap.size 1) (.slice (some ⟨q60, 0, none⟩) (ns.length + 1) d60) (slV w64.heap.size 1) (.slice (some ⟨q61, 0, none⟩) (fs.length + 1) d61) (slV w2.heap.size 1) undef) := hme
        refine step_append_run rfl (.tmp 18) (.tmp 20) 23 rfl _ _ _ _ ?e1 ?e2 (hrun _) ?_
        case e1 => simp [Act.eval]
        case e2 => simp [Act.eval]
        refine hK.out _ _ (fun _ => HM2.out.s) ?_
        clear hK K HM hrun hme
        have HM := HM2
        clear HM2
        simp only [Act.put]
        refine wpAnyL_one 12 (by kernel_rfl) rfl (fun K hK0 => ?_)
        have hK : Shut _ := hK0
        clear hK0
        obtain ⟨q62, d62, w72, hrun, hme⟩ := HM.out.a3 hl3
        have HM2 : Hid (MeAt w2 w72 base ⟨WB, GB, AB, MB, pg, n, mf⟩ ⟨at', .slice na ns.length nc, fsV, gsV, ns, fs, gs, ps.set v (ns.length : Int)⟩ (v : Int) 2 2 2 (slV w63.heap.size 1) (.slice (some ⟨q60, 0, none⟩) (ns.length + 1) d60) (slV w64.heap.size 1) (.slice (some ⟨q61, 0, none⟩) (fs.length + 1) d61) (slV w2.heap.size 1) (.slice (some ⟨q62, 0, none⟩) (gs.length + 1) d62)) := hme
        refine step_append_run rfl (.tmp 22) (.tmp 23) 23 rfl _ _ _ _ ?e1 ?e2 (hrun _) ?_
        case e1 => simp [Act.eval]
        case e2 => simp [Act.eval]
        refine hK.out _ _ (fun _ => HM2.out.s) ?_
        clear hK K HM hrun hme
        have HM := HM2
        clear HM2
        simp only [Act.put]
        obtain ⟨⟨_, _, e1⟩, ⟨_, _, e2⟩, ⟨_, _, e3⟩, hA9⟩ := HM.out.put
        clear e1 e2 e3
        obtain ⟨hS1, hS2, hS3, hS4⟩ := HM.out.s
        simp only at hS1 hS2 hS3 hS4
        have hB9 := HM.out.bel
        obtain ⟨fw1, fw2, fw3, ⟨lw, lg, la⟩, nw1, nw2⟩ := HM.out.fz
        simp only at fw1 fw2 fw3 nw1 nw2 lw lg la hA9
        refine wpAnyL_one 14 (by kernel_rfl) rfl (fun K hK0 => ?_)
        have hK : Shut _ := hK0
        clear hK0
        go_simp
        refine hK.out _ _ (fun h => by cases h) ?_
        clear hK K
        refine wpAnyL_one 15 (by kernel_rfl) rfl (fun K hK0 => ?_)
        have hK : Shut _ := hK0
        clear hK0
        go_simp
        refine hK.out _ _ (fun h => by cases h) ?_
        clear hK K
        refine wpAnyL_one 16 (by kernel_rfl) rfl (fun K hK0 => ?_)
        have hK : Shut _ := hK0
        clear hK0
        go_simp
        refine hK.out _ _ (fun h => by cases h) ?_
        clear hK K
        refine wpAnyL_one 17 (by kernel_rfl) rfl (fun K hK0 => ?_)
        have hK : Shut _ := hK0
        clear hK0
        go_simp
        refine hK.out _ _ (fun h => by cases h) ?_
        clear hK K
        refine wpAnyL_done (by kernel_rfl) ?_
        have HA9 : Hid (WAt (((w72.setCell ⟨WB, 0, none⟩ (.slice (some ⟨q60, 0, none⟩) (ns.length + 1) d60)).setCell ⟨WB, 1, none⟩ (.slice (some ⟨q61, 0, none⟩) (fs.length + 1) d61)).setCell ⟨GB, 0, none⟩ (.slice (some ⟨q62, 0, none⟩) (gs.length + 1) d62)) base ⟨WB, GB, AB, MB, pg, n, mf⟩ ⟨at', (.slice (some ⟨q60, 0, none⟩) (ns.length + 1) d60), (.slice (some ⟨q61, 0, none⟩) (fs.length + 1) d61), (.slice (some ⟨q62, 0, none⟩) (gs.length + 1) d62), ns ++ [(v : Int)], fs ++ [at'], gs ++ [0], ps.set v (ns.length : Int)⟩) := hA9
        have HB9 : Hid (Below base w (((w72.setCell ⟨WB, 0, none⟩ (.slice (some ⟨q60, 0, none⟩) (ns.length + 1) d60)).setCell ⟨WB, 1, none⟩ (.slice (some ⟨q61, 0, none⟩) (fs.length + 1) d61)).setCell ⟨GB, 0, none⟩ (.slice (some ⟨q62, 0, none⟩) (gs.length + 1) d62))) := Below.setCell (p := ⟨GB, 0, none⟩) (Below.setCell (p := ⟨WB, 1, none⟩) (Below.setCell (p := ⟨WB, 0, none⟩) (HBD.out.trans hB9) lw _) lw _) lg _
        have LA : Hid _ := la
        clear hA9 hB9 hS1 hS2 hS3 hS4 fw1 fw2 fw3 lw lg la nw1 nw2 HM HB2 HBD
        generalize (((w72.setCell ⟨WB, 0, none⟩ (.slice (some ⟨q60, 0, none⟩) (ns.length + 1) d60)).setCell ⟨WB, 1, none⟩ (.slice (some ⟨q61, 0, none⟩) (fs.length + 1) d61)).setCell ⟨GB, 0, none⟩ (.slice (some ⟨q62, 0, none⟩) (gs.length + 1) d62)) = w9 at *
        obtain ⟨_, _, k2⟩ := HA9.out.wb
        obtain ⟨k3, k4⟩ := HA9.out.p (i := v) (x := (ns.length : Int)) (by show (ps.set v (ns.length : Int))[v]? = _; rw [List.getElem?_set, if_pos rfl, if_pos (by rw [HPL.out]; exact hv)])
        obtain ⟨k5, k6⟩ := HA9.out.ab
        simp only at k2 k3 k4 k5 k6
        have HA10 : Hid _ := HA9.out.setAt (ns.length : Int)
        have HB10 : Hid (Below base w (w9.setCell ⟨AB, 0, none⟩ (.int .i64 (ns.length : Int)))) := Below.setCell (p := ⟨AB, 0, none⟩) HB9.out LA.out _
        clear HA9 HB9
        go_wp2
        go_end0
        exact ⟨rfl, ⟨_, _, _, HA10.out⟩, HB10.out⟩
    · skip
      have hK : Shut _ := hK0
      clear hK0
      go_simp
      have HM2 : Hid (MeAt w2 (w63.alloc (.cells #[.int .i64 at'] 3)) base ⟨WB, GB, AB, MB, pg, n, mf⟩ ⟨at', .slice na ns.length nc, fsV, gsV, ns, fs, gs, ps.set v (ns.length : Int)⟩ (v : Int) 0 1 1 undef undef (slV w63.heap.size 1) undef (slV w2.heap.size 1) undef) := HM.out.b2 HB2.out
      refine hK.out _ _ ⟨fun _ => HM2.out.s, ?_⟩
      clear hK K HM
      have HM := HM2
      clear HM2
      generalize w63.alloc (.cells #[.int .i64 at'] 3) = w73 at *
      refine wpAnyL_one 3 (by kernel_rfl) rfl (fun K hK0 => ?_)
      have hK : Shut _ := hK0
      clear hK0
      go_simp
      have HM2 : Hid (MeAt w2 (w73.alloc (.cells #[.int .i64 (v : Int)] 3)) base ⟨WB, GB, AB, MB, pg, n, mf⟩ ⟨at', .slice na ns.length nc, fsV, gsV, ns, fs, gs, ps.set v (ns.length : Int)⟩ (v : Int) 1 1 1 (slV w73.heap.size 1) undef (slV w63.heap.size 1) undef (slV w2.heap.size 1) undef) := HM.out.b1 HB2.out
      refine hK.out _ _ (fun _ => HM2.out.s) ?_
      clear hK K HM
      have HM := HM2
      clear HM2
      generalize w73.alloc (.cells #[.int .i64 (v : Int)] 3) = w74 at *
      refine wpAnyL_one 4 (by kernel_rfl) rfl (fun K hK0 => ?_)
      have hK : Shut _ := hK0
      clear hK0
      obtain ⟨q65, d65, w75, hrun, hme⟩ := HM.out.a1 hl1
      have HM2 : Hid (MeAt w2 w75 base ⟨WB, GB, AB, MB, pg, n, mf⟩ ⟨at', .slice na ns.length nc, fsV, gsV, ns, fs, gs, ps.set v (ns.length : Int)⟩ (v : Int) 2 1 1 (slV w73.heap.size 1) (.slice (some ⟨q65, 0, none⟩) (ns.length + 1) d65) (slV w63.heap.size 1) undef (slV w2.heap.size 1) undef) := hme
      refine step_append_run rfl (.tmp 13) (.tmp 15) 23 rfl _ _ _ _ ?e1 ?e2 (hrun _) ?_
      case e1 => simp [Act.eval]
      case e2 => simp [Act.eval]
      refine hK.out _ _ (fun _ => HM2.out.s) ?_
      clear hK K HM hrun hme
      have HM := HM2
      clear HM2
      simp only [Act.put]
      have hHeld := HM.out.s
      refine wpAnyL_take2 13 (v := ?_) rfl (by kernel_rfl) (by kernel_rfl) (by kernel_rfl) (by kernel_rfl) (by kernel_rfl) (fun _ _ _ h => h) hHeld (Or.inl ⟨by rfl, ?_⟩) ?_
      rotate_left 1
      · (intro w hSw; obtain ⟨hS1, hS2, hS3, hS4⟩ := hSw; (try dsimp only at hS1 hS2 hS3 hS4); first | (go_simp; done) | (go_simp; with_reducible rfl))
      simp only [Act.put]
      clear hHeld
      refine wpAnyL_one 9 (by kernel_rfl) rfl (fun K hK0 => ?_)
      have hK : Shut _ := hK0
      clear hK0
      obtain ⟨q66, d66, w76, hrun, hme⟩ := HM.out.a2 hl2
      have HM2 : Hid (MeAt w2 w76 base ⟨WB, GB, AB, MB, pg, n, mf⟩ ⟨at', .slice na ns.length nc, fsV, gsV, ns, fs, gs, ps.set v (ns.length : Int)⟩ (v : Int) 2 2 1 (slV w73.heap.size 1) (.slice (some ⟨q65, 0, none⟩) (ns.length + 1) d65) (slV w63.heap.size 1) (.slice (some ⟨q66, 0, none⟩) (fs.length + 1) d66) (slV w2.heap.size 1) undef) := hme
      refine step_append_run rfl (.tmp 18) (.tmp 20) 23 rfl _ _ _ _ ?e1 ?e2 (hrun _) ?_
      case e1 => simp [Act.eval]
      case e2 => simp [Act.eval]
      refine hK.out _ _ (fun _ => HM2.out.s) ?_
      clear hK K HM hrun hme
      have HM := HM2
      clear HM2
      simp only [Act.put]
      refine wpAnyL_one 12 (by kernel_rfl) rfl (fun K hK0 => ?_)
      have hK : Shut _ := hK0
      clear hK0
      obtain ⟨q67, d67, w77, hrun, hme⟩ := HM.out.a3 hl3
      have HM2 : Hid (MeAt w2 w77 base ⟨WB, GB, AB, MB, pg, n, mf⟩ ⟨at', .slice na ns.length nc, fsV, gsV, ns, fs, gs, ps.set v (ns.length : Int)⟩ (v : Int) 2 2 2 (slV w73.heap.size 1) (.slice (some ⟨q65, 0, none⟩) (ns.length + 1) d65) (slV w63.heap.size 1) (.slice (some ⟨q66, 0, none⟩) (fs.length + 1) d66) (slV w2.heap.size 1) (.slice (some ⟨q67, 0, none⟩) (gs.length + 1) d67)) := hme
      refine step_append_run rfl (.tmp 22) (.tmp 23) 23 rfl _ _ _ _ ?e1 ?e2 (hrun _) ?_
      case e1 => simp [Act.eval]
      case e2 => simp [Act.eval]
      refine hK.out _ _ (fun _ => HM2.out.s) ?_
      clear hK K HM hrun hme
      have HM := HM2
      clear HM2
      simp only [Act.put]
      obtain ⟨⟨_, _, e1⟩, ⟨_, _, e2⟩, ⟨_, _, e3⟩, hA9⟩ := HM.out.put
      clear e1 e2 e3
      obtain ⟨hS1, hS2, hS3, hS4⟩ := HM.out.s
      simp only at hS1 hS2 hS3 hS4
      have hB9 := HM.out.bel
      obtain ⟨fw1, fw2, fw3, ⟨lw, lg, la⟩, nw1, nw2⟩ := HM.out.fz
      simp only at fw1 fw2 fw3 nw1 nw2 lw lg la hA9
      refine wpAnyL_one 14 (by kernel_rfl) rfl (fun K hK0 => ?_)
      have hK : Shut _ := hK0
      clear hK0
      go_simp
      refine hK.out _ _ (fun h => by cases h) ?_
      clear hK K
      refine wpAnyL_one 15 (by kernel_rfl) rfl (fun K hK0 => ?_)
      have hK : Shut _ := hK0
      clear hK0
      go_simp
      refine hK.out _ _ (fun h => by cases h) ?_
      clear hK K
      refine wpAnyL_one 16 (by kernel_rfl) rfl (fun K hK0 => ?_)
      have hK : Shut _ := hK0
      clear hK0
      go_simp
      refine hK.out _ _ (fun h => by cases h) ?_
      clear hK K
      refine wpAnyL_one 17 (by kernel_rfl) rfl (fun K hK0 => ?_)
      have hK : Shut _ := hK0
      clear hK0
      go_simp
      refine hK.out _ _ (fun h => by cases h) ?_
      clear hK K
      refine wpAnyL_done (by kernel_rfl) ?_
      have HA9 : Hid (WAt (((w77.setCell ⟨WB, 0, none⟩ (.slice (some ⟨q65, 0, none⟩) (ns.length + 1) d65)).setCell ⟨WB, 1, none⟩ (.slice (some ⟨q66, 0, none⟩) (fs.length + 1) d66)).setCell ⟨GB, 0, none⟩ (.slice (some ⟨q67, 0, none⟩) (gs.length + 1) d67)) base ⟨WB, GB, AB, MB, pg, n, mf⟩ ⟨at', (.slice (some ⟨q65, 0, none⟩) (ns.length + 1) d65), (.slice (some ⟨q66, 0, none⟩) (fs.length + 1) d66), (.slice (some ⟨q67, 0, none⟩) (gs.length + 1) d67), ns ++ [(v : Int)], fs ++ [at'], gs ++ [0], ps.set v (ns.length : Int)⟩) := hA9
      have HB9 : Hid (Below base w (((w77.setCell ⟨WB, 0, none⟩ (.slice (some ⟨q65, 0, none⟩) (ns.length + 1) d65)).setCell ⟨WB, 1, none⟩ (.slice (some ⟨q66, 0, none⟩) (fs.length + 1) d66)).setCell ⟨GB, 0, none⟩ (.slice (some ⟨q67, 0, none⟩) (gs.length + 1) d67))) := Below.setCell (p := ⟨GB, 0, none⟩) (Below.setCell (p := ⟨WB, 1, none⟩) (Below.setCell (p := ⟨WB, 0, none⟩) (HBD.out.trans hB9) lw _) lw _) lg _
      have LA : Hid _ := la
      clear hA9 hB9 hS1 hS2 hS3 hS4 fw1 fw2 fw3 lw lg la nw1 nw2 HM HB2 HBD
      generalize (((w77.setCell ⟨WB, 0, none⟩ (.slice (some ⟨q65, 0, none⟩) (ns.length + 1) d65)).setCell ⟨WB, 1, none⟩ (.slice (some ⟨q66, 0, none⟩) (fs.length + 1) d66)).setCell ⟨GB, 0, none⟩ (.slice (some ⟨q67, 0, none⟩) (gs.length + 1) d67)) = w9 at *
      obtain ⟨_, _, k2⟩ := HA9.out.wb
      obtain ⟨k3, k4⟩ := HA9.out.p (i := v) (x := (ns.length : Int)) (by show (ps.set v (ns.length : Int))[v]? = _; rw [List.getElem?_set, if_pos rfl, if_pos (by rw [HPL.out]; exact hv)])
      obtain ⟨k5, k6⟩ := HA9.out.ab
      simp only at k2 k3 k4 k5 k6
      have HA10 : Hid _ := HA9.out.setAt (ns.length : Int)
      have HB10 : Hid (Below base w (w9.setCell ⟨AB, 0, none⟩ (.int .i64 (ns.length : Int)))) := Below.setCell (p := ⟨AB, 0, none⟩) HB9.out LA.out _
      clear HA9 HB9
      go_wp2
      go_end0
      exact ⟨rfl, ⟨_, _, _, HA10.out⟩, HB10.out⟩
end Go.Proofs.YtogjjmbcbnceoaaGreat
