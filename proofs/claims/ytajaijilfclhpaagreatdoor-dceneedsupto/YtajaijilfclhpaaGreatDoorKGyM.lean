/- Instructions, blocks and graphs that are alike are called the same. -/
import Derived.Test.YtajaijilfclhpaaGreatDoorNSmM
import Derived.Test.YtajaijilfclhpaaGreatDoorGLstM
import Derived.Lib.QuietBelow
namespace Go.Proofs.YtajaijilfclhpaaGreatDoor
open Go.RowKit

set_option maxRecDepth 100000 in
set_option maxHeartbeats 2000000 in
theorem sameX_yes (x : In) (v1 v2 : Value) (w : World) (h1 : IntsAt w v1 x.args) (h2 : IntsAt w v2 x.args) : Calls Tryz.prog 140 #[inV x v1, inV x v2] w fun e w' => e = .returned (.bool true) ∧ Below w.heap.size w w' := by
 obtain ⟨k, op, dst, args, bits, ref⟩ := x
 dsimp only at h1 h2
 obtain ⟨a1, c1, rfl, _⟩ := row_form h1
 obtain ⟨a2, c2, rfl, _⟩ := row_form h2
 have HS : Hid (∀ W, Below w.heap.size w W → Calls Tryz.prog 43 #[.slice a1 args.length c1, .slice a2 args.length c2] W fun e w' => e = .returned (.bool true) ∧ ∃ k, w' = W.drewN k) := fun W hb => sameI_yes args _ _ W (h1.below hb) (h2.below hb)
 have HB : Hid (∀ o o' : Obj, Below w.heap.size w ((w.alloc o).alloc o')) := fun o o' => below_alloc (below_alloc (Below.refl _ _) _) _
 have HB1 : Hid (Box ((w.alloc (.cells #[.int .u8 k, .int .u8 op, .int .i64 dst, .slice a1 args.length c1, .int .u64 bits, .int .i64 ref] 55)).alloc (.cells #[.int .u8 k, .int .u8 op, .int .i64 dst, .slice a2 args.length c2, .int .u64 bits, .int .i64 ref] 55)) w.heap.size [.int .u8 k, .int .u8 op, .int .i64 dst, .slice a1 args.length c1, .int .u64 bits, .int .i64 ref] ∧ Box ((w.alloc (.cells #[.int .u8 k, .int .u8 op, .int .i64 dst, .slice a1 args.length c1, .int .u64 bits, .int .i64 ref] 55)).alloc (.cells #[.int .u8 k, .int .u8 op, .int .i64 dst, .slice a2 args.length c2, .int .u64 bits, .int .i64 ref] 55)) (w.heap.size + 1) [.int .u8 k, .int .u8 op, .int .i64 dst, .slice a2 args.length c2, .int .u64 bits, .int .i64 ref]) := by
  refine ⟨(Box.new w [.int .u8 k, .int .u8 op, .int .i64 dst, .slice a1 args.length c1, .int .u64 bits, .int .i64 ref] 55).below (below_alloc (Below.refl _ _) _), ?_⟩
  have h9 := Box.new (w.alloc (.cells #[.int .u8 k, .int .u8 op, .int .i64 dst, .slice a1 args.length c1, .int .u64 bits, .int .i64 ref] 55)) [.int .u8 k, .int .u8 op, .int .i64 dst, .slice a2 args.length c2, .int .u64 bits, .int .i64 ref] 55
  rwa [show (w.alloc (.cells #[.int .u8 k, .int .u8 op, .int .i64 dst, .slice a1 args.length c1, .int .u64 bits, .int .i64 ref] 55)).heap.size = w.heap.size + 1 by simp] at h9
 clear h1 h2
 generalize args.length = n at *
 go_enter Tryz.func140, Tryz.ntmps140
 go_wp2_with (go_at_call 43; go_loud (refine Calls.mono (by exact HS.out _ (HB.out _ _)) ?_; rintro e w2 ⟨rfl, hd2⟩; have hb2 := below_of_drew hd2; obtain ⟨e0, e1, e2, e3, e4, e5⟩ := box6 (HB1.out.1.below hb2); obtain ⟨f0, f1, f2, f3, f4, f5⟩ := box6 (HB1.out.2.below hb2); have HZ : Hid (Below w.heap.size w w2) := below_trans (HB.out _ _) hb2; clear hd2 hb2))
 go_ret
 exact ⟨rfl, HZ.out⟩
set_option maxRecDepth 100000 in
set_option maxHeartbeats 2000000 in
theorem sameN_yes (l : List In) (v1 v2 : Value) (w : World) (h1 : InsAt w v1 l) (h2 : InsAt w v2 l) : Calls Tryz.prog 125 #[v1, v2] w fun e w' => e = .returned (.bool true) ∧ Below w.heap.size w w' := by
 obtain ⟨a1, c1, rfl, _⟩ := h1.form
 obtain ⟨a2, c2, rfl, _⟩ := h2.form
 have H1 : Hid (∀ i, i < l.length → _) := fun i hi => h1.get (i := i) hi
 have H2 : Hid (∀ i, i < l.length → _) := fun i hi => h2.get (i := i) hi
 clear h1 h2
 generalize l.length = n at *
 go_enter Tryz.func125, Tryz.ntmps125
 go_wp2
 go_loopw [5] (fun vi wr => ∃ i : Nat, vi = .int .i64 i ∧ i ≤ n ∧ Hid (Below w.heap.size w wr)) (fun vi _ => n - (intOf vi).toNat)
 case atStart => exact ⟨0, rfl, by omega, Below.refl _ _⟩
 case round =>
  obtain ⟨i, rfl, hi, hr⟩ := hrel
  generalize wr = wo at *
  have HRR : Hid _ := hr.out
  clear hr
  by_cases hin : i < n
  ·obtain ⟨g1, o1, x1, rfl, hg1, k0, k1, k2, k3, k4, k5, hx1⟩ := H1.out i hin
   obtain ⟨g2, o2, x2, rfl, hg2, j0, j1, j2, j3, j4, j5, hx2⟩ := H2.out i hin
   have hc1 : ∀ j, wo.cell? ⟨g1, j, none⟩ = w.cell? ⟨g1, j, none⟩ := fun j => HRR.out.cell (p := ⟨g1, j, none⟩) hg1
   have hc2 : ∀ j, wo.cell? ⟨g2, j, none⟩ = w.cell? ⟨g2, j, none⟩ := fun j => HRR.out.cell (p := ⟨g2, j, none⟩) hg2
   rw [← hc1] at k0 k1 k2 k3 k4 k5
   rw [← hc2] at j0 j1 j2 j3 j4 j5
   have HC : Hid (∀ W, Below wo.heap.size wo W → Calls Tryz.prog 140 #[inV (l.getD i default) x1, inV (l.getD i default) x2] W fun e w' => e = .returned (.bool true) ∧ Below W.heap.size W w') := fun W hb => sameX_yes _ _ _ W (hx1.below (below_trans HRR.out hb)) (hx2.below (below_trans HRR.out hb))
   obtain ⟨y1, z1, rfl, _⟩ := row_form hx1
   obtain ⟨y2, z2, rfl, _⟩ := row_form hx2
   have hin' : (i : Int) < n := by omega
   clear H1 H2 hx1 hx2 hc1 hc2
   generalize l.getD i default = X at *
   obtain ⟨k, op, dst, args, bits, ref⟩ := X
   dsimp only at *
   generalize args.length = m at *
   go_wp2
   refine wp_region_last2 8 _ _ rfl rfl rfl rfl (by kernel_rfl) (by kernel_rfl) (by kernel_rfl) (by kernel_rfl) (by kernel_rfl) (by kernel_rfl) (by kernel_rfl) ?_
   simp only [List.take_succ_cons, List.take_zero]
   repeat (go_big_quiet_step (fail))
   refine wpQuiet_nil ?_
   intro _ hw'
   obtain ⟨nq, hw''⟩ := hw'
   subst hw''
   intro K hK
   go_simp
   refine Calls.mono (by exact HC.out _ (below_drewN (Below.refl _ _) nq)) ?_
   rintro e w7 ⟨rfl, hb7⟩
   refine hK _ _ ?_
   clear hK K
   have HZ : Hid (Below w.heap.size w w7) := below_trans (below_trans HRR.out (below_drewN (Below.refl _ _) nq)) hb7
   clear hb7 HC
   go_simp
   go_wp2
   go_roundw
   case rel => exact ⟨i + 1, by first | rfl | (congr 1; omega), by omega, HZ.out⟩
   case measure => simp [intOf]; omega
  ·obtain rfl : i = n := by omega
   clear H1 H2
   go_wp2
   go_ret
   exact ⟨rfl, HRR.out⟩
set_option maxRecDepth 100000 in
set_option maxHeartbeats 2000000 in
theorem sameBl_yes (b : Bl) (v1 v2 : Value) (w : World) (h1 : InsAt w v1 b.ins) (h2 : InsAt w v2 b.ins) : Calls Tryz.prog 64 #[.agg (blArr v1 b.tm), .agg (blArr v2 b.tm)] w fun e w' => e = .returned (.bool true) ∧ Below w.heap.size w w' := by
 obtain ⟨L, tk, ta, t0, t1, tt⟩ := b
 dsimp only at h1 h2
 obtain ⟨a1, c1, rfl, _⟩ := h1.form
 obtain ⟨a2, c2, rfl, _⟩ := h2.form
 have HS : Hid (∀ W, Below w.heap.size w W → Calls Tryz.prog 125 #[.slice a1 L.length c1, .slice a2 L.length c2] W fun e w' => e = .returned (.bool true) ∧ Below W.heap.size W w') := fun W hb => sameN_yes L _ _ W (h1.below hb) (h2.below hb)
 have HB : Hid (∀ o o' : Obj, Below w.heap.size w ((w.alloc o).alloc o')) := fun o o' => below_alloc (below_alloc (Below.refl _ _) _) _
 have HB1 : Hid (Box ((w.alloc (.cells #[.slice a1 L.length c1, .int .u8 tk, .int .i64 ta, .int .i64 t0, .int .i64 t1, .int .u8 tt] 63)).alloc (.cells #[.slice a2 L.length c2, .int .u8 tk, .int .i64 ta, .int .i64 t0, .int .i64 t1, .int .u8 tt] 63)) w.heap.size [.slice a1 L.length c1, .int .u8 tk, .int .i64 ta, .int .i64 t0, .int .i64 t1, .int .u8 tt] ∧ Box ((w.alloc (.cells #[.slice a1 L.length c1, .int .u8 tk, .int .i64 ta, .int .i64 t0, .int .i64 t1, .int .u8 tt] 63)).alloc (.cells #[.slice a2 L.length c2, .int .u8 tk, .int .i64 ta, .int .i64 t0, .int .i64 t1, .int .u8 tt] 63)) (w.heap.size + 1) [.slice a2 L.length c2, .int .u8 tk, .int .i64 ta, .int .i64 t0, .int .i64 t1, .int .u8 tt]) := by
  refine ⟨(Box.new w [.slice a1 L.length c1, .int .u8 tk, .int .i64 ta, .int .i64 t0, .int .i64 t1, .int .u8 tt] 63).below (below_alloc (Below.refl _ _) _), ?_⟩
  have h9 := Box.new (w.alloc (.cells #[.slice a1 L.length c1, .int .u8 tk, .int .i64 ta, .int .i64 t0, .int .i64 t1, .int .u8 tt] 63)) [.slice a2 L.length c2, .int .u8 tk, .int .i64 ta, .int .i64 t0, .int .i64 t1, .int .u8 tt] 63
  rwa [show (w.alloc (.cells #[.slice a1 L.length c1, .int .u8 tk, .int .i64 ta, .int .i64 t0, .int .i64 t1, .int .u8 tt] 63)).heap.size = w.heap.size + 1 by simp] at h9
 have heq : ∀ W, (binOp .eql 61 (.agg #[.int .u8 tk, .int .i64 ta, .int .i64 t0, .int .i64 t1, .int .u8 tt]) (.agg #[.int .u8 tk, .int .i64 ta, .int .i64 t0, .int .i64 t1, .int .u8 tt])).run Tryz.prog W = .ok (.bool true) W := fun W => by rw [eql_term]; simp
 clear h1 h2
 generalize L.length = n at *
 go_enter Tryz.func64, Tryz.ntmps64
 go_wp2_with (go_at_call 125; go_loud (refine Calls.mono (by exact HS.out _ (HB.out _ _)) ?_; rintro e w2 ⟨rfl, hb2⟩; obtain ⟨e0, e1, e2, e3, e4, e5⟩ := box6 (HB1.out.1.below hb2); obtain ⟨f0, f1, f2, f3, f4, f5⟩ := box6 (HB1.out.2.below hb2); have HZ : Hid (Below w.heap.size w w2) := below_trans (HB.out _ _) hb2; clear hb2))
 go_ret
 exact ⟨rfl, HZ.out⟩
set_option maxRecDepth 100000 in
set_option maxHeartbeats 2000000 in
theorem sameBs_yes (l : List Bl) (v1 v2 : Value) (w : World) (h1 : BlsAt w v1 l) (h2 : BlsAt w v2 l) : Calls Tryz.prog 46 #[v1, v2] w fun e w' => e = .returned (.bool true) ∧ Below w.heap.size w w' := by
 obtain ⟨a1, c1, rfl, _⟩ := h1.form
 obtain ⟨a2, c2, rfl, _⟩ := h2.form
 have H1 : Hid (∀ i, i < l.length → _) := fun i hi => h1.get (i := i) hi
 have H2 : Hid (∀ i, i < l.length → _) := fun i hi => h2.get (i := i) hi
 clear h1 h2
 generalize l.length = n at *
 go_enter Tryz.func46, Tryz.ntmps46
 go_wp2
 go_loopw [5] (fun vi wr => ∃ i : Nat, vi = .int .i64 i ∧ i ≤ n ∧ Hid (Below w.heap.size w wr)) (fun vi _ => n - (intOf vi).toNat)
 case atStart => exact ⟨0, rfl, by omega, Below.refl _ _⟩
 case round =>
  obtain ⟨i, rfl, hi, hr⟩ := hrel
  generalize wr = wo at *
  have HRR : Hid _ := hr.out
  clear hr
  by_cases hin : i < n
  ·obtain ⟨g1, o1, x1, rfl, hg1, k0, k1, k2, k3, k4, k5, hx1⟩ := H1.out i hin
   obtain ⟨g2, o2, x2, rfl, hg2, j0, j1, j2, j3, j4, j5, hx2⟩ := H2.out i hin
   have hc1 : ∀ j, wo.cell? ⟨g1, j, none⟩ = w.cell? ⟨g1, j, none⟩ := fun j => HRR.out.cell (p := ⟨g1, j, none⟩) hg1
   have hc2 : ∀ j, wo.cell? ⟨g2, j, none⟩ = w.cell? ⟨g2, j, none⟩ := fun j => HRR.out.cell (p := ⟨g2, j, none⟩) hg2
   rw [← hc1] at k0 k1 k2 k3 k4 k5
   rw [← hc2] at j0 j1 j2 j3 j4 j5
   have HC : Hid (∀ W, Below wo.heap.size wo W → Calls Tryz.prog 64 #[.agg (blArr x1 (l.getD i default).tm), .agg (blArr x2 (l.getD i default).tm)] W fun e w' => e = .returned (.bool true) ∧ Below W.heap.size W w') := fun W hb => sameBl_yes (l.getD i default) _ _ W (hx1.below (below_trans HRR.out hb)) (hx2.below (below_trans HRR.out hb))
   obtain ⟨y1, z1, rfl, _⟩ := hx1.form
   obtain ⟨y2, z2, rfl, _⟩ := hx2.form
   have hin' : (i : Int) < n := by omega
   clear H1 H2 hx1 hx2 hc1 hc2
   generalize l.getD i default = X at *
   obtain ⟨L, tk, ta, t0, t1, tt⟩ := X
   dsimp only at *
   generalize L.length = m at *
   go_wp2
   refine wp_region_last2 8 _ _ rfl rfl rfl rfl (by kernel_rfl) (by kernel_rfl) (by kernel_rfl) (by kernel_rfl) (by kernel_rfl) (by kernel_rfl) (by kernel_rfl) ?_
   simp only [List.take_succ_cons, List.take_zero]
   repeat (go_big_quiet_step (fail))
   refine wpQuiet_nil ?_
   intro _ hw'
   obtain ⟨nq, hw''⟩ := hw'
   subst hw''
   intro K hK
   go_simp
   refine Calls.mono (by exact HC.out _ (below_drewN (Below.refl _ _) nq)) ?_
   rintro e w7 ⟨rfl, hb7⟩
   refine hK _ _ ?_
   clear hK K
   have HZ : Hid (Below w.heap.size w w7) := below_trans (below_trans HRR.out (below_drewN (Below.refl _ _) nq)) hb7
   clear hb7 HC
   go_simp
   go_wp2
   go_roundw
   case rel => exact ⟨i + 1, by first | rfl | (congr 1; omega), by omega, HZ.out⟩
   case measure => simp [intOf]; omega
  ·obtain rfl : i = n := by omega
   clear H1 H2
   go_wp2
   go_ret
   exact ⟨rfl, HRR.out⟩
set_option maxRecDepth 100000 in
set_option maxHeartbeats 4000000 in
theorem sameG_yes (G : Gr) (x1 x2 x3 x4 y1 y2 y3 y4 : Value) (w : World) (h1 : GrAt w x1 x2 x3 x4 G) (h2 : GrAt w y1 y2 y3 y4 G) : Calls Tryz.prog 17 #[.agg #[.string G.name, x1, .int .u8 G.result, x2, x3, x4], .agg #[.string G.name, y1, .int .u8 G.result, y2, y3, y4]] w fun e w' => e = .returned (.bool true) ∧ Below w.heap.size w w' := by
 have HS1 : Hid (∀ W, Below w.heap.size w W → Calls Tryz.prog 43 #[x1, y1] W fun e w' => e = .returned (.bool true) ∧ ∃ k, w' = W.drewN k) := fun W hb => sameI_yes G.params _ _ W (h1.ps.below hb) (h2.ps.below hb)
 have HS2 : Hid (∀ W, Below w.heap.size w W → Calls Tryz.prog 44 #[x2, y2] W fun e w' => e = .returned (.bool true) ∧ ∃ k, w' = W.drewN k) := fun W hb => sameT_yes G.vars _ _ W (h1.vs.below hb) (h2.vs.below hb)
 have HS3 : Hid (∀ W, Below w.heap.size w W → Calls Tryz.prog 45 #[x3, y3] W fun e w' => e = .returned (.bool true) ∧ ∃ k, w' = W.drewN k) := fun W hb => sameA_yes G.arrs _ _ W (h1.ars.below hb) (h2.ars.below hb)
 have HS4 : Hid (∀ W, Below w.heap.size w W → Calls Tryz.prog 46 #[x4, y4] W fun e w' => e = .returned (.bool true) ∧ Below W.heap.size W w') := fun W hb => sameBs_yes G.blocks _ _ W (h1.bs.below hb) (h2.bs.below hb)
 obtain ⟨p1, q1, v1, u1, a1, b1, k1, c1, rfl, rfl, rfl, rfl, _, _, _, _⟩ := h1.openF
 obtain ⟨p2, q2, v2, u2, a2, b2, k2, c2, rfl, rfl, rfl, rfl, _, _, _, _⟩ := h2.openF
 clear h1 h2
 obtain ⟨nm, ps, r, vs, ars, bs⟩ := G
 dsimp only at *
 generalize ps.length = pl at *
 generalize vs.length = vl at *
 generalize ars.length = al at *
 generalize bs.length = n at *
 have HB : Hid (∀ o o' : Obj, Below w.heap.size w ((w.alloc o).alloc o')) := fun o o' => below_alloc (below_alloc (Below.refl _ _) _) _
 have HB1 : Hid (Box ((w.alloc (.cells #[.string nm, .slice p1 pl q1, .int .u8 r, .slice v1 vl u1, .slice a1 al b1, .slice k1 n c1] 28)).alloc (.cells #[.string nm, .slice p2 pl q2, .int .u8 r, .slice v2 vl u2, .slice a2 al b2, .slice k2 n c2] 28)) w.heap.size [.string nm, .slice p1 pl q1, .int .u8 r, .slice v1 vl u1, .slice a1 al b1, .slice k1 n c1] ∧ Box ((w.alloc (.cells #[.string nm, .slice p1 pl q1, .int .u8 r, .slice v1 vl u1, .slice a1 al b1, .slice k1 n c1] 28)).alloc (.cells #[.string nm, .slice p2 pl q2, .int .u8 r, .slice v2 vl u2, .slice a2 al b2, .slice k2 n c2] 28)) (w.heap.size + 1) [.string nm, .slice p2 pl q2, .int .u8 r, .slice v2 vl u2, .slice a2 al b2, .slice k2 n c2]) := by
  refine ⟨(Box.new w [.string nm, .slice p1 pl q1, .int .u8 r, .slice v1 vl u1, .slice a1 al b1, .slice k1 n c1] 28).below (below_alloc (Below.refl _ _) _), ?_⟩
  have h9 := Box.new (w.alloc (.cells #[.string nm, .slice p1 pl q1, .int .u8 r, .slice v1 vl u1, .slice a1 al b1, .slice k1 n c1] 28)) [.string nm, .slice p2 pl q2, .int .u8 r, .slice v2 vl u2, .slice a2 al b2, .slice k2 n c2] 28
  rwa [show (w.alloc (.cells #[.string nm, .slice p1 pl q1, .int .u8 r, .slice v1 vl u1, .slice a1 al b1, .slice k1 n c1] 28)).heap.size = w.heap.size + 1 by simp] at h9
 go_enter Tryz.func17, Tryz.ntmps17
 go_wp2_with (first
 | (go_at_call 43; go_loud (refine Calls.mono (by exact HS1.out _ (HB.out _ _)) ?_; rintro e w2 ⟨rfl, hd2⟩; have hb2 := below_of_drew hd2; obtain ⟨e0, e1, e2, e3, e4, e5⟩ := box6 (HB1.out.1.below hb2); obtain ⟨f0, f1, f2, f3, f4, f5⟩ := box6 (HB1.out.2.below hb2); have H2 : Hid (Below w.heap.size w w2) := below_trans (HB.out _ _) hb2; have HY2 : Hid (Box w2 w.heap.size [.string nm, .slice p1 pl q1, .int .u8 r, .slice v1 vl u1, .slice a1 al b1, .slice k1 n c1] ∧ Box w2 (w.heap.size + 1) [.string nm, .slice p2 pl q2, .int .u8 r, .slice v2 vl u2, .slice a2 al b2, .slice k2 n c2]) := ⟨HB1.out.1.below hb2, HB1.out.2.below hb2⟩; clear hd2 hb2))
 | (go_at_call 44; go_loud (refine Calls.mono (by exact HS2.out _ H2.out) ?_; rintro e w3 ⟨rfl, hd3⟩; have hb3 := below_of_drew hd3; obtain ⟨g0, g1, g2, g3, g4, g5⟩ := box6 (HY2.out.1.below hb3); obtain ⟨h0, h1, h2, h3, h4, h5⟩ := box6 (HY2.out.2.below hb3); have H3 : Hid (Below w.heap.size w w3) := below_trans H2.out hb3; have HY3 : Hid (Box w3 w.heap.size [.string nm, .slice p1 pl q1, .int .u8 r, .slice v1 vl u1, .slice a1 al b1, .slice k1 n c1] ∧ Box w3 (w.heap.size + 1) [.string nm, .slice p2 pl q2, .int .u8 r, .slice v2 vl u2, .slice a2 al b2, .slice k2 n c2]) := ⟨HY2.out.1.below hb3, HY2.out.2.below hb3⟩; clear hd3 hb3))
 | (go_at_call 45; go_loud (refine Calls.mono (by exact HS3.out _ H3.out) ?_; rintro e w4 ⟨rfl, hd4⟩; have hb4 := below_of_drew hd4; obtain ⟨i0, i1, i2, i3, i4, i5⟩ := box6 (HY3.out.1.below hb4); obtain ⟨j0, j1, j2, j3, j4, j5⟩ := box6 (HY3.out.2.below hb4); have H4 : Hid (Below w.heap.size w w4) := below_trans H3.out hb4; clear hd4 hb4))
 | (go_at_call 46; go_loud (refine Calls.mono (by exact HS4.out _ H4.out) ?_; rintro e w5 ⟨rfl, hb5⟩; have H5 : Hid (Below w.heap.size w w5) := below_trans H4.out hb5; clear hb5)))
 go_ret
 exact ⟨rfl, H5.out⟩
end Go.Proofs.YtajaijilfclhpaaGreatDoor
/- Is what was lent as it was: lists without lists within. -/
namespace Go.Proofs.YtajaijilfclhpaaGreatDoor
open Go.RowKit Go.Sort

theorem eql_arrK (a b : Int) (w : World) : (binOp .eql 50 (.agg #[.int .u8 a, .int .i64 b]) (.agg #[.int .u8 a, .int .i64 b])).run Tryz.prog w = .ok (.bool true) w := by
 have hS : Tryz.prog.underlying 50 = some (.struct (Tryz.prog.fieldsOf 50)) := by kernel_rfl
 have hp : Tryz.prog.stoodInHeld 50 = false := by kernel_rfl
 rw [run_eql_struct, show (10000 : Nat) = 9999 + 1 from rfl, run_equalIn_agg w 9999 50 _ _ hS hp]
 simp only [Program.fieldsOf, Tryz.underlying50]
 go_simp
set_option maxRecDepth 100000 in
set_option maxHeartbeats 2000000 in
theorem keptI_any (l : List Int) (ov v : Value) (lo hi : Nat) (w : World) (hL : LentI w lo hi ov l) (h : IntsAt w v l) (hl : l.length ≤ 1100000) : Calls Tryz.prog 32 #[ov, v] w fun e w' => e = .returned (.bool true) ∧ Below w.heap.size w w' := by
 obtain ⟨a, c, rfl, _⟩ := row_form h
 obtain ⟨g, cap, rfl, ⟨r1, r2, r3, r4, r5⟩, _, HOC, HMK⟩ := hL.opened
 have HO : Hid _ := HOC
 have HM : Hid _ := HMK
 have HI : Hid (∀ i, i < l.length → _) := fun i hi => h.get (i := i) hi
 have hll : l.length ≤ 1100000 := hl
 have hcapx : cap ≤ 9223372036854775807 := r2
 skip
 have HMC : Hid (∀ (x : Int) (W : World), 0 ≤ x → x < 12 → Calls Tryz.prog 49 #[.int .i64 1, .int .i64 x] W fun e w' => e = .returned (.int .i64 (markI 1 x)) ∧ Below W.heap.size W w') := fun x W h0 h1 => (mark_any 1 x (by omega) (by omega) (by omega) (by omega) W).mono fun e w' hh => ⟨hh.1, hh.2 ▸ Below.refl _ _⟩
 clear hL h r2 r3 r4 HMK hl HOC
 obtain ⟨n, hn⟩ : ∃ n, n = l.length := ⟨_, rfl⟩
 rw [← hn] at HI HO HM r1 hll 
 rw [← hn]
 clear hn
 have hsl := cutKI (g := g) (m := n) (c := cap) (f := n + 12) r1
 go_enter Tryz.func32, Tryz.ntmps32
 go_wp2
 clear hsl
 go_loopw [6] (fun vi wr => ∃ i : Nat, vi = .int .i64 i ∧ i ≤ n + 12 ∧ Hid (Below w.heap.size w wr)) (fun vi _ => n + 12 - (intOf vi).toNat)
 case atStart => exact ⟨0, rfl, by omega, Below.refl _ _⟩
 case round =>
  obtain ⟨i, rfl, hi, hr⟩ := hrel
  have HZ : Hid (∀ d os, Below w.heap.size w (grow (redrawn wr d) os)) := fun d os => below_trans hr.out (below_regrown wr d os)
  have up : ∀ {a : Addr} {u : Value}, w.cell? a = some u → ∀ d os, (grow (redrawn wr d) os).cell? a = some u := fun ha d os => ((HZ.out d os).cell (block_lt_of_cell ha)).trans ha
  by_cases hin : i < n
  ·have hO := HO.out i hin
   have k0 := hO
   obtain ⟨g2, o2, rfl, hg2, j0⟩ := HI.out i hin
   have k0u := up k0
   have j0u := up j0
   have hin' : (i : Int) < n := by omega
   have hin2 : (i : Int) < (n : Int) + 12 := by omega
   have hge : decide (n ≤ i) = false := decide_eq_false (by omega)
   have hd1 : decide (i < n) = true := decide_eq_true (by omega)
   skip
   clear HI HO HM HMC up hr 
   skip
   go_wp2
   refine wp_region_quiet_below (by kernel_rfl) (by kernel_rfl) ?_
   repeat (go_big_quiet_step (fail))
   refine wpQuiet_nil ?_
   intro _ hw'
   obtain ⟨⟨dq, osq⟩, hw''⟩ := hw'
   subst hw''
   go_wp2
   go_roundw
   case rel => exact ⟨i + 1, by first | rfl | (congr 1; omega), by omega, HZ.out dq osq⟩
   case measure => simp [intOf]; omega
  ·by_cases hin3 : i < n + 12
   ·have hO := HM.out i (by omega) hin3
    have m0 := hO
    have m0u := up m0
    have hin' : ¬ ((i : Int) < n) := by omega
    have hin2 : (i : Int) < (n : Int) + 12 := by omega
    have hge : decide (n ≤ i) = true := decide_eq_true (by omega)
    have hd1 : decide (i < n) = false := decide_eq_false (by omega)
    have HC1 : Hid (∀ d os, _) := fun d os => Calls.regrown_of (HMC.out ((i : Int) - n) (grow (redrawn wr d) os) (by omega) (by omega))
    skip
    clear HI HO HM HMC up hr hin 
    go_wp2
    refine wp_region_quiet_below (by kernel_rfl) (by kernel_rfl) ?_
    repeat (go_big_quiet_step ((first | with_reducible exact HC1.out _ _)))
    refine wpQuiet_nil ?_
    intro _ hw'
    obtain ⟨⟨dq, osq⟩, hw''⟩ := hw'
    subst hw''
    go_wp2
    go_roundw
    case rel => exact ⟨i + 1, by first | rfl | (congr 1; omega), by omega, HZ.out dq osq⟩
    case measure => simp [intOf]; omega
   ·obtain rfl : i = n + 12 := by omega
    have hin2 : ¬ (((n + 12 : Nat) : Int) < (n : Int) + 12) := by omega
    clear HI HO HM HMC up HZ 
    go_wp2
    go_ret
    exact ⟨rfl, hr.out⟩
set_option maxRecDepth 100000 in
set_option maxHeartbeats 2000000 in
theorem keptT_any (l : List Int) (ov v : Value) (lo hi : Nat) (w : World) (hL : LentT w lo hi ov l) (h : TysAt w v l) (hl : l.length ≤ 1100000) : Calls Tryz.prog 33 #[ov, v] w fun e w' => e = .returned (.bool true) ∧ Below w.heap.size w w' := by
 obtain ⟨a, c, rfl, _⟩ := row_form h
 obtain ⟨g, cap, rfl, ⟨r1, r2, r3, r4, r5⟩, _, HOC, HMK⟩ := hL.opened
 have HO : Hid _ := HOC
 have HM : Hid _ := HMK
 have HI : Hid (∀ i, i < l.length → _) := fun i hi => h.get (i := i) hi
 have hll : l.length ≤ 1100000 := hl
 have hcapx : cap ≤ 9223372036854775807 := r2
 skip
 have HMC : Hid (∀ (x : Int) (W : World), 0 ≤ x → x < 12 → Calls Tryz.prog 49 #[.int .i64 1, .int .i64 x] W fun e w' => e = .returned (.int .i64 (markI 1 x)) ∧ Below W.heap.size W w') := fun x W h0 h1 => (mark_any 1 x (by omega) (by omega) (by omega) (by omega) W).mono fun e w' hh => ⟨hh.1, hh.2 ▸ Below.refl _ _⟩
 clear hL h r2 r3 r4 HMK hl HOC
 obtain ⟨n, hn⟩ : ∃ n, n = l.length := ⟨_, rfl⟩
 rw [← hn] at HI HO HM r1 hll 
 rw [← hn]
 clear hn
 have hsl := cutKT (g := g) (m := n) (c := cap) (f := n + 12) r1
 go_enter Tryz.func33, Tryz.ntmps33
 go_wp2
 clear hsl
 go_loopw [6] (fun vi wr => ∃ i : Nat, vi = .int .i64 i ∧ i ≤ n + 12 ∧ Hid (Below w.heap.size w wr)) (fun vi _ => n + 12 - (intOf vi).toNat)
 case atStart => exact ⟨0, rfl, by omega, Below.refl _ _⟩
 case round =>
  obtain ⟨i, rfl, hi, hr⟩ := hrel
  have HZ : Hid (∀ d os, Below w.heap.size w (grow (redrawn wr d) os)) := fun d os => below_trans hr.out (below_regrown wr d os)
  have up : ∀ {a : Addr} {u : Value}, w.cell? a = some u → ∀ d os, (grow (redrawn wr d) os).cell? a = some u := fun ha d os => ((HZ.out d os).cell (block_lt_of_cell ha)).trans ha
  by_cases hin : i < n
  ·have hO := HO.out i hin
   have k0 := hO
   obtain ⟨g2, o2, rfl, hg2, j0⟩ := HI.out i hin
   have k0u := up k0
   have j0u := up j0
   have hin' : (i : Int) < n := by omega
   have hin2 : (i : Int) < (n : Int) + 12 := by omega
   have hge : decide (n ≤ i) = false := decide_eq_false (by omega)
   have hd1 : decide (i < n) = true := decide_eq_true (by omega)
   skip
   clear HI HO HM HMC up hr 
   skip
   go_wp2
   refine wp_region_quiet_below (by kernel_rfl) (by kernel_rfl) ?_
   repeat (go_big_quiet_step (fail))
   refine wpQuiet_nil ?_
   intro _ hw'
   obtain ⟨⟨dq, osq⟩, hw''⟩ := hw'
   subst hw''
   go_wp2
   go_roundw
   case rel => exact ⟨i + 1, by first | rfl | (congr 1; omega), by omega, HZ.out dq osq⟩
   case measure => simp [intOf]; omega
  ·by_cases hin3 : i < n + 12
   ·have hO := HM.out i (by omega) hin3
    have m0 := hO
    have m0u := up m0
    have hin' : ¬ ((i : Int) < n) := by omega
    have hin2 : (i : Int) < (n : Int) + 12 := by omega
    have hge : decide (n ≤ i) = true := decide_eq_true (by omega)
    have hd1 : decide (i < n) = false := decide_eq_false (by omega)
    have HC1 : Hid (∀ d os, _) := fun d os => Calls.regrown_of (HMC.out ((i : Int) - n) (grow (redrawn wr d) os) (by omega) (by omega))
    skip
    clear HI HO HM HMC up hr hin 
    go_wp2
    refine wp_region_quiet_below (by kernel_rfl) (by kernel_rfl) ?_
    repeat (go_big_quiet_step ((first | with_reducible exact HC1.out _ _)))
    refine wpQuiet_nil ?_
    intro _ hw'
    obtain ⟨⟨dq, osq⟩, hw''⟩ := hw'
    subst hw''
    go_wp2
    go_roundw
    case rel => exact ⟨i + 1, by first | rfl | (congr 1; omega), by omega, HZ.out dq osq⟩
    case measure => simp [intOf]; omega
   ·obtain rfl : i = n + 12 := by omega
    have hin2 : ¬ (((n + 12 : Nat) : Int) < (n : Int) + 12) := by omega
    clear HI HO HM HMC up HZ 
    go_wp2
    go_ret
    exact ⟨rfl, hr.out⟩
set_option maxRecDepth 100000 in
set_option maxHeartbeats 2000000 in
theorem keptA_any (l : List (Int × Int)) (ov v : Value) (lo hi : Nat) (w : World) (hL : LentA w lo hi ov l) (h : ArrsAt w v l) (hl : l.length ≤ 1100000) : Calls Tryz.prog 34 #[ov, v] w fun e w' => e = .returned (.bool true) ∧ Below w.heap.size w w' := by
 obtain ⟨a, c, rfl, _⟩ := row_form h
 obtain ⟨g, cap, rfl, ⟨r1, r2, r3, r4, r5⟩, _, HOC, HMK⟩ := hL.opened
 have HO : Hid _ := HOC
 have HM : Hid _ := HMK
 have HI : Hid (∀ i, i < l.length → _) := fun i hi => h.get (i := i) hi
 have hll : l.length ≤ 1100000 := hl
 have hcapx : cap ≤ 9223372036854775807 := r2
 skip
 have HMC : Hid (∀ (x : Int) (W : World), 0 ≤ x → x < 12 → Calls Tryz.prog 50 #[.int .i64 1, .int .i64 x] W fun e w' => e = .returned (.agg (mkA 1 x).toArray) ∧ Below W.heap.size W w') := fun x W h0 h1 => markA_any 1 x (by omega) (by omega) (by omega) (by omega) W
 clear hL h r2 r3 r4 HMK hl HOC
 obtain ⟨n, hn⟩ : ∃ n, n = l.length := ⟨_, rfl⟩
 rw [← hn] at HI HO HM r1 hll 
 rw [← hn]
 clear hn
 have hsl := cutKA (g := g) (m := n) (c := cap) (f := n + 12) r1
 go_enter Tryz.func34, Tryz.ntmps34
 go_wp2
 clear hsl
 go_loopw [6] (fun vi wr => ∃ i : Nat, vi = .int .i64 i ∧ i ≤ n + 12 ∧ Hid (Below w.heap.size w wr)) (fun vi _ => n + 12 - (intOf vi).toNat)
 case atStart => exact ⟨0, rfl, by omega, Below.refl _ _⟩
 case round =>
  obtain ⟨i, rfl, hi, hr⟩ := hrel
  have HZ : Hid (∀ d os, Below w.heap.size w (grow (redrawn wr d) os)) := fun d os => below_trans hr.out (below_regrown wr d os)
  have up : ∀ {a : Addr} {u : Value}, w.cell? a = some u → ∀ d os, (grow (redrawn wr d) os).cell? a = some u := fun ha d os => ((HZ.out d os).cell (block_lt_of_cell ha)).trans ha
  by_cases hin : i < n
  ·have hO := HO.out i hin
   obtain ⟨k0, k1⟩ := hO
   obtain ⟨g2, o2, rfl, hg2, j0, j1⟩ := HI.out i hin
   have k0u := up k0
   have k1u := up k1
   have j0u := up j0
   have j1u := up j1
   have hin' : (i : Int) < n := by omega
   have hin2 : (i : Int) < (n : Int) + 12 := by omega
   have hge : decide (n ≤ i) = false := decide_eq_false (by omega)
   have hd1 : decide (i < n) = true := decide_eq_true (by omega)
   have heq := eql_arrK
   clear HI HO HM HMC up hr 
   skip
   go_wp2
   refine wp_region_quiet_below (by kernel_rfl) (by kernel_rfl) ?_
   repeat (go_big_quiet_step (fail))
   refine wpQuiet_nil ?_
   intro _ hw'
   obtain ⟨⟨dq, osq⟩, hw''⟩ := hw'
   subst hw''
   go_wp2
   go_roundw
   case rel => exact ⟨i + 1, by first | rfl | (congr 1; omega), by omega, HZ.out dq osq⟩
   case measure => simp [intOf]; omega
  ·by_cases hin3 : i < n + 12
   ·have hO := HM.out i (by omega) hin3
    obtain ⟨m0, m1⟩ := hO
    have m0u := up m0
    have m1u := up m1
    have hin' : ¬ ((i : Int) < n) := by omega
    have hin2 : (i : Int) < (n : Int) + 12 := by omega
    have hge : decide (n ≤ i) = true := decide_eq_true (by omega)
    have hd1 : decide (i < n) = false := decide_eq_false (by omega)
    have HC1 : Hid (∀ d os, _) := fun d os => Calls.regrown_of (HMC.out ((i : Int) - n) (grow (redrawn wr d) os) (by omega) (by omega))
    have heq := eql_arrK
    clear HI HO HM HMC up hr hin 
    go_wp2
    refine wp_region_quiet_below (by kernel_rfl) (by kernel_rfl) ?_
    repeat (go_big_quiet_step ((first | with_reducible exact HC1.out _ _)))
    refine wpQuiet_nil ?_
    intro _ hw'
    obtain ⟨⟨dq, osq⟩, hw''⟩ := hw'
    subst hw''
    go_wp2
    go_roundw
    case rel => exact ⟨i + 1, by first | rfl | (congr 1; omega), by omega, HZ.out dq osq⟩
    case measure => simp [intOf]; omega
   ·obtain rfl : i = n + 12 := by omega
    have hin2 : ¬ (((n + 12 : Nat) : Int) < (n : Int) + 12) := by omega
    clear HI HO HM HMC up HZ 
    go_wp2
    go_ret
    exact ⟨rfl, hr.out⟩
end Go.Proofs.YtajaijilfclhpaaGreatDoor
