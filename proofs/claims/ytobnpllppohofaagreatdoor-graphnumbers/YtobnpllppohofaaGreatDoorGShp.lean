/- The law GraphShapes: its run. -/
import Derived.Test.YtobnpllppohofaaGreatDoorGRTr
import Derived.Test.YtobnpllppohofaaGreatDoorGTr0
import Derived.Test.YtobnpllppohofaaGreatDoorGSg1M
import Derived.Test.YtobnpllppohofaaGreatDoorGSg2
import Derived.Test.YtobnpllppohofaaGreatDoorGQ0M
namespace Go.Proofs.YtobnpllppohofaaGreatDoor
open Go.RowKit

theorem sum_ins : ∀ (bs : List Bl), (∀ b ∈ bs, b.ins.length ≤ 2000) → (bs.map fun b => b.ins.length).sum ≤ 2000 * bs.length
 | [], _ => by simp
 | b :: bs, h => by
  have h1 := h b (by simp)
  have h2 := sum_ins bs fun c hc => h c (by simp [hc])
  rw [List.map_cons, List.sum_cons, List.length_cons]
  omega
theorem okG_count {G : Gr} (h : OkG G) : countG G.blocks ≤ 1000000000 := by
 have h1 := sum_ins G.blocks fun b hb => (h.2.2.2.2 b hb).1
 have h2 := h.1
 unfold countG
 omega
set_option maxRecDepth 100000 in
set_option maxHeartbeats 16000000 in
theorem shapes_any (G : Gr) (pv vv av bv : Value) (w : World) (h : GrAt w pv vv av bv G) (hP : PartsAt w) :
  Calls Tryz.prog 8 #[.agg #[.string G.name, pv, .int .u8 G.result, vv, av, bv]] w fun e w' => e = .returned (.bool true) ∧ Below w.heap.size w w' := by
 have HAW : Hid (∀ W, Below w.heap.size w W → Calls Tryz.prog 14 #[] W fun e w' => e = .returned (.bool true) ∧ Below W.heap.size W w') := fun W hb => awake_any W (hP.below hb)
 have HGT : Hid (∀ W, Below w.heap.size w W → _) := fun W hb => great2_any G pv vv av bv W (h.below hb)
 have HA1 : Hid (OkG G → ∀ W, Below w.heap.size w W → _) := fun hk W hb => ahead_any G pv vv av bv W (h.below hb) (Nat.le_trans hk.1 (by omega))
 have HA2 : Hid (OkG G → ∀ W, Below w.heap.size w W → _) := fun hk W hb => rahead_any G pv vv av bv W (h.below hb) (Nat.le_trans hk.1 (by omega))
 have HO1 : Hid (OkG G → ∀ W, Below w.heap.size w W → _) := fun hk W hb => order_any G pv vv av bv W (h.below hb) (Nat.le_trans hk.1 (by omega))
 have HO2 : Hid (OkG G → ∀ W, Below w.heap.size w W → _) := fun hk W hb => rorder_any G pv vv av bv W (h.below hb) (Nat.le_trans hk.1 (by omega))
 have HC1 : Hid (OkG G → ∀ W, Below w.heap.size w W → _) := fun hk W hb => count_any G pv vv av bv W (h.below hb) (okG_count hk)
 have HC2 : Hid (OkG G → ∀ W, Below w.heap.size w W → _) := fun hk W hb => rcount_any G pv vv av bv W (h.below hb) (okG_count hk)
 have HT1 : Hid (OkG G → ∀ W, Below w.heap.size w W → _) := fun hk W hb => trim_all G pv vv av bv W (h.below hb) (Nat.le_trans hk.1 (by omega)) (Nat.le_trans hk.2.2.2.1 (by omega)) (Nat.le_trans hk.2.1 (by omega)) (Nat.le_trans hk.2.2.1 (by omega)) (fun b hb => Nat.le_trans (hk.2.2.2.2 b hb).1 (by omega)) (fun b hb x hx => Nat.le_trans ((hk.2.2.2.2 b hb).2 x hx) (by omega))
 have HT2 : Hid (OkG G → ∀ W, Below w.heap.size w W → _) := fun hk W hb => rtrim_any G pv vv av bv W (h.below hb) hk
 have HAL : Hid (OkG G → ∀ r ∈ aheadT (tms G.blocks), r.length ≤ 140737488355328) := fun hk r hr => by
  have htl : (tms G.blocks).length = G.blocks.length := by simp [tms]
  have h1 := lens_mem hr
  have h2 := lens_ahead (tms G.blocks)
  have h3 := edgesF_le (tms G.blocks).length (tms G.blocks)
  have := hk.1
  omega
 have HOL : Hid (OkG G → (orderT (tms G.blocks)).length ≤ 140737488355328) := fun hk => by
  have h9 := order_len (order_ok (tms G.blocks))
  have htl : (tms G.blocks).length = G.blocks.length := by simp [tms]
  have := hk.1
  show _ ≤ _
  omega
 have HTN : Hid ((trimG G).name = G.name ∧ (trimG G).result = G.result) := ⟨rfl, rfl⟩
 have HSG : Hid (∀ W x1 x2 x3 x4 y1 y2 y3 y4, GrAt W x1 x2 x3 x4 (trimG G) → GrAt W y1 y2 y3 y4 (trimG G) → Calls Tryz.prog 26 #[.agg #[.string G.name, x1, .int .u8 G.result, x2, x3, x4], .agg #[.string G.name, y1, .int .u8 G.result, y2, y3, y4]] W fun e w' => e = .returned (.bool true) ∧ Below W.heap.size W w') := fun W x1 x2 x3 x4 y1 y2 y3 y4 h1 h2 => sameG_yes (trimG G) _ _ _ _ _ _ _ _ W h1 h2
 have HK4 : Hid (OkG G → G.blocks.length ≤ 400) := fun hk => hk.1
 obtain ⟨pa, pc, va, vc, aa, ac, ba, bc, rfl, rfl, rfl, rfl, _, _, _, _⟩ := h.openF
 have HBL : Hid (∀ i, i < G.blocks.length → _) := fun i hi => h.bs.get (i := i) hi
 clear h hP
 generalize hok : OkG G = OK at *
 clear hok
 generalize trimG G = TG at *
 generalize hcg : countG G.blocks = cg at *
 clear hcg
 generalize aheadT (tms G.blocks) = A at *
 generalize orderT (tms G.blocks) = O at *
 obtain ⟨nm, ps, r, vs, ars, bs⟩ := G
 dsimp only at *
 generalize ps.length = pl at *
 generalize vs.length = vl at *
 generalize ars.length = al at *
 generalize bs.length = n at *
 have H0 : Hid (Below w.heap.size w (w.alloc (.cells #[.string nm, .slice pa pl pc, .int .u8 r, .slice va vl vc, .slice aa al ac, .slice ba n bc] 28)) ∧ Box (w.alloc (.cells #[.string nm, .slice pa pl pc, .int .u8 r, .slice va vl vc, .slice aa al ac, .slice ba n bc] 28)) w.heap.size [.string nm, .slice pa pl pc, .int .u8 r, .slice va vl vc, .slice aa al ac, .slice ba n bc]) := ⟨below_alloc (Below.refl _ _) _, Box.new w [.string nm, .slice pa pl pc, .int .u8 r, .slice va vl vc, .slice aa al ac, .slice ba n bc] 28⟩
 obtain ⟨e0, e1, e2, e3, e4, e5⟩ := box6 H0.out.2
 go_enter Tryz.func8, Tryz.ntmps8
 go_wp2_with (first
  | (go_at_call 18; go_loud (refine Calls.mono (by exact HGT.out _ H0.out.1) ?_; rintro e w1 ⟨bg, rfl, hng, hb1⟩; have HNG : Hid (Hid (bg = false → OK)) := hng; have H1 : Hid (Below w.heap.size w w1 ∧ Box w1 w.heap.size [.string nm, .slice pa pl pc, .int .u8 r, .slice va vl vc, .slice aa al ac, .slice ba n bc]) := ⟨below_trans H0.out.1 hb1, H0.out.2.below hb1⟩; clear hb1 hng e0 e1 e2 e3 e4 e5; cases bg))
  | (go_at_call 14; go_loud (refine Calls.mono (by exact HAW.out _ H1.out.1) ?_; rintro e w2 ⟨rfl, hb2⟩; have H2 : Hid (Below w.heap.size w w2) := below_trans H1.out.1 hb2; clear hb2)))
 rotate_left 1
 ·go_ret
  exact ⟨rfl, H2.out⟩
 have hok : OK := by first | exact HNG.out.out rfl | exact HNG.out.out | exact HNG.out.out trivial
 have HPA1 : Hid _ := HA1.out hok
 have HPA2 : Hid _ := HA2.out hok
 have HPO1 : Hid _ := HO1.out hok
 have HPO2 : Hid _ := HO2.out hok
 have HPC1 : Hid _ := HC1.out hok
 have HPC2 : Hid _ := HC2.out hok
 have HPT1 : Hid _ := HT1.out hok
 have HPT2 : Hid _ := HT2.out hok
 have HPAL : Hid _ := HAL.out hok
 have HPOL : Hid _ := HOL.out hok
 have hn4 : n ≤ 400 := HK4.out hok
 clear HA1 HA2 HO1 HO2 HC1 HC2 HT1 HT2 HAL HOL HK4 HNG hok HGT H0
 go_loopw [3] (fun vi wr => ∃ i : Nat, vi = .int .i64 i ∧ i ≤ n ∧ Hid (Below w.heap.size w wr ∧ Box wr w.heap.size [.string nm, .slice pa pl pc, .int .u8 r, .slice va vl vc, .slice aa al ac, .slice ba n bc])) (fun vi _ => n - (intOf vi).toNat)
 case atStart => exact ⟨0, rfl, by omega, H1.out⟩
 case round =>
  obtain ⟨i, rfl, hi, hr⟩ := hrel
  clear H1
  generalize wr = wo at *
  have HRR : Hid _ := hr.out
  clear hr
  by_cases hin : i < n
  ·obtain ⟨g, o, iv, rfl, hg, c0, c1, c2, c3, c4, c5, hins⟩ := HBL.out i hin
   obtain ⟨ia, ic, rfl, hxl⟩ := hins.form
   have hin' : (i : Int) < n := by omega
   clear hins hxl HBL HPA1 HPA2 HPO1 HPO2 HPC1 HPC2 HPT1 HPT2 HPAL HPOL HSG HTN
   have HN1 : Hid (∀ W, Calls Tryz.prog 19 #[.agg #[.slice ia (bs.getD i default).ins.length ic, .int .u8 (bs.getD i default).tm.kind, .int .i64 (bs.getD i default).tm.arg, .int .i64 (bs.getD i default).tm.t0, .int .i64 (bs.getD i default).tm.t1, .int .u8 (bs.getD i default).tm.trap]] W fun e w' => ∃ v, e = .returned v ∧ OwnI w' W.heap.size v (nextT (bs.getD i default).tm) ∧ Below W.heap.size W w') := fun W => next_any (.slice ia _ ic) (bs.getD i default).tm W
   have HN2 : Hid (∀ W, Calls Tryz.prog 20 #[.agg #[.slice ia (bs.getD i default).ins.length ic, .int .u8 (bs.getD i default).tm.kind, .int .i64 (bs.getD i default).tm.arg, .int .i64 (bs.getD i default).tm.t0, .int .i64 (bs.getD i default).tm.t1, .int .u8 (bs.getD i default).tm.trap]] W fun e w' => ∃ v, e = .returned v ∧ OwnI w' W.heap.size v (nextT (bs.getD i default).tm) ∧ Below W.heap.size W w') := fun W => rnext_any (.slice ia _ ic) (bs.getD i default).tm W
   have HNL : Hid ((nextT (bs.getD i default).tm).length ≤ 2) := next_len _
   generalize nextT (bs.getD i default).tm = NX at *
   generalize bs.getD i default = X at *
   obtain ⟨L, tk, ta, t0, t1, tt⟩ := X
   dsimp only at *
   generalize L.length = il at *
   have HSX : Hid (∀ W, Below wo.heap.size wo W → W.cell? ⟨w.heap.size, 5, none⟩ = some (.slice (some ⟨g, o, none⟩) n bc) ∧ W.cell? ⟨g, o + i * 6, none⟩ = some (.slice ia il ic) ∧ W.cell? ⟨g, o + i * 6 + 1, none⟩ = some (.int .u8 tk) ∧ W.cell? ⟨g, o + i * 6 + 2, none⟩ = some (.int .i64 ta) ∧ W.cell? ⟨g, o + i * 6 + 3, none⟩ = some (.int .i64 t0) ∧ W.cell? ⟨g, o + i * 6 + 4, none⟩ = some (.int .i64 t1) ∧ W.cell? ⟨g, o + i * 6 + 5, none⟩ = some (.int .u8 tt)) := fun W hb => by
    have h9 : Below w.heap.size w W := below_trans HRR.out.1 hb
    have hc : ∀ j, W.cell? ⟨g, j, none⟩ = w.cell? ⟨g, j, none⟩ := fun j => h9.cell (p := ⟨g, j, none⟩) hg
    exact ⟨(box6 (HRR.out.2.below hb)).2.2.2.2.2, (hc _).trans c0, (hc _).trans c1, (hc _).trans c2, (hc _).trans c3, (hc _).trans c4, (hc _).trans c5⟩
   clear c0 c1 c2 c3 c4 c5
   obtain ⟨e0, e1, e2, e3, e4, e5⟩ := box6 HRR.out.2
   have hwl := HRR.out.2.lt
   go_wp2
   refine wp_region_late (fun W => W.cell? ⟨w.heap.size, 5, none⟩ = some (.slice (some ⟨g, o, none⟩) n bc) ∧ W.cell? ⟨g, o + i * 6, none⟩ = some (.slice ia il ic) ∧ W.cell? ⟨g, o + i * 6 + 1, none⟩ = some (.int .u8 tk) ∧ W.cell? ⟨g, o + i * 6 + 2, none⟩ = some (.int .i64 ta) ∧ W.cell? ⟨g, o + i * 6 + 3, none⟩ = some (.int .i64 t0) ∧ W.cell? ⟨g, o + i * 6 + 4, none⟩ = some (.int .i64 t1) ∧ W.cell? ⟨g, o + i * 6 + 5, none⟩ = some (.int .u8 tt)) (fun _ => false) (by kernel_rfl) (HSX.out _ (below_drew (Below.refl _ _))) (fun hHeld => ?_)
   have HD0 : Hid (Below wo.heap.size wo wo.drew) := below_drew (Below.refl _ _)
   refine wpAnyL_take 0 (v := ?_) rfl (by kernel_rfl) (by kernel_rfl) (by kernel_rfl) (by kernel_rfl) (fun _ _ _ h => h) hHeld (Or.inl ⟨by rfl, ?_⟩) ?_
   rotate_left 1
   ·(intro w hSw; (try dsimp only at hSw); (try obtain ⟨s0, s1, s2, s3, s4, s5, s6⟩ := hSw); first | (go_simp; done) | (go_simp; with_reducible rfl))
   simp only [Act.put, List.setIfInBounds_toArray]
   refine wpAnyL_take 1 (v := ?_) rfl (by kernel_rfl) (by kernel_rfl) (by kernel_rfl) (by kernel_rfl) (fun _ _ _ h => h) hHeld (Or.inl ⟨by rfl, ?_⟩) ?_
   rotate_left 1
   ·(intro w hSw; (try dsimp only at hSw); (try obtain ⟨s0, s1, s2, s3, s4, s5, s6⟩ := hSw); first | (go_simp; done) | (go_simp; with_reducible rfl))
   simp only [Act.put]
   refine wpAnyL_take 2 (v := ?_) rfl (by kernel_rfl) (by kernel_rfl) (by kernel_rfl) (by kernel_rfl) (fun _ _ _ h => h) hHeld (Or.inl ⟨by rfl, ?_⟩) ?_
   rotate_left 1
   ·(intro w hSw; (try dsimp only at hSw); (try obtain ⟨s0, s1, s2, s3, s4, s5, s6⟩ := hSw); first | (go_simp; done) | (go_simp; with_reducible rfl))
   simp only [Act.put]
   refine wpAnyL_take 3 (v := ?_) rfl (by kernel_rfl) (by kernel_rfl) (by kernel_rfl) (by kernel_rfl) (fun _ _ _ h => h) hHeld (Or.inl ⟨by rfl, ?_⟩) ?_
   rotate_left 1
   ·(intro w hSw; (try dsimp only at hSw); (try obtain ⟨s0, s1, s2, s3, s4, s5, s6⟩ := hSw); first | (go_simp; done) | (go_simp; with_reducible rfl))
   simp only [Act.put]
   refine wpAnyL_take 4 (v := ?_) rfl (by kernel_rfl) (by kernel_rfl) (by kernel_rfl) (by kernel_rfl) (fun _ _ _ h => h) hHeld (Or.inl ⟨by rfl, ?_⟩) ?_
   rotate_left 1
   ·(intro w hSw; (try dsimp only at hSw); (try obtain ⟨s0, s1, s2, s3, s4, s5, s6⟩ := hSw); first | (go_simp; done) | (go_simp; with_reducible rfl))
   simp only [Act.put]
   refine wpAnyL_take 6 (v := ?_) rfl (by kernel_rfl) (by kernel_rfl) (by kernel_rfl) (by kernel_rfl) (fun _ _ _ h => h) hHeld (Or.inl ⟨by rfl, ?_⟩) ?_
   rotate_left 1
   ·(intro w hSw; (try dsimp only at hSw); (try obtain ⟨s0, s1, s2, s3, s4, s5, s6⟩ := hSw); first | (go_simp; done) | (go_simp; with_reducible rfl))
   simp only [Act.put]
   refine wpAnyL_take 7 (v := ?_) rfl (by kernel_rfl) (by kernel_rfl) (by kernel_rfl) (by kernel_rfl) (fun _ _ _ h => h) hHeld (Or.inl ⟨by rfl, ?_⟩) ?_
   rotate_left 1
   ·(intro w hSw; (try dsimp only at hSw); (try obtain ⟨s0, s1, s2, s3, s4, s5, s6⟩ := hSw); first | (go_simp; done) | (go_simp; with_reducible rfl))
   simp only [Act.put]
   refine wpAnyL_take 8 (v := ?_) rfl (by kernel_rfl) (by kernel_rfl) (by kernel_rfl) (by kernel_rfl) (fun _ _ _ h => h) hHeld (Or.inl ⟨by rfl, ?_⟩) ?_
   rotate_left 1
   ·(intro w hSw; (try dsimp only at hSw); (try obtain ⟨s0, s1, s2, s3, s4, s5, s6⟩ := hSw); first | (go_simp; done) | (go_simp; with_reducible rfl))
   simp only [Act.put]
   refine wpAnyL_take 9 (v := ?_) rfl (by kernel_rfl) (by kernel_rfl) (by kernel_rfl) (by kernel_rfl) (fun _ _ _ h => h) hHeld (Or.inl ⟨by rfl, ?_⟩) ?_
   rotate_left 1
   ·(intro w hSw; (try dsimp only at hSw); (try obtain ⟨s0, s1, s2, s3, s4, s5, s6⟩ := hSw); first | (go_simp; done) | (go_simp; with_reducible rfl))
   simp only [Act.put]
   refine wpAnyL_take 10 (v := ?_) rfl (by kernel_rfl) (by kernel_rfl) (by kernel_rfl) (by kernel_rfl) (fun _ _ _ h => h) hHeld (Or.inl ⟨by rfl, ?_⟩) ?_
   rotate_left 1
   ·(intro w hSw; (try dsimp only at hSw); (try obtain ⟨s0, s1, s2, s3, s4, s5, s6⟩ := hSw); first | (go_simp; done) | (go_simp; with_reducible rfl))
   simp only [Act.put]
   clear hHeld
   refine wpAnyL_one 5 (by kernel_rfl) rfl (fun K hK0 => ?_)
   have hK : Shut _ := hK0
   clear hK0
   go_simp
   refine Calls.mono (by exact HN1.out _) ?_
   rintro e x1 ⟨v1, rfl, ho1, hb1⟩
   obtain ⟨q1, q2, rfl⟩ : ∃ a c, v1 = .slice a NX.length c := (by obtain ⟨ya, yc, e, _⟩ := own_blk (Nat.le_refl _) ho1; exact ⟨ya, yc, e⟩)
   have HI1 : Hid _ := OwnI.at' ho1 (Nat.le_trans HNL.out (by omega))
   have HD1 : Hid (Below wo.heap.size wo x1) := below_trans HD0.out hb1
   clear ho1 hb1
   have hHeld := HSX.out _ HD1.out
   dsimp only
   refine hK.out _ _ (fun _ => hHeld) ?_
   clear hK K
   clear hHeld
   refine wpAnyL_one 11 (by kernel_rfl) rfl (fun K hK0 => ?_)
   have hK : Shut _ := hK0
   clear hK0
   go_simp
   refine Calls.mono (by exact HN2.out _) ?_
   rintro e x2 ⟨v2, rfl, ho2, hb2⟩
   obtain ⟨q3, q4, rfl⟩ : ∃ a c, v2 = .slice a NX.length c := (by obtain ⟨ya, yc, e, _⟩ := own_blk (Nat.le_refl _) ho2; exact ⟨ya, yc, e⟩)
   have HI2 : Hid _ := OwnI.at' ho2 (Nat.le_trans HNL.out (by omega))
   have HI3 : Hid _ := HI1.out.below hb2
   have HD2 : Hid (Below wo.heap.size wo x2) := below_trans HD1.out hb2
   clear ho2 hb2
   have hHeld := HSX.out _ HD2.out
   dsimp only
   refine hK.out _ _ (fun _ => hHeld) ?_
   clear hK K
   clear hHeld
   refine wpAnyL_one 12 (by kernel_rfl) rfl (fun K hK0 => ?_)
   have hK : Shut _ := hK0
   clear hK0
   go_simp
   refine Calls.mono (by exact sameI_any NX NX _ _ _ HI3.out HI2.out) ?_
   rintro e x3 ⟨rfl, hb3⟩
   have HD3 : Hid (Below wo.heap.size wo x3) := below_trans HD2.out (below_of_drew hb3)
   clear hb3
   rw [decide_eq_true (rfl : NX = NX)]
   have hHeld := HSX.out _ HD3.out
   dsimp only
   refine hK.out _ _ (fun _ => hHeld) ?_
   clear hK K
   clear hHeld
   refine wpAnyL_one 13 (by kernel_rfl) rfl (fun K hK0 => ?_)
   have hK : Shut _ := hK0
   clear hK0
   go_simp
   have hHeld := HSX.out _ HD3.out
   refine hK.out _ _ (fun _ => hHeld) ?_
   clear hK K
   clear hHeld
   refine ⟨by kernel_rfl, ?_⟩
   go_simp
   go_wp2
   go_roundw
   case rel => exact ⟨i + 1, by first | rfl | (congr 1; omega), by omega, below_trans HRR.out.1 HD3.out, HRR.out.2.below HD3.out⟩
   case measure => simp [intOf]; omega
  ·obtain rfl : n = i := by omega
   clear HBL
   have HSX : Hid (∀ W, Below wo.heap.size wo W → W.cell? ⟨w.heap.size, 0, none⟩ = some (.string nm) ∧ W.cell? ⟨w.heap.size, 1, none⟩ = some (.slice pa pl pc) ∧ W.cell? ⟨w.heap.size, 2, none⟩ = some (.int .u8 r) ∧ W.cell? ⟨w.heap.size, 3, none⟩ = some (.slice va vl vc) ∧ W.cell? ⟨w.heap.size, 4, none⟩ = some (.slice aa al ac) ∧ W.cell? ⟨w.heap.size, 5, none⟩ = some (.slice ba n bc)) := fun W hb => box6 (HRR.out.2.below hb)
   obtain ⟨e0, e1, e2, e3, e4, e5⟩ := box6 HRR.out.2
   have hwl := HRR.out.2.lt
   go_wp2
   refine wp_region_late (fun W => W.cell? ⟨w.heap.size, 0, none⟩ = some (.string nm) ∧ W.cell? ⟨w.heap.size, 1, none⟩ = some (.slice pa pl pc) ∧ W.cell? ⟨w.heap.size, 2, none⟩ = some (.int .u8 r) ∧ W.cell? ⟨w.heap.size, 3, none⟩ = some (.slice va vl vc) ∧ W.cell? ⟨w.heap.size, 4, none⟩ = some (.slice aa al ac) ∧ W.cell? ⟨w.heap.size, 5, none⟩ = some (.slice ba n bc)) (fun _ => false) (by kernel_rfl) (HSX.out _ (below_drew (Below.refl _ _))) (fun hHeld => ?_)
   have HD0 : Hid (Below wo.heap.size wo wo.drew) := below_drew (Below.refl _ _)
   refine wpAnyL_take 0 (v := ?_) rfl (by kernel_rfl) (by kernel_rfl) (by kernel_rfl) (by kernel_rfl) (fun _ _ _ h => h) hHeld (Or.inl ⟨by rfl, ?_⟩) ?_
   rotate_left 1
   ·(intro w hSw; (try dsimp only at hSw); (try obtain ⟨s0, s1, s2, s3, s4, s5⟩ := hSw); first | (go_simp; done) | (go_simp; with_reducible rfl))
   simp only [Act.put, List.setIfInBounds_toArray]
   refine wpAnyL_take 2 (v := ?_) rfl (by kernel_rfl) (by kernel_rfl) (by kernel_rfl) (by kernel_rfl) (fun _ _ _ h => h) hHeld (Or.inl ⟨by rfl, ?_⟩) ?_
   rotate_left 1
   ·(intro w hSw; (try dsimp only at hSw); (try obtain ⟨s0, s1, s2, s3, s4, s5⟩ := hSw); first | (go_simp; done) | (go_simp; with_reducible rfl))
   simp only [Act.put]
   clear hHeld
   refine wpAnyL_one 1 (by kernel_rfl) rfl (fun K hK0 => ?_)
   have hK : Shut _ := hK0
   clear hK0
   go_simp
   refine Calls.mono (by exact HPA1.out _ (below_trans HRR.out.1 HD0.out)) ?_
   rintro e x1 ⟨kv1, rfl, hr1, hb1⟩
   have HR1 : Hid _ := hr1.at' (by omega) HPAL.out
   have HD1 : Hid (Below wo.heap.size wo x1) := below_trans HD0.out hb1
   clear hr1 hb1
   have hHeld := HSX.out _ HD1.out
   dsimp only
   refine hK.out _ _ (fun _ => hHeld) ?_
   clear hK K
   clear hHeld
   refine wpAnyL_one 3 (by kernel_rfl) rfl (fun K hK0 => ?_)
   have hK : Shut _ := hK0
   clear hK0
   go_simp
   refine Calls.mono (by exact HPA2.out _ (below_trans HRR.out.1 HD1.out)) ?_
   rintro e x2 ⟨kv2, rfl, hr2, hb2⟩
   have HR2 : Hid _ := hr2.at' (by omega) HPAL.out
   have HR3 : Hid _ := HR1.out.below hb2
   have HD2 : Hid (Below wo.heap.size wo x2) := below_trans HD1.out hb2
   clear hr2 hb2
   have hHeld := HSX.out _ HD2.out
   dsimp only
   refine hK.out _ _ (fun _ => hHeld) ?_
   clear hK K
   clear hHeld
   refine wpAnyL_one 4 (by kernel_rfl) rfl (fun K hK0 => ?_)
   have hK : Shut _ := hK0
   clear hK0
   go_simp
   refine Calls.mono (by exact sameR_any A A _ _ _ HR3.out HR2.out) ?_
   rintro e x3 ⟨rfl, hb3⟩
   have HD3 : Hid (Below wo.heap.size wo x3) := below_trans HD2.out (below_of_drew hb3)
   clear hb3 HR1 HR2 HR3
   rw [decide_eq_true (rfl : A = A)]
   have hHeld := HSX.out _ HD3.out
   dsimp only
   refine hK.out _ _ (fun _ => hHeld) ?_
   clear hK K
   clear hHeld
   refine wpAnyL_one 5 (by kernel_rfl) rfl (fun K hK0 => ?_)
   have hK : Shut _ := hK0
   clear hK0
   go_simp
   have hHeld := HSX.out _ HD3.out
   refine hK.out _ _ (fun _ => hHeld) ?_
   clear hK K
   refine wpAnyL_take 6 (v := ?_) rfl (by kernel_rfl) (by kernel_rfl) (by kernel_rfl) (by kernel_rfl) (fun _ _ _ h => h) hHeld (Or.inl ⟨by kernel_rfl, ?_⟩) ?_
   rotate_left 1
   ·(intro w hSw; (try dsimp only at hSw); (try obtain ⟨s0, s1, s2, s3, s4, s5⟩ := hSw); first | (go_simp; done) | (go_simp; with_reducible rfl))
   simp only [Act.put]
   refine wpAnyL_take 8 (v := ?_) rfl (by kernel_rfl) (by kernel_rfl) (by kernel_rfl) (by kernel_rfl) (fun _ _ _ h => h) hHeld (Or.inl ⟨by kernel_rfl, ?_⟩) ?_
   rotate_left 1
   ·(intro w hSw; (try dsimp only at hSw); (try obtain ⟨s0, s1, s2, s3, s4, s5⟩ := hSw); first | (go_simp; done) | (go_simp; with_reducible rfl))
   simp only [Act.put]
   clear hHeld
   refine wpAnyL_one 7 (by kernel_rfl) rfl (fun K hK0 => ?_)
   have hK : Shut _ := hK0
   clear hK0
   go_simp
   refine Calls.mono (by exact HPO1.out _ (below_trans HRR.out.1 HD3.out)) ?_
   rintro e x4 ⟨v4, rfl, ho4, hb4⟩
   have HI4 : Hid _ := OwnI.at' ho4 HPOL.out
   have HD4 : Hid (Below wo.heap.size wo x4) := below_trans HD3.out hb4
   clear ho4 hb4
   have hHeld := HSX.out _ HD4.out
   dsimp only
   refine hK.out _ _ (fun _ => hHeld) ?_
   clear hK K
   clear hHeld
   refine wpAnyL_one 9 (by kernel_rfl) rfl (fun K hK0 => ?_)
   have hK : Shut _ := hK0
   clear hK0
   go_simp
   refine Calls.mono (by exact HPO2.out _ (below_trans HRR.out.1 HD4.out)) ?_
   rintro e x5 ⟨v5, rfl, ho5, hb5⟩
   have HI5 : Hid _ := OwnI.at' ho5 HPOL.out
   have HI6 : Hid _ := HI4.out.below hb5
   have HD5 : Hid (Below wo.heap.size wo x5) := below_trans HD4.out hb5
   clear ho5 hb5
   have hHeld := HSX.out _ HD5.out
   dsimp only
   refine hK.out _ _ (fun _ => hHeld) ?_
   clear hK K
   clear hHeld
   refine wpAnyL_one 10 (by kernel_rfl) rfl (fun K hK0 => ?_)
   have hK : Shut _ := hK0
   clear hK0
   go_simp
   refine Calls.mono (by exact sameI_any O O _ _ _ HI6.out HI5.out) ?_
   rintro e x6 ⟨rfl, hb6⟩
   have HD6 : Hid (Below wo.heap.size wo x6) := below_trans HD5.out (below_of_drew hb6)
   clear hb6 HI4 HI5 HI6
   rw [decide_eq_true (rfl : O = O)]
   have hHeld := HSX.out _ HD6.out
   dsimp only
   refine hK.out _ _ (fun _ => hHeld) ?_
   clear hK K
   clear hHeld
   refine wpAnyL_one 11 (by kernel_rfl) rfl (fun K hK0 => ?_)
   have hK : Shut _ := hK0
   clear hK0
   go_simp
   have hHeld := HSX.out _ HD6.out
   refine hK.out _ _ (fun _ => hHeld) ?_
   clear hK K
   clear hHeld
   refine wpAnyL_one 12 (by kernel_rfl) rfl (fun K hK0 => ?_)
   have hK : Shut _ := hK0
   clear hK0
   go_simp
   have hHeld := HSX.out _ HD6.out
   refine hK.out _ _ (fun _ => hHeld) ?_
   clear hK K
   refine wpAnyL_take 13 (v := ?_) rfl (by kernel_rfl) (by kernel_rfl) (by kernel_rfl) (by kernel_rfl) (fun _ _ _ h => h) hHeld (Or.inl ⟨by kernel_rfl, ?_⟩) ?_
   rotate_left 1
   ·(intro w hSw; (try dsimp only at hSw); (try obtain ⟨s0, s1, s2, s3, s4, s5⟩ := hSw); first | (go_simp; done) | (go_simp; with_reducible rfl))
   simp only [Act.put]
   refine wpAnyL_take 15 (v := ?_) rfl (by kernel_rfl) (by kernel_rfl) (by kernel_rfl) (by kernel_rfl) (fun _ _ _ h => h) hHeld (Or.inl ⟨by kernel_rfl, ?_⟩) ?_
   rotate_left 1
   ·(intro w hSw; (try dsimp only at hSw); (try obtain ⟨s0, s1, s2, s3, s4, s5⟩ := hSw); first | (go_simp; done) | (go_simp; with_reducible rfl))
   simp only [Act.put]
   clear hHeld
   refine wpAnyL_one 14 (by kernel_rfl) rfl (fun K hK0 => ?_)
   have hK : Shut _ := hK0
   clear hK0
   go_simp
   refine Calls.mono (by exact HPC1.out _ (below_trans HRR.out.1 HD6.out)) ?_
   rintro e x7 ⟨rfl, hb7⟩
   have HD7 : Hid (Below wo.heap.size wo x7) := below_trans HD6.out hb7
   clear hb7
   have hHeld := HSX.out _ HD7.out
   dsimp only
   refine hK.out _ _ (fun _ => hHeld) ?_
   clear hK K
   clear hHeld
   refine wpAnyL_one 16 (by kernel_rfl) rfl (fun K hK0 => ?_)
   have hK : Shut _ := hK0
   clear hK0
   go_simp
   refine Calls.mono (by exact HPC2.out _ (below_trans HRR.out.1 HD7.out)) ?_
   rintro e x8 ⟨rfl, hb8⟩
   have HD8 : Hid (Below wo.heap.size wo x8) := below_trans HD7.out hb8
   clear hb8
   have hHeld := HSX.out _ HD8.out
   dsimp only
   refine hK.out _ _ (fun _ => hHeld) ?_
   clear hK K
   clear hHeld
   refine wpAnyL_one 17 (by kernel_rfl) rfl (fun K hK0 => ?_)
   have hK : Shut _ := hK0
   clear hK0
   go_simp
   have hHeld := HSX.out _ HD8.out
   refine hK.out _ _ (fun _ => hHeld) ?_
   clear hK K
   clear hHeld
   refine wpAnyL_one 18 (by kernel_rfl) rfl (fun K hK0 => ?_)
   have hK : Shut _ := hK0
   clear hK0
   go_simp
   have hHeld := HSX.out _ HD8.out
   refine hK.out _ _ (fun _ => hHeld) ?_
   clear hK K
   clear hHeld
   refine wpAnyL_one 19 (by kernel_rfl) rfl (fun K hK0 => ?_)
   have hK : Shut _ := hK0
   clear hK0
   go_simp
   have hHeld := HSX.out _ HD8.out
   refine hK.out _ _ (fun _ => hHeld) ?_
   clear hK K
   refine wpAnyL_take 20 (v := ?_) rfl (by kernel_rfl) (by kernel_rfl) (by kernel_rfl) (by kernel_rfl) (fun _ _ _ h => h) hHeld (Or.inl ⟨by kernel_rfl, ?_⟩) ?_
   rotate_left 1
   ·(intro w hSw; (try dsimp only at hSw); (try obtain ⟨s0, s1, s2, s3, s4, s5⟩ := hSw); first | (go_simp; done) | (go_simp; with_reducible rfl))
   simp only [Act.put]
   refine wpAnyL_take 22 (v := ?_) rfl (by kernel_rfl) (by kernel_rfl) (by kernel_rfl) (by kernel_rfl) (fun _ _ _ h => h) hHeld (Or.inl ⟨by kernel_rfl, ?_⟩) ?_
   rotate_left 1
   ·(intro w hSw; (try dsimp only at hSw); (try obtain ⟨s0, s1, s2, s3, s4, s5⟩ := hSw); first | (go_simp; done) | (go_simp; with_reducible rfl))
   simp only [Act.put]
   clear hHeld
   refine wpAnyL_one 21 (by kernel_rfl) rfl (fun K hK0 => ?_)
   have hK : Shut _ := hK0
   clear hK0
   go_simp
   refine Calls.mono (by exact HPT1.out _ (below_trans HRR.out.1 HD8.out)) ?_
   rintro e x9 ⟨y1, y2, y3, y4, rfl, hgn, hb9⟩
   have HY1 : Hid _ := hgn x9 (fun _ _ _ => rfl)
   have HD9 : Hid (Below wo.heap.size wo x9) := below_trans HD8.out hb9
   clear hgn hb9
   have hHeld := HSX.out _ HD9.out
   dsimp only
   refine hK.out _ _ (fun _ => hHeld) ?_
   clear hK K
   clear hHeld
   refine wpAnyL_one 23 (by kernel_rfl) rfl (fun K hK0 => ?_)
   have hK : Shut _ := hK0
   clear hK0
   go_simp
   refine Calls.mono (by exact HPT2.out _ (below_trans HRR.out.1 HD9.out)) ?_
   rintro e x10 ⟨y5, y6, y7, y8, rfl, hg2, hb10⟩
   have HY2 : Hid _ := hg2
   have HY3 : Hid _ := HY1.out.below hb10
   have HD10 : Hid (Below wo.heap.size wo x10) := below_trans HD9.out hb10
   clear hg2 hb10
   have hHeld := HSX.out _ HD10.out
   dsimp only
   refine hK.out _ _ (fun _ => hHeld) ?_
   clear hK K
   clear hHeld
   refine wpAnyL_one 24 (by kernel_rfl) rfl (fun K hK0 => ?_)
   have hK : Shut _ := hK0
   clear hK0
   go_simp
   refine Calls.mono (by exact HSG.out _ _ _ _ _ _ _ _ _ HY3.out HY2.out) ?_
   rintro e x11 ⟨rfl, hb11⟩
   have HD11 : Hid (Below wo.heap.size wo x11) := below_trans HD10.out hb11
   clear hb11
   have hHeld := HSX.out _ HD11.out
   dsimp only
   refine hK.out _ _ (fun _ => hHeld) ?_
   clear hK K
   clear hHeld
   refine wpAnyL_one 25 (by kernel_rfl) rfl (fun K hK0 => ?_)
   have hK : Shut _ := hK0
   clear hK0
   go_simp
   have hHeld := HSX.out _ HD11.out
   refine hK.out _ _ (fun _ => hHeld) ?_
   clear hK K
   clear hHeld
   refine wpAnyL_one 26 (by kernel_rfl) rfl (fun K hK0 => ?_)
   have hK : Shut _ := hK0
   clear hK0
   go_simp
   have hHeld := HSX.out _ HD11.out
   refine hK.out _ _ (fun _ => hHeld) ?_
   clear hK K
   clear hHeld
   refine wpAnyL_one 27 (by kernel_rfl) rfl (fun K hK0 => ?_)
   have hK : Shut _ := hK0
   clear hK0
   go_simp
   refine Calls.mono (by exact HAW.out _ (below_trans HRR.out.1 HD11.out)) ?_
   rintro e x12 ⟨rfl, hb12⟩
   have HD12 : Hid (Below wo.heap.size wo x12) := below_trans HD11.out hb12
   clear hb12
   have hHeld := HSX.out _ HD12.out
   dsimp only
   refine hK.out _ _ (fun _ => hHeld) ?_
   clear hK K
   clear hHeld
   refine wpAnyL_one 28 (by kernel_rfl) rfl (fun K hK0 => ?_)
   have hK : Shut _ := hK0
   clear hK0
   go_simp
   have hHeld := HSX.out _ HD12.out
   refine hK.out _ _ (fun _ => hHeld) ?_
   clear hK K
   clear hHeld
   refine wpAnyL_one 29 (by kernel_rfl) rfl (fun K hK0 => ?_)
   have hK : Shut _ := hK0
   clear hK0
   go_simp
   have hHeld := HSX.out _ HD12.out
   refine hK.out _ _ (fun _ => hHeld) ?_
   clear hK K
   clear hHeld
   refine ⟨by kernel_rfl, ?_⟩
   go_simp
   go_wp2
   go_ret
   exact ⟨rfl, below_trans HRR.out.1 HD12.out⟩
end Go.Proofs.YtobnpllppohofaaGreatDoor
