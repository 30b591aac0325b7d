/- The law GraphNumbers: its run. -/
import Derived.Test.YtobnpllppohofaaGreatDoorGRf1M
import Derived.Test.YtobnpllppohofaaGreatDoorGShp
import Derived.Test.YtobnpllppohofaaGreatDoorGChksM
namespace Go.Proofs.YtobnpllppohofaaGreatDoor
open Go.RowKit

theorem slice_cutG {g m c f : Nat} (hm : m ≤ c) (hf : f ≤ m) : ∀ W, (Instr.slice 33 (.slice (some ⟨g, 0, none⟩) m c) none (some (.int .i64 (f : Int))) none).run Tryz.prog W = .ok (.slice (some ⟨g, 0, none⟩) f c) W := fun W => by
 have hs : ∀ W : World, (sizeOf (Tryz.prog.elem 33)).run Tryz.prog W = .ok 6 W := fun W => by kernel_rfl
 have hu : Tryz.prog.underlying 33 = some (.slice (Tryz.prog.elem 33)) := by kernel_rfl
 rw [run_slice_h W 33 _ m c hu .i64 f (by omega) (by omega), hs]
 simp [Result.andThen, sliced, Addr.add]
set_option maxRecDepth 100000 in
set_option maxHeartbeats 16000000 in
theorem numbers_any (w : World) (hP : PartsAt w) : Calls Tryz.prog 3 #[] w fun e w' => e = .returned (.bool true) ∧ Below w.heap.size w w' := by
 have HPA : Hid (∀ W, Below w.heap.size w W → PartsAt W) := fun W hb => hP.below hb
 have HCK : Hid (∀ W v p, Below w.heap.size w W → GrsAt W v p → (p.length ≤ 64 → ∀ G ∈ p, G.blocks.length ≤ 100000) → Calls Tryz.prog 5 #[v] W fun e w' => e = .returned (.tuple #[.int .i64 (checkT p).1, .int .i64 (checkT p).2]) ∧ Below W.heap.size W w') := fun W v p hb hg hn => check_any p v W hg (hP.below hb) hn
 have HGC : Hid (∀ W v p, Below w.heap.size w W → GrsAt W v p → Calls Tryz.prog 6 #[v] W fun e w' => e = .returned (.bool true) ∧ Below W.heap.size W w') := fun W v p hb hg => checks_any p v W hg (hP.below hb)
 have HGS : Hid (∀ W G pv vv av bv, Below w.heap.size w W → GrAt W pv vv av bv G → Calls Tryz.prog 8 #[.agg #[.string G.name, pv, .int .u8 G.result, vv, av, bv]] W fun e w' => e = .returned (.bool true) ∧ Below W.heap.size W w') := fun W G pv vv av bv hb hg => shapes_any G pv vv av bv W hg (hP.below hb)
 have HAW : Hid (∀ W, Below w.heap.size w W → Calls Tryz.prog 14 #[] W fun e w' => e = .returned (.bool true) ∧ Below W.heap.size W w') := fun W hb => awake_any W (hP.below hb)
 have HBN : Hid (∀ (k : Nat), k < 22 → ∀ W : World, Calls Tryz.prog 4 #[.int .i64 (k : Int)] W fun e w' => ∃ pv vv av bv, e = .returned (.agg #[.string (bentG k).name, pv, .int .u8 (bentG k).result, vv, av, bv]) ∧ GrAt w' pv vv av bv (bentG k) ∧ Below W.heap.size W w') := bent_any
 have HBB : Hid (∀ k : Nat, k < 22 → checkT [bentG k] = (4, 0) ∧ (bentG k).blocks.length ≤ 100000) := bent_bad
 have HSM : Hid (∀ W, Calls Tryz.prog 7 #[.bool true] W fun e w' => ∃ a b c : Nat, e = .returned (.agg #[.string ⟨#[103]⟩, sl a 1, .int .u8 4, sl b 3, .slice none 0 0, sl c 5]) ∧ GrAt w' (sl a 1) (sl b 3) (.slice none 0 0) (sl c 5) (smallG true) ∧ Below W.heap.size W w') := fun W => awk_small true W
 clear hP
 go_enter Tryz.func3, Tryz.ntmps3
 go_wp2
 go_loopw [1] (fun vi wr => ∃ i : Nat, vi = .int .i64 i ∧ i ≤ 22 ∧ Hid (Below w.heap.size w wr)) (fun vi _ => 22 - (intOf vi).toNat)
 case atStart => exact ⟨0, rfl, by omega, Below.refl _ _⟩
 case round =>
  obtain ⟨i, rfl, hi, hr⟩ := hrel
  generalize wr = wo at *
  have HRR : Hid _ := hr.out
  clear hr
  by_cases hin : i < 22
  ·have hin' : (i : Int) < 22 := by omega
   have HB1 : Hid _ := HBN.out i hin
   have hbb := HBB.out i hin
   have HC1 : Hid (∀ W v, Below w.heap.size w W → GrsAt W v [bentG i] → Calls Tryz.prog 5 #[v] W fun e w' => e = .returned (.tuple #[.int .i64 4, .int .i64 0]) ∧ Below W.heap.size W w') := fun W v hb hg => by
    have h9 := HCK.out W v [bentG i] hb hg (fun _ G hG => by simp at hG; subst hG; exact hbb.2)
    rw [hbb.1] at h9
    exact h9
   clear hbb HBN HBB HCK HAW
   generalize bentG i = X at *
   go_wp2_with (first
    | (go_at_call 4; go_loud (refine Calls.mono (by exact HB1.out _) ?_; rintro e w1 ⟨pv, vv, av, bv, rfl, hG, hb⟩; obtain ⟨pa, pc, va, vc, aa, ac, ba, bc, rfl, rfl, rfl, rfl, _, _, _, _⟩ := hG.openF; have HG1 : Hid _ := hG; have H1 : Hid (Below w.heap.size w w1) := below_trans HRR.out hb; have HBX : Hid (Box (w1.alloc (.cells #[.string X.name, .slice pa X.params.length pc, .int .u8 X.result, .slice va X.vars.length vc, .slice aa X.arrs.length ac, .slice ba X.blocks.length bc] 28)) w1.heap.size [.string X.name, .slice pa X.params.length pc, .int .u8 X.result, .slice va X.vars.length vc, .slice aa X.arrs.length ac, .slice ba X.blocks.length bc]) := Box.new w1 [.string X.name, .slice pa X.params.length pc, .int .u8 X.result, .slice va X.vars.length vc, .slice aa X.arrs.length ac, .slice ba X.blocks.length bc] 28; clear hG hb))
    | (go_at_call 5; go_loud (refine Calls.mono (by exact HC1.out _ _ (below_alloc (below_alloc H1.out _) _) (by have h9 := grs_l1 (w1.alloc (.cells #[.string X.name, .slice pa X.params.length pc, .int .u8 X.result, .slice va X.vars.length vc, .slice aa X.arrs.length ac, .slice ba X.blocks.length bc] 28)) X _ _ _ _ (HG1.out.below (below_alloc (Below.refl _ _) _)); rw [World.size_alloc] at h9; exact h9)) ?_; rintro e w2 ⟨rfl, hb⟩; have H2 : Hid (Below w.heap.size w w2) := below_trans (below_alloc (below_alloc H1.out _) _) hb; have HG2 : Hid _ := HG1.out.below (below_trans (below_alloc (below_alloc (Below.refl _ _) _) _) hb); have HX2 : Hid _ := HBX.out.below (below_trans (below_alloc (Below.refl _ _) _) hb); clear hb)))
   obtain ⟨g1, hg1⟩ : ∃ g1, g1 = w1.heap.size := ⟨_, rfl⟩
   rw [← hg1] at HX2
   rw [← hg1]
   clear hg1 HG1 HBX H1 HB1 HC1
   have HSX : Hid (∀ W, Below w2.heap.size w2 W → W.cell? ⟨g1, 0, none⟩ = some (.string X.name) ∧ W.cell? ⟨g1, 1, none⟩ = some (.slice pa X.params.length pc) ∧ W.cell? ⟨g1, 2, none⟩ = some (.int .u8 X.result) ∧ W.cell? ⟨g1, 3, none⟩ = some (.slice va X.vars.length vc) ∧ W.cell? ⟨g1, 4, none⟩ = some (.slice aa X.arrs.length ac) ∧ W.cell? ⟨g1, 5, none⟩ = some (.slice ba X.blocks.length bc)) := fun W hb => box6 (HX2.out.below hb)
   refine wp_region_late (fun W => W.cell? ⟨g1, 0, none⟩ = some (.string X.name) ∧ W.cell? ⟨g1, 1, none⟩ = some (.slice pa X.params.length pc) ∧ W.cell? ⟨g1, 2, none⟩ = some (.int .u8 X.result) ∧ W.cell? ⟨g1, 3, none⟩ = some (.slice va X.vars.length vc) ∧ W.cell? ⟨g1, 4, none⟩ = some (.slice aa X.arrs.length ac) ∧ W.cell? ⟨g1, 5, none⟩ = some (.slice ba X.blocks.length bc)) (fun _ => false) (by kernel_rfl) (HSX.out _ (below_drew (Below.refl _ _))) (fun hHeld => ?_)
   have HD0 : Hid (Below w2.heap.size w2 w2.drew) := below_drew (Below.refl _ _)
   refine wpAnyL_take 0 (v := ?_) rfl (by kernel_rfl) (by kernel_rfl) (by kernel_rfl) (by kernel_rfl) (fun _ _ _ h => h) hHeld (Or.inl ⟨by kernel_rfl, ?_⟩) ?_
   rotate_left 1
   ·(intro w hSw; (try dsimp only at hSw); (try obtain ⟨s0, s1, s2, s3, s4, s5⟩ := hSw); first | (go_simp; done) | (go_simp; with_reducible rfl))
   simp only [Act.put, List.setIfInBounds_toArray]
   refine wpAnyL_take 1 (v := ?_) rfl (by kernel_rfl) (by kernel_rfl) (by kernel_rfl) (by kernel_rfl) (fun _ _ _ h => h) hHeld (Or.inl ⟨by kernel_rfl, ?_⟩) ?_
   rotate_left 1
   ·(intro w hSw; (try dsimp only at hSw); (try obtain ⟨s0, s1, s2, s3, s4, s5⟩ := hSw); first | (go_simp; done) | (go_simp; with_reducible rfl))
   simp only [Act.put]
   refine wpAnyL_take 2 (v := ?_) rfl (by kernel_rfl) (by kernel_rfl) (by kernel_rfl) (by kernel_rfl) (fun _ _ _ h => h) hHeld (Or.inl ⟨by kernel_rfl, ?_⟩) ?_
   rotate_left 1
   ·(intro w hSw; (try dsimp only at hSw); (try obtain ⟨s0, s1, s2, s3, s4, s5⟩ := hSw); first | (go_simp; done) | (go_simp; with_reducible rfl))
   simp only [Act.put]
   refine wpAnyL_take 3 (v := ?_) rfl (by kernel_rfl) (by kernel_rfl) (by kernel_rfl) (by kernel_rfl) (fun _ _ _ h => h) hHeld (Or.inl ⟨by kernel_rfl, ?_⟩) ?_
   rotate_left 1
   ·(intro w hSw; (try dsimp only at hSw); (try obtain ⟨s0, s1, s2, s3, s4, s5⟩ := hSw); first | (go_simp; done) | (go_simp; with_reducible rfl))
   simp only [Act.put]
   refine wpAnyL_take 4 (v := ?_) rfl (by kernel_rfl) (by kernel_rfl) (by kernel_rfl) (by kernel_rfl) (fun _ _ _ h => h) hHeld (Or.inl ⟨by kernel_rfl, ?_⟩) ?_
   rotate_left 1
   ·(intro w hSw; (try dsimp only at hSw); (try obtain ⟨s0, s1, s2, s3, s4, s5⟩ := hSw); first | (go_simp; done) | (go_simp; with_reducible rfl))
   simp only [Act.put]
   refine wpAnyL_take 5 (v := ?_) rfl (by kernel_rfl) (by kernel_rfl) (by kernel_rfl) (by kernel_rfl) (fun _ _ _ h => h) hHeld (Or.inl ⟨by kernel_rfl, ?_⟩) ?_
   rotate_left 1
   ·(intro w hSw; (try dsimp only at hSw); (try obtain ⟨s0, s1, s2, s3, s4, s5⟩ := hSw); first | (go_simp; done) | (go_simp; with_reducible rfl))
   simp only [Act.put]
   refine wpAnyL_take 6 (v := ?_) rfl (by kernel_rfl) (by kernel_rfl) (by kernel_rfl) (by kernel_rfl) (fun _ _ _ h => h) hHeld (Or.inl ⟨by kernel_rfl, ?_⟩) ?_
   rotate_left 1
   ·(intro w hSw; (try dsimp only at hSw); (try obtain ⟨s0, s1, s2, s3, s4, s5⟩ := hSw); first | (go_simp; done) | (go_simp; with_reducible rfl))
   simp only [Act.put]
   refine wpAnyL_take 8 (v := ?_) rfl (by kernel_rfl) (by kernel_rfl) (by kernel_rfl) (by kernel_rfl) (fun _ _ _ h => h) hHeld (Or.inl ⟨by kernel_rfl, ?_⟩) ?_
   rotate_left 1
   ·(intro w hSw; (try dsimp only at hSw); (try obtain ⟨s0, s1, s2, s3, s4, s5⟩ := hSw); first | (go_simp; done) | (go_simp; with_reducible rfl))
   simp only [Act.put]
   clear hHeld
   refine wpAnyL_one 7 (by kernel_rfl) rfl (fun K hK0 => ?_)
   have hK : Shut _ := hK0
   clear hK0
   go_simp
   refine Calls.mono (by exact HSM.out _) ?_
   rintro e x1 ⟨a1, b1, c1, rfl, hg, hb1⟩
   have HD1 : Hid (Below w2.heap.size w2 x1) := below_trans HD0.out hb1
   have HS1 : Hid _ := hg
   clear hg hb1
   have hHeld := HSX.out _ HD1.out
   dsimp only
   refine hK.out _ _ (fun _ => hHeld) ?_
   clear hK K
   clear hHeld
   refine wpAnyL_one 9 (by kernel_rfl) rfl (fun K hK0 => ?_)
   have hK : Shut _ := hK0
   clear hK0
   go_simp
   have HD2 : Hid (Below w2.heap.size w2 (x1.alloc (.cells #[.string ⟨#[103]⟩, sl a1 1, .int .u8 4, sl b1 3, .slice none 0 0, sl c1 5, .string X.name, .slice pa X.params.length pc, .int .u8 X.result, .slice va X.vars.length vc, .slice aa X.arrs.length ac, .slice ba X.blocks.length bc] 28))) := below_alloc HD1.out _
   have hHeld := HSX.out _ HD2.out
   refine hK.out _ _ (fun _ => hHeld) ?_
   clear hK K hHeld
   refine wpAnyL_one 10 (by kernel_rfl) rfl (fun K hK0 => ?_)
   have hK : Shut _ := hK0
   clear hK0
   go_simp
   refine Calls.mono (by exact HGC.out _ _ [smallG true, X] (below_trans H2.out HD2.out) (grs_l2 x1 (smallG true) X _ _ _ _ _ _ _ _ HS1.out (HG2.out.below HD1.out))) ?_
   rintro e x3 ⟨rfl, hb3⟩
   have HD3 : Hid (Below w2.heap.size w2 x3) := below_trans HD2.out hb3
   clear hb3
   have hHeld := HSX.out _ HD3.out
   dsimp only
   refine hK.out _ _ (fun _ => hHeld) ?_
   clear hK K
   clear hHeld
   refine wpAnyL_one 11 (by kernel_rfl) rfl (fun K hK0 => ?_)
   have hK : Shut _ := hK0
   clear hK0
   go_simp
   have hHeld := HSX.out _ HD3.out
   refine hK.out _ _ (fun _ => hHeld) ?_
   clear hK K
   clear hHeld
   refine wpAnyL_one 12 (by kernel_rfl) rfl (fun K hK0 => ?_)
   have hK : Shut _ := hK0
   clear hK0
   go_simp
   have hHeld := HSX.out _ HD3.out
   refine hK.out _ _ (fun _ => hHeld) ?_
   clear hK K
   clear hHeld
   refine wpAnyL_one 13 (by kernel_rfl) rfl (fun K hK0 => ?_)
   have hK : Shut _ := hK0
   clear hK0
   go_simp
   have hHeld := HSX.out _ HD3.out
   refine hK.out _ _ (fun _ => hHeld) ?_
   clear hK K
   refine wpAnyL_take 14 (v := ?_) rfl (by kernel_rfl) (by kernel_rfl) (by kernel_rfl) (by kernel_rfl) (fun _ _ _ h => h) hHeld (Or.inl ⟨by kernel_rfl, ?_⟩) ?_
   rotate_left 1
   ·(intro w hSw; (try dsimp only at hSw); (try obtain ⟨s0, s1, s2, s3, s4, s5⟩ := hSw); first | (go_simp; done) | (go_simp; with_reducible rfl))
   simp only [Act.put]
   clear hHeld
   refine wpAnyL_one 15 (by kernel_rfl) rfl (fun K hK0 => ?_)
   have hK : Shut _ := hK0
   clear hK0
   go_simp
   refine Calls.mono (by exact HGS.out _ X _ _ _ _ (below_trans H2.out HD3.out) (HG2.out.below HD3.out)) ?_
   rintro e x4 ⟨rfl, hb4⟩
   have HD4 : Hid (Below w2.heap.size w2 x4) := below_trans HD3.out hb4
   clear hb4
   have hHeld := HSX.out _ HD4.out
   dsimp only
   refine hK.out _ _ (fun _ => hHeld) ?_
   clear hK K
   clear hHeld
   refine wpAnyL_one 16 (by kernel_rfl) rfl (fun K hK0 => ?_)
   have hK : Shut _ := hK0
   clear hK0
   go_simp
   have hHeld := HSX.out _ HD4.out
   refine hK.out _ _ (fun _ => hHeld) ?_
   clear hK K
   clear hHeld
   refine wpAnyL_one 17 (by kernel_rfl) rfl (fun K hK0 => ?_)
   have hK : Shut _ := hK0
   clear hK0
   go_simp
   have hHeld := HSX.out _ HD4.out
   refine hK.out _ _ (fun _ => hHeld) ?_
   clear hK K
   clear hHeld
   refine ⟨by kernel_rfl, ?_⟩
   go_simp
   go_wp2
   go_roundw
   case rel => exact ⟨i + 1, by first | rfl | (congr 1; omega), by omega, below_trans H2.out HD4.out⟩
   case measure => simp [intOf]; omega
  ·obtain rfl : i = 22 := by omega
   clear HBN HBB HGC hi hin
   have HCL : Hid (∀ W : World, (∀ k, wo.heap.size ≤ k → k < wo.heap.size + 14 → W.heap[k]? = (allocs wo (objsCall wo)).heap[k]?) → GrAt W (sl (wo.heap.size + 1) 1) (sl (wo.heap.size + 2) 3) (.slice none 0 0) (sl (wo.heap.size + 9) 5) bentG18 ∧ Box W (wo.heap.size + 12) [.string ⟨#[103]⟩, sl (wo.heap.size + 1) 1, .int .u8 4, sl (wo.heap.size + 2) 3, .slice none 0 0, sl (wo.heap.size + 9) 5]) := fun W hW => call_gn wo W hW
   have HBC : Hid (Below wo.heap.size wo (allocs wo (objsCall wo)) ∧ (allocs wo (objsCall wo)).heap.size = wo.heap.size + 14) := ⟨allocs_below _ _, by simp [allocs, objsCall]⟩
   have HMN : Hid (QG ((allocs wo (objsCall wo)).alloc (.cells (madeCells zG6 390) 28)) w.heap.size (.slice (some ⟨(allocs wo (objsCall wo)).heap.size, 0, none⟩) 65 65) (mixS 0) (List.replicate 65 nilQ)) := many_new _ _ (by rw [HBC.out.2]; have := HRR.out.size; omega)
   rw [HBC.out.2] at HMN
   have hmk := make_graphs
   go_wp2_with (go_at_call 7; refine Calls.mono (small_z wo) ?_; rintro e w1 ⟨rfl, rfl⟩)
   have HKC0 : Hid (∀ k, wo.heap.size ≤ k → k < wo.heap.size + 14 → ((allocs wo (objsCall wo)).alloc (.cells (madeCells zG6 390) 28)).heap[k]? = (allocs wo (objsCall wo)).heap[k]?) := fun k _ hk => (below_alloc (Below.refl _ _) _).block k (by rw [HBC.out.2]; exact hk)
   have HB0 : Hid (Below w.heap.size w ((allocs wo (objsCall wo)).alloc (.cells (madeCells zG6 390) 28))) := below_trans HRR.out (below_alloc HBC.out.1 _)
   have HSZ0 : Hid (wo.heap.size + 14 ≤ ((allocs wo (objsCall wo)).alloc (.cells (madeCells zG6 390) 28)).heap.size) := by show _ ≤ _; rw [World.size_alloc, HBC.out.2]; omega
   clear hmk
   obtain ⟨gm, hgm⟩ : ∃ gm, gm = wo.heap.size + 14 := ⟨_, rfl⟩
   rw [← hgm] at HMN
   rw [← hgm]
   have HGM : Hid (gm = wo.heap.size + 14) := hgm
   clear hgm
   go_loopw [7] (fun vi wr => ∃ i : Nat, vi = .int .i64 i ∧ i ≤ 65 ∧ Hid (Below w.heap.size w wr ∧ (∀ k, wo.heap.size ≤ k → k < wo.heap.size + 14 → wr.heap[k]? = (allocs wo (objsCall wo)).heap[k]?) ∧ (wo.heap.size + 14 ≤ wr.heap.size ∧ ∃ qs, QG wr w.heap.size (.slice (some ⟨gm, 0, none⟩) 65 65) (mixS i) qs))) (fun vi _ => 65 - (intOf vi).toNat)
   case atStart => exact ⟨0, rfl, by omega, HB0.out, HKC0.out, HSZ0.out, _, HMN.out⟩
   case round =>
    obtain ⟨i, rfl, hi, hr⟩ := hrel
    generalize wr = wq at *
    have HRQ : Hid _ := hr.out
    clear hr HB0 HKC0 HMN
    by_cases hin : i < 65
    ·have hin' : (i : Int) < 65 := by omega
     obtain ⟨qs, hqs⟩ := HRQ.out.2.2.2
     have HQW : Hid (QG wq w.heap.size (.slice (some ⟨gm, 0, none⟩) 65 65) (mixS i) qs) := hqs
     clear hqs
     have HL : Hid ((mixS i).length = 65) := mixS_len (by omega)
     have hgw : w.heap.size ≤ gm := by have := HRR.out.size; have := HGM.out; omega
     have HSX : Hid (∀ W, Calls Tryz.prog 7 #[.bool true] W fun e w' => e = .returned (.agg #[.string ⟨#[103]⟩, sl (W.heap.size + 1) 1, .int .u8 4, sl (W.heap.size + 2) 3, .slice none 0 0, sl (W.heap.size + 9) 5]) ∧ w' = allocs W (objs true W.heap.size)) := small_x
     obtain ⟨n1, hn1⟩ : ∃ n1, n1 = wq.heap.size := ⟨_, rfl⟩
     have HS1 : Hid _ := HSX.out wq
     rw [← hn1] at HS1
     have hbs := allocs_below (objs true wq.heap.size) wq
     have HGN : Hid (∀ W : World, (∀ k, wq.heap.size ≤ k → k < (allocs wq (objs true wq.heap.size)).heap.size → W.heap[k]? = (allocs wq (objs true wq.heap.size)).heap[k]?) → GrAt W (sl (n1 + 1) 1) (sl (n1 + 2) 3) (.slice none 0 0) (sl (n1 + 9) 5) (smallG true)) := by subst hn1; exact small_gn wq
     rw [← hn1] at hbs HGN
     obtain ⟨W1, hW1⟩ : ∃ W1, W1 = allocs wq (objs true n1) := ⟨_, rfl⟩
     rw [← hW1] at HS1 hbs HGN
     have HW1 : Hid (Below wq.heap.size wq W1) := by rw [← hn1]; exact hbs
     have HQ1 : Hid (QG (putG W1 gm i (.string ⟨#[103]⟩) (sl (n1 + 1) 1) (.int .u8 4) (sl (n1 + 2) 3) (.slice none 0 0) (sl (n1 + 9) 5)) w.heap.size (.slice (some ⟨gm, 0, none⟩) 65 65) (mixS (i + 1)) (qs.set i (sl (n1 + 1) 1, sl (n1 + 2) 3, .slice none 0 0, sl (n1 + 9) 5))) := by
      show QG _ _ _ _ _
      rw [← mixS_set hin]
      exact QG.put (y := smallG true) (q := (sl (n1 + 1) 1, sl (n1 + 2) 3, .slice none 0 0, sl (n1 + 9) 5)) HQW.out HL.out.symm (by rw [HL.out]; exact hin) HW1.out (by rw [hn1] at HGN ⊢; exact HGN.out)
     have HP1 : Hid (Below w.heap.size w (putG W1 gm i (.string ⟨#[103]⟩) (sl (n1 + 1) 1) (.int .u8 4) (sl (n1 + 2) 3) (.slice none 0 0) (sl (n1 + 9) 5)) ∧ (∀ k, wo.heap.size ≤ k → k < wo.heap.size + 14 → (putG W1 gm i (.string ⟨#[103]⟩) (sl (n1 + 1) 1) (.int .u8 4) (sl (n1 + 2) 3) (.slice none 0 0) (sl (n1 + 9) 5)).heap[k]? = (allocs wo (objsCall wo)).heap[k]?) ∧ wo.heap.size + 14 ≤ (putG W1 gm i (.string ⟨#[103]⟩) (sl (n1 + 1) 1) (.int .u8 4) (sl (n1 + 2) 3) (.slice none 0 0) (sl (n1 + 9) 5)).heap.size) := by
      refine ⟨(((((((below_trans HRQ.out.1 HW1.out).setCell (p := ⟨gm, i * 6, none⟩) hgw _).setCell (p := ⟨gm, i * 6 + 1, none⟩) hgw _).setCell (p := ⟨gm, i * 6 + 2, none⟩) hgw _).setCell (p := ⟨gm, i * 6 + 3, none⟩) hgw _).setCell (p := ⟨gm, i * 6 + 4, none⟩) hgw _).setCell (p := ⟨gm, i * 6 + 5, none⟩) hgw _), fun k k1 k2 => ?_, ?_⟩
      ·rw [putG_keep W1 gm i _ _ _ _ _ _ (by have := HGM.out; omega)]
       exact (HW1.out.block k (by have := HRQ.out.2.2.1; omega)).trans (HRQ.out.2.1 k k1 k2)
      ·rw [putG_size]; have := HW1.out.size; have := HRQ.out.2.2.1; omega
     obtain ⟨g9, o9, z1, z2, z3, z4, hze, hgz, d0, d1, d2, d3, d4, d5, hGz⟩ := ((HQW.out.below HW1.out).at' (by rw [HL.out]; omega)).get (i := i) (by rw [HL.out]; exact hin)
     injection hze with hze
     injection hze with q1 q2
     subst q1 q2
     rw [Nat.zero_add] at d0 d1 d2 d3 d4 d5
     have hfz : ∀ k, W1.frozen? ⟨gm, k, none⟩ = false := fun k => by have h9 := (HQW.out.below HW1.out).row; rw [HL.out] at h9; exact h9.frozenAt k
     have hgl : gm < W1.heap.size := hgz
     obtain ⟨xa, xb, xc, xd, xe, xf, xg, xh, rfl, rfl, rfl, rfl, _, _, _, _⟩ := hGz.openF
     clear hGz hW1 hn1 hbs HGN HSX
     go_wp2_with (go_at_call 7; refine Calls.mono (by exact HS1.out) ?_; rintro e wx ⟨rfl, hwx⟩; subst wx)
     go_roundw
     case rel => exact ⟨i + 1, by first | rfl | (congr 1; omega), by omega, HP1.out.1, HP1.out.2.1, HP1.out.2.2, _, HQ1.out⟩
     case measure => simp [intOf]; omega
    ·obtain rfl : i = 65 := by omega
     obtain ⟨qs, hqs⟩ := HRQ.out.2.2.2
     have HQW : Hid (QG wq w.heap.size (.slice (some ⟨gm, 0, none⟩) 65 65) (mixS 65) qs) := hqs
     clear hqs
     have HL : Hid ((mixS 65).length = 65) := mixS_len (by omega)
     have HK1 : Hid (Calls Tryz.prog 5 #[.slice (some ⟨gm, 0, none⟩) 65 65] wq fun e w' => e = .returned (.tuple #[.int .i64 3, .int .i64 0]) ∧ Below wq.heap.size wq w') := by
      have h9 := HCK.out wq _ (mixS 65) HRQ.out.1 (HQW.out.at' (by rw [HL.out]; omega)) (fun h => by rw [HL.out] at h; omega)
      rw [chk_65] at h9
      exact h9
     have HK2 : Hid (∀ W, Below wq.heap.size wq W → Calls Tryz.prog 5 #[.slice (some ⟨gm, 0, none⟩) 64 65] W fun e w' => e = .returned (.tuple #[.int .i64 0, .int .i64 0]) ∧ Below W.heap.size W w') := fun W hb => by
      have h9 := HCK.out W _ ((mixS 65).take 64) (below_trans HRQ.out.1 hb) (grs_pre 64 ((HQW.out.below hb).at' (by rw [HL.out]; omega)) HL.out (by omega)) (fun _ => chk_64.2)
      rw [chk_64.1] at h9
      exact h9
     have hsl := slice_cutG (g := gm) (m := 65) (c := 65) (f := 64) (by omega) (by omega)
     have K1 : True := trivial
     have K2 : True := trivial
     clear HQW HL
     go_wp2_with (first
      | (go_at_call 5; clear K1; go_loud (refine Calls.mono (by exact HK1.out) ?_; rintro e w11 ⟨rfl, hb11⟩; have H11 : Hid (Below wq.heap.size wq w11) := hb11; clear hb11))
      | (go_at_call 5; clear K2; go_loud (refine Calls.mono (by exact HK2.out _ H11.out) ?_; rintro e w12 ⟨rfl, hb12⟩; have H12 : Hid (Below wq.heap.size wq w12) := below_trans H11.out hb12; clear hb12)))
     have HZ12 : Hid (Below w.heap.size w w12) := below_trans HRQ.out.1 H12.out
     have HCG : Hid (GrAt w12 (sl (wo.heap.size + 1) 1) (sl (wo.heap.size + 2) 3) (.slice none 0 0) (sl (wo.heap.size + 9) 5) bentG18 ∧ Box w12 (wo.heap.size + 12) [.string ⟨#[103]⟩, sl (wo.heap.size + 1) 1, .int .u8 4, sl (wo.heap.size + 2) 3, .slice none 0 0, sl (wo.heap.size + 9) 5]) := HCL.out w12 fun k k1 k2 => (H12.out.block k (by have := HRQ.out.2.2.1; omega)).trans (HRQ.out.2.1 k k1 k2)
     clear HCL HBC HK1 HK2 hsl H11 H12 HRQ HRR HGM
     have HSX : Hid (∀ W, Below w12.heap.size w12 W → W.cell? ⟨wo.heap.size + 12, 0, none⟩ = some (.string ⟨#[103]⟩) ∧ W.cell? ⟨wo.heap.size + 12, 1, none⟩ = some (sl (wo.heap.size + 1) 1) ∧ W.cell? ⟨wo.heap.size + 12, 2, none⟩ = some (.int .u8 4) ∧ W.cell? ⟨wo.heap.size + 12, 3, none⟩ = some (sl (wo.heap.size + 2) 3) ∧ W.cell? ⟨wo.heap.size + 12, 4, none⟩ = some (.slice none 0 0) ∧ W.cell? ⟨wo.heap.size + 12, 5, none⟩ = some (sl (wo.heap.size + 9) 5)) := fun W hb => box6 (HCG.out.2.below hb)
     refine wp_region_late (fun W => W.cell? ⟨wo.heap.size + 12, 0, none⟩ = some (.string ⟨#[103]⟩) ∧ W.cell? ⟨wo.heap.size + 12, 1, none⟩ = some (sl (wo.heap.size + 1) 1) ∧ W.cell? ⟨wo.heap.size + 12, 2, none⟩ = some (.int .u8 4) ∧ W.cell? ⟨wo.heap.size + 12, 3, none⟩ = some (sl (wo.heap.size + 2) 3) ∧ W.cell? ⟨wo.heap.size + 12, 4, none⟩ = some (.slice none 0 0) ∧ W.cell? ⟨wo.heap.size + 12, 5, none⟩ = some (sl (wo.heap.size + 9) 5)) (fun _ => false) (by kernel_rfl) (HSX.out _ (below_drew (Below.refl _ _))) (fun hHeld => ?_)
     have HD0 : Hid (Below w12.heap.size w12 w12.drew) := below_drew (Below.refl _ _)
     refine wpAnyL_take 0 (v := ?_) rfl (by kernel_rfl) (by kernel_rfl) (by kernel_rfl) (by kernel_rfl) (fun _ _ _ h => h) hHeld (Or.inl ⟨by kernel_rfl, ?_⟩) ?_
     rotate_left 1
     ·(intro w hSw; (try dsimp only at hSw); (try obtain ⟨s0, s1, s2, s3, s4, s5⟩ := hSw); first | (go_simp; done) | (go_simp; with_reducible rfl))
     simp only [Act.put, List.setIfInBounds_toArray]
     clear hHeld
     refine wpAnyL_one 1 (by kernel_rfl) rfl (fun K hK0 => ?_)
     have hK : Shut _ := hK0
     clear hK0
     go_simp
     refine Calls.mono (by exact HSM.out _) ?_
     rintro e x1 ⟨a1, b1, c1, rfl, hg, hb1⟩
     have HD1 : Hid (Below w12.heap.size w12 x1) := below_trans HD0.out hb1
     have HS1 : Hid _ := hg
     clear hg hb1
     have hHeld := HSX.out _ HD1.out
     dsimp only
     refine hK.out _ _ (fun _ => hHeld) ?_
     clear hK K
     clear hHeld
     refine wpAnyL_one 2 (by kernel_rfl) rfl (fun K hK0 => ?_)
     have hK : Shut _ := hK0
     clear hK0
     go_simp
     have HD2 : Hid (Below w12.heap.size w12 (x1.alloc (.cells #[.string ⟨#[103]⟩, sl (wo.heap.size + 1) 1, .int .u8 4, sl (wo.heap.size + 2) 3, .slice none 0 0, sl (wo.heap.size + 9) 5, .string ⟨#[103]⟩, sl a1 1, .int .u8 4, sl b1 3, .slice none 0 0, sl c1 5] 28))) := below_alloc HD1.out _
     have hHeld := HSX.out _ HD2.out
     refine hK.out _ _ (fun _ => hHeld) ?_
     clear hK K hHeld
     have HKC : Hid (Calls Tryz.prog 5 #[sl x1.heap.size 2] (x1.alloc (.cells #[.string ⟨#[103]⟩, sl (wo.heap.size + 1) 1, .int .u8 4, sl (wo.heap.size + 2) 3, .slice none 0 0, sl (wo.heap.size + 9) 5, .string ⟨#[103]⟩, sl a1 1, .int .u8 4, sl b1 3, .slice none 0 0, sl c1 5] 28)) fun e w' => e = .returned (.tuple #[.int .i64 0, .int .i64 0]) ∧ Below (x1.alloc (.cells #[.string ⟨#[103]⟩, sl (wo.heap.size + 1) 1, .int .u8 4, sl (wo.heap.size + 2) 3, .slice none 0 0, sl (wo.heap.size + 9) 5, .string ⟨#[103]⟩, sl a1 1, .int .u8 4, sl b1 3, .slice none 0 0, sl c1 5] 28)).heap.size (x1.alloc (.cells #[.string ⟨#[103]⟩, sl (wo.heap.size + 1) 1, .int .u8 4, sl (wo.heap.size + 2) 3, .slice none 0 0, sl (wo.heap.size + 9) 5, .string ⟨#[103]⟩, sl a1 1, .int .u8 4, sl b1 3, .slice none 0 0, sl c1 5] 28)) w') := by
      have h9 := HCK.out _ _ [bentG18, smallG true] (below_trans HZ12.out HD2.out) (grs_l2 x1 bentG18 (smallG true) _ _ _ _ _ _ _ _ (HCG.out.1.below HD1.out) HS1.out) (fun _ => by decide +kernel)
      rw [chk_call] at h9
      exact h9
     refine wpAnyL_one 3 (by kernel_rfl) rfl (fun K hK0 => ?_)
     have hK : Shut _ := hK0
     clear hK0
     go_simp
     refine Calls.mono (by exact HKC.out) ?_
     rintro e x3 ⟨rfl, hb3⟩
     have HD3 : Hid (Below w12.heap.size w12 x3) := below_trans HD2.out hb3
     clear hb3 HKC
     have hHeld := HSX.out _ HD3.out
     dsimp only
     refine hK.out _ _ (fun _ => hHeld) ?_
     clear hK K
     refine wpAnyL_take 4 (v := ?_) rfl (by kernel_rfl) (by kernel_rfl) (by kernel_rfl) (by kernel_rfl) (fun _ _ _ h => h) hHeld (Or.inl ⟨by kernel_rfl, ?_⟩) ?_
     rotate_left 1
     ·(intro w hSw; (try dsimp only at hSw); (try obtain ⟨s0, s1, s2, s3, s4, s5⟩ := hSw); first | (go_simp; done) | (go_simp; with_reducible rfl))
     simp only [Act.put]
     refine wpAnyL_take 5 (v := ?_) rfl (by kernel_rfl) (by kernel_rfl) (by kernel_rfl) (by kernel_rfl) (fun _ _ _ h => h) hHeld (Or.inl ⟨by kernel_rfl, ?_⟩) ?_
     rotate_left 1
     ·(intro w hSw; (try dsimp only at hSw); (try obtain ⟨s0, s1, s2, s3, s4, s5⟩ := hSw); first | (go_simp; done) | (go_simp; with_reducible rfl))
     simp only [Act.put]
     refine wpAnyL_take 6 (v := ?_) rfl (by kernel_rfl) (by kernel_rfl) (by kernel_rfl) (by kernel_rfl) (fun _ _ _ h => h) hHeld (Or.inl ⟨by kernel_rfl, ?_⟩) ?_
     rotate_left 1
     ·(intro w hSw; (try dsimp only at hSw); (try obtain ⟨s0, s1, s2, s3, s4, s5⟩ := hSw); first | (go_simp; done) | (go_simp; with_reducible rfl))
     simp only [Act.put]
     refine wpAnyL_take 7 (v := ?_) rfl (by kernel_rfl) (by kernel_rfl) (by kernel_rfl) (by kernel_rfl) (fun _ _ _ h => h) hHeld (Or.inl ⟨by kernel_rfl, ?_⟩) ?_
     rotate_left 1
     ·(intro w hSw; (try dsimp only at hSw); (try obtain ⟨s0, s1, s2, s3, s4, s5⟩ := hSw); first | (go_simp; done) | (go_simp; with_reducible rfl))
     simp only [Act.put]
     refine wpAnyL_take 8 (v := ?_) rfl (by kernel_rfl) (by kernel_rfl) (by kernel_rfl) (by kernel_rfl) (fun _ _ _ h => h) hHeld (Or.inl ⟨by kernel_rfl, ?_⟩) ?_
     rotate_left 1
     ·(intro w hSw; (try dsimp only at hSw); (try obtain ⟨s0, s1, s2, s3, s4, s5⟩ := hSw); first | (go_simp; done) | (go_simp; with_reducible rfl))
     simp only [Act.put]
     clear hHeld
     refine ⟨by kernel_rfl, ?_⟩
     have HE3 : Hid (Below w.heap.size w x3) := below_trans HZ12.out HD3.out
     clear HSX HCG HD0 HD1 HD2 HD3 HZ12
     go_simp
     have HKN : Hid (∀ W, Below w.heap.size w W → Calls Tryz.prog 5 #[.slice none 0 0] W fun e w' => e = .returned (.tuple #[.int .i64 0, .int .i64 0]) ∧ Below W.heap.size W w') := fun W hb => HCK.out W _ [] hb (grs_nil W) (fun _ G hG => by cases hG)
     have HKZ : Hid (∀ W, Below w.heap.size w W → Calls Tryz.prog 5 #[sl W.heap.size 1] (W.alloc (.cells #[.string ⟨#[]⟩, .slice none 0 0, .int .u8 0, .slice none 0 0, .slice none 0 0, .slice none 0 0] 28)) fun e w' => e = .returned (.tuple #[.int .i64 4, .int .i64 0]) ∧ Below W.heap.size W w') := fun W hb => by
      have h9 := HCK.out (W.alloc (.cells #[.string ⟨#[]⟩, .slice none 0 0, .int .u8 0, .slice none 0 0, .slice none 0 0, .slice none 0 0] 28)) (sl W.heap.size 1) [zeroG] (below_alloc hb _) (grs_l1 W zeroG _ _ _ _ (zero_at W)) (fun _ G hG => by simp at hG; subst hG; decide)
      rw [chk_zero] at h9
      exact h9.mono fun e w' ⟨h1, h2⟩ => ⟨h1, below_trans (below_alloc (Below.refl _ _) _) h2⟩
     have HRW : Hid (∀ y : World, (∀ k o, (objsRows y)[k]? = some o → (allocs y (objsRows y)).heap[y.heap.size + k]? = some o) ∧ (allocs y (objsRows y)).heap.size = y.heap.size + 16 ∧ Below y.heap.size y (allocs y (objsRows y))) := fun y => ⟨fun k o h => allocs_get (objsRows y) y k o h, by simp [allocs, objsRows], allocs_below _ _⟩
     have HOW : Hid (∀ y : World, (allocs y (objsRows y)).ownsRow y.heap.size 23 1 (sl (y.heap.size + 2) 3) 3 [bytV 4, bytV 1, bytV 4]) := fun y => own_heap ((HRW.out y).1 2 _ rfl) (by omega) rfl (by decide)
     obtain ⟨i0, hi0, hz0, hz1, hz2⟩ := info_parts (P := Tryz.prog) infoTy
     have K1 : True := trivial
     have K2 : True := trivial
     clear HS1
     go_wp2_with (first
      | (go_at_call 5; clear K1; go_loud (refine Calls.mono (by exact HKN.out _ HE3.out) ?_; rintro e y1 ⟨rfl, hb⟩; have HE4 : Hid (Below w.heap.size w y1) := below_trans HE3.out hb; clear hb))
      | (go_at_call 5; clear K2; go_loud (refine Calls.mono (by exact HKZ.out _ HE4.out) ?_; rintro e y2 ⟨rfl, hb⟩; have HE5 : Hid (Below w.heap.size w y2) := below_trans HE4.out hb; clear hb))
      | (go_at_call 7; refine Calls.mono (small_z y2) ?_; rintro e w1 ⟨rfl, rfl⟩)
      | (at_builtin; go_loud (refine wpList_append_own_at _ rfl _ _ 24 rfl y2.heap.size 23 i0 (.int .u8 0) 1 1 Tryz.underlying24 hi0 hz0 hz1 hz2 rfl (by decide) _ 3 [bytV 4, bytV 1, bytV 4] rfl (by exact HOW.out y2) ⟨y2.heap.size + 15, 0, none⟩ 5 5 [bytV 4, bytV 4, bytV 4, bytV 4, bytV 4] rfl rfl ?c1 ?c2 ?c3 ?c4 ?c5 ?_)))
     case c1 => intro j u hj; rw [Addr.add_lit, Nat.zero_add]; exact (Box.of (W := allocs y2 (objsRows y2)) ((HRW.out y2).1 15 _ rfl)).cell j u hj
     case c2 => intro u hu; simp only [List.mem_cons, List.not_mem_nil, or_false] at hu; rcases hu with rfl | rfl | rfl | rfl | rfl <;> rfl
     case c3 => first | (unfold maxLen; omega) | omega | decide
     case c4 => omega
     case c5 => have h9 := (HRW.out y2).2.1; first | (show y2.heap.size ≤ (allocs y2 (objsRows y2)).heap.size; omega) | (simp; omega)
     intro v2 w2 ho hg _ hat
     obtain ⟨g2, c2, rfl, _, _, _, _⟩ := own_form ho
     have HGR : Hid ((allocs y2 (objsRows y2)).grownBy w2 (some (y2.heap.size + 2))) := hg
     have HO2 : Hid (w2.ownsRow y2.heap.size 23 1 (.slice (some ⟨g2, 0, none⟩) 8 c2) 8 [bytV 4, bytV 1, bytV 4, bytV 4, bytV 4, bytV 4, bytV 4, bytV 4]) := ho
     have HAT : Hid (g2 = y2.heap.size + 2 ∨ g2 = y2.heap.size + 16) := by
      rcases hat with e | e
      ·exact .inl (by injection e)
      ·right
       have e2 : some g2 = some (y2.heap.size + 16) := e
       injection e2
     clear ho hg hat HOW HKN HKZ
     have HK : Hid (∀ k o, (objsRows y2)[k]? = some o → k ≠ 2 → w2.heap[y2.heap.size + k]? = some o) := fun k o h hk => by
      have hl : k < (objsRows y2).length := (List.getElem?_eq_some_iff.1 h).1
      have hl2 : k < 16 := hl
      exact (HGR.out.block _ (by rw [(HRW.out y2).2.1]; omega) (fun e => by injection e; omega)).trans ((HRW.out y2).1 k o h)
     have HB2 : Hid (Below y2.heap.size y2 w2) := below_grown (HRW.out y2).2.2 HGR.out (fun q hq => by injection hq; omega)
     have BX : Hid (Box w2 (y2.heap.size + 12) [.string ⟨#[103]⟩, sl (y2.heap.size + 14) 8, bytV 4, sl (y2.heap.size + 2) 3, sl (y2.heap.size + 13) 1, sl (y2.heap.size + 9) 5]) := Box.of (HK.out 12 _ rfl (by decide))
     have cX := BX.out.cell 3 _ rfl
     have fX := BX.out.fz
     have lX := BX.out.lt
     have B12 : Hid (Box (w2.setCell ⟨y2.heap.size + 12, 3, none⟩ (.slice (some ⟨g2, 0, none⟩) 8 c2)) (y2.heap.size + 12) [.string ⟨#[103]⟩, sl (y2.heap.size + 14) 8, bytV 4, .slice (some ⟨g2, 0, none⟩) 8 c2, sl (y2.heap.size + 13) 1, sl (y2.heap.size + 9) 5]) := BX.out.set (j := 3) (by simp) _
     obtain ⟨p0, p1, p2, p3, p4, p5⟩ := box6 B12.out
     have HB3 : Hid (Below y2.heap.size y2 (w2.setCell ⟨y2.heap.size + 12, 3, none⟩ (.slice (some ⟨g2, 0, none⟩) 8 c2))) := HB2.out.setCell (p := ⟨y2.heap.size + 12, 3, none⟩) (by show y2.heap.size ≤ y2.heap.size + 12; omega) _
     have HRG : Hid (GrAt (w2.setCell ⟨y2.heap.size + 12, 3, none⟩ (.slice (some ⟨g2, 0, none⟩) 8 c2)) (sl (y2.heap.size + 14) 8) (.slice (some ⟨g2, 0, none⟩) 8 c2) (sl (y2.heap.size + 13) 1) (sl (y2.heap.size + 9) 5) rowsG) := by
      have kp : ∀ q, q ≠ y2.heap.size + 12 → (w2.setCell ⟨y2.heap.size + 12, 3, none⟩ (.slice (some ⟨g2, 0, none⟩) 8 c2)).heap[q]? = w2.heap[q]? := fun q hq => Below.heap_setCell w2 ⟨y2.heap.size + 12, 3, none⟩ _ q hq
      refine rows_gn y2 _ _ (fun k hk h2 h12 => ?_) ?_
      ·exact (kp _ (by omega)).trans (HGR.out.block _ (by rw [(HRW.out y2).2.1]; omega) (fun e => by injection e; omega))
      ·refine row_own (owns_same HO2.out fun q hq => ?_) (by show 8 ≤ 1000000; omega)
       have e : q = g2 := by injection hq with hq; exact hq.symm
       subst e
       rcases HAT.out with e | e
       ·exact kp _ (by omega)
       ·exact kp _ (by omega)
     have HKR : Hid (Calls Tryz.prog 5 #[sl w2.heap.size 1] ((w2.setCell ⟨y2.heap.size + 12, 3, none⟩ (.slice (some ⟨g2, 0, none⟩) 8 c2)).alloc (.cells #[.string ⟨#[103]⟩, sl (y2.heap.size + 14) 8, .int .u8 4, .slice (some ⟨g2, 0, none⟩) 8 c2, sl (y2.heap.size + 13) 1, sl (y2.heap.size + 9) 5] 28)) fun e w' => e = .returned (.tuple #[.int .i64 0, .int .i64 0]) ∧ Below y2.heap.size y2 w') := by
      have e9 : (w2.setCell ⟨y2.heap.size + 12, 3, none⟩ (.slice (some ⟨g2, 0, none⟩) 8 c2)).heap.size = w2.heap.size := by simp [World.setCell]
      have h9 := HCK.out ((w2.setCell ⟨y2.heap.size + 12, 3, none⟩ (.slice (some ⟨g2, 0, none⟩) 8 c2)).alloc (.cells #[.string ⟨#[103]⟩, sl (y2.heap.size + 14) 8, .int .u8 4, .slice (some ⟨g2, 0, none⟩) 8 c2, sl (y2.heap.size + 13) 1, sl (y2.heap.size + 9) 5] 28)) (sl (w2.setCell ⟨y2.heap.size + 12, 3, none⟩ (.slice (some ⟨g2, 0, none⟩) 8 c2)).heap.size 1) [rowsG] (below_alloc (below_trans HE5.out HB3.out) _) (grs_l1 _ rowsG _ _ _ _ HRG.out) (fun _ G hG => by simp at hG; subst hG; decide)
      rw [chk_rows, e9] at h9
      exact h9.mono fun e w' ⟨h1, h2⟩ => ⟨h1, below_trans (below_alloc HB3.out _) h2⟩
     have HTS : Hid (∀ W (a b c : Nat), GrAt W (sl a 1) (sl b 3) (.slice none 0 0) (sl c 5) (smallG true) → Calls Tryz.prog 9 #[.agg #[.string ⟨#[103]⟩, sl a 1, .int .u8 4, sl b 3, .slice none 0 0, sl c 5]] W fun e w' => ∃ pa pc va vc aa ac ba bc k1 k2 k3, e = .returned (.agg #[.string ⟨#[103]⟩, .slice pa k1 pc, .int .u8 4, .slice va k2 vc, .slice aa k3 ac, .slice ba 4 bc]) ∧ GrAt w' (.slice pa k1 pc) (.slice va k2 vc) (.slice aa k3 ac) (.slice ba 4 bc) (trimG (smallG true)) ∧ Below W.heap.size W w') := fun W a b c hg => by
      refine (trim_all (smallG true) _ _ _ _ W hg (by decide) (by decide) (by decide) (by decide) (by decide) (by decide)).mono ?_
      rintro e w' ⟨q1, q2, q3, q4, rfl, hgn, hb⟩
      have hG := hgn w' (fun _ _ _ => rfl)
      obtain ⟨pa, pc, va, vc, aa, ac, ba, bc, rfl, rfl, rfl, rfl, _, _, _, _⟩ := hG.openF
      rw [trim_small.1] at hG ⊢
      exact ⟨_, _, _, _, _, _, _, _, _, _, _, rfl, hG, hb⟩
     have HTL : Hid (∀ W, Calls Tryz.prog 9 #[.agg #[.string ⟨#[]⟩, .slice none 0 0, .int .u8 0, .slice none 0 0, .slice none 0 0, sl (W.heap.size + 2) 5]] (allocs W (objsLate W)) fun e w' => ∃ pa pc va vc aa ac ba bc k1 k2 k3, e = .returned (.agg #[.string ⟨#[]⟩, .slice pa k1 pc, .int .u8 0, .slice va k2 vc, .slice aa k3 ac, .slice ba 4 bc]) ∧ GrAt w' (.slice pa k1 pc) (.slice va k2 vc) (.slice aa k3 ac) (.slice ba 4 bc) (trimG lateG) ∧ Below W.heap.size W w') := fun W => by
      refine (trim_all lateG _ _ _ _ (allocs W (objsLate W)) (late_at W) (by decide) (by decide) (by decide) (by decide) (by decide) (by decide)).mono ?_
      rintro e w' ⟨q1, q2, q3, q4, rfl, hgn, hb⟩
      have hG := hgn w' (fun _ _ _ => rfl)
      obtain ⟨pa, pc, va, vc, aa, ac, ba, bc, rfl, rfl, rfl, rfl, _, _, _, _⟩ := hG.openF
      rw [trim_late.1] at hG ⊢
      exact ⟨_, _, _, _, _, _, _, _, _, _, _, rfl, hG, below_trans (allocs_below _ _) hb⟩
     have HAR : Hid (∀ W p v a b, GrAt W p v a b (trimG (smallG true)) → Calls Tryz.prog 11 #[.agg #[.string ⟨#[103]⟩, p, .int .u8 4, v, a, b], .int .i64 3] W fun e w' => ∃ v, e = .returned v ∧ IntsAt w' v [0, 2] ∧ Below W.heap.size W w') := fun W p v a b hg => by
      have h9 := args_any (trimG (smallG true)) p v a b 3 W hg (by rw [trim_small.1]; decide) trim_small.2.2
      rw [trim_small.2.1] at h9
      exact h9
     have HAL : Hid (∀ W p v a b, GrAt W p v a b (trimG lateG) → Calls Tryz.prog 11 #[.agg #[.string ⟨#[]⟩, p, .int .u8 0, v, a, b], .int .i64 3] W fun e w' => ∃ v, e = .returned v ∧ IntsAt w' v [9, 8] ∧ Below W.heap.size W w') := fun W p v a b hg => by
      have h9 := args_any (trimG lateG) p v a b 3 W hg (by rw [trim_late.1]; decide) trim_late.2.2
      rw [trim_late.2.1] at h9
      exact h9
     have HSA : Hid (∀ W (l : List Int) (v1 v2 : Value), IntsAt W v1 l → IntsAt W v2 l → Calls Tryz.prog 10 #[v1, v2] W fun e w' => e = .returned (.bool true) ∧ Below W.heap.size W w') := fun W l v1 v2 h1 h2 => by
      have h9 := same_any l l v1 v2 W h1 h2
      rw [decide_eq_true rfl] at h9
      exact h9
     have HOZ : Hid (∀ W, Calls Tryz.prog 12 #[.agg #[.string ⟨#[]⟩, .slice none 0 0, .int .u8 0, .slice none 0 0, .slice none 0 0, .slice none 0 0]] W fun e w' => ∃ a c, e = .returned (.slice a 0 c) ∧ Below W.heap.size W w') := fun W => by
      refine (order_any zeroG _ _ _ _ W (zero_at W) (by decide)).mono ?_
      rintro e w' ⟨v, rfl, ho, hb⟩
      have h1 := OwnI.at' ho (by decide)
      obtain ⟨a, c, rfl, _⟩ := h1.form
      exact ⟨a, c, rfl, hb⟩
     have HAZ : Hid (∀ W, Calls Tryz.prog 13 #[.agg #[.string ⟨#[]⟩, .slice none 0 0, .int .u8 0, .slice none 0 0, .slice none 0 0, .slice none 0 0]] W fun e w' => ∃ a c, e = .returned (.slice a 0 c) ∧ Below W.heap.size W w') := fun W => by
      refine (ahead_any zeroG _ _ _ _ W (zero_at W) (by decide)).mono ?_
      rintro e w' ⟨kv, rfl, _, hb⟩
      exact ⟨_, _, rfl, hb⟩
     have HOD : Hid (∀ W o, Below w.heap.size w W → Calls Tryz.prog 8 #[.agg #[.string ⟨#[]⟩, .slice none 0 0, .int .u8 0, .slice none 0 0, .slice none 0 0, sl W.heap.size 2]] ((allocs W (objsOdd W)).alloc o) fun e w' => e = .returned (.bool true) ∧ Below W.heap.size W w') := fun W o hb => (HGS.out ((allocs W (objsOdd W)).alloc o) oddG _ _ _ _ (below_alloc (below_trans hb (allocs_below _ _)) _) ((odd_at W).below (below_alloc (Below.refl _ _) _))).mono fun e w' ⟨h1, h2⟩ => ⟨h1, below_trans (below_alloc (allocs_below _ _) _) h2⟩
     have K3 : True := trivial
     have S2 : True := trivial
     have T1 : True := trivial
     have T2 : True := trivial
     have A1 : True := trivial
     have A2 : True := trivial
     have I1 : True := trivial
     have I2 : True := trivial
     clear BX HGR HAT HK HO2 B12 HRW hi0 hz0 hz1 hz2 HCK HPA HGS HRG HB2
     go_wp2_with (first
      | (go_at_call 5; clear K3; go_loud (refine Calls.mono (by exact HKR.out) ?_; rintro e y3 ⟨rfl, hb⟩; have HE6 : Hid (Below w.heap.size w y3) := below_trans HE5.out hb; clear hb HKR p0 p1 p2 p3 p4 p5 cX fX lX))
      | (go_at_call 7; clear S2; go_loud (refine Calls.mono (by exact HSM.out _) ?_; rintro e y4 ⟨a4, b4, c4, rfl, hg, hb⟩; have HG4 : Hid _ := hg; have HE7 : Hid (Below w.heap.size w y4) := below_trans HE6.out hb; clear hg hb))
      | (go_at_call 9; clear T1; go_loud (refine Calls.mono (by exact HTS.out _ _ _ _ HG4.out) ?_; rintro e y5 ⟨qa, qb, qc, qd, qe, qf, qg, qh, k1, k2, k3, rfl, hg, hb⟩; have HG5 : Hid _ := hg; have HE8 : Hid (Below w.heap.size w y5) := below_trans HE7.out hb; clear hg hb HTS HG4))
      | (go_at_call 11; clear A1; go_loud (refine Calls.mono (by exact HAR.out _ _ _ _ _ (HG5.out.below (below_alloc (Below.refl _ _) _))) ?_; rintro e y6 ⟨r6, rfl, hi6, hb⟩; have HI6 : Hid _ := hi6; have HE9 : Hid (Below w.heap.size w y6) := below_trans (below_alloc HE8.out _) hb; clear hi6 hb HAR HG5))
      | (go_at_call 10; clear I1; go_loud (refine Calls.mono (by exact HSA.out _ [0, 2] _ _ (HI6.out.below (below_alloc (Below.refl _ _) _)) (ints_new y6 [0, 2] (by decide))) ?_; rintro e y7 ⟨rfl, hb⟩; have HE10 : Hid (Below w.heap.size w y7) := below_trans (below_alloc HE9.out _) hb; clear hb HI6))
      | (go_at_call 12; go_loud (refine Calls.mono (by exact HOZ.out _) ?_; rintro e y8 ⟨r8, s8, rfl, hb⟩; have HE11 : Hid (Below w.heap.size w y8) := below_trans HE10.out hb; clear hb HOZ))
      | (go_at_call 13; go_loud (refine Calls.mono (by exact HAZ.out _) ?_; rintro e y9 ⟨r9, s9, rfl, hb⟩; have HE12 : Hid (Below w.heap.size w y9) := below_trans HE11.out hb; clear hb HAZ))
      | (go_at_call 9; clear T2; go_loud (refine Calls.mono (by exact HTL.out y9) ?_; rintro e y10 ⟨qa, qb, qc, qd, qe, qf, qg, qh, k1, k2, k3, rfl, hg, hb⟩; have HG10 : Hid _ := hg; have HE13 : Hid (Below w.heap.size w y10) := below_trans HE12.out hb; clear hg hb HTL))
      | (go_at_call 11; clear A2; go_loud (refine Calls.mono (by exact HAL.out _ _ _ _ _ (HG10.out.below (below_alloc (Below.refl _ _) _))) ?_; rintro e y11 ⟨r11, rfl, hi11, hb⟩; have HI11 : Hid _ := hi11; have HE14 : Hid (Below w.heap.size w y11) := below_trans (below_alloc HE13.out _) hb; clear hi11 hb HAL HG10))
      | (go_at_call 10; clear I2; go_loud (refine Calls.mono (by exact HSA.out _ [9, 8] _ _ (HI11.out.below (below_alloc (Below.refl _ _) _)) (ints_new y11 [9, 8] (by decide))) ?_; rintro e y12 ⟨rfl, hb⟩; have HE15 : Hid (Below w.heap.size w y12) := below_trans (below_alloc HE14.out _) hb; clear hb HI11))
      | (go_at_call 8; go_loud (refine Calls.mono (by exact HOD.out y12 _ HE15.out) ?_; rintro e y13 ⟨rfl, hb⟩; have HE16 : Hid (Below w.heap.size w y13) := below_trans HE15.out hb; clear hb))
      | (go_at_call 14; go_loud (refine Calls.mono (by exact HAW.out _ HE16.out) ?_; rintro e y14 ⟨rfl, hb⟩; have HE17 : Hid (Below w.heap.size w y14) := below_trans HE16.out hb; clear hb)))
     go_ret
     exact ⟨rfl, HE17.out⟩
end Go.Proofs.YtobnpllppohofaaGreatDoor
