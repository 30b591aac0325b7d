/- The blocks that are reached, in reverse postorder. -/
import Derived.Test.YtabpnjakfoofpaaGreatDoorGAhd2M
import Derived.Deep.OwnRows
import Derived.Test.YtabpnjakfoofpaaGreatDoorGRW2
namespace Go.Proofs.YtabpnjakfoofpaaGreatDoor
open Go.RowKit

theorem walk_all {w0 : World} {gcs : List Value} {bv : Value} {bs : List Bl} (hB : BlsAt w0 bv bs) (h5 : gcs[5]? = some bv) (hn : bs.length ≤ 4000) : ∀ f, DoesWalk w0 bs.length gcs (tms bs) f
  | 0 => walk_step hB h5 hn (fun f' he => by omega)
  | f + 1 => walk_step hB h5 hn (fun f' he => by cases he; exact walk_all hB h5 hn f)
abbrev nilV : Value := .slice none 0 0
theorem infoB : (Tryz.prog.info? 4).map (fun i => (i.zero, i.size, i.bytes)) = some (some (.bool false), 1, 1) := by kernel_rfl
theorem made_bools (n : Nat) : (madeCells #[.bool false] n).toList = (List.replicate n false).map Value.bool := by
  rw [toList_madeCells_one]
  simp
theorem ws_init (w : World) (gcs : List Value) (n : Nat) (hn : n ≤ 4000) (ta tb tc td te tf : TypeId) :
    WS w n gcs (((((((w.alloc (.cells gcs.toArray ta)).alloc (.cells (madeCells #[.bool false] n) 4)).alloc (.cells #[metV w.heap.size n] tb)).alloc (.cells #[nilV] tc)).alloc (.cells #[nilV] td)).alloc (.cells #[meetV w.heap.size] te)).alloc (.cells #[walkV w.heap.size] tf)) nilV nilV (List.replicate n false) [] [] := by
  have e1 : ∀ (W : World) (o : Obj), (W.alloc o).heap.size = W.heap.size + 1 := fun W o => by simp
  have b0 := Box.new w gcs ta
  have r1 := World.ownsRow_lit (base := w.heap.size) (e := 4) (size := 1) (w.alloc (.cells gcs.toArray ta)) (madeCells #[.bool false] n) n (by rw [e1]; omega) (by unfold maxLen; omega) (by simp [size_madeCells])
  have b2 := Box.new ((w.alloc (.cells gcs.toArray ta)).alloc (.cells (madeCells #[.bool false] n) 4)) [metV w.heap.size n] tb
  generalize hW2 : (w.alloc (.cells gcs.toArray ta)).alloc (.cells (madeCells #[.bool false] n) 4) = W2 at *
  have l1 : Below (w.alloc (.cells gcs.toArray ta)).heap.size (w.alloc (.cells gcs.toArray ta)) W2 := by rw [← hW2]; exact below_alloc (Below.refl _ _) _
  have s2 : W2.heap.size = w.heap.size + 2 := by rw [← hW2, e1, e1]
  have b0' := b0.below l1
  have bw : Below w.heap.size w W2 := below_trans (below_alloc (Below.refl _ _) _) l1
  rw [e1] at r1
  rw [s2] at b2
  have b3 := Box.new (W2.alloc (.cells #[metV w.heap.size n] tb)) [nilV] tc
  have b4 := Box.new ((W2.alloc (.cells #[metV w.heap.size n] tb)).alloc (.cells #[nilV] tc)) [nilV] td
  have b5 := Box.new (((W2.alloc (.cells #[metV w.heap.size n] tb)).alloc (.cells #[nilV] tc)).alloc (.cells #[nilV] td)) [meetV w.heap.size] te
  have b6 := Box.new ((((W2.alloc (.cells #[metV w.heap.size n] tb)).alloc (.cells #[nilV] tc)).alloc (.cells #[nilV] td)).alloc (.cells #[meetV w.heap.size] te)) [walkV w.heap.size] tf
  simp only [e1, s2] at b3 b4 b5 b6
  have al : ∀ (W : World) (o : Obj), Below W.heap.size W (W.alloc o) := fun W o => below_alloc (Below.refl _ _) o
  refine ⟨?_, ?_, World.ownsRow_nil _ _ _ _, World.ownsRow_nil _ _ _ _, ?_, ?_, ?_, ?_, ?_, b6, by simp [Value.ownBlock]⟩
  · exact below_alloc (below_alloc (below_alloc (below_alloc (below_alloc bw _) _) _) _) _
  · rw [made_bools] at r1
    exact ((((r1.alloc _).alloc _).alloc _).alloc _).alloc _
  · exact ((((b0'.below (al _ _)).below (al _ _)).below (al _ _)).below (al _ _)).below (al _ _)
  · exact (((b2.below (al _ _)).below (al _ _)).below (al _ _)).below (al _ _)
  · exact ((b3.below (al _ _)).below (al _ _)).below (al _ _)
  · exact (b4.below (al _ _)).below (al _ _)
  · exact b5.below (al _ _)
theorem store_func (a : Addr) (fn : Fn) (f c : Array Value) (m : Mode) (w : World) : (store a (.func fn f c) m).run Tryz.prog w = stored Tryz.prog w a (.func fn f c) m := run_store Tryz.prog w a _ m rfl
def pathLen (B : Nat) (w : World) : Nat := match w.cell? ⟨B + 3, 0, none⟩ with
  | some (.slice _ m _) => m
  | _ => 0
set_option maxRecDepth 100000 in
set_option maxHeartbeats 2000000 in
theorem order_any (G : Gr) (pv vv av bv : Value) (w : World) (h : GrAt w pv vv av bv G) (hn : G.blocks.length ≤ 4000) :
    Calls Tryz.prog 13 #[.agg #[.string G.name, pv, .int .u8 G.result, vv, av, bv]] w fun e w' => ∃ v, e = .returned v ∧ OwnI w' w.heap.size v (orderT (tms G.blocks)) ∧ Below w.heap.size w w' := by
  obtain ⟨nm, ps, r, vs, ars, bs⟩ := G
  have hB := h.bs
  dsimp only at hB hn ⊢
  clear h
  obtain ⟨a, c, rfl, _⟩ := hB.form
  by_cases h0 : bs.length = 0
  · have hb0 : bs = [] := List.eq_nil_of_length_eq_zero h0
    subst hb0
    clear hB
    go_enter Tryz.func13, Tryz.ntmps13
    go_wp2
    go_ret
    exact ⟨_, rfl, World.ownsRow_nil _ _ _ _, below_alloc (Below.refl _ _) _⟩
  · have HW : Hid _ := walk_all (gcs := [.string nm, pv, .int .u8 r, vv, av, .slice a bs.length c]) hB rfl hn bs.length
    have hne : (((bs.length : Nat) : Int) == 0) = false := beq_false_of_ne (by omega)
    generalize hbn : bs.length = n at *
    have HBN : Hid _ := hbn
    have hmk := run_make_row' (P := Tryz.prog) 66 4 (.bool false) 1 Tryz.underlying66 infoB rfl .i64 .i64 n (by omega) (by omega)
    have HWS : Hid _ := ws_init w [.string nm, pv, .int .u8 r, vv, av, .slice a n c] n hn 28 66 22 22 67 68
    have HME : Hid _ := meet_any HWS.out 0 (by omega) (by simp)
    have hn0 : 0 < n := by omega
    have hsf := store_func
    clear hbn hB
    go_enter Tryz.func13, Tryz.ntmps13
    go_wp2_with (go_at_call 30; go_loud (refine Calls.mono (by exact HME.out) ?_; rintro e w2 ⟨rfl, p2, hS2, hM2⟩; have HS2 : Hid _ := hS2; clear hS2 hM2))
    have HTS : Hid ((tms bs).length = n) := by show _ = _; rw [← HBN.out]; simp [tms]
    have HOR : Hid (orderT (tms bs) = (dfs (tms bs) n 0 ((List.replicate n false).set 0 true) []).2.reverse) := by
      show _ = _
      unfold orderT
      rw [HTS.out, if_neg (by omega)]
    have HWK : Hid (∀ (W : World) (p' l' : Value), WS w n [.string nm, pv, .int .u8 r, vv, av, .slice a n c] W p' l' ((List.replicate n false).set 0 true) [(0 : Int)] [] → Calls Tryz.prog 31 #[.int .i64 0, ptr (w.heap.size + 3), ptr w.heap.size, ptr (w.heap.size + 2), ptr (w.heap.size + 5), ptr (w.heap.size + 6), ptr (w.heap.size + 4)] W fun e w' => e = .returned (.bool true) ∧ ∃ pv' lv', WS w n [.string nm, pv, .int .u8 r, vv, av, .slice a n c] w' pv' lv' (dfs (tms bs) n 0 ((List.replicate n false).set 0 true) []).1 [] (dfs (tms bs) n 0 ((List.replicate n false).set 0 true) []).2 ∧ WM w.heap.size W p' l' w' pv' lv') := fun W p' l' hw => by
      have hc : cntF ((List.replicate n false).set 0 true) ≤ n := by
        unfold cntF
        refine Nat.le_trans List.count_le_length ?_
        simp
      have := HW.out W p' l' ((List.replicate n false).set 0 true) [] [] 0 0 hw hn0 (by rw [getD_set (by simpa using hn0)]; simp) hc (by omega) (by simp; omega)
      exact this
    have HCL : Hid ((dfs (tms bs) n 0 ((List.replicate n false).set 0 true) []).2.length ≤ 10000) := by
      show _ ≤ _
      have hc : cntF ((List.replicate n false).set 0 true) ≤ n := by
        unfold cntF
        refine Nat.le_trans List.count_le_length ?_
        simp
      have := cnt_all (tms bs) n 0 ((List.replicate n false).set 0 true) [] (by rw [HTS.out]; simp) (by rw [HTS.out]; exact hn0) (by rw [getD_set (by simpa using hn0)]; simp) hc
      simp only [List.length_nil] at this
      omega
    generalize dfs (tms bs) n 0 ((List.replicate n false).set 0 true) [] = D at *
    generalize (List.replicate n false).set 0 true = met0 at *
    clear HW HTS HBN hmk HWS HME hsf
    go_loopw [] (fun wr => Hid (∃ p' l' m pth l, WS w n [.string nm, pv, .int .u8 r, vv, av, .slice a n c] wr p' l' m pth l ∧ ((pth = [(0 : Int)] ∧ l = [] ∧ m = met0) ∨ (pth = [] ∧ m = D.1 ∧ l = D.2)))) (fun wr => pathLen w.heap.size wr)
    case atStart => exact ⟨_, _, _, _, _, HS2.out, .inl ⟨rfl, rfl, rfl⟩⟩
    case round =>
      clear HS2
      obtain ⟨p', l', m, pth, l, hS, hC⟩ := hrel.out
      clear hrel
      rcases hC with ⟨rfl, rfl, rfl⟩ | ⟨rfl, rfl, rfl⟩
      · obtain ⟨g', c', rfl, _, _, _, _⟩ := own_form (own_snoc (l := []) hS.prow)
        have e3 : wr.cell? ⟨w.heap.size + 1 + 1 + 1, 0, none⟩ = some (.slice (some ⟨g', 0, none⟩) (([] : List Int).length + 1) c') := hS.bp.cell 0 _ rfl
        have e6 : wr.cell? ⟨w.heap.size + 1 + 1 + 1 + 1 + 1 + 1, 0, none⟩ = some (walkV w.heap.size) := hS.bk.cell 0 _ rfl
        unfold walkV at e6
        have HS : Hid _ := hS
        have HPL : Hid (pathLen w.heap.size wr = 1) := by
          show _ = _
          unfold pathLen
          rw [show w.heap.size + 3 = w.heap.size + 1 + 1 + 1 from rfl, e3]
          rfl
        clear hS
        go_wp2_with (go_at_call 31; go_loud (refine Calls.mono (by exact HWK.out _ _ _ HS.out) ?_; rintro e w3 ⟨rfl, p3, l3, hS3, hM3⟩; have HS3 : Hid _ := hS3; clear hS3 hM3))
        go_roundw
        case rel => exact ⟨_, _, _, _, _, HS3.out, .inr ⟨rfl, rfl, rfl⟩⟩
        case measure =>
          rw [HPL.out]
          obtain ⟨pa, pc, rfl, _⟩ := (OwnI.at' HS3.out.prow (by simp)).form
          have := HS3.out.bp.cell 0 _ rfl
          unfold pathLen
          rw [this]
          simp
      · obtain ⟨pa, pc, rfl, _⟩ := (OwnI.at' hS.prow (by simp)).form
        have e3 : wr.cell? ⟨w.heap.size + 1 + 1 + 1, 0, none⟩ = some (.slice pa ([] : List Int).length pc) := hS.bp.cell 0 _ rfl
        have e4 : wr.cell? ⟨w.heap.size + 1 + 1 + 1 + 1, 0, none⟩ = some l' := hS.bl.cell 0 _ rfl
        have HRV : Hid _ := reverse_own hS.lrow (by have := HCL.out; omega)
        have HS : Hid _ := hS
        clear hS
        go_wp2_with (go_at_call 32; go_loud (refine Calls.mono (by exact HRV.out) ?_; rintro e w3 ⟨rfl, ho3, hg3⟩; have e5 : w3.cell? ⟨w.heap.size + 1 + 1 + 1 + 1, 0, none⟩ = some l' := (World.cell?_of_block (w := wr) (a := ⟨w.heap.size + 1 + 1 + 1 + 1, 0, none⟩) (hg3.block _ HS.out.bl.lt (fun hc => own_lt7 HS.out.lrow (b := w.heap.size + 4) (by omega) hc.symm))).trans e4; have HO3 : Hid _ := ho3; have HG3 : Hid _ := hg3; clear ho3 hg3))
        go_ret
        refine ⟨l', rfl, ?_, ?_⟩
        · rw [HOR.out]
          exact own_mono HO3.out (by omega)
        · exact below_grown HS.out.bel HG3.out (fun q hq => by have := (HS.out.lrow.lt q hq).1; omega)
end Go.Proofs.YtabpnjakfoofpaaGreatDoor
/- The document's order of a graph's blocks. -/
namespace Go.Proofs.YtabpnjakfoofpaaGreatDoor
open Go.RowKit

theorem make_boolsR (n : Nat) (hn : n ≤ 1000000) (W : World) : (Instr.makeSlice 66 (.int .i64 (n : Int)) (.int .i64 (n : Int))).run Tryz.prog W = .ok (.slice (some ⟨W.heap.size, 0, none⟩) n n) (W.alloc (.cells (madeCells #[.bool false] n) 4)) := by
  obtain ⟨i, hi, hz, hs, hb⟩ := info_parts infoB
  have hr := run_make (P := Tryz.prog) W 66 4 i _ Tryz.underlying66 hi hz .i64 .i64 n n (by omega) (Int.le_refl _) (by rw [hb]; omega) (by omega)
  simp only [Int.toNat_natCast, hs, Nat.mul_one] at hr
  exact hr
theorem rev_take {l : List Int} {j : Nat} (hj : j < l.length) : l.reverse.take (j + 1) = l.reverse.take j ++ [l.getD (l.length - 1 - j) 0] := by
  rw [List.take_add_one, List.getElem?_eq_getElem (by simpa using hj), List.getElem_reverse, List.getD_eq_getElem?_getD, List.getElem?_eq_getElem (show l.length - 1 - j < l.length by omega)]
  rfl
set_option maxRecDepth 100000 in
set_option maxHeartbeats 4000000 in
theorem rorder_any (G : Gr) (pv vv av bv : Value) (w : World) (h : GrAt w pv vv av bv G) (hn : G.blocks.length ≤ 2000) :
    Calls Tryz.prog 14 #[.agg #[.string G.name, pv, .int .u8 G.result, vv, av, bv]] w fun e w' => ∃ v, e = .returned v ∧ OwnI w' w.heap.size v (orderT (tms G.blocks)) ∧ Below w.heap.size w w' := by
  have HGA : Hid (∀ W, Below w.heap.size w W → GrAt W pv vv av bv G) := fun W hb => h.below hb
  obtain ⟨pa, pc, va, vc, aa, ac, ba, bc, rfl, rfl, rfl, rfl, _, _, _, _⟩ := h.openF
  clear h
  by_cases h0 : G.blocks.length = 0
  · have hO : orderT (tms G.blocks) = [] := by unfold orderT; rw [if_pos (by simpa [tms] using h0)]
    rw [hO]
    have HB : Hid (∀ o : Obj, Below w.heap.size w (w.alloc o)) := fun o => below_alloc (Below.refl _ _) _
    rw [h0] at *
    generalize G.params.length = pl at *
    generalize G.vars.length = vl at *
    generalize G.arrs.length = al at *
    clear HGA
    go_enter Tryz.func14, Tryz.ntmps14
    go_wp2
    go_ret
    exact ⟨_, rfl, World.ownsRow_nil _ _ _ _, HB.out _⟩
  · have HOT : Hid (orderT (tms G.blocks) = (dfs (tms G.blocks) G.blocks.length 0 ((List.replicate G.blocks.length false).set 0 true) []).2.reverse) := by
      show _ = _
      unfold orderT
      have e : (tms G.blocks).length = G.blocks.length := by simp [tms]
      rw [e, if_neg h0]
    have HDW : Hid (∀ w0 : World, Below w.heap.size w w0 → ∀ gm, DoesRW w0 G (.slice pa G.params.length pc) (.slice va G.vars.length vc) (.slice aa G.arrs.length ac) (.slice ba G.blocks.length bc) gm G.blocks.length G.blocks.length) := fun w0 hb gm => rwalk_all (HGA.out w0 hb) rfl _
    have hcn : cntF (List.replicate G.blocks.length false) ≤ G.blocks.length := by unfold cntF; exact Nat.le_trans List.count_le_length (by simp)
    have hcs : cntF ((List.replicate G.blocks.length false).set 0 true) ≤ G.blocks.length := by unfold cntF; exact Nat.le_trans List.count_le_length (by simp)
    obtain ⟨nm, ps, r, vs, ars, bs⟩ := G
    dsimp only at *
    have hDL : (dfs (tms bs) bs.length 0 ((List.replicate bs.length false).set 0 true) []).2.length ≤ 4000 := by
      have hl9 : (orderT (tms bs)).length ≤ (tms bs).length := order_len (order_ok (tms bs))
      rw [HOT.out, List.length_reverse] at hl9
      have e : (tms bs).length = bs.length := by simp [tms]
      omega
    generalize hbn : bs.length = n at *
    clear hbn
    generalize ps.length = pl at *
    generalize vs.length = vl at *
    generalize ars.length = al at *
    have hn0 : ¬ (n : Int) = 0 := by omega
    have hne : ((n : Int) == 0) = false := beq_false_of_ne hn0
    have hmk := make_boolsR n (by omega)
    have HB0 : Hid (Box (w.alloc (.cells #[.string nm, .slice pa pl pc, .int .u8 r, .slice va vl vc, .slice aa al ac, .slice ba n bc] 28)).drew w.heap.size [.string nm, .slice pa pl pc, .int .u8 r, .slice va vl vc, .slice aa al ac, .slice ba n bc] ∧ Below w.heap.size w (w.alloc (.cells #[.string nm, .slice pa pl pc, .int .u8 r, .slice va vl vc, .slice aa al ac, .slice ba n bc] 28)).drew) := ⟨(Box.new w [.string nm, .slice pa pl pc, .int .u8 r, .slice va vl vc, .slice aa al ac, .slice ba n bc] 28).below (below_drew (Below.refl _ _)), below_drew (below_alloc (Below.refl _ _) _)⟩
    go_enter Tryz.func14, Tryz.ntmps14
    go_wp2
    refine wp_region_late (fun W => W.cell? ⟨w.heap.size, 0, none⟩ = some (.string nm) ∧ W.cell? ⟨w.heap.size, 1, none⟩ = some (.slice pa pl pc) ∧ W.cell? ⟨w.heap.size, 2, none⟩ = some (.int .u8 r) ∧ W.cell? ⟨w.heap.size, 3, none⟩ = some (.slice va vl vc) ∧ W.cell? ⟨w.heap.size, 4, none⟩ = some (.slice aa al ac) ∧ W.cell? ⟨w.heap.size, 5, none⟩ = some (.slice ba n bc)) (fun _ => false) (by kernel_rfl) (box6 HB0.out.1) (fun hHeld => ?_)
    generalize (w.alloc (.cells #[.string nm, .slice pa pl pc, .int .u8 r, .slice va vl vc, .slice aa al ac, .slice ba n bc] 28)).drew = W0 at *
    refine wpAnyL_take 0 (v := ?_) rfl (by kernel_rfl) (by kernel_rfl) (by kernel_rfl) (by kernel_rfl) (fun _ _ _ h => h) hHeld (Or.inl ⟨by rfl, ?_⟩) ?_
    rotate_left 1
    · (intro w hSw; (try dsimp only at hSw); (try obtain ⟨s0, s1, s2, s3, s4, s5⟩ := hSw); first | (go_simp; done) | (go_simp; with_reducible rfl))
    simp only [Act.put, List.setIfInBounds_toArray]
    refine wpAnyL_take 1 (v := ?_) rfl (by kernel_rfl) (by kernel_rfl) (by kernel_rfl) (by kernel_rfl) (fun _ _ _ h => h) hHeld (Or.inl ⟨by rfl, ?_⟩) ?_
    rotate_left 1
    · (intro w hSw; (try dsimp only at hSw); (try obtain ⟨s0, s1, s2, s3, s4, s5⟩ := hSw); first | (go_simp; done) | (go_simp; with_reducible rfl))
    simp only [Act.put]
    refine wpAnyL_take 2 (v := ?_) rfl (by kernel_rfl) (by kernel_rfl) (by kernel_rfl) (by kernel_rfl) (fun _ _ _ h => h) hHeld (Or.inl ⟨by rfl, ?_⟩) ?_
    rotate_left 1
    · (intro w hSw; (try dsimp only at hSw); (try obtain ⟨s0, s1, s2, s3, s4, s5⟩ := hSw); first | (go_simp; done) | (go_simp; with_reducible rfl))
    simp only [Act.put]
    refine wpAnyL_take 3 (v := ?_) rfl (by kernel_rfl) (by kernel_rfl) (by kernel_rfl) (by kernel_rfl) (fun _ _ _ h => h) hHeld (Or.inl ⟨by rfl, ?_⟩) ?_
    rotate_left 1
    · (intro w hSw; (try dsimp only at hSw); (try obtain ⟨s0, s1, s2, s3, s4, s5⟩ := hSw); first | (go_simp; done) | (go_simp; with_reducible rfl))
    simp only [Act.put]
    clear hHeld
    refine wpAnyL_one 4 (by kernel_rfl) rfl (fun K hK0 => ?_)
    have hK : Shut _ := hK0
    clear hK0
    go_simp
    have HBM : Hid (Box (W0.alloc (.cells (madeCells #[.bool false] n) 4)) w.heap.size [.string nm, .slice pa pl pc, .int .u8 r, .slice va vl vc, .slice aa al ac, .slice ba n bc] ∧ Below w.heap.size w (W0.alloc (.cells (madeCells #[.bool false] n) 4))) := ⟨HB0.out.1.below (below_alloc (Below.refl _ _) _), below_alloc HB0.out.2 _⟩
    have hHeld := box6 HBM.out.1
    refine hK.out _ _ (fun _ => hHeld) ?_
    clear hK K
    clear hHeld
    have HW0 : Hid (WR W0 (W0.alloc (.cells (madeCells #[.bool false] n) 4)) W0.heap.size n (.slice none 0 0) (List.replicate n false) []) := by
      refine ⟨below_alloc (Below.refl _ _) _, ?_, World.ownsRow_nil _ _ _ _, fun e => by cases e⟩
      have h9 := World.ownsRow_lit (base := W0.heap.size) (e := 4) (size := 1) W0 (madeCells #[.bool false] n) n (Nat.le_refl _) (by unfold maxLen; omega) (by simp [size_madeCells])
      rw [made_bools] at h9
      exact h9
    have HCW : Hid _ := HDW.out W0 HB0.out.2 W0.heap.size 0 (List.replicate n false) [] (.slice none 0 0) _ HW0.out (by omega) hcs (by simp; omega)
    refine wpAnyL_one 5 (by kernel_rfl) rfl (fun K hK0 => ?_)
    have hK : Shut _ := hK0
    clear hK0
    go_simp
    refine Calls.mono (by exact HCW.out) ?_
    rintro e w5 ⟨lv5, rfl, hw5, ht5⟩
    obtain ⟨xa, xc, rfl⟩ : ∃ xa xc, lv5 = .slice xa (dfs (tms bs) n 0 ((List.replicate n false).set 0 true) []).2.length xc := by obtain ⟨u, v, hv, _⟩ := own_blk (Nat.le_refl _) hw5.lrow; exact ⟨u, v, hv⟩
    have HL5 : Hid (OwnI w5 W0.heap.size (.slice xa (dfs (tms bs) n 0 ((List.replicate n false).set 0 true) []).2.length xc) (dfs (tms bs) n 0 ((List.replicate n false).set 0 true) []).2) := hw5.lrow
    have H5 : Hid (Below w.heap.size w w5) := below_trans HB0.out.2 hw5.bel
    have HX5 : Hid (Box w5 w.heap.size [.string nm, .slice pa pl pc, .int .u8 r, .slice va vl vc, .slice aa al ac, .slice ba n bc]) := HB0.out.1.below hw5.bel
    have hHeld := box6 HX5.out
    clear hw5 ht5
    dsimp only
    refine hK.out _ _ (fun _ => hHeld) ?_
    clear hK K
    clear hHeld
    refine wpAnyL_one 6 (by kernel_rfl) rfl (fun K hK0 => ?_)
    have hK : Shut _ := hK0
    clear hK0
    go_simp
    have hHeld := box6 HX5.out
    refine hK.out _ _ (fun _ => hHeld) ?_
    clear hK K
    clear hHeld HCW HW0 HBM HDW HX5
    refine ⟨by kernel_rfl, ?_⟩
    go_simp
    have HI5 : Hid (IntsAt w5 (.slice xa (dfs (tms bs) n 0 ((List.replicate n false).set 0 true) []).2.length xc) (dfs (tms bs) n 0 ((List.replicate n false).set 0 true) []).2) := OwnI.at' HL5.out (by omega)
    have H5S : Hid (w.heap.size ≤ w5.heap.size) := H5.out.size
    clear HL5
    generalize (dfs (tms bs) n 0 ((List.replicate n false).set 0 true) []).2 = L at *
    have HLG : Hid (∀ q, q < L.length → _) := fun q hq => HI5.out.get (i := q) hq
    have HRT : Hid (∀ q, q < L.length → L.reverse.take (L.length - 1 - q + 1) = L.reverse.take (L.length - 1 - q) ++ [L.getD q 0]) := fun q hq => by
      have h9 := rev_take (l := L) (j := L.length - 1 - q) (by omega)
      rw [show L.length - 1 - (L.length - 1 - q) = q by omega] at h9
      exact h9
    have HRF : Hid (L.reverse.take L.length = L.reverse) := by show _ = _; rw [List.take_of_length_le (by simp)]
    obtain ⟨i0, hi0, hz0, hz1, hz2⟩ := info_parts infoI
    clear HI5
    generalize hLK : L.length = K9 at *
    have HLK : Hid (L.length = K9) := hLK
    clear hLK
    have hK' : (K9 : Int) ≤ 4000 := by omega
    go_wp2
    go_loopw [4, 5] (fun v4 v5 wr => ∃ (i : Int) (l : List Int) (oa : Option Addr) (oc : Nat), v4 = .slice oa l.length oc ∧ v5 = .int .i64 i ∧ -1 ≤ i ∧ i < (K9 : Int) ∧ Hid (Below w5.heap.size w5 wr ∧ OwnI wr w5.heap.size (.slice oa l.length oc) l ∧ l = L.reverse.take ((K9 : Int) - 1 - i).toNat)) (fun _ v5 _ => (intOf v5 + 1).toNat)
    case atStart => exact ⟨(K9 : Int) - 1, [], none, 0, rfl, by first | rfl | (congr 1; omega), by omega, by omega, Below.refl _ _, World.ownsRow_nil _ _ _ _, by simp⟩
    case round =>
      obtain ⟨i, l, oa, oc, rfl, rfl, hi1, hi2, hr⟩ := hrel
      generalize wr = wo at *
      have HRR : Hid _ := hr.out
      have hll : l.length ≤ 4000 := by rw [hr.out.2.2]; exact Nat.le_trans (List.length_take_le _ _) (by omega)
      clear hr
      by_cases hi : 0 ≤ i
      · obtain ⟨q, rfl⟩ := Int.eq_ofNat_of_zero_le hi
        have hqn : q < K9 := by omega
        have hqn' : (q : Int) < K9 := by omega
        obtain ⟨gl, ol, rfl, hgl, cl⟩ := HLG.out q hqn
        have cl' : wo.cell? ⟨gl, ol + q, none⟩ = _ := (HRR.out.1.cell (p := ⟨gl, ol + q, none⟩) hgl).trans cl
        have HN : Hid (L.reverse.take ((K9 : Int) - 1 - ((q : Int) - 1)).toNat = l ++ [L.getD q 0]) := by
          show _ = _
          rw [HRR.out.2.2, show ((K9 : Int) - 1 - ((q : Int) - 1)).toNat = K9 - 1 - q + 1 by omega, HRT.out q hqn, show ((K9 : Int) - 1 - (q : Int)).toNat = K9 - 1 - q by omega]
        clear HLG HRT cl hi
        generalize L.getD q 0 = z at *
        generalize hq : l.length = x at *
        have HQ : Hid (l.length = x) := hq
        clear hq
        have HOW : Hid (wo.ownsRow w5.heap.size 3 1 (.slice oa x oc) x (l.map intV)) := by have h9 := HRR.out.2.1; unfold OwnI at h9; rw [HQ.out] at h9; exact h9
        have hws : w5.heap.size ≤ wo.heap.size := HRR.out.1.size
        go_wp2_with (at_builtin; go_loud (refine wpList_append_own_at _ rfl _ _ 22 rfl w5.heap.size 3 i0 (.int .i64 0) 1 8 Tryz.underlying22 hi0 hz0 hz1 hz2 rfl (by decide) _ x (l.map intV) rfl (HOW.out.alloc _) ⟨wo.heap.size, 0, none⟩ 1 1 [intV z] rfl rfl ?c1 ?c2 ?c3 ?c4 ?c5 ?_))
        case c1 => exact cell_one_new wo (intV z) 3
        case c2 => intro u hu; simp at hu; subst hu; rfl
        case c3 => unfold maxLen; omega
        case c4 => omega
        case c5 => simp; omega
        intro v2 w2 ho hg2' _ hat
        obtain ⟨g3, cc3, rfl, _, _, _, _⟩ := own_form ho
        have HF : Hid (Below w5.heap.size w5 w2) := below_grown (below_alloc HRR.out.1 _) hg2' (fun q hq => (HOW.out.lt q hq).1)
        have HO : Hid (OwnI w2 w5.heap.size (.slice (some ⟨g3, 0, none⟩) (l ++ [z]).length cc3) (l ++ [z])) := by
          show World.ownsRow _ _ _ _ _ _ _
          rw [List.map_append, List.length_append, HQ.out]
          exact ho
        clear ho hg2' hat
        go_wp2
        go_roundw
        case rel => exact ⟨(q : Int) - 1, l ++ [z], _, _, by rw [List.length_append, HQ.out]; rfl, by first | rfl | (congr 1; omega), by omega, by omega, HF.out, HO.out, HN.out.symm⟩
        case measure => simp [intOf]
      · obtain rfl : i = -1 := by omega
        have HE : Hid (l = L.reverse) := by
          show _ = _
          rw [HRR.out.2.2, show ((K9 : Int) - 1 - (-1)).toNat = K9 by omega, HRF.out]
        clear HLG HRT hi
        go_wp2
        go_ret
        refine ⟨_, rfl, ?_, below_trans H5.out HRR.out.1⟩
        rw [HOT.out, ← HE.out]
        exact own_mono HRR.out.2.1 H5S.out
end Go.Proofs.YtabpnjakfoofpaaGreatDoor
