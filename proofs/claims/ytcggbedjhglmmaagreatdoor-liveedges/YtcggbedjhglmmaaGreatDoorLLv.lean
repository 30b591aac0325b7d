/- What is live (live.Live). -/
import Derived.Test.YtcggbedjhglmmaaGreatDoorLLv0
import Derived.Test.YtcggbedjhglmmaaGreatDoorLAlM
import Derived.Test.YtcggbedjhglmmaaGreatDoorGAhd2M
namespace Go.Proofs.YtcggbedjhglmmaaGreatDoor
open Go.RowKit

theorem args_of_sz {G : Gr} (h : szB G.blocks ≤ 300000) : ∀ b ∈ G.blocks, ∀ x ∈ b.ins, x.args.length ≤ 140737488355328 := fun b hb x hx => by
  have := szB_mem hb; have := szI_mem hx; omega
theorem ans_start (pre post : List Slot) (g n : Nat) : Ans (pre ++ ((hdS true (rowN g n) n :: List.replicate n nilI) ++ post)) pre.length g n (List.replicate n (.slice none 0 0)) (List.replicate n []) := by
  refine ⟨by simp, by simp, ?_, fun i r kv hr hv => ?_⟩
  · rw [List.getElem?_append_right (Nat.le_refl _), Nat.sub_self]; rfl
  · rw [List.getElem?_replicate] at hr hv
    split at hr
    · rename_i hi
      rw [if_pos hi] at hv
      cases hr; cases hv
      rw [List.getElem?_append_right (by omega), show pre.length + 1 + i - pre.length = i + 1 by omega, List.cons_append, List.getElem?_cons_succ, List.getElem?_append_left (by simpa using hi), List.getElem?_replicate, if_pos hi]
      rfl
    · cases hr
def E0 (w3 : World) (n F : Nat) (av : Value) : FEnv := ⟨w3, n, F + 4, F, F + 1, F + 2, F + 3, av⟩
theorem lv_start {w3 wr W5 w5 w6 : World} {n gA gB SG m nv : Nat} {bs : List Bl} {ah : List (List Int)} {av : Value} {ss : List Slot} {ts : List V3} (hn : n ≤ 100000) (hR : R2 w3 wr n true true true true (rowN gA n) (rowN gB n) (rowN gA n) (rowN gB n)) (hW : Below wr.heap.size wr W5)
    (hh : w5.heap = ((wZ (wZ (wZ (wZ W5 n) n) n) n).alloc (.cells #[av, rowN W5.heap.size n, rowN (W5.heap.size + 1) n, rowN (W5.heap.size + 2) n, rowN (W5.heap.size + 3) n, .slice none 0 0, .slice none 0 0] 77)).heap) (hb5 : Below wr.heap.size wr w5) (hS : Sts w5 w6 SG m ss ts (stripsP bs ah nv)) : Lv (E0 w3 n W5.heap.size av) bs ah nv gA gB SG m ts w6 0 := by
  have hf := ((flow_heap W5 n (by omega) av).same hh).low hW.size
  have hp := live_heap hR hf hb5 hS.heap hS.low
  have a1 := ans_start [boxF (W5.heap.size + 4) [av, rowN W5.heap.size n, rowN (W5.heap.size + 1) n, rowN (W5.heap.size + 2) n, rowN (W5.heap.size + 3) n, .slice none 0 0, .slice none 0 0], wordS W5.heap.size n, wordS (W5.heap.size + 1) n, wordS (W5.heap.size + 2) n, wordS (W5.heap.size + 3) n, nilI, nilI] ((hdS true (rowN gB n) n :: List.replicate n nilI) ++ ss) gA n
  have a2 := ans_start ([boxF (W5.heap.size + 4) [av, rowN W5.heap.size n, rowN (W5.heap.size + 1) n, rowN (W5.heap.size + 2) n, rowN (W5.heap.size + 3) n, .slice none 0 0, .slice none 0 0], wordS W5.heap.size n, wordS (W5.heap.size + 1) n, wordS (W5.heap.size + 2) n, wordS (W5.heap.size + 3) n, nilI, nilI] ++ (hdS true (rowN gA n) n :: List.replicate n nilI)) ss gB n
  have a3 := StIn.of (pre := [boxF (W5.heap.size + 4) [av, rowN W5.heap.size n, rowN (W5.heap.size + 1) n, rowN (W5.heap.size + 2) n, rowN (W5.heap.size + 3) n, .slice none 0 0, .slice none 0 0], wordS W5.heap.size n, wordS (W5.heap.size + 1) n, wordS (W5.heap.size + 2) n, wordS (W5.heap.size + 3) n, nilI, nilI] ++ ((hdS true (rowN gA n) n :: List.replicate n nilI) ++ (hdS true (rowN gB n) n :: List.replicate n nilI))) hS
  generalize hSS : ([boxF (W5.heap.size + 4) [av, rowN W5.heap.size n, rowN (W5.heap.size + 1) n, rowN (W5.heap.size + 2) n, rowN (W5.heap.size + 3) n, .slice none 0 0, .slice none 0 0], wordS W5.heap.size n, wordS (W5.heap.size + 1) n, wordS (W5.heap.size + 2) n, wordS (W5.heap.size + 3) n, nilI, nilI] ++ ((hdS true (rowN gA n) n :: List.replicate n nilI) ++ (hdS true (rowN gB n) n :: List.replicate n nilI)) ++ ss) = SS at *
  have e1 : [boxF (W5.heap.size + 4) [av, rowN W5.heap.size n, rowN (W5.heap.size + 1) n, rowN (W5.heap.size + 2) n, rowN (W5.heap.size + 3) n, .slice none 0 0, .slice none 0 0], wordS W5.heap.size n, wordS (W5.heap.size + 1) n, wordS (W5.heap.size + 2) n, wordS (W5.heap.size + 3) n, nilI, nilI] ++ ((hdS true (rowN gA n) n :: List.replicate n nilI) ++ ((hdS true (rowN gB n) n :: List.replicate n nilI) ++ ss)) = SS := by rw [← hSS]; simp only [List.append_assoc]
  have e2 : ([boxF (W5.heap.size + 4) [av, rowN W5.heap.size n, rowN (W5.heap.size + 1) n, rowN (W5.heap.size + 2) n, rowN (W5.heap.size + 3) n, .slice none 0 0, .slice none 0 0], wordS W5.heap.size n, wordS (W5.heap.size + 1) n, wordS (W5.heap.size + 2) n, wordS (W5.heap.size + 3) n, nilI, nilI] ++ (hdS true (rowN gA n) n :: List.replicate n nilI)) ++ ((hdS true (rowN gB n) n :: List.replicate n nilI) ++ ss) = SS := by rw [← hSS]; simp only [List.append_assoc]
  rw [e1] at a1
  rw [e2] at a2
  have z1 : ([boxF (W5.heap.size + 4) [av, rowN W5.heap.size n, rowN (W5.heap.size + 1) n, rowN (W5.heap.size + 2) n, rowN (W5.heap.size + 3) n, .slice none 0 0, .slice none 0 0], wordS W5.heap.size n, wordS (W5.heap.size + 1) n, wordS (W5.heap.size + 2) n, wordS (W5.heap.size + 3) n, nilI, nilI] ++ (hdS true (rowN gA n) n :: List.replicate n nilI)).length = 8 + n := by simp; omega
  have z2 : ([boxF (W5.heap.size + 4) [av, rowN W5.heap.size n, rowN (W5.heap.size + 1) n, rowN (W5.heap.size + 2) n, rowN (W5.heap.size + 3) n, .slice none 0 0, .slice none 0 0], wordS W5.heap.size n, wordS (W5.heap.size + 1) n, wordS (W5.heap.size + 2) n, wordS (W5.heap.size + 3) n, nilI, nilI] ++ ((hdS true (rowN gA n) n :: List.replicate n nilI) ++ (hdS true (rowN gB n) n :: List.replicate n nilI))).length = 9 + 2 * n := by simp; omega
  rw [z1] at a2
  rw [z2] at a3
  have z0 : ∀ i, (List.replicate n ([] : List Int)).getD i [] = [] := fun i => by rw [List.getD_eq_getElem?_getD, List.getElem?_replicate]; split <;> rfl
  refine ⟨.slice none 0 0, .slice none 0 0, SS, ⟨List.replicate n 0, List.replicate n 0, List.replicate n 0, List.replicate n 0, [], []⟩, ⟨below_trans hR.bel (below_trans hb5 hS.low), hp, ?_, ?_, ?_, ?_, ?_, ?_, ?_⟩, ⟨rfl, rfl, rfl, rfl, rfl, rfl⟩, _, _, _, _, a1, a2, a3, fun i _ => z0 i, fun i _ => z0 i⟩
  all_goals (rw [← e1]; rfl)
/-- what Live tells -/
def LvPost (w : World) (AG : Bool) (bs : List Bl) (ah : List (List Int)) (n vl : Nat) (e : Ending) (w' : World) : Prop :=
  Below w.heap.size w w' ∧ ((AG = false ∧ e = .returned (.tuple #[.slice none 0 0, .slice none 0 0, .int .i64 4])) ∨
    (AG = true ∧ ∃ gA gB ka kb, e = .returned (.tuple #[.slice (some ⟨gA, 0, none⟩) n n, .slice (some ⟨gB, 0, none⟩) n n, .int .i64 0]) ∧ RowsIn w' w.heap.size gA n ka ((List.range n).map fun i => rowV (fun v => liveIn bs ah v i) vl) ∧ RowsIn w' w.heap.size gB n kb ((List.range n).map fun i => rowV (fun v => liveOut bs ah v i) vl)))
set_option maxRecDepth 100000 in
set_option maxHeartbeats 8000000 in
theorem live_any (G : Gr) (pv vv av bv : Value) (w : World) (hg : GrAt w pv vv av bv G) (hP : PartsAt w) (hT : TzAt w) (hsz : szB G.blocks ≤ 300000) (hnb : G.blocks.length ≤ 100000) (hnv : G.vars.length ≤ 800000) :
    Calls Tryz.prog 7 #[.agg #[.string G.name, pv, .int .u8 G.result, vv, av, bv]] w fun e w' => LvPost w (aloneG G) G.blocks (aheadT (tms G.blocks)) G.blocks.length G.vars.length e w' := by
  have HAL : Hid (∀ W, Below w.heap.size w W → Calls Tryz.prog 17 #[.agg #[.string G.name, pv, .int .u8 G.result, vv, av, bv]] W fun e w' => e = .returned (.bool (aloneG G)) ∧ Below W.heap.size W w') := fun W hW => by
    have h9 := alone_any G pv vv av bv W (hg.below hW) (hP.below hW) hsz hnb
    rw [alone_same (args_of_sz hsz)] at h9
    exact h9
  have HAH : Hid (∀ W, Below w.heap.size w W → _) := fun W hW => ahead_any G pv vv av bv W (hg.below hW) hnb
  have HST : Hid (∀ W wA b0 GA kvs, Below w.heap.size w W → Below wA.heap.size wA W → RowsIn wA b0 GA G.blocks.length kvs (aheadT (tms G.blocks)) → StpOk G.blocks (aheadT (tms G.blocks)) G.vars.length → _) := fun W wA b0 GA kvs hW hb hr hok => strips_any G pv vv av bv W (hg.below hW) hb hr hok
  have HTZ : Hid (∀ W, Below w.heap.size w W → TzAt W) := fun W hW => hT.below hW
  have HNF : Hid (∀ (W : World) c a, _) := fun W c a => newflow_any W G.blocks.length c a (by omega)
  have HOK : Hid (aloneG G = true → StpOk G.blocks (aheadT (tms G.blocks)) G.vars.length ∧ (∀ i j : Nat, (i : Int) ∈ (aheadT (tms G.blocks)).getD j [] ↔ j ∈ nxB G.blocks i) ∧ (∀ i, i < G.blocks.length → ∀ j ∈ nxB G.blocks i, j < G.blocks.length)) := fun ha => ⟨(stp_ok ha hsz).resolve_right (fun c => c (by omega)), fun i j => nx_mem ha, fun i _ j hj => (nx_lt ha hj).2⟩
  have HAHL : Hid ((aheadT (tms G.blocks)).length = G.blocks.length ∧ (∀ j, ((aheadT (tms G.blocks)).getD j []).length ≤ 1000000) ∧ ∀ j, ∀ a ∈ (aheadT (tms G.blocks)).getD j [], 0 ≤ a ∧ a < (G.blocks.length : Int)) := ⟨by rw [aheadT_len]; simp [tms], fun j => Nat.le_trans (ahead_len j) (by omega), fun j a ha => ahead_int ha⟩
  obtain ⟨pa, pc, va, vc, aa, ac, ba0, bc0, rfl, rfl, rfl, rfl, _, _, _, _⟩ := hg.openF
  clear hg hP hT hsz
  generalize aheadT (tms G.blocks) = ah at *
  generalize hAG : aloneG G = AG at *
  clear hAG
  obtain ⟨nm, ps, r, vs, ars, bs⟩ := G
  dsimp only at *
  generalize ps.length = pl at *
  generalize vs.length = vl at *
  generalize ars.length = al at *
  generalize hbn : bs.length = n at *
  have HBN : Hid (bs.length = n) := hbn
  clear hbn
  have hn' : (n : Int) ≤ 100000 := by omega
  have hvl' : (vl : Int) ≤ 800000 := by omega
  cases AG with
  | false =>
    go_enter Tryz.func7, Tryz.ntmps7
    go_wp2_with (go_at_call 17; go_loud (refine Calls.mono (by exact HAL.out _ (below_alloc (Below.refl _ _) _)) ?_; rintro e w2 ⟨rfl, hb2⟩; have HB2 : Hid _ := below_trans (below_alloc (Below.refl w.heap.size w) (.cells #[.string nm, .slice pa pl pc, .int .u8 r, .slice va vl vc, .slice aa al ac, .slice ba0 n bc0] 28)) hb2; clear hb2))
    exact bodyPost_ret (results_tmp3 rfl _ _ _) rfl ⟨HB2.out, .inl ⟨rfl, rfl⟩⟩
  | true =>
    obtain ⟨hok, hnx, hlt⟩ := HOK.out rfl
    have HGK : Hid (StpOk bs ah vl ∧ (∀ i j : Nat, (i : Int) ∈ ah.getD j [] ↔ j ∈ nxB bs i) ∧ (∀ i, i < n → ∀ j ∈ nxB bs i, j < n)) := ⟨hok, hnx, hlt⟩
    clear hok hnx hlt HOK
    have hmk := make_rowsL n (by omega)
    obtain ⟨m, hm⟩ : ∃ m, m = (vl + 63) / 64 := ⟨_, rfl⟩
    rw [← hm] at HST
    have HM : Hid (m = (vl + 63) / 64) := hm
    have hmb : m ≤ 20000 := by omega
    have hmb' : (m : Int) ≤ 20000 := by omega
    clear hm
    go_enter Tryz.func7, Tryz.ntmps7
    go_wp2_with (first | (go_at_call 17; go_loud (refine Calls.mono (by exact HAL.out _ (below_alloc (Below.refl _ _) _)) ?_; rintro e w2 ⟨rfl, hb2⟩; have hbx := (Box.new w [.string nm, .slice pa pl pc, .int .u8 r, .slice va vl vc, .slice aa al ac, .slice ba0 n bc0] 28).below hb2; have e0 := hbx.cell 0 _ rfl; have e1 := hbx.cell 1 _ rfl; have e2 := hbx.cell 2 _ rfl; have e3 := hbx.cell 3 _ rfl; have e4 := hbx.cell 4 _ rfl; have e5 := hbx.cell 5 _ rfl; have HBX : Hid _ := hbx; have HB2 : Hid _ := below_trans (below_alloc (Below.refl w.heap.size w) (.cells #[.string nm, .slice pa pl pc, .int .u8 r, .slice va vl vc, .slice aa al ac, .slice ba0 n bc0] 28)) hb2; clear hb2 hbx)) | (go_at_call 10; go_loud (refine Calls.mono (by exact HAH.out _ HB2.out) ?_; rintro e w3 ⟨kvs, rfl, hr3, hb3⟩; have HR3 : Hid _ := hr3; have HB3 : Hid _ := hb3; clear hr3 hb3)))
    have HBS : Hid _ := below_trans HB2.out HB3.out
    have hB : n ≤ 1000000 := by omega
    have HNB : Hid (n ≤ 100000) := hnb
    have HN1 : Hid (n ≤ 1000000) := hB
    refine wp_region_late (fun _ => True) (fun _ => false) (by kernel_rfl) trivial (fun hHeld => ?_)
    refine wpAnyL_take 0 (v := ?_) rfl (by kernel_rfl) (by kernel_rfl) (by kernel_rfl) (by kernel_rfl) (fun _ _ _ h => h) hHeld (Or.inl ⟨by rfl, ?_⟩) ?_
    rotate_left 1
    · (intro w hSw; (try dsimp only at hSw); first | (go_simp; done) | (go_simp; with_reducible rfl))
    simp only [Act.put, List.setIfInBounds_toArray]
    refine wpAnyL_take 1 (v := ?_) rfl (by kernel_rfl) (by kernel_rfl) (by kernel_rfl) (by kernel_rfl) (fun _ _ _ h => h) hHeld (Or.inl ⟨by rfl, ?_⟩) ?_
    rotate_left 1
    · (intro w hSw; (try dsimp only at hSw); first | (go_simp; done) | (go_simp; with_reducible rfl))
    simp only [Act.put]
    refine wpAnyL_take 3 (v := ?_) rfl (by kernel_rfl) (by kernel_rfl) (by kernel_rfl) (by kernel_rfl) (fun _ _ _ h => h) hHeld (Or.inl ⟨by rfl, ?_⟩) ?_
    rotate_left 1
    · (intro w hSw; (try dsimp only at hSw); first | (go_simp; done) | (go_simp; with_reducible rfl))
    simp only [Act.put]
    refine wpAnyL_take 4 (v := ?_) rfl (by kernel_rfl) (by kernel_rfl) (by kernel_rfl) (by kernel_rfl) (fun _ _ _ h => h) hHeld (Or.inl ⟨by rfl, ?_⟩) ?_
    rotate_left 1
    · (intro w hSw; (try dsimp only at hSw); first | (go_simp; done) | (go_simp; with_reducible rfl))
    simp only [Act.put]
    refine wpAnyL_inv (fun L a wr => ∃ (y2 y5 y6 y7 : Bool) (x18 x21 x6 x7 : Value), L = #[true, true, y2, true, true, y5, y6, y7] ∧ a = (⟨#[.agg #[.string nm, .slice pa pl pc, .int .u8 r, .slice va vl vc, .slice aa al ac, .slice ba0 n bc0], ptr w.heap.size, .slice none 0 0, .slice none 0 0, .int .i64 0, .slice (some ⟨w2.heap.size + 1, 0, none⟩) n n, x6, x7, undef, undef, undef, .agg #[.string nm, .slice pa pl pc, .int .u8 r, .slice va vl vc, .slice aa al ac, .slice ba0 n bc0], .bool true, .bool false, .agg #[.string nm, .slice pa pl pc, .int .u8 r, .slice va vl vc, .slice aa al ac, .slice ba0 n bc0], .slice (some ⟨w2.heap.size + 1, 0, none⟩) n n, .slice (some ⟨w2.heap.size + 1, 0, none⟩) n n, .int .i64 (n : Int), x18, .slice (some ⟨w2.heap.size + 1, 0, none⟩) n n, .int .i64 (n : Int), x21, undef, undef, undef, undef, undef, undef, undef, undef, undef, undef, undef, undef, undef, undef, undef, undef, undef, undef, undef, undef, undef, undef, undef, undef, undef, undef, undef, undef], []⟩ : Act) ∧ R2 w3 wr n y2 y5 y6 y7 x18 x21 x6 x7) ?hS ?hsz (by kernel_rfl) ?hend ?hstep _ _ _ _ ?hI (by rfl)
    case hS => intro _ _ _ _; trivial
    case hsz => rintro L a wr ⟨y2, y5, y6, y7, x18, x21, x6, x7, rfl, rfl, hR⟩; rfl
    case hI => exact ⟨false, false, false, false, undef, undef, undef, undef, rfl, rfl, R2.start w3 n _ _ _ _⟩
    case hstep =>
      rintro i o L a wr ho ⟨y2, y5, y6, y7, x18, x21, x6, x7, rfl, rfl, hR⟩ hu hd K hK0
      clear HST HNF HAL HAH HTZ HAHL HGK
      rcases i with _ | _ | _ | _ | _ | _ | _ | _ | i
      · exfalso; simp at hu
      · exfalso; simp at hu
      · cases ho
        have hy : y2 = false := hu
        subst hy
        have HR2 : Hid _ := hR.make0 HN1.out
        have hK : Shut _ := hK0
        clear hK0 hd hR
        go_simp
        refine hK.out _ _ ?_
        exact ⟨true, y5, y6, y7, _, x21, x6, x7, rfl, rfl, HR2.out⟩
      · exfalso; simp at hu
      · exfalso; simp at hu
      · cases ho
        have hy : y5 = false := hu
        subst hy
        have HR2 : Hid _ := hR.make1 HN1.out
        have hK : Shut _ := hK0
        clear hK0 hd hR
        go_simp
        refine hK.out _ _ ?_
        exact ⟨y2, true, y6, y7, x18, _, x6, x7, rfl, rfl, HR2.out⟩
      · cases ho
        have hy : y6 = false := hu
        subst hy
        have hz : y2 = true := hd ⟨2, .data⟩ (by simp) rfl
        subst hz
        have HR2 : Hid _ := hR.set0
        have hK : Shut _ := hK0
        clear hK0 hd hR
        go_simp
        refine hK.out _ _ ?_
        exact ⟨true, y5, true, y7, x18, x21, _, x7, rfl, rfl, HR2.out⟩
      · cases ho
        have hy : y7 = false := hu
        subst hy
        have hz : y5 = true := hd ⟨5, .data⟩ (by simp) rfl
        subst hz
        have HR2 : Hid _ := hR.set1
        have hK : Shut _ := hK0
        clear hK0 hd hR
        go_simp
        refine hK.out _ _ ?_
        exact ⟨y2, true, y6, true, x18, x21, x6, _, rfl, rfl, HR2.out⟩
      · exfalso; simp at ho
    case hend =>
      rintro L a w4 ⟨y2, y5, y6, y7, x18, x21, x6, x7, rfl, rfl, hR⟩ hall
      have q2 : y2 = true := hall 2 (by decide)
      have q5 : y5 = true := hall 5 (by decide)
      have q6 : y6 = true := hall 6 (by decide)
      have q7 : y7 = true := hall 7 (by decide)
      subst q2 q5 q6 q7
      obtain ⟨gA, hx18⟩ := hR.v2 rfl
      obtain ⟨gB, hx21⟩ := hR.v5 rfl
      have hx6 := hR.v6 rfl
      have hx7 := hR.v7 rfl
      subst hx6 hx7 hx18 hx21
      have HR : Hid _ := hR
      have HB4 : Hid _ := hR.bel
      clear hR hall hHeld hmk
      have hbx4 := (HBX.out.below HB3.out).below HB4.out
      have HBX4 : Hid _ := hbx4
      clear hbx4 e0 e1 e2 e3 e4 e5
      unfold rowN
      go_wp2_with (first | (go_at_call 18; go_loud (refine Calls.mono (by exact HNF.out _ _ _) ?_; rintro e w5 ⟨W5, hW5, rfl, hh5, hb5⟩; have HW5 : Hid _ := hW5; have HH5 : Hid _ := hh5; have HB5 : Hid _ := hb5; have hbx := HBX4.out.below hb5; have e0 := hbx.cell 0 _ rfl; have e1 := hbx.cell 1 _ rfl; have e2 := hbx.cell 2 _ rfl; have e3 := hbx.cell 3 _ rfl; have e4 := hbx.cell 4 _ rfl; have e5 := hbx.cell 5 _ rfl; clear hW5 hh5 hb5 hbx)) | (go_at_call 19; go_loud (refine Calls.mono (by exact HST.out _ w3 _ _ kvs (below_trans HBS.out (below_trans HB4.out HB5.out)) (below_trans HB4.out HB5.out) HR3.out HGK.out.1) ?_; rintro e w6 ⟨SG, ss, ts, rfl, hS6⟩; have HS6 : Hid _ := hS6; clear hS6)))
      obtain ⟨E, hE⟩ : ∃ E, E = E0 w3 n W5.heap.size (.slice (some ⟨w2.heap.size + 1, 0, none⟩) n n) := ⟨_, rfl⟩
      have HE : Hid (E.n = n ∧ E.w0 = w3 ∧ E.F = W5.heap.size + 4 ∧ E.av = .slice (some ⟨w2.heap.size + 1, 0, none⟩) n n) := by rw [hE]; exact ⟨rfl, rfl, rfl, rfl⟩
      have HL0 : Hid (Lv E bs ah vl gA gB SG m ts w6 0) := by rw [hE]; exact lv_start HNB.out HR.out HW5.out HH5.out HB5.out HS6.out
      have HG : Hid (Gk E bs ah vl) := ⟨HE.out.1.trans HBN.out.symm, by rw [HE.out.1]; exact HNB.out, HGK.out.1, by omega, HGK.out.2.1, HAHL.out.1.trans HBN.out.symm, by rw [HBN.out]; exact HGK.out.2.2⟩
      have HED : Hid (Edge E (nxB bs) w2.heap.size (w2.heap.size + 1) kvs ah) := ⟨by rw [HE.out.2.2.2, HE.out.1], by rw [HE.out.2.1, HE.out.1]; exact HR3.out, HGK.out.2.1, fun j a ha => by rw [HE.out.1]; exact HAHL.out.2.2 j a ha, HAHL.out.2.1⟩
      have HZ : Hid (0 < w3.heap.size ∧ ∀ W, Below w3.heap.size w3 W → TzAt W) := ⟨by have := HR3.out.ltG; omega, fun W hW => HTZ.out W (below_trans HBS.out hW)⟩
      have hF4 : E.F = W5.heap.size + 4 := HE.out.2.2.1
      have HFE : Hid _ := hF4
      clear hE HS6 HST HNF HAL HAH HTZ HAHL HGK HBX HBX4 HR HH5 HW5 hF4 e0 e1 e2 e3 e4 e5
      have HSGL : Hid (∀ W k, Lv E bs ah vl gA gB SG m ts W k → Below w3.heap.size w3 W ∧ SG < W.heap.size) := fun W k hL => by
        obtain ⟨wv, mv, ss, f, hF, _, _, _, _, _, _, _, h3, _⟩ := hL
        have h9 := hF.low
        rw [HE.out.2.1] at h9
        exact ⟨h9, (hF.heap.lt h3.head).2⟩
      generalize W5.heap.size + 4 = FF at *
      go_loopw [28] (fun vi wr => ∃ k : Nat, vi = .int .i64 k ∧ k ≤ m ∧ Hid (Lv E bs ah vl gA gB SG m ts wr k)) (fun vi _ => m - (intOf vi).toNat)
      case atStart => exact ⟨0, rfl, by omega, HL0.out⟩
      case round =>
        obtain ⟨k, rfl, hk, hr⟩ := hrel
        clear HL0
        by_cases hkm : k < m
        · have hkm' : (k : Int) < m := by omega
          obtain ⟨a1, n1, c1, a2, n2, c2, a3, n3, c3, q0, q1, q2, htk, hbeg⟩ := begin_step HG.out hr.out hkm
          have hsg := (HSGL.out _ _ hr.out).2
          rw [HFE.out] at hbeg
          have HBEG : Hid _ := hbeg
          have HTK : Hid _ := htk
          have HKM : Hid (k < m) := hkm
          clear hbeg htk hr
          go_wp2_with (first
            | (go_at_call 20; go_loud (refine Calls.mono (by exact HBEG.out) ?_; rintro e w7 ⟨rfl, f7, ss7, hS7, hM7, hx7⟩; have HS7 : Hid _ := hS7; have HM7 : Hid _ := hM7; have HX7 : Hid _ := hx7; clear hS7 hM7 hx7))
            | (go_at_call 21; go_loud (refine Calls.mono (by have h9 := settle_any HED.out HG.out.n HS7.out; rw [HFE.out] at h9; exact h9) ?_; rintro e w8 ⟨rfl, f8, hS8, hw8⟩; have HS8 : Hid _ := hS8; have HW8 : Hid _ := hw8; have HZ8 : Hid (TzAt w8) := (by obtain ⟨⟨_, _, _, hF, _⟩, _⟩ := hS8; have h9 := hF.low; rw [HE.out.2.1] at h9; exact HZ.out.2 _ h9); clear hS8 hw8))
            | (go_at_call 22; go_loud (refine Calls.mono (by have h9 := tell_step HG.out HZ8.out (by rw [HE.out.2.1]; exact HZ.out.1) HKM.out HS8.out HW8.out HM7.out HX7.out; rw [HFE.out, HE.out.1] at h9; exact h9) ?_; rintro e w9 ⟨rfl, h9⟩; obtain ⟨r0, r1, r2, r3, hend⟩ := end_step HG.out HKM.out HS8.out HW8.out HTK.out h9; rw [HFE.out] at hend; have HEND : Hid _ := hend; clear hend h9))
            | (go_at_call 23; go_loud (refine Calls.mono (by exact HEND.out) ?_; rintro e w10 ⟨rfl, h10⟩; have H10 : Hid _ := h10; clear h10)))
          go_roundw
          case rel => exact ⟨k + 1, by first | rfl | (congr 1; omega), by omega, H10.out⟩
          case measure => simp [intOf]; omega
        · obtain rfl : k = m := by omega
          have HL : Hid _ := hr.out
          clear hr
          go_wp2
          obtain ⟨wv, mv, ss2, f, hF, _, ka, kb, ra, rb, h1, h2, h3, h4, h5⟩ := HL.out
          have hbe := (HSGL.out _ _ HL.out).1
          have hbs := HBS.out.size
          rw [HE.out.1] at h1 h2 h4 h5
          have hh := hF.heap
          rw [HE.out.2.1] at hh
          have r1 := rows_are h1.rl HM.out (fun i v hv => liveIn_lt HG.out.st.gr hv) h4
          have r2 := rows_are h2.rl HM.out (fun i v hv => liveOut_lt HG.out.st.gr hv) h5
          refine bodyPost_ret (results_tmp3 rfl _ _ _) rfl ⟨below_trans HBS.out hbe, .inr ⟨rfl, gA, gB, ka, kb, rfl, ?_, ?_⟩⟩
          · rw [← r1]; exact ans_rows hh hbs h1
          · rw [← r2]; exact ans_rows hh hbs h2
end Go.Proofs.YtcggbedjhglmmaaGreatDoor
