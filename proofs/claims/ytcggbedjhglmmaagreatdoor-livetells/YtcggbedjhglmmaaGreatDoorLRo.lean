/- The document's side: where one variable is live. -/
import Derived.Test.YtcggbedjhglmmaaGreatDoorLRo1M
import Derived.Test.YtcggbedjhglmmaaGreatDoorGStepM
import Derived.Test.YtcggbedjhglmmaaGreatDoorGRAhd
namespace Go.Proofs.YtcggbedjhglmmaaGreatDoor
open Go.RowKit

theorem getD_memZ {l : List Int} {j : Nat} (h : j < l.length) : l.getD j 0 ∈ l := by
  rw [List.getD, List.getElem?_eq_getElem h]
  exact List.getElem_mem h
theorem made_bools (n : Nat) : List.replicate n (Value.bool false) = (List.replicate n false).map Value.bool := by simp
theorem make_bools (n : Nat) (hn : n ≤ 1000000) (W : World) : (Instr.makeSlice 67 (.int .i64 (n : Int)) (.int .i64 (n : Int))).run Tryz.prog W = .ok (.slice (some ⟨W.heap.size, 0, none⟩) n n) (W.alloc (.cells (madeCells #[.bool false] n) 4)) := by
  obtain ⟨i, hi, hz, hs, hb⟩ := info_parts infoB
  have hr := run_make (P := Tryz.prog) W 67 4 i _ Tryz.underlying67 hi hz .i64 .i64 n n (by omega) (Int.le_refl _) (by rw [hb]; omega) (by omega)
  simp only [Int.toNat_natCast, hs, Nat.mul_one] at hr
  exact hr
set_option maxRecDepth 100000 in
set_option maxHeartbeats 8000000 in
theorem rone_any (G : Gr) (pv vv av bv ahv : Value) (ah : List (List Int)) (v : Int) (w : World) (h : GrAt w pv vv av bv G) (ha : NetAt w ahv ah) (hal : ah.length = G.blocks.length) (hn : G.blocks.length ≤ 100000)
    (hp : ∀ to, to < G.blocks.length → ∀ x ∈ (G.blocks.getD to default).ins, x.kind = 1 → x.args.length = (ah.getD to []).length)
    (hnx : ∀ i, i < G.blocks.length → ∀ t ∈ nextT (G.blocks.getD i default).tm, 0 ≤ t ∧ t < (G.blocks.length : Int)) :
    Calls Tryz.prog 26 #[.agg #[.string G.name, pv, .int .u8 G.result, vv, av, bv], ahv, .int .i64 v] w fun e w' => ∃ gA gB a b, gA ≠ gB ∧ e = .returned (.tuple #[.slice (some ⟨gA, 0, none⟩) G.blocks.length G.blocks.length, .slice (some ⟨gB, 0, none⟩) G.blocks.length G.blocks.length]) ∧ OwnB w' w.heap.size gA G.blocks.length a ∧ OwnB w' w.heap.size gB G.blocks.length b ∧ Below w.heap.size w w' ∧ (∀ i, i < G.blocks.length → (onB a i ↔ liveIn G.blocks ah v i) ∧ (onB b i ↔ liveOut G.blocks ah v i)) := by
  have HBP : Hid (∀ W, Below w.heap.size w W → ∀ fr to : Nat, to < G.blocks.length → Calls Tryz.prog 50 #[.agg #[.string G.name, pv, .int .u8 G.result, vv, av, bv], ahv, .int .i64 (fr : Int), .int .i64 (to : Int), .int .i64 v] W fun e w' => e = .returned (.bool (decL (phiAsk G.blocks ah fr to v))) ∧ Below W.heap.size W w') := fun W hb fr to ht => rbyphi_any G pv vv av bv ahv ah fr to v W (h.below hb) (ha.below hb) ht hal (hp to ht)
  have HFI : Hid (∀ W, Below w.heap.size w W → ∀ i iv, InsAt W iv (G.blocks.getD i default).ins → Calls Tryz.prog 51 #[.agg (blArr iv (G.blocks.getD i default).tm), .int .i64 v] W fun e w' => e = .returned (.int .i64 (firstB (G.blocks.getD i default) v : Nat)) ∧ Below W.heap.size W w') := fun W _ i iv hI => rfirst_any _ iv v W hI
  have HNX : Hid (∀ i, i < G.blocks.length → (nextT (G.blocks.getD i default).tm).length ≤ 2 ∧ ∀ k, k < (nextT (G.blocks.getD i default).tm).length → ∃ t : Nat, (nextT (G.blocks.getD i default).tm).getD k 0 = (t : Int) ∧ t < G.blocks.length) := fun i hi => by
    refine ⟨next_len _, fun k hk => ?_⟩
    have hm := hnx i hi ((nextT (G.blocks.getD i default).tm).getD k 0) (getD_memZ hk)
    obtain ⟨t, ht⟩ := Int.eq_ofNat_of_zero_le hm.1
    exact ⟨t, ht, by rw [ht] at hm; omega⟩
  obtain ⟨pa, pc, va, vc, aa, ac, ba, bc, rfl, rfl, rfl, rfl, _, _, _, hbl⟩ := h.openF
  obtain ⟨na, nc, rfl, hnl⟩ := ha.form
  rw [hal] at hnl HBP ⊢
  have HB : Hid (∀ i, i < G.blocks.length → _) := fun i hi => h.bs.get (i := i) hi
  clear h ha hal hp hnx hnl hbl
  obtain ⟨nm, ps, r, vs, ars, bs⟩ := G
  dsimp only at *
  generalize ps.length = pl at *
  generalize vs.length = m at *
  generalize ars.length = al at *
  generalize hbn : bs.length = n at *
  have HBN : Hid (bs.length = n) := hbn
  clear hbn
  have hn' : (n : Int) ≤ 100000 := by omega
  have hB1 : n ≤ 1000000 := by omega
  have HN1 : Hid (n ≤ 1000000) := hB1
  have hmk := make_bools n (by omega)
  have HBX : Hid (Box (w.alloc (.cells #[.string nm, .slice pa pl pc, .int .u8 r, .slice va m vc, .slice aa al ac, .slice ba n bc] 28)) w.heap.size [.string nm, .slice pa pl pc, .int .u8 r, .slice va m vc, .slice aa al ac, .slice ba n bc]) := Box.new w [.string nm, .slice pa pl pc, .int .u8 r, .slice va m vc, .slice aa al ac, .slice ba n bc] 28
  have HBE : Hid (Below w.heap.size w (w.alloc (.cells #[.string nm, .slice pa pl pc, .int .u8 r, .slice va m vc, .slice aa al ac, .slice ba n bc] 28))) := below_alloc (Below.refl _ _) _
  obtain ⟨w1, hw1⟩ : ∃ w1, w1 = (w.alloc (.cells #[.string nm, .slice pa pl pc, .int .u8 r, .slice va m vc, .slice aa al ac, .slice ba n bc] 28)) := ⟨_, rfl⟩
  have HSZ : Hid (w1.heap.size = w.heap.size + 1) := by show _ = _; rw [hw1]; simp
  have HW1 : Hid _ := hw1
  rw [← hw1] at HBX HBE
  clear hw1
  have HS0 : Hid (∀ W, Below w1.heap.size w1 W → W.cell? ⟨w.heap.size, 5, none⟩ = some (.slice ba n bc)) := fun W hb => (HBX.out.below hb).cell 5 _ rfl
  go_enter Tryz.func26, Tryz.ntmps26
  go_wp2
  rw [← HW1.out]
  clear HW1
  refine wp_region_late (fun wx => wx.cell? ⟨w.heap.size, 5, none⟩ = some (.slice ba n bc)) (fun _ => false) (by kernel_rfl) (HS0.out _ (below_drew (Below.refl _ _))) (fun hHeld => ?_)
  refine wpAnyL_take 0 (v := ?_) rfl (by kernel_rfl) (by kernel_rfl) (by kernel_rfl) (by kernel_rfl) (fun _ _ _ h => h) hHeld (Or.inl ⟨by rfl, ?_⟩) ?_
  rotate_left 1
  · (intro w hSw; (try dsimp only at hSw); first | (go_simp; done) | (go_simp; with_reducible rfl))
  simp only [Act.put, List.setIfInBounds_toArray]
  refine wpAnyL_take 1 (v := ?_) rfl (by kernel_rfl) (by kernel_rfl) (by kernel_rfl) (by kernel_rfl) (fun _ _ _ h => h) hHeld (Or.inl ⟨by rfl, ?_⟩) ?_
  rotate_left 1
  · (intro w hSw; (try dsimp only at hSw); first | (go_simp; done) | (go_simp; with_reducible rfl))
  simp only [Act.put]
  refine wpAnyL_take 2 (v := ?_) rfl (by kernel_rfl) (by kernel_rfl) (by kernel_rfl) (by kernel_rfl) (fun _ _ _ h => h) hHeld (Or.inl ⟨by rfl, ?_⟩) ?_
  rotate_left 1
  · (intro w hSw; (try dsimp only at hSw); first | (go_simp; done) | (go_simp; with_reducible rfl))
  simp only [Act.put]
  refine wpAnyL_take 4 (v := ?_) rfl (by kernel_rfl) (by kernel_rfl) (by kernel_rfl) (by kernel_rfl) (fun _ _ _ h => h) hHeld (Or.inl ⟨by rfl, ?_⟩) ?_
  rotate_left 1
  · (intro w hSw; (try dsimp only at hSw); first | (go_simp; done) | (go_simp; with_reducible rfl))
  simp only [Act.put]
  refine wpAnyL_take 5 (v := ?_) rfl (by kernel_rfl) (by kernel_rfl) (by kernel_rfl) (by kernel_rfl) (fun _ _ _ h => h) hHeld (Or.inl ⟨by rfl, ?_⟩) ?_
  rotate_left 1
  · (intro w hSw; (try dsimp only at hSw); first | (go_simp; done) | (go_simp; with_reducible rfl))
  simp only [Act.put]
  refine wpAnyL_take 6 (v := ?_) rfl (by kernel_rfl) (by kernel_rfl) (by kernel_rfl) (by kernel_rfl) (fun _ _ _ h => h) hHeld (Or.inl ⟨by rfl, ?_⟩) ?_
  rotate_left 1
  · (intro w hSw; (try dsimp only at hSw); first | (go_simp; done) | (go_simp; with_reducible rfl))
  simp only [Act.put]
  refine wpAnyL_inv (fun L a wr => ∃ (y0 y1 y2 y3 : Bool) (x0 x1 x2 x3 : Value), L = #[true, true, true, y0, true, true, true, y1, y2, y3] ∧ a = (⟨#[.agg #[.string nm, .slice pa pl pc, .int .u8 r, .slice va m vc, .slice aa al ac, .slice ba n bc], .slice na n nc, .int .i64 v, .pointer (some ⟨w.heap.size, 0, none⟩), undef, undef, .slice none 0 0, .slice none 0 0, x2, x3, undef, undef, undef, undef, undef, undef, undef, .pointer (some ⟨w.heap.size, 5, none⟩), .slice ba n bc, .int .i64 (n : Int), x0, .pointer (some ⟨w.heap.size, 5, none⟩), .slice ba n bc, .int .i64 (n : Int), x1, undef, undef, undef, undef, undef, undef, undef, undef, undef, undef, undef, undef, undef, undef, undef, undef, undef, undef, undef, undef, undef, undef, undef, undef, undef, undef, undef, undef, undef, undef, undef, undef, undef, undef, undef, undef, undef, undef, undef, undef, undef, undef, undef, undef, undef, undef, undef, undef, undef, undef, undef, undef, undef, undef, undef, undef, undef, undef, undef, undef, undef, undef, undef, undef, undef, undef, undef, undef, undef, undef, undef, undef, undef, undef, undef, undef, undef, undef, undef, undef, undef], []⟩ : Act) ∧ Q2 4 (.bool false) w1 wr n y0 y1 y2 y3 x0 x1 x2 x3) ?hS ?hsz (by kernel_rfl) ?hend ?hstep _ _ _ _ ?hI (by rfl)
  case hS => rintro L a wr ⟨y0, y1, y2, y3, x0, x1, x2, x3, rfl, rfl, hR⟩; exact HS0.out _ hR.bel
  case hsz => rintro L a wr ⟨y0, y1, y2, y3, x0, x1, x2, x3, rfl, rfl, hR⟩; rfl
  case hI => exact ⟨false, false, false, false, undef, undef, undef, undef, rfl, rfl, Q2.start _ _ _ n _ _ _ _⟩
  case hstep =>
    rintro i o L a wr ho ⟨y0, y1, y2, y3, x0, x1, x2, x3, rfl, rfl, hR⟩ hu hd K hK0
    rcases i with _ | _ | _ | _ | _ | _ | _ | _ | _ | _ | i
    · exfalso; simp at hu
    · exfalso; simp at hu
    · exfalso; simp at hu
    · cases ho
      have hy : y0 = false := hu
      subst hy
      have HR2 : Hid _ := hR.make0 HN1.out
      have hK : Shut _ := hK0
      clear hK0 hd hR
      go_simp
      refine hK.out _ _ ?_
      exact ⟨true, y1, y2, y3, _, x1, x2, x3, rfl, rfl, HR2.out⟩
    · exfalso; simp at hu
    · exfalso; simp at hu
    · exfalso; simp at hu
    · cases ho
      have hy : y1 = false := hu
      subst hy
      have HR2 : Hid _ := hR.make1 HN1.out
      have hK : Shut _ := hK0
      clear hK0 hd hR
      go_simp
      refine hK.out _ _ ?_
      exact ⟨y0, true, y2, y3, x0, _, x2, x3, rfl, rfl, HR2.out⟩
    · cases ho
      have hy : y2 = false := hu
      subst hy
      have hz : y0 = true := hd ⟨3, .data⟩ (by simp) rfl
      subst hz
      have HR2 : Hid _ := hR.set0
      have hK : Shut _ := hK0
      clear hK0 hd hR
      go_simp
      refine hK.out _ _ ?_
      exact ⟨true, y1, true, y3, x0, x1, _, x3, rfl, rfl, HR2.out⟩
    · cases ho
      have hy : y3 = false := hu
      subst hy
      have hz : y1 = true := hd ⟨7, .data⟩ (by simp) rfl
      subst hz
      have HR2 : Hid _ := hR.set1
      have hK : Shut _ := hK0
      clear hK0 hd hR
      go_simp
      refine hK.out _ _ ?_
      exact ⟨y0, true, y2, true, x0, x1, x2, _, rfl, rfl, HR2.out⟩
    · exfalso; simp at ho
  case hend =>
    rintro L a w4 ⟨y0, y1, y2, y3, x0, x1, x2, x3, rfl, rfl, hR⟩ hall
    have q0 : y0 = true := hall 3 (by decide)
    have q1 : y1 = true := hall 7 (by decide)
    have q2 : y2 = true := hall 8 (by decide)
    have q3 : y3 = true := hall 9 (by decide)
    subst q0 q1 q2 q3
    obtain ⟨gA, gB, hne, rfl, rfl, rfl, rfl, oa, ob⟩ := hR.done
    clear hall hHeld hmk
    rw [HSZ.out] at oa ob
    rw [made_bools] at oa ob
    have HST : Hid (OneS w gA gB n [.string nm, .slice pa pl pc, .int .u8 r, .slice va m vc, .slice aa al ac, .slice ba n bc] w4 (List.replicate n false) (List.replicate n false)) := ⟨below_trans HBE.out hR.bel, HBX.out.below hR.bel, oa, ob, hne⟩
    clear hR oa ob hne HS0 HBX HBE HSZ
    have HLI : Hid (LIv bs ah v n (List.replicate n false) (List.replicate n false)) := LI.start _ _ _ _ _
    have HNB : Hid (∀ i, i < n → ∀ j ∈ nxB bs i, j < n) := fun i hi j hj => by
      unfold nxB at hj
      obtain ⟨t, ht, rfl⟩ := List.mem_map.1 hj
      obtain ⟨k, hk, he⟩ := List.mem_iff_getElem.1 ht
      obtain ⟨t', h1, h2⟩ := (HNX.out i hi).2 k hk
      have h3 : (nextT (blk bs i).tm).getD k 0 = t := by rw [List.getD, List.getElem?_eq_getElem hk]; exact he
      have h1 : (nextT (blk bs i).tm).getD k 0 = (t' : Int) := h1
      rw [h3] at h1
      rw [h1]
      exact h2
    have HOF : Hid (offs (List.replicate n false) + offs (List.replicate n false) + 1 ≤ 2 * n + 1) := by show _ ≤ _; unfold offs; simp; omega
    go_wp2
    go_loopg [10] (2 * n + 1) (fun gm vch wr => ∃ (c : Bool) (a b : List Bool), vch = .bool c ∧ Hid (OneS w gA gB n [.string nm, .slice pa pl pc, .int .u8 r, .slice va m vc, .slice aa al ac, .slice ba n bc] wr a b ∧ LIv bs ah v n a b ∧ (c = false → ∀ j, j < n → FixV bs ah v a b j) ∧ offs a + offs b + (if c = true then 1 else 0) ≤ gm))
    case atStart => exact ⟨true, _, _, rfl, HST.out, HLI.out, (fun h => by cases h), HOF.out⟩
    case round =>
      obtain ⟨c, a, b, rfl, hr⟩ := hrel
      clear HST HLI HOF
      generalize wr = wo at *
      cases c with
      | false =>
        have HD : Hid _ := one_done hr.out.2.1 HNB.out (hr.out.2.2.1 rfl)
        have HX : Hid _ := hr.out.1
        clear hr HB HBP HFI HNX
        go_wp2
        refine bodyPost_ret (results_tmp2 rfl _ _ _) rfl ⟨gA, gB, a, b, HX.out.ne, rfl, own_mono HX.out.ra (Nat.le_succ _), own_mono HX.out.rb (Nat.le_succ _), HX.out.bel, HD.out⟩
      | true =>
        obtain ⟨M, hM⟩ : ∃ M, M = offs a + offs b := ⟨_, rfl⟩
        have HGM : Hid (M + 1 ≤ gk) := by have h9 := hr.out.2.2.2; rw [if_pos rfl] at h9; rw [hM]; exact h9
        have HM : Hid (offs a + offs b ≤ M) := Nat.le_of_eq hM.symm
        clear hM
        have HX : Hid _ := hr.out.1
        have HL : Hid _ := hr.out.2.1
        clear hr
        go_wp2
        go_loopw [10, 11] (fun vch vi wr => ∃ (c : Bool) (i : Nat) (a b : List Bool), vch = .bool c ∧ vi = .int .i64 i ∧ i ≤ n ∧ Hid (OneS w gA gB n [.string nm, .slice pa pl pc, .int .u8 r, .slice va m vc, .slice aa al ac, .slice ba n bc] wr a b ∧ LIv bs ah v n a b ∧ (c = true → offs a + offs b < M) ∧ (c = false → offs a + offs b ≤ M ∧ ∀ j, j < i → FixV bs ah v a b j))) (fun _ vi _ => n - (intOf vi).toNat)
        case atStart => exact ⟨false, 0, a, b, rfl, rfl, by omega, HX.out, HL.out, (fun h => by cases h), fun _ => ⟨HM.out, fun j hj => by omega⟩⟩
        case round =>
          obtain ⟨c, i, a, b, rfl, rfl, hi, hr⟩ := hrel
          clear HX HL HM
          generalize wr = wp at *
          obtain ⟨e0, e1, e2, e3, e4, e5⟩ := box6 hr.out.1.box
          have hwl := hr.out.1.box.lt
          by_cases hin : i < n
          · obtain ⟨g, o, iv, rfl, hg, c0, c1, c2, c3, c4, c5, hins⟩ := HB.out i hin
            obtain ⟨ia, ic, rfl, _⟩ := hins.form
            have hin' : (i : Int) < n := by omega
            have hcl : ∀ j, wp.cell? ⟨g, j, none⟩ = w.cell? ⟨g, j, none⟩ := fun j => hr.out.1.bel.cell (p := ⟨g, j, none⟩) hg
            have HCW : Hid (∀ W, Below w.heap.size w W → W.cell? ⟨g, o + i * 6, none⟩ = w.cell? ⟨g, o + i * 6, none⟩ ∧ W.cell? ⟨g, o + i * 6 + 1, none⟩ = w.cell? ⟨g, o + i * 6 + 1, none⟩ ∧ W.cell? ⟨g, o + i * 6 + 2, none⟩ = w.cell? ⟨g, o + i * 6 + 2, none⟩ ∧ W.cell? ⟨g, o + i * 6 + 3, none⟩ = w.cell? ⟨g, o + i * 6 + 3, none⟩ ∧ W.cell? ⟨g, o + i * 6 + 4, none⟩ = w.cell? ⟨g, o + i * 6 + 4, none⟩ ∧ W.cell? ⟨g, o + i * 6 + 5, none⟩ = w.cell? ⟨g, o + i * 6 + 5, none⟩) := fun W hb => ⟨hb.cell (p := ⟨g, _, none⟩) hg, hb.cell (p := ⟨g, _, none⟩) hg, hb.cell (p := ⟨g, _, none⟩) hg, hb.cell (p := ⟨g, _, none⟩) hg, hb.cell (p := ⟨g, _, none⟩) hg, hb.cell (p := ⟨g, _, none⟩) hg⟩
            rw [c0, c1, c2, c3, c4, c5] at HCW
            rw [← hcl] at c0 c1 c2 c3 c4 c5
            obtain ⟨hxl, hxt⟩ := HNX.out i hin
            have HXT : Hid (∀ k, k < (nextT (blk bs i).tm).length → ∃ t : Nat, (nextT (blk bs i).tm).getD k 0 = (t : Int) ∧ t < n) := hxt
            have hxl : (nextT (blk bs i).tm).length ≤ 2 := hxl
            have HFC : Hid (∀ W, Below w.heap.size w W → Calls Tryz.prog 51 #[.agg (blArr (.slice ia (bs.getD i default).ins.length ic) (bs.getD i default).tm), .int .i64 v] W fun e w' => e = .returned (.int .i64 (firstB (blk bs i) v : Nat)) ∧ Below W.heap.size W w') := fun W hb => HFI.out W hb i _ (hins.below hb)
            have HBQ : Hid (∀ W, Below w.heap.size w W → ∀ to : Nat, to < n → _) := fun W hb to ht => HBP.out W hb i to ht
            have HRN : Hid (∀ W, Calls Tryz.prog 48 #[.agg (blArr (.slice ia (bs.getD i default).ins.length ic) (bs.getD i default).tm)] W fun e w' => ∃ v, e = .returned v ∧ OwnI w' W.heap.size v (nextT (blk bs i).tm) ∧ Below W.heap.size W w') := rnext_any (.slice ia (bs.getD i default).ins.length ic) (bs.getD i default).tm
            have HQ0 : Hid (Qk bs ah v a i 0 false) := Qk.zero bs ah v a i
            have HRO : Hid _ := hr.out
            clear hcl hins HB HFI HBP hxt HNX hr
            generalize (bs.getD i default).ins.length = il at *
            generalize (bs.getD i default).tm = t at *
            obtain ⟨tk, ta, t0, t1, tt⟩ := t
            dsimp only at *
            have HWB : Hid (Below w.heap.size w wp) := HRO.out.1.bel
            go_wp2_with (go_at_call 48; go_loud (refine Calls.mono (by exact HRN.out wp) ?_; rintro e w2 ⟨nv, rfl, hn2, hb2⟩; obtain ⟨sa, sc, rfl, _⟩ := (OwnI.at' hn2 (by omega)).form; have HIN : Hid _ := OwnI.at' hn2 (by omega); have HB2 : Hid _ := hb2; clear hn2 hb2))
            have HX2 : Hid _ := HRO.out.1.below HB2.out
            have HQR : Hid _ := HRO.out.2
            clear HRN HRO HB2 c0 c1 c2 c3 c4 c5 e0 e1 e2 e3 e4 e5 HWB
            go_loopw [13, 14] (fun vq vk wr => ∃ (q : Bool) (k : Nat), vq = .bool q ∧ vk = .int .i64 k ∧ k ≤ (nextT (blk bs i).tm).length ∧ Hid (OneS w gA gB n [.string nm, .slice pa pl pc, .int .u8 r, .slice va m vc, .slice aa al ac, .slice (some ⟨g, o, none⟩) n bc] wr a b ∧ IntsAt wr (.slice sa (nextT (blk bs i).tm).length sc) (nextT (blk bs i).tm) ∧ Qk bs ah v a i k q)) (fun _ vk _ => (nextT (blk bs i).tm).length - (intOf vk).toNat)
            case atStart => exact ⟨false, 0, rfl, rfl, by omega, HX2.out, HIN.out, HQ0.out⟩
            case round =>
              obtain ⟨q, k, rfl, rfl, hk, hq⟩ := hrel
              clear HX2 HIN HQ0
              obtain ⟨e0, e1, e2, e3, e4, e5⟩ := box6 hq.out.1.box
              have hwq := hq.out.1.box.lt
              by_cases hkl : k < (nextT (blk bs i).tm).length
              · obtain ⟨tn, htn, htl⟩ := HXT.out k hkl
                obtain ⟨gs, os, rfl, hgs, cs⟩ := hq.out.2.1.get (i := k) hkl
                rw [htn] at cs
                have HTN : Hid _ := htn
                have hkl' : (k : Int) < (nextT (blk bs i).tm).length := by omega
                have htl' : (tn : Int) < n := by omega
                obtain ⟨fa, _, _, _⟩ := hq.out.1.facts htl
                have HQQ : Hid _ := hq.out
                have HBP2 : Hid (∀ W, Below w.heap.size w W → _) := fun W hb => HBQ.out W hb tn htl
                clear hq htn HXT HBQ
                generalize (nextT (blk bs i).tm).length = nl at *
                cases q with
                | true =>
                  have HQN : Hid (Qk bs ah v a i (k + 1) true) := HQQ.out.2.2.next HTN.out (by simp)
                  go_wp2
                  go_quiet (fail)
                  go_wp2
                  go_roundw
                  case rel => exact ⟨true, k + 1, rfl, by first | rfl | (congr 1; omega), by omega, HQQ.out.1.below (by first | exact below_drewN (Below.refl _ _) _ | exact Below.refl _ _), HQQ.out.2.1.below (by first | exact below_drewN (Below.refl _ _) _ | exact Below.refl _ _), HQN.out⟩
                  case measure => simp [intOf]; omega
                | false =>
                  rcases hat : a.getD tn false with _ | _
                  · rw [hat] at fa
                    obtain ⟨R, hR⟩ : ∃ R, R = decL (phiAsk bs ah i tn v) := ⟨_, rfl⟩
                    rw [← hR] at HBP2
                    have HQN : Hid (Qk bs ah v a i (k + 1) R) := HQQ.out.2.2.next HTN.out (by rw [hR, decL_iff]; constructor; exact fun h => .inr (.inr h); rintro (h | h | h); cases h; (unfold onB at h; rw [hat] at h; cases h); exact h)
                    clear hR hat
                    go_wp2
                    refine wp_region_last3 19 _ _ _ rfl rfl rfl rfl rfl (by kernel_rfl) (by kernel_rfl) (by kernel_rfl) (by kernel_rfl) (by kernel_rfl) (by kernel_rfl) (by kernel_rfl) (by kernel_rfl) ?_
                    simp only [List.take_succ_cons, List.take_zero]
                    repeat (go_big_quiet_step (fail))
                    refine wpQuiet_nil ?_
                    refine ⟨by rfl, ?_⟩
                    intro _ hw'
                    obtain ⟨nq, hw''⟩ := hw'
                    subst hw''
                    intro K hK
                    obtain ⟨d0, d1, d2, d3, d4, d5⟩ := box6 (HQQ.out.1.box.below (below_drewN (Below.refl _ _) nq))
                    go_simp
                    refine Calls.mono (by exact HBP2.out _ (below_drewN HQQ.out.1.bel nq)) ?_
                    rintro e w5 ⟨rfl, hb5⟩
                    refine hK _ _ ?_
                    clear hK K
                    have HX5 : Hid _ := (HQQ.out.1.below (below_drewN (Below.refl _ _) nq)).below hb5
                    have HI5 : Hid _ := (HQQ.out.2.1.below (below_drewN (Below.refl _ _) nq)).below hb5
                    clear hb5 HQQ HBP2
                    go_simp
                    go_wp2
                    go_roundw
                    case rel => exact ⟨R, k + 1, rfl, by first | rfl | (congr 1; omega), by omega, HX5.out, HI5.out, HQN.out⟩
                    case measure => simp [intOf]; omega
                  · have HQN : Hid (Qk bs ah v a i (k + 1) true) := HQQ.out.2.2.next HTN.out (by simp [onB]; exact .inl (by simpa using hat))
                    rw [hat] at fa
                    go_wp2
                    go_quiet (fail)
                    go_wp2
                    go_roundw
                    case rel => exact ⟨true, k + 1, rfl, by first | rfl | (congr 1; omega), by omega, HQQ.out.1.below (by first | exact below_drewN (Below.refl _ _) _ | exact Below.refl _ _), HQQ.out.2.1.below (by first | exact below_drewN (Below.refl _ _) _ | exact Below.refl _ _), HQN.out⟩
                    case measure => simp [intOf]; omega
              · obtain rfl : k = (nextT (blk bs i).tm).length := by omega
                have HQD : Hid _ := hq.out.2.2.done
                have HX3 : Hid _ := hq.out.1
                clear hq hkl hk
                obtain ⟨f, hf⟩ : ∃ f, f = firstB (blk bs i) v := ⟨_, rfl⟩
                have hfl : f ≤ 2 := by rw [hf]; exact firstB_le _ _
                rw [← hf] at HFC
                have HSA : Hid (∀ p : Bool, (p = true ↔ f = 1 ∨ f = 0 ∧ q = true) → a.getD i false = p → b.getD i false = q → ∀ W, OneS w gA gB n [.string nm, .slice pa pl pc, .int .u8 r, .slice va m vc, .slice aa al ac, .slice (some ⟨g, o, none⟩) n bc] W a b → OneS w gA gB n [.string nm, .slice pa pl pc, .int .u8 r, .slice va m vc, .slice aa al ac, .slice (some ⟨g, o, none⟩) n bc] W a b ∧ LIv bs ah v n a b ∧ (c = true → offs a + offs b < M) ∧ (c = false → offs a + offs b ≤ M ∧ ∀ j, j < i + 1 → FixV bs ah v a b j)) := fun p hp ea eb W hW => by
                  refine ⟨hW, HQR.out.1, HQR.out.2.1, fun hc => ⟨(HQR.out.2.2 hc).1, fun j hj => ?_⟩⟩
                  by_cases e : j = i
                  · subst e; rw [hf] at hp; exact one_same HQD.out hp ea eb
                  · exact (HQR.out.2.2 hc).2 j (by omega)
                have HCH : Hid (∀ p : Bool, (p = true ↔ f = 1 ∨ f = 0 ∧ q = true) → (p ≠ a.getD i false ∨ q ≠ b.getD i false) → ∀ W, OneS w gA gB n [.string nm, .slice pa pl pc, .int .u8 r, .slice va m vc, .slice aa al ac, .slice (some ⟨g, o, none⟩) n bc] W (a.set i p) (b.set i q) → OneS w gA gB n [.string nm, .slice pa pl pc, .int .u8 r, .slice va m vc, .slice aa al ac, .slice (some ⟨g, o, none⟩) n bc] W (a.set i p) (b.set i q) ∧ LIv bs ah v n (a.set i p) (b.set i q) ∧ offs (a.set i p) + offs (b.set i q) < M) := fun p hp hne W hW => by
                  rw [hf] at hp
                  refine ⟨hW, HQR.out.1.step hin HQD.out hp, ?_⟩
                  have h8 := HQR.out.1.less hin HQD.out hp hne
                  rcases hc : c with _ | _
                  · have := (HQR.out.2.2 hc).1; omega
                  · have := HQR.out.2.1 hc; omega
                clear hf HQD HXT HQR HBQ
                have hf3 : f = 0 ∨ f = 1 ∨ f = 2 := by omega
                clear hfl
                rcases hai : a.getD i false with _ | _ <;> rcases hbi : b.getD i false with _ | _ <;> rcases q with _ | _ <;> rcases hf3 with rfl | rfl | rfl
                · rw [show ((0 : Nat) : Int) = 0 from rfl] at HFC
                  have HN : Hid _ := HSA.out false (by simp) hai hbi
                  clear HSA HCH
                  obtain ⟨x0, x1, x2, x3, x4, x5⟩ := HCW.out _ HX3.out.bel
                  go_wp2_with (go_at_call 51; go_loud (refine Calls.mono (by exact HFC.out _ HX3.out.bel) ?_; rintro e w6 ⟨rfl, hb6⟩; have H6 : Hid _ := HX3.out.below hb6; obtain ⟨ca, cb, fza, fzb⟩ := H6.out.facts hin; rw [hai] at ca; rw [hbi] at cb; obtain ⟨cb2, fzb2⟩ := H6.out.facts2 hin false; rw [hbi] at cb2; clear hb6))
                  go_roundw
                  case rel => exact ⟨c, i + 1, a, b, rfl, by first | rfl | (congr 1; omega), by omega, HN.out _ H6.out⟩
                  case measure => simp [intOf]; omega
                · rw [show ((1 : Nat) : Int) = 1 from rfl] at HFC
                  have HN : Hid _ := HCH.out true (by simp) (by rw [hai, hbi]; decide)
                  clear HSA HCH
                  obtain ⟨x0, x1, x2, x3, x4, x5⟩ := HCW.out _ HX3.out.bel
                  go_wp2_with (go_at_call 51; go_loud (refine Calls.mono (by exact HFC.out _ HX3.out.bel) ?_; rintro e w6 ⟨rfl, hb6⟩; have H6 : Hid _ := HX3.out.below hb6; obtain ⟨ca, cb, fza, fzb⟩ := H6.out.facts hin; rw [hai] at ca; rw [hbi] at cb; obtain ⟨cb2, fzb2⟩ := H6.out.facts2 hin true; rw [hbi] at cb2; clear hb6))
                  go_roundw
                  case rel => exact ⟨true, i + 1, a.set i true, b.set i false, rfl, by first | rfl | (congr 1; omega), by omega, (HN.out _ (H6.out.set i true false)).1, (HN.out _ (H6.out.set i true false)).2.1, (fun _ => (HN.out _ (H6.out.set i true false)).2.2), (fun h => by cases h)⟩
                  case measure => simp [intOf]; omega
                · rw [show ((2 : Nat) : Int) = 2 from rfl] at HFC
                  have HN : Hid _ := HSA.out false (by simp) hai hbi
                  clear HSA HCH
                  obtain ⟨x0, x1, x2, x3, x4, x5⟩ := HCW.out _ HX3.out.bel
                  go_wp2_with (go_at_call 51; go_loud (refine Calls.mono (by exact HFC.out _ HX3.out.bel) ?_; rintro e w6 ⟨rfl, hb6⟩; have H6 : Hid _ := HX3.out.below hb6; obtain ⟨ca, cb, fza, fzb⟩ := H6.out.facts hin; rw [hai] at ca; rw [hbi] at cb; obtain ⟨cb2, fzb2⟩ := H6.out.facts2 hin false; rw [hbi] at cb2; clear hb6))
                  go_roundw
                  case rel => exact ⟨c, i + 1, a, b, rfl, by first | rfl | (congr 1; omega), by omega, HN.out _ H6.out⟩
                  case measure => simp [intOf]; omega
                · rw [show ((0 : Nat) : Int) = 0 from rfl] at HFC
                  have HN : Hid _ := HCH.out true (by simp) (by rw [hai, hbi]; decide)
                  clear HSA HCH
                  obtain ⟨x0, x1, x2, x3, x4, x5⟩ := HCW.out _ HX3.out.bel
                  go_wp2_with (go_at_call 51; go_loud (refine Calls.mono (by exact HFC.out _ HX3.out.bel) ?_; rintro e w6 ⟨rfl, hb6⟩; have H6 : Hid _ := HX3.out.below hb6; obtain ⟨ca, cb, fza, fzb⟩ := H6.out.facts hin; rw [hai] at ca; rw [hbi] at cb; obtain ⟨cb2, fzb2⟩ := H6.out.facts2 hin true; rw [hbi] at cb2; clear hb6))
                  go_roundw
                  case rel => exact ⟨true, i + 1, a.set i true, b.set i true, rfl, by first | rfl | (congr 1; omega), by omega, (HN.out _ (H6.out.set i true true)).1, (HN.out _ (H6.out.set i true true)).2.1, (fun _ => (HN.out _ (H6.out.set i true true)).2.2), (fun h => by cases h)⟩
                  case measure => simp [intOf]; omega
                · rw [show ((1 : Nat) : Int) = 1 from rfl] at HFC
                  have HN : Hid _ := HCH.out true (by simp) (by rw [hai, hbi]; decide)
                  clear HSA HCH
                  obtain ⟨x0, x1, x2, x3, x4, x5⟩ := HCW.out _ HX3.out.bel
                  go_wp2_with (go_at_call 51; go_loud (refine Calls.mono (by exact HFC.out _ HX3.out.bel) ?_; rintro e w6 ⟨rfl, hb6⟩; have H6 : Hid _ := HX3.out.below hb6; obtain ⟨ca, cb, fza, fzb⟩ := H6.out.facts hin; rw [hai] at ca; rw [hbi] at cb; obtain ⟨cb2, fzb2⟩ := H6.out.facts2 hin true; rw [hbi] at cb2; clear hb6))
                  go_roundw
                  case rel => exact ⟨true, i + 1, a.set i true, b.set i true, rfl, by first | rfl | (congr 1; omega), by omega, (HN.out _ (H6.out.set i true true)).1, (HN.out _ (H6.out.set i true true)).2.1, (fun _ => (HN.out _ (H6.out.set i true true)).2.2), (fun h => by cases h)⟩
                  case measure => simp [intOf]; omega
                · rw [show ((2 : Nat) : Int) = 2 from rfl] at HFC
                  have HN : Hid _ := HCH.out false (by simp) (by rw [hai, hbi]; decide)
                  clear HSA HCH
                  obtain ⟨x0, x1, x2, x3, x4, x5⟩ := HCW.out _ HX3.out.bel
                  go_wp2_with (go_at_call 51; go_loud (refine Calls.mono (by exact HFC.out _ HX3.out.bel) ?_; rintro e w6 ⟨rfl, hb6⟩; have H6 : Hid _ := HX3.out.below hb6; obtain ⟨ca, cb, fza, fzb⟩ := H6.out.facts hin; rw [hai] at ca; rw [hbi] at cb; obtain ⟨cb2, fzb2⟩ := H6.out.facts2 hin false; rw [hbi] at cb2; clear hb6))
                  go_roundw
                  case rel => exact ⟨true, i + 1, a.set i false, b.set i true, rfl, by first | rfl | (congr 1; omega), by omega, (HN.out _ (H6.out.set i false true)).1, (HN.out _ (H6.out.set i false true)).2.1, (fun _ => (HN.out _ (H6.out.set i false true)).2.2), (fun h => by cases h)⟩
                  case measure => simp [intOf]; omega
                · rw [show ((0 : Nat) : Int) = 0 from rfl] at HFC
                  have HN : Hid _ := HCH.out false (by simp) (by rw [hai, hbi]; decide)
                  clear HSA HCH
                  obtain ⟨x0, x1, x2, x3, x4, x5⟩ := HCW.out _ HX3.out.bel
                  go_wp2_with (go_at_call 51; go_loud (refine Calls.mono (by exact HFC.out _ HX3.out.bel) ?_; rintro e w6 ⟨rfl, hb6⟩; have H6 : Hid _ := HX3.out.below hb6; obtain ⟨ca, cb, fza, fzb⟩ := H6.out.facts hin; rw [hai] at ca; rw [hbi] at cb; obtain ⟨cb2, fzb2⟩ := H6.out.facts2 hin false; rw [hbi] at cb2; clear hb6))
                  go_roundw
                  case rel => exact ⟨true, i + 1, a.set i false, b.set i false, rfl, by first | rfl | (congr 1; omega), by omega, (HN.out _ (H6.out.set i false false)).1, (HN.out _ (H6.out.set i false false)).2.1, (fun _ => (HN.out _ (H6.out.set i false false)).2.2), (fun h => by cases h)⟩
                  case measure => simp [intOf]; omega
                · rw [show ((1 : Nat) : Int) = 1 from rfl] at HFC
                  have HN : Hid _ := HCH.out true (by simp) (by rw [hai, hbi]; decide)
                  clear HSA HCH
                  obtain ⟨x0, x1, x2, x3, x4, x5⟩ := HCW.out _ HX3.out.bel
                  go_wp2_with (go_at_call 51; go_loud (refine Calls.mono (by exact HFC.out _ HX3.out.bel) ?_; rintro e w6 ⟨rfl, hb6⟩; have H6 : Hid _ := HX3.out.below hb6; obtain ⟨ca, cb, fza, fzb⟩ := H6.out.facts hin; rw [hai] at ca; rw [hbi] at cb; obtain ⟨cb2, fzb2⟩ := H6.out.facts2 hin true; rw [hbi] at cb2; clear hb6))
                  go_roundw
                  case rel => exact ⟨true, i + 1, a.set i true, b.set i false, rfl, by first | rfl | (congr 1; omega), by omega, (HN.out _ (H6.out.set i true false)).1, (HN.out _ (H6.out.set i true false)).2.1, (fun _ => (HN.out _ (H6.out.set i true false)).2.2), (fun h => by cases h)⟩
                  case measure => simp [intOf]; omega
                · rw [show ((2 : Nat) : Int) = 2 from rfl] at HFC
                  have HN : Hid _ := HCH.out false (by simp) (by rw [hai, hbi]; decide)
                  clear HSA HCH
                  obtain ⟨x0, x1, x2, x3, x4, x5⟩ := HCW.out _ HX3.out.bel
                  go_wp2_with (go_at_call 51; go_loud (refine Calls.mono (by exact HFC.out _ HX3.out.bel) ?_; rintro e w6 ⟨rfl, hb6⟩; have H6 : Hid _ := HX3.out.below hb6; obtain ⟨ca, cb, fza, fzb⟩ := H6.out.facts hin; rw [hai] at ca; rw [hbi] at cb; obtain ⟨cb2, fzb2⟩ := H6.out.facts2 hin false; rw [hbi] at cb2; clear hb6))
                  go_roundw
                  case rel => exact ⟨true, i + 1, a.set i false, b.set i false, rfl, by first | rfl | (congr 1; omega), by omega, (HN.out _ (H6.out.set i false false)).1, (HN.out _ (H6.out.set i false false)).2.1, (fun _ => (HN.out _ (H6.out.set i false false)).2.2), (fun h => by cases h)⟩
                  case measure => simp [intOf]; omega
                · rw [show ((0 : Nat) : Int) = 0 from rfl] at HFC
                  have HN : Hid _ := HCH.out true (by simp) (by rw [hai, hbi]; decide)
                  clear HSA HCH
                  obtain ⟨x0, x1, x2, x3, x4, x5⟩ := HCW.out _ HX3.out.bel
                  go_wp2_with (go_at_call 51; go_loud (refine Calls.mono (by exact HFC.out _ HX3.out.bel) ?_; rintro e w6 ⟨rfl, hb6⟩; have H6 : Hid _ := HX3.out.below hb6; obtain ⟨ca, cb, fza, fzb⟩ := H6.out.facts hin; rw [hai] at ca; rw [hbi] at cb; obtain ⟨cb2, fzb2⟩ := H6.out.facts2 hin true; rw [hbi] at cb2; clear hb6))
                  go_roundw
                  case rel => exact ⟨true, i + 1, a.set i true, b.set i true, rfl, by first | rfl | (congr 1; omega), by omega, (HN.out _ (H6.out.set i true true)).1, (HN.out _ (H6.out.set i true true)).2.1, (fun _ => (HN.out _ (H6.out.set i true true)).2.2), (fun h => by cases h)⟩
                  case measure => simp [intOf]; omega
                · rw [show ((1 : Nat) : Int) = 1 from rfl] at HFC
                  have HN : Hid _ := HCH.out true (by simp) (by rw [hai, hbi]; decide)
                  clear HSA HCH
                  obtain ⟨x0, x1, x2, x3, x4, x5⟩ := HCW.out _ HX3.out.bel
                  go_wp2_with (go_at_call 51; go_loud (refine Calls.mono (by exact HFC.out _ HX3.out.bel) ?_; rintro e w6 ⟨rfl, hb6⟩; have H6 : Hid _ := HX3.out.below hb6; obtain ⟨ca, cb, fza, fzb⟩ := H6.out.facts hin; rw [hai] at ca; rw [hbi] at cb; obtain ⟨cb2, fzb2⟩ := H6.out.facts2 hin true; rw [hbi] at cb2; clear hb6))
                  go_roundw
                  case rel => exact ⟨true, i + 1, a.set i true, b.set i true, rfl, by first | rfl | (congr 1; omega), by omega, (HN.out _ (H6.out.set i true true)).1, (HN.out _ (H6.out.set i true true)).2.1, (fun _ => (HN.out _ (H6.out.set i true true)).2.2), (fun h => by cases h)⟩
                  case measure => simp [intOf]; omega
                · rw [show ((2 : Nat) : Int) = 2 from rfl] at HFC
                  have HN : Hid _ := HSA.out false (by simp) hai hbi
                  clear HSA HCH
                  obtain ⟨x0, x1, x2, x3, x4, x5⟩ := HCW.out _ HX3.out.bel
                  go_wp2_with (go_at_call 51; go_loud (refine Calls.mono (by exact HFC.out _ HX3.out.bel) ?_; rintro e w6 ⟨rfl, hb6⟩; have H6 : Hid _ := HX3.out.below hb6; obtain ⟨ca, cb, fza, fzb⟩ := H6.out.facts hin; rw [hai] at ca; rw [hbi] at cb; obtain ⟨cb2, fzb2⟩ := H6.out.facts2 hin false; rw [hbi] at cb2; clear hb6))
                  go_roundw
                  case rel => exact ⟨c, i + 1, a, b, rfl, by first | rfl | (congr 1; omega), by omega, HN.out _ H6.out⟩
                  case measure => simp [intOf]; omega
                · rw [show ((0 : Nat) : Int) = 0 from rfl] at HFC
                  have HN : Hid _ := HCH.out false (by simp) (by rw [hai, hbi]; decide)
                  clear HSA HCH
                  obtain ⟨x0, x1, x2, x3, x4, x5⟩ := HCW.out _ HX3.out.bel
                  go_wp2_with (go_at_call 51; go_loud (refine Calls.mono (by exact HFC.out _ HX3.out.bel) ?_; rintro e w6 ⟨rfl, hb6⟩; have H6 : Hid _ := HX3.out.below hb6; obtain ⟨ca, cb, fza, fzb⟩ := H6.out.facts hin; rw [hai] at ca; rw [hbi] at cb; obtain ⟨cb2, fzb2⟩ := H6.out.facts2 hin false; rw [hbi] at cb2; clear hb6))
                  go_roundw
                  case rel => exact ⟨true, i + 1, a.set i false, b.set i false, rfl, by first | rfl | (congr 1; omega), by omega, (HN.out _ (H6.out.set i false false)).1, (HN.out _ (H6.out.set i false false)).2.1, (fun _ => (HN.out _ (H6.out.set i false false)).2.2), (fun h => by cases h)⟩
                  case measure => simp [intOf]; omega
                · rw [show ((1 : Nat) : Int) = 1 from rfl] at HFC
                  have HN : Hid _ := HSA.out true (by simp) hai hbi
                  clear HSA HCH
                  obtain ⟨x0, x1, x2, x3, x4, x5⟩ := HCW.out _ HX3.out.bel
                  go_wp2_with (go_at_call 51; go_loud (refine Calls.mono (by exact HFC.out _ HX3.out.bel) ?_; rintro e w6 ⟨rfl, hb6⟩; have H6 : Hid _ := HX3.out.below hb6; obtain ⟨ca, cb, fza, fzb⟩ := H6.out.facts hin; rw [hai] at ca; rw [hbi] at cb; obtain ⟨cb2, fzb2⟩ := H6.out.facts2 hin true; rw [hbi] at cb2; clear hb6))
                  go_roundw
                  case rel => exact ⟨c, i + 1, a, b, rfl, by first | rfl | (congr 1; omega), by omega, HN.out _ H6.out⟩
                  case measure => simp [intOf]; omega
                · rw [show ((2 : Nat) : Int) = 2 from rfl] at HFC
                  have HN : Hid _ := HCH.out false (by simp) (by rw [hai, hbi]; decide)
                  clear HSA HCH
                  obtain ⟨x0, x1, x2, x3, x4, x5⟩ := HCW.out _ HX3.out.bel
                  go_wp2_with (go_at_call 51; go_loud (refine Calls.mono (by exact HFC.out _ HX3.out.bel) ?_; rintro e w6 ⟨rfl, hb6⟩; have H6 : Hid _ := HX3.out.below hb6; obtain ⟨ca, cb, fza, fzb⟩ := H6.out.facts hin; rw [hai] at ca; rw [hbi] at cb; obtain ⟨cb2, fzb2⟩ := H6.out.facts2 hin false; rw [hbi] at cb2; clear hb6))
                  go_roundw
                  case rel => exact ⟨true, i + 1, a.set i false, b.set i false, rfl, by first | rfl | (congr 1; omega), by omega, (HN.out _ (H6.out.set i false false)).1, (HN.out _ (H6.out.set i false false)).2.1, (fun _ => (HN.out _ (H6.out.set i false false)).2.2), (fun h => by cases h)⟩
                  case measure => simp [intOf]; omega
                · rw [show ((0 : Nat) : Int) = 0 from rfl] at HFC
                  have HN : Hid _ := HCH.out true (by simp) (by rw [hai, hbi]; decide)
                  clear HSA HCH
                  obtain ⟨x0, x1, x2, x3, x4, x5⟩ := HCW.out _ HX3.out.bel
                  go_wp2_with (go_at_call 51; go_loud (refine Calls.mono (by exact HFC.out _ HX3.out.bel) ?_; rintro e w6 ⟨rfl, hb6⟩; have H6 : Hid _ := HX3.out.below hb6; obtain ⟨ca, cb, fza, fzb⟩ := H6.out.facts hin; rw [hai] at ca; rw [hbi] at cb; obtain ⟨cb2, fzb2⟩ := H6.out.facts2 hin true; rw [hbi] at cb2; clear hb6))
                  go_roundw
                  case rel => exact ⟨true, i + 1, a.set i true, b.set i true, rfl, by first | rfl | (congr 1; omega), by omega, (HN.out _ (H6.out.set i true true)).1, (HN.out _ (H6.out.set i true true)).2.1, (fun _ => (HN.out _ (H6.out.set i true true)).2.2), (fun h => by cases h)⟩
                  case measure => simp [intOf]; omega
                · rw [show ((1 : Nat) : Int) = 1 from rfl] at HFC
                  have HN : Hid _ := HCH.out true (by simp) (by rw [hai, hbi]; decide)
                  clear HSA HCH
                  obtain ⟨x0, x1, x2, x3, x4, x5⟩ := HCW.out _ HX3.out.bel
                  go_wp2_with (go_at_call 51; go_loud (refine Calls.mono (by exact HFC.out _ HX3.out.bel) ?_; rintro e w6 ⟨rfl, hb6⟩; have H6 : Hid _ := HX3.out.below hb6; obtain ⟨ca, cb, fza, fzb⟩ := H6.out.facts hin; rw [hai] at ca; rw [hbi] at cb; obtain ⟨cb2, fzb2⟩ := H6.out.facts2 hin true; rw [hbi] at cb2; clear hb6))
                  go_roundw
                  case rel => exact ⟨true, i + 1, a.set i true, b.set i true, rfl, by first | rfl | (congr 1; omega), by omega, (HN.out _ (H6.out.set i true true)).1, (HN.out _ (H6.out.set i true true)).2.1, (fun _ => (HN.out _ (H6.out.set i true true)).2.2), (fun h => by cases h)⟩
                  case measure => simp [intOf]; omega
                · rw [show ((2 : Nat) : Int) = 2 from rfl] at HFC
                  have HN : Hid _ := HCH.out false (by simp) (by rw [hai, hbi]; decide)
                  clear HSA HCH
                  obtain ⟨x0, x1, x2, x3, x4, x5⟩ := HCW.out _ HX3.out.bel
                  go_wp2_with (go_at_call 51; go_loud (refine Calls.mono (by exact HFC.out _ HX3.out.bel) ?_; rintro e w6 ⟨rfl, hb6⟩; have H6 : Hid _ := HX3.out.below hb6; obtain ⟨ca, cb, fza, fzb⟩ := H6.out.facts hin; rw [hai] at ca; rw [hbi] at cb; obtain ⟨cb2, fzb2⟩ := H6.out.facts2 hin false; rw [hbi] at cb2; clear hb6))
                  go_roundw
                  case rel => exact ⟨true, i + 1, a.set i false, b.set i true, rfl, by first | rfl | (congr 1; omega), by omega, (HN.out _ (H6.out.set i false true)).1, (HN.out _ (H6.out.set i false true)).2.1, (fun _ => (HN.out _ (H6.out.set i false true)).2.2), (fun h => by cases h)⟩
                  case measure => simp [intOf]; omega
                · rw [show ((0 : Nat) : Int) = 0 from rfl] at HFC
                  have HN : Hid _ := HCH.out false (by simp) (by rw [hai, hbi]; decide)
                  clear HSA HCH
                  obtain ⟨x0, x1, x2, x3, x4, x5⟩ := HCW.out _ HX3.out.bel
                  go_wp2_with (go_at_call 51; go_loud (refine Calls.mono (by exact HFC.out _ HX3.out.bel) ?_; rintro e w6 ⟨rfl, hb6⟩; have H6 : Hid _ := HX3.out.below hb6; obtain ⟨ca, cb, fza, fzb⟩ := H6.out.facts hin; rw [hai] at ca; rw [hbi] at cb; obtain ⟨cb2, fzb2⟩ := H6.out.facts2 hin false; rw [hbi] at cb2; clear hb6))
                  go_roundw
                  case rel => exact ⟨true, i + 1, a.set i false, b.set i false, rfl, by first | rfl | (congr 1; omega), by omega, (HN.out _ (H6.out.set i false false)).1, (HN.out _ (H6.out.set i false false)).2.1, (fun _ => (HN.out _ (H6.out.set i false false)).2.2), (fun h => by cases h)⟩
                  case measure => simp [intOf]; omega
                · rw [show ((1 : Nat) : Int) = 1 from rfl] at HFC
                  have HN : Hid _ := HCH.out true (by simp) (by rw [hai, hbi]; decide)
                  clear HSA HCH
                  obtain ⟨x0, x1, x2, x3, x4, x5⟩ := HCW.out _ HX3.out.bel
                  go_wp2_with (go_at_call 51; go_loud (refine Calls.mono (by exact HFC.out _ HX3.out.bel) ?_; rintro e w6 ⟨rfl, hb6⟩; have H6 : Hid _ := HX3.out.below hb6; obtain ⟨ca, cb, fza, fzb⟩ := H6.out.facts hin; rw [hai] at ca; rw [hbi] at cb; obtain ⟨cb2, fzb2⟩ := H6.out.facts2 hin true; rw [hbi] at cb2; clear hb6))
                  go_roundw
                  case rel => exact ⟨true, i + 1, a.set i true, b.set i false, rfl, by first | rfl | (congr 1; omega), by omega, (HN.out _ (H6.out.set i true false)).1, (HN.out _ (H6.out.set i true false)).2.1, (fun _ => (HN.out _ (H6.out.set i true false)).2.2), (fun h => by cases h)⟩
                  case measure => simp [intOf]; omega
                · rw [show ((2 : Nat) : Int) = 2 from rfl] at HFC
                  have HN : Hid _ := HCH.out false (by simp) (by rw [hai, hbi]; decide)
                  clear HSA HCH
                  obtain ⟨x0, x1, x2, x3, x4, x5⟩ := HCW.out _ HX3.out.bel
                  go_wp2_with (go_at_call 51; go_loud (refine Calls.mono (by exact HFC.out _ HX3.out.bel) ?_; rintro e w6 ⟨rfl, hb6⟩; have H6 : Hid _ := HX3.out.below hb6; obtain ⟨ca, cb, fza, fzb⟩ := H6.out.facts hin; rw [hai] at ca; rw [hbi] at cb; obtain ⟨cb2, fzb2⟩ := H6.out.facts2 hin false; rw [hbi] at cb2; clear hb6))
                  go_roundw
                  case rel => exact ⟨true, i + 1, a.set i false, b.set i false, rfl, by first | rfl | (congr 1; omega), by omega, (HN.out _ (H6.out.set i false false)).1, (HN.out _ (H6.out.set i false false)).2.1, (fun _ => (HN.out _ (H6.out.set i false false)).2.2), (fun h => by cases h)⟩
                  case measure => simp [intOf]; omega
                · rw [show ((0 : Nat) : Int) = 0 from rfl] at HFC
                  have HN : Hid _ := HSA.out true (by simp) hai hbi
                  clear HSA HCH
                  obtain ⟨x0, x1, x2, x3, x4, x5⟩ := HCW.out _ HX3.out.bel
                  go_wp2_with (go_at_call 51; go_loud (refine Calls.mono (by exact HFC.out _ HX3.out.bel) ?_; rintro e w6 ⟨rfl, hb6⟩; have H6 : Hid _ := HX3.out.below hb6; obtain ⟨ca, cb, fza, fzb⟩ := H6.out.facts hin; rw [hai] at ca; rw [hbi] at cb; obtain ⟨cb2, fzb2⟩ := H6.out.facts2 hin true; rw [hbi] at cb2; clear hb6))
                  go_roundw
                  case rel => exact ⟨c, i + 1, a, b, rfl, by first | rfl | (congr 1; omega), by omega, HN.out _ H6.out⟩
                  case measure => simp [intOf]; omega
                · rw [show ((1 : Nat) : Int) = 1 from rfl] at HFC
                  have HN : Hid _ := HSA.out true (by simp) hai hbi
                  clear HSA HCH
                  obtain ⟨x0, x1, x2, x3, x4, x5⟩ := HCW.out _ HX3.out.bel
                  go_wp2_with (go_at_call 51; go_loud (refine Calls.mono (by exact HFC.out _ HX3.out.bel) ?_; rintro e w6 ⟨rfl, hb6⟩; have H6 : Hid _ := HX3.out.below hb6; obtain ⟨ca, cb, fza, fzb⟩ := H6.out.facts hin; rw [hai] at ca; rw [hbi] at cb; obtain ⟨cb2, fzb2⟩ := H6.out.facts2 hin true; rw [hbi] at cb2; clear hb6))
                  go_roundw
                  case rel => exact ⟨c, i + 1, a, b, rfl, by first | rfl | (congr 1; omega), by omega, HN.out _ H6.out⟩
                  case measure => simp [intOf]; omega
                · rw [show ((2 : Nat) : Int) = 2 from rfl] at HFC
                  have HN : Hid _ := HCH.out false (by simp) (by rw [hai, hbi]; decide)
                  clear HSA HCH
                  obtain ⟨x0, x1, x2, x3, x4, x5⟩ := HCW.out _ HX3.out.bel
                  go_wp2_with (go_at_call 51; go_loud (refine Calls.mono (by exact HFC.out _ HX3.out.bel) ?_; rintro e w6 ⟨rfl, hb6⟩; have H6 : Hid _ := HX3.out.below hb6; obtain ⟨ca, cb, fza, fzb⟩ := H6.out.facts hin; rw [hai] at ca; rw [hbi] at cb; obtain ⟨cb2, fzb2⟩ := H6.out.facts2 hin false; rw [hbi] at cb2; clear hb6))
                  go_roundw
                  case rel => exact ⟨true, i + 1, a.set i false, b.set i true, rfl, by first | rfl | (congr 1; omega), by omega, (HN.out _ (H6.out.set i false true)).1, (HN.out _ (H6.out.set i false true)).2.1, (fun _ => (HN.out _ (H6.out.set i false true)).2.2), (fun h => by cases h)⟩
                  case measure => simp [intOf]; omega
          · obtain rfl : i = n := by omega
            clear HB HFI HBP HNX
            cases c with
            | false =>
              have HX : Hid _ := hr.out
              clear hr
              go_wp2
              go_roundg (offs a + offs b)
              case measure => have h8 := HGM.out; have h9 := (HX.out.2.2.2 (by first | rfl | trivial)).1; omega
              case rel => exact ⟨false, a, b, rfl, HX.out.1, HX.out.2.1, fun _ => (HX.out.2.2.2 (by first | rfl | trivial)).2, by simp⟩
            | true =>
              have HX : Hid _ := hr.out
              clear hr
              go_wp2
              go_roundg (offs a + offs b + 1)
              case measure => have h8 := HGM.out; have h9 := HX.out.2.2.1 (by first | rfl | trivial); omega
              case rel => exact ⟨true, a, b, rfl, HX.out.1, HX.out.2.1, (fun h => by cases h), by simp⟩
end Go.Proofs.YtcggbedjhglmmaaGreatDoor
