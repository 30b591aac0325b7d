/- The program's nearest. -/
import Derived.Test.YtogjjmbcbnceoaaGreatDNe2M
namespace Go.Proofs.YtogjjmbcbnceoaaGreat
open Go.RowKit Lt

/-- What nearest tells. -/
def NearAt (nx : List (List Int)) (ns : List Int) (w w' : World) (nr : List Int) (g : Nat) : Prop :=
  w'.ownsRow w.heap.size 3 1 (slV g ns.length) ns.length (nr.map intV) ∧ nr.length = ns.length ∧ nr[0]? = some (-1) ∧ (∀ i, 0 < i → i < ns.length → ∃ k : Nat, nr[i]? = some (k : Int) ∧ k < ns.length ∧ NearN (EdN nx ns) i k) ∧ Below w.heap.size w w'
theorem done_le {nx : List (List Int)} {ns fs ps : List Int} (D : Done nx ns fs ps) : ns.length ≤ nx.length := by
  have h0 : ∀ i, i < ns.length → ∃ v : Nat, ns[i]? = some (v : Int) ∧ v < nx.length := fun i hi => by obtain ⟨v, h1, h2, _⟩ := D.nod i hi; exact ⟨v, h1, h2⟩
  exact inj_le nx.length ns.length (fun i => (ns.getD i 0).toNat) (fun i hi => by obtain ⟨v, h1, h2⟩ := h0 i hi; rw [List.getD_eq_getElem?_getD, h1]; simpa using h2) (fun i j hi hj he => by
    obtain ⟨v, h1, h2⟩ := h0 i hi
    obtain ⟨u, h3, h4⟩ := h0 j hj
    rw [List.getD_eq_getElem?_getD, List.getD_eq_getElem?_getD, h1, h3] at he
    simp at he
    exact D.inj h1 (by rw [h3, he]))
set_option maxRecDepth 100000 in
set_option maxHeartbeats 4000000 in
theorem nearest_any (nx : List (List Int)) (ns fs ps : List Int) (v nv fv pv : Value) (w : World) (hN : NetAt w v nx) (hn : IntsAt w nv ns) (hfv : IntsAt w fv fs) (hp : IntsAt w pv ps) (D : Done nx ns fs ps) (hmay : May nx) (hb1 : nx.length ≤ 2000000) (hb2 : ∀ r ∈ nx, r.length ≤ 2000000) :
    Calls Tryz.prog 33 #[.agg #[nv, fv, pv], v] w fun e w' => ∃ g nr, e = .returned (slV g ns.length) ∧ NearAt nx ns w w' nr g := by
  obtain ⟨W1, hW1⟩ : ∃ W1, W1 = w.alloc (.cells #[nv, fv, pv] 46) := ⟨_, rfl⟩
  have hs1 : W1.heap.size = w.heap.size + 1 := by rw [hW1]; simp
  have hB1 : Below w.heap.size w W1 := by rw [hW1]; exact below_alloc (Below.refl _ _) _
  have hN1 := hN.below hB1
  have hn1 := hn.below hB1
  have hp1 := hp.below hB1
  have hf1 := hfv.below hB1
  have hx1 : Box W1 w.heap.size [nv, fv, pv] := by rw [hW1]; exact Box.new w [nv, fv, pv] 46
  have hmn := done_le D
  obtain ⟨na, nc, rfl, hnl⟩ := hn.form
  obtain ⟨fa, fc, rfl, hfl⟩ := hfv.form
  obtain ⟨pa, pc, rfl, hpl⟩ := hp.form
  clear hN hn hp hfv
  have hpos := D.pos
  obtain ⟨m, hm⟩ : ∃ m, m = ns.length := ⟨_, rfl⟩
  have HMM : Hid _ := hm
  rw [← hm] at hnl hmn hpos hW1 hx1
  have hfm : fs.length = m := by rw [hm]; exact D.lf
  rw [hfm] at hW1 hx1
  have HBR : Hid (∀ W : World, Calls Tryz.prog 50 #[.int .i64 (m : Int)] W fun e w' => ∃ g1 g2 g3 : Nat, e = .returned (.agg #[.slice (some ⟨g1, 0, none⟩) m m, .slice (some ⟨g2, 0, none⟩) m m, .slice (some ⟨g3, 0, none⟩) m m, .slice none 0 0]) ∧ BareAt W w' m (.slice (some ⟨g1, 0, none⟩) m m) (.slice (some ⟨g2, 0, none⟩) m m) (.slice (some ⟨g3, 0, none⟩) m m)) := fun W => bare_any m (by omega) (by omega) W
  have HCT : Hid (∀ W : World, _) := fun W => counted_any m (by omega) W
  have hmk := run_make_row' (P := Tryz.prog) 22 23 (.slice none 0 0) 24 Tryz.underlying22 infoS rfl .i64 .i64 m (by omega) (by omega)
  have HAH : Hid (∀ W, Below W1.heap.size W1 W → Calls Tryz.prog 52 #[.agg #[.slice na m nc, .slice fa m fc, .slice pa ps.length pc], v] W fun e w' => ∃ akv rows, e = .returned (slV (W.heap.size + 1) m) ∧ RowsIn w' (W.heap.size + 1) (W.heap.size + 1) m akv rows ∧ AhTo nx ns m 0 rows ∧ (∀ r ∈ rows, r.length ≤ 4000000000000) ∧ Below (W.heap.size + 1) (W.alloc (.cells #[.slice na m nc, .slice fa m fc, .slice pa ps.length pc] 46)) w') := fun W hW => by
    have h9 := ahead_any' nx ns fs ps v (.slice na ns.length nc) (.slice fa m fc) (.slice pa ps.length pc) W (hN1.below hW) (hn1.below hW) (hp1.below hW) D hmay hb1 hb2
    rw [← hm] at h9
    exact h9
  have hwm : IntKind.i64.wrap ((m : Int) - 1) = ((m - 1 : Nat) : Int) := by unfold IntKind.wrap; simp [IntKind.bits, IntKind.signed]; omega
  have HD : Hid _ := D
  have HW1 : Hid _ := hW1
  have c0 := hx1.cell 0 _ rfl
  have c1 := hx1.cell 1 _ rfl
  have c2 := hx1.cell 2 _ rfl
  rw [← hm, hfm]
  have HFM : Hid _ := hfm
  have HMY : Hid _ := hmay
  have HN1 : Hid _ := hN1
  have Hn1 : Hid _ := hn1
  have Hp1 : Hid _ := hp1
  have Hf1 : Hid _ := hf1
  have HB1 : Hid _ := hB1
  have HB2 : Hid _ := hb2
  have HX1 : Hid _ := hx1
  clear hm hfm D hmay hN1 hn1 hp1 hf1 hB1 hb2 hx1 hW1
  go_enter Tryz.func33, Tryz.ntmps33
  go_wp2_with (first
    | (go_at_call 50; go_loud (rw [← HW1.out]; refine Calls.mono (by exact HBR.out _) ?_; rintro e w2 ⟨g1, g2, g3, rfl, hba⟩; have HBA : Hid _ := hba; have c0' : w2.cell? ⟨w.heap.size, 0, none⟩ = some (.slice na m nc) := (hba.bel.cell (p := ⟨w.heap.size, 0, none⟩) (show w.heap.size < W1.heap.size by omega)).trans c0; have hs2 : w.heap.size < w2.heap.size := (by have := hba.bel.size; omega); clear hba))
    | (go_at_call 51; go_loud (obtain ⟨w3, hw3⟩ : ∃ w3, w3 = w2.alloc (.cells #[slV g1 m, slV g2 m, slV g3 m, nilV] 94) := ⟨_, rfl⟩; rw [← hw3]; refine Calls.mono (by exact HCT.out _) ?_; rintro e w4 ⟨rfl, ho4, hb4⟩; have HO4 : Hid _ := ho4; have HB4 : Hid _ := hb4; have HW3 : Hid _ := hw3; have hs3 : w3.heap.size = w2.heap.size + 1 := (by rw [hw3]; simp); have hb14 : Below W1.heap.size W1 w4 := below_trans HBA.out.bel (below_trans (by rw [hw3]; exact below_alloc (Below.refl _ _) _) hb4); have HB14 : Hid _ := hb14; have e0 : w4.cell? ⟨w.heap.size, 0, none⟩ = some (.slice na m nc) := (hb14.cell (p := ⟨w.heap.size, 0, none⟩) (show w.heap.size < W1.heap.size by omega)).trans c0; have e1 : w4.cell? ⟨w.heap.size, 1, none⟩ = some (.slice fa m fc) := (hb14.cell (p := ⟨w.heap.size, 1, none⟩) (show w.heap.size < W1.heap.size by omega)).trans c1; have e2 : w4.cell? ⟨w.heap.size, 2, none⟩ = some (.slice pa ps.length pc) := (hb14.cell (p := ⟨w.heap.size, 2, none⟩) (show w.heap.size < W1.heap.size by omega)).trans c2; have hs4 : w.heap.size < w4.heap.size := (by have := hb14.size; omega); clear ho4 hb4 hw3 hb14 hs3))
    | (go_at_call 52; go_loud (obtain ⟨w5, hw5⟩ : ∃ w5, w5 = w4.alloc (.cells (madeCells #[.slice none 0 0] m) 23) := ⟨_, rfl⟩; rw [← hw5]; have hb15 : Below W1.heap.size W1 w5 := (by rw [hw5]; exact below_alloc HB14.out _); have hs5 : w4.heap.size < w5.heap.size := (by rw [hw5]; simp); refine Calls.mono (by exact HAH.out w5 hb15) ?_; rintro e w6 ⟨akv, rows, rfl, hr6, hah, hrl, hb6⟩; have HNA : Hid _ := nat_init (by omega) HBA.out HW3.out HO4.out HB4.out hw5 hr6 hb6; have hb16 : Below W1.heap.size W1 w6 := hb15.trans ((below_alloc (Below.refl _ w5) _).trans (hb6.mono (by omega)) |>.mono (by omega)); have HB6 : Hid _ := hb16; have HAT : Hid _ := hah; have HRL : Hid _ := hrl; have d0 : w6.cell? ⟨w.heap.size, 0, none⟩ = some (.slice na m nc) := (hb16.cell (p := ⟨w.heap.size, 0, none⟩) (show w.heap.size < W1.heap.size by omega)).trans c0; clear hw5 hb15 hr6 hah hrl hb6 hb16)))
  clear HBR HCT HAH hmk HBA HO4 HB4 HW3 HB14 c0 c0' e0 e1 e2 hwm d0
  generalize w2.heap.size = B at *
  generalize w3.heap.size = alg at *
  generalize w4.heap.size = wg at *
  generalize w5.heap.size + 1 = ag at *
  have HAT2 : Hid (AhTo nx ns ns.length 0 rows) := by have h9 := HAT.out; rw [HMM.out] at h9; exact h9
  have HF1 : Hid (∀ W, Below W1.heap.size W1 W → W.cell? ⟨w.heap.size, 1, none⟩ = some (.slice fa m fc) ∧ W.cell? ⟨w.heap.size, 0, none⟩ = some (.slice na m nc)) := fun W hW => ⟨(hW.cell (p := ⟨w.heap.size, 1, none⟩) (show w.heap.size < W1.heap.size by omega)).trans (HX1.out.cell 1 _ rfl), (hW.cell (p := ⟨w.heap.size, 0, none⟩) (show w.heap.size < W1.heap.size by omega)).trans (HX1.out.cell 0 _ rfl)⟩
  have HST : Hid (NI m (EdN nx ns) (frF fs) (m - 1 + 1) (List.replicate m (-1)) (cntL m) (cntL m) (cntL m) (List.replicate m [])) := by
    show NI _ _ _ _ _ _ _ _ _
    rw [Nat.sub_add_cancel hpos]
    exact NI.start (cntL_len m) (fun i hi => cntL_get hi)
  clear c1 c2
  go_loopw [9] (fun va wr => ∃ (z : Nat) (s : NSt), va = .int .i64 z ∧ z < m ∧ Hid (NI m (EdN nx ns) (frF fs) (z + 1) s.ov s.be s.hi s.al s.wt ∧ NAt wr W1.heap.size ⟨B, g1, g2, g3, alg, wg, ag, m, akv, rows⟩ s ∧ lensA s.wt + (z + 1) ≤ m ∧ Below W1.heap.size W1 wr)) (fun va _ => (intOf va).toNat)
  case atStart => exact ⟨m - 1, _, rfl, by omega, HST.out, HNA.out, by rw [lens_rep]; omega, HB6.out⟩
  case round =>
    obtain ⟨z, s, rfl, hzm, hq⟩ := hrel
    clear HNA HB6 HST
    generalize wr = wo at *
    by_cases hz0 : z = 0
    · subst hz0
      obtain ⟨hNI, hNA, hLN, hBW⟩ := hq.out
      have hDz := HD.out.dfs
      rw [← HMM.out] at hDz
      have hown : wo.ownsRow W1.heap.size 3 1 (slV alg m) m (s.al.map intV) := hNA.hp.own 5 _ rfl
      have HSE : Hid (Calls Tryz.prog 54 #[.slice (some ⟨alg, 0, none⟩) m m] wo fun e w' => e = .returned (.tuple #[]) ∧ ∃ al', Setl m (EdN nx ns) s.hi W1.heap.size alg wo w' al' ∧ ∀ i : Nat, i < m → ∀ j k : Nat, al'[i]? = some (j : Int) → al'[j]? = some (k : Int) → k = j) := settle_any m (EdN nx ns) s.hi s.al W1.heap.size alg (by omega) wo hown (hNI.last hDz)
      have HNA : Hid _ := hNA
      have HBW : Hid _ := hBW
      have HNN : Hid (∀ i, i < m → ∃ t : Nat, s.hi[i]? = some (t : Int)) := fun i hi' => hNI.nat hi'
      have HDZ : Hid _ := hDz
      have HRP : Hid (∀ (W : World), W.cell? ⟨W.heap.size - 1, 0, none⟩ = some (.int .i64 (-1)) → 0 < W.heap.size → _) := fun W h1 h2 => repeat_any (-1) m (W.heap.size - 1) (by omega) (by omega) W h1 (by omega)
      clear hq hNI hNA hLN hBW hDz hown
      go_wp2_with (first
        | (go_at_call 54; go_loud (refine Calls.mono (by exact HSE.out) ?_; rintro e w12 ⟨rfl, al', hse, hst⟩; have hNA12 := HNA.out.turnA hse.own hse.grown; have hB12 : Below W1.heap.size W1 w12 := bel_grown HBW.out (Nat.le_refl _) hse.grown (fun g e => by cases e; exact (hse.own.lt alg rfl).1); have n0 : w12.cell? ⟨w.heap.size, 0, none⟩ = some (.slice na m nc) := (HF1.out w12 hB12).2; have HSI : Hid _ := hse.si; have HSS : Hid _ := hst; have HNA12 : Hid _ := hNA12; have HB12 : Hid _ := hB12; have hs12 : w.heap.size < w12.heap.size := (by have := hB12.size; omega); clear hse hst hNA12 hB12))
        | (go_at_call 32; go_loud (obtain ⟨w13, hw13⟩ : ∃ w13, w13 = w12.alloc (.cells #[.int .i64 (-1)] 3) := ⟨_, rfl⟩; rw [← hw13]; have hs13 : w13.heap.size = w12.heap.size + 1 := (by rw [hw13]; simp); refine Calls.mono (by have h9 := HRP.out w13 (by rw [hs13, hw13]; exact cell_lit1 w12 (-1)) (by omega); rw [show w13.heap.size - 1 = w12.heap.size by omega] at h9; exact h9) ?_; rintro e w14 ⟨rfl, ho14, hb14⟩; have HO14 : Hid _ := ho14; have HB14 : Hid _ := hb14; have b13 : Below w12.heap.size w12 w13 := (by rw [hw13]; exact below_alloc (Below.refl _ _) _); have HB1 : Hid _ := b13; clear ho14 hb14 b13 hw13 hs13)))
      have HO15 : Hid (w14.ownsRow w13.heap.size 3 1 (slV w13.heap.size m) m ((List.replicate m (-1)).map intV)) := by
        have h9 : w14.ownsRow w13.heap.size 3 1 (slV w13.heap.size m) (List.replicate m (-1 : Int)).length ((List.replicate m (-1)).map intV) := HO14.out
        rw [List.length_replicate] at h9
        exact h9
      have HNA13 : Hid (NAt w13 W1.heap.size ⟨B, g1, g2, g3, alg, wg, ag, m, akv, rows⟩ { s with al := al' }) := HNA12.out.below HB1.out
      have HB13 : Hid (Below W1.heap.size W1 w13) := HB12.out.trans (HB1.out.mono (by have := HB12.out.size; omega))
      clear HO14 HSE HNA HBW HRP HNA12 HB12 HB1 n0
      go_loopw [16] (fun vi wr => ∃ (i : Nat) (nr : List Int), vi = .int .i64 i ∧ 1 ≤ i ∧ i ≤ m ∧ Hid (Below w13.heap.size w13 wr ∧ wr.ownsRow w13.heap.size 3 1 (slV w13.heap.size m) m (nr.map intV) ∧ nr.length = m ∧ nr[0]? = some (-1) ∧ ∀ j, 0 < j → j < i → ∃ k : Nat, nr[j]? = some (k : Int) ∧ k < m ∧ NearN (EdN nx ns) j k)) (fun vi _ => m - (intOf vi).toNat)
      case atStart => exact ⟨1, List.replicate m (-1), rfl, Nat.le_refl _, by omega, HB14.out, HO15.out, by simp, by rw [List.getElem?_replicate, if_pos hpos], fun j h1 h2 => by omega⟩
      case round =>
        obtain ⟨i, nr, rfl, hi1, hi, hq⟩ := hrel
        clear HO15 HB14
        by_cases hin : i < m
        · have hin' : (i : Int) < m := by omega
          obtain ⟨j, hj, hjm⟩ := HSI.out.val hin
          obtain ⟨t, ht⟩ := HNN.out j hjm
          have hjm' : (j : Int) < m := by omega
          obtain ⟨_, hnear⟩ := HSI.out.near HSS.out (by omega) hin hj
          rw [gN_at ht] at hnear
          have htm : t < m := by have := (hnear.2.1.anc HDZ.out hin).le HDZ.out.frlt; omega
          have far : ∀ (b o : Nat) (x : Value), w13.cell? ⟨b, o, none⟩ = some x → b < w13.heap.size → wr.cell? ⟨b, o, none⟩ = some x := fun b o x hx hb => (hq.out.1.cell (p := ⟨b, o, none⟩) hb).trans hx
          have c1 : wr.cell? ⟨B, 2, none⟩ = some (slV g3 m) := far _ _ _ HNA13.out.toF.box.2.2.1 HNA13.out.toF.ne.1.2
          have c2 : wr.cell? ⟨alg, i, none⟩ = some (.int .i64 (j : Int)) := far _ _ _ (HNA13.out.a hj) (HNA13.out.hp.lt (i := 5) (n := m) (c := m) rfl).2
          have c3 : wr.cell? ⟨g3, j, none⟩ = some (.int .i64 (t : Int)) := far _ _ _ (HNA13.out.toF.h ht) (HNA13.out.hp.lt (i := 3) (n := m) (c := m) rfl).2
          obtain ⟨y, hy⟩ : ∃ y, nr[i]? = some y := ⟨_, List.getElem?_eq_getElem (by rw [hq.out.2.2.1]; exact hin)⟩
          have c4 : wr.cell? ⟨w13.heap.size, i, none⟩ = some (.int .i64 y) := by
            rw [hq.out.2.1.cellAt i (by omega)]
            exact map_get hy
          have f4 : wr.frozen? ⟨w13.heap.size, i, none⟩ = false := hq.out.2.1.frozenAt i
          have HQ1 : Hid (∀ q, Below w13.heap.size w13 ((wr.drewN q).setCell ⟨w13.heap.size, i, none⟩ (.int .i64 (t : Int))) ∧ ((wr.drewN q).setCell ⟨w13.heap.size, i, none⟩ (.int .i64 (t : Int))).ownsRow w13.heap.size 3 1 (slV w13.heap.size m) m ((nr.set i (t : Int)).map intV)) := fun q => by
            refine ⟨below_set (below_drewN hq.out.1 q) (Nat.le_refl _) _ _, ?_⟩
            have h8 : (wr.drewN q).ownsRow w13.heap.size 3 1 (slV w13.heap.size m) m (nr.map intV) := hq.out.2.1
            have h9 := (World.ownsRow.stored h8 i (.int .i64 (t : Int))).1
            rw [List.map_set]
            exact h9
          have HQ2 : Hid ((nr.set i (t : Int)).length = m ∧ (nr.set i (t : Int))[0]? = some (-1) ∧ ∀ j, 0 < j → j < i + 1 → ∃ k : Nat, (nr.set i (t : Int))[j]? = some (k : Int) ∧ k < m ∧ NearN (EdN nx ns) j k) := by
            refine ⟨by simpa using hq.out.2.2.1, by rw [List.getElem?_set, if_neg (by omega)]; exact hq.out.2.2.2.1, fun x h1 h2 => ?_⟩
            by_cases e : i = x
            · subst e
              exact ⟨t, by rw [List.getElem?_set, if_pos rfl, if_pos (by rw [hq.out.2.2.1]; exact hin)], htm, hnear⟩
            · rw [List.getElem?_set, if_neg e]
              exact hq.out.2.2.2.2 x h1 (by omega)
          clear hq far hy hj ht hnear
          go_wp2
          refine wp_region_last 11 _ rfl rfl (by kernel_rfl) (by kernel_rfl) (by kernel_rfl) (by kernel_rfl) (by kernel_rfl) (by kernel_rfl) ?_
          simp only [List.take_succ_cons, List.take_zero]
          repeat (go_big_quiet_step (fail))
          refine wpQuiet_nil ?_
          intro _ hw'
          obtain ⟨nq3, hw''⟩ := hw'
          subst hw''
          intro K hK
          go_simp
          refine hK _ _ ?_
          clear hK K
          go_wp2
          go_roundw
          case rel => exact ⟨i + 1, nr.set i (t : Int), by first | rfl | (congr 1; omega), by omega, by omega, (HQ1.out nq3).1, (HQ1.out nq3).2, HQ2.out⟩
          case measure => simp [intOf]; omega
        · obtain rfl : i = m := by omega
          go_wp2
          go_ret
          refine ⟨w13.heap.size, nr, rfl, ?_, ?_, hq.out.2.2.2.1, fun j h1 h2 => ?_, ?_⟩
          · rw [← HMM.out]
            exact own_mono hq.out.2.1 (by have := HB13.out.size; omega)
          · rw [← HMM.out]
            exact hq.out.2.2.1
          · rw [← HMM.out] at h2 ⊢
            exact hq.out.2.2.2.2 j h1 h2
          · have b1 : Below w.heap.size w W1 := by rw [HW1.out]; exact below_alloc (Below.refl _ _) _
            exact b1.trans ((HB13.out.trans (hq.out.1.mono (by have := HB13.out.size; omega))).mono (by omega))
    · have hz2 : 0 < z := by omega
      have hz1 : (0 : Int) < (z : Int) := by omega
      have hzm' : (z : Int) < m := by omega
      obtain ⟨hNI, hNA, hLN, hBW⟩ := hq.out
      obtain ⟨kz, hkz⟩ : ∃ kz, akv[z]? = some kz := ⟨_, List.getElem?_eq_getElem (by have h9 : akv.length = m := hNA.akl; omega)⟩
      obtain ⟨A, hAz⟩ : ∃ A, rows[z]? = some A := ⟨_, List.getElem?_eq_getElem (by have h9 : rows.length = m := hNA.ahl; omega)⟩
      have hAg : rows.getD z [] = A := by rw [List.getD_eq_getElem?_getD, hAz]; rfl
      obtain ⟨aa, ac, rfl⟩ := own_sl (hNA.akid hkz hAz)
      have ca : wo.cell? ⟨ag, z, none⟩ = some (.slice aa A.length ac) := hNA.aout hkz
      have hAin := HAT2.out.all (z := z) (by rw [← HMM.out]; exact hzm)
      rw [hAg] at hAin
      have HAI : Hid _ := hAin
      have HRI : Hid (A.length ≤ 4000000000000) := HRL.out A (List.mem_of_getElem? hAz)
      have HNI : Hid _ := hNI
      have HNN : Hid (∀ h : Nat, ∀ i, i < m → ∃ t : Nat, (s.hi.set z (h : Int))[i]? = some (t : Int)) := fun h => set_nat (fun i hi' => hNI.nat hi')
      have HHZ : Hid (∀ h : Nat, (s.hi.set z (h : Int))[z]? = some (h : Int)) := fun h => by rw [List.getElem?_set, if_pos rfl, if_pos (by rw [hNI.lh]; exact hzm)]
      have HLN : Hid _ := hLN
      have HAZ : Hid _ := hAz
      have HKZ : Hid _ := hkz
      have HST1 : Hid (PI (EdN nx ns) (frF fs) z s.hi (A.take 0) z ∧ FI m (frF fs) (z + 1) s.ov s.be (s.hi.set z (z : Int)) ∧ NAt wo W1.heap.size ⟨B, g1, g2, g3, alg, wg, ag, m, akv, rows⟩ { s with hi := s.hi.set z (z : Int) }) := by
        have e1 : s.hi.set z (z : Int) = s.hi := set_same (hNI.lowH z (by omega) hzm)
        rw [e1]
        exact ⟨PI.start, hNI.fi, hNA⟩
      have HBO : Hid _ := hBW
      clear hq hNI hNA hLN hBW hAz hkz hAg hAin
      go_wp2
      go_loopw [45] (fun vk wr => ∃ (k h : Nat) (ov be pa : List Int) (pv : Value), vk = .int .i64 k ∧ k ≤ A.length ∧ Hid (PI (EdN nx ns) (frF fs) z s.hi (A.take k) h ∧ FI m (frF fs) (z + 1) ov be (s.hi.set z (h : Int)) ∧ NAt wr W1.heap.size ⟨B, g1, g2, g3, alg, wg, ag, m, akv, rows⟩ { s with ov := ov, be := be, pa := pa, pv := pv, hi := s.hi.set z (h : Int) } ∧ Below W1.heap.size W1 wr)) (fun vk _ => A.length - (intOf vk).toNat)
      case atStart => exact ⟨0, z, s.ov, s.be, s.pa, s.pv, rfl, by omega, HST1.out.1, HST1.out.2.1, HST1.out.2.2, HBO.out⟩
      case round =>
        obtain ⟨k, h, ov, be, pa, pv, rfl, hk, hq⟩ := hrel
        clear HST1 HBO
        by_cases hkA : k < A.length
        · have hkA' : (k : Int) < A.length := by omega
          obtain ⟨x, hx⟩ : ∃ x, A[k]? = some x := ⟨_, List.getElem?_eq_getElem hkA⟩
          obtain ⟨q, rfl, hqz⟩ := HAI.out.1 x (List.mem_of_getElem? hx)
          have hqm : q < m := by rw [HMM.out]; exact hqz.1
          have hown : wr.ownsRow W1.heap.size 3 1 (.slice aa A.length ac) A.length (A.map intV) := hq.out.2.2.1.akid HKZ.out HAZ.out
          obtain ⟨gA, hgA⟩ : ∃ gA, aa = some ⟨gA, 0, none⟩ := by
            rcases own_shape hown with ⟨_, h0⟩ | ⟨g, c, h9, _⟩
            · omega
            · injection h9 with e1 e2 e3
              exact ⟨g, e1⟩
          subst hgA
          have cx : wr.cell? ⟨gA, k, none⟩ = some (.int .i64 (q : Int)) := by
            rw [hown.cellAt k (by omega)]
            exact map_get hx
          have HTK : Hid (A.take (k + 1) = A.take k ++ [(q : Int)]) := by show _ = _; rw [List.take_add_one, hx]; rfl
          have HQZ : Hid _ := hqz
          have hwk : IntKind.i64.wrap ((k : Int) + 1) = ((k + 1 : Nat) : Int) := by have := HRI.out; unfold IntKind.wrap; simp [IntKind.bits, IntKind.signed]; omega
          have HPI : Hid _ := hq.out.1
          have HNA1 : Hid (NAt wr W1.heap.size ⟨B, g1, g2, g3, alg, wg, ag, m, akv, rows⟩ { s with ov := ov, be := be, pa := pa, pv := pv, hi := s.hi.set z (h : Int) }) := hq.out.2.2.1
          have HBW : Hid _ := hq.out.2.2.2
          have c2 : wr.cell? ⟨B, 2, none⟩ = some (slV g3 m) := hq.out.2.2.1.toF.box.2.2.1
          have c3 : wr.cell? ⟨g3, z, none⟩ = some (.int .i64 (h : Int)) := hq.out.2.2.1.toF.h (HHZ.out h)
          have HHI : Hid (∀ W : World, W.heap = wr.heap → Calls Tryz.prog 53 #[ptr B, .int .i64 (q : Int)] W fun e w' => ∃ (b : Nat) (ov' be' pa' : List Int) (pv' : Value), e = .returned (.int .i64 (b : Int)) ∧ b < m ∧ Hst (frF fs) (z + 1) (s.hi.set z (h : Int)) q b ∧ FI m (frF fs) (z + 1) ov' be' (s.hi.set z (h : Int)) ∧ FAt w' W1.heap.size (nsS ⟨B, g1, g2, g3, alg, wg, ag, m, akv, rows⟩ { s with ov := ov, be := be, pa := pa, pv := pv, hi := s.hi.set z (h : Int) }) B g1 g2 g3 m ov' be' (s.hi.set z (h : Int)) pv' pa' ∧ Below W1.heap.size W w') := fun W hW => highest_any m (frF fs) (z + 1) HD.out.dfs.frlt ov be (s.hi.set z (h : Int)) pa hq.out.2.1 (HNN.out h) (by omega) W W1.heap.size _ B g1 g2 g3 pv (hq.out.2.2.1.toF.same hW) q hqm
          clear hq hown hx hqz
          go_wp2
          refine wp_region_late (fun w' => w'.cell? ⟨B, 2, none⟩ = some (slV g3 m) ∧ w'.cell? ⟨g3, z, none⟩ = some (.int .i64 (h : Int))) (fun j => j == 16) (by kernel_rfl) (by go_keep) (fun hHeld => ?_)
          refine wpAnyL_take 0 (v := ?_) rfl (by kernel_rfl) (by kernel_rfl) (by kernel_rfl) (by kernel_rfl) (fun _ _ _ h => h) hHeld (Or.inl ⟨by rfl, ?_⟩) ?_
          rotate_left 1
          · (intro w hSw; (try dsimp only at hSw); first | (go_simp; done) | (go_simp; with_reducible rfl))
          simp only [Act.put, List.setIfInBounds_toArray]
          refine wpAnyL_take 1 (v := ?_) rfl (by kernel_rfl) (by kernel_rfl) (by kernel_rfl) (by kernel_rfl) (fun _ _ _ h => h) hHeld (Or.inl ⟨by rfl, ?_⟩) ?_
          rotate_left 1
          · (intro w hSw; (try dsimp only at hSw); first | (go_simp; done) | (go_simp; with_reducible rfl))
          simp only [Act.put]
          refine wpAnyL_take 2 (v := ?_) rfl (by kernel_rfl) (by kernel_rfl) (by kernel_rfl) (by kernel_rfl) (fun _ _ _ h => h) hHeld (Or.inl ⟨by rfl, ?_⟩) ?_
          rotate_left 1
          · (intro w hSw; (try dsimp only at hSw); first | (go_simp; done) | (go_simp; with_reducible rfl))
          simp only [Act.put]
          refine wpAnyL_take 3 (v := ?_) rfl (by kernel_rfl) (by kernel_rfl) (by kernel_rfl) (by kernel_rfl) (fun _ _ _ h => h) hHeld (Or.inl ⟨by rfl, ?_⟩) ?_
          rotate_left 1
          · (intro w hSw; (try dsimp only at hSw); first | (go_simp; done) | (go_simp; with_reducible rfl))
          simp only [Act.put]
          refine wpAnyL_take 4 (v := ?_) rfl (by kernel_rfl) (by kernel_rfl) (by kernel_rfl) (by kernel_rfl) (fun _ _ _ h => h) hHeld (Or.inl ⟨by rfl, ?_⟩) ?_
          rotate_left 1
          · (intro w hSw; (try dsimp only at hSw); first | (go_simp; done) | (go_simp; with_reducible rfl))
          simp only [Act.put]
          refine wpAnyL_take 5 (v := ?_) rfl (by kernel_rfl) (by kernel_rfl) (by kernel_rfl) (by kernel_rfl) (fun _ _ _ h => h) hHeld (Or.inl ⟨by rfl, ?_⟩) ?_
          rotate_left 1
          · (intro w hSw; (try dsimp only at hSw); first | (go_simp; done) | (go_simp; with_reducible rfl))
          simp only [Act.put]
          refine wpAnyL_take 6 (v := ?_) rfl (by kernel_rfl) (by kernel_rfl) (by kernel_rfl) (by kernel_rfl) (fun _ _ _ h => h) hHeld (Or.inl ⟨by rfl, ?_⟩) ?_
          rotate_left 1
          · (intro w hSw; (try dsimp only at hSw); first | (go_simp; done) | (go_simp; with_reducible rfl))
          simp only [Act.put]
          refine wpAnyL_take 7 (v := ?_) rfl (by kernel_rfl) (by kernel_rfl) (by kernel_rfl) (by kernel_rfl) (fun _ _ _ h => h) hHeld (Or.inl ⟨by rfl, ?_⟩) ?_
          rotate_left 1
          · (intro w hSw; (try dsimp only at hSw); first | (go_simp; done) | (go_simp; with_reducible rfl))
          simp only [Act.put]
          refine wpAnyL_take 8 (v := ?_) rfl (by kernel_rfl) (by kernel_rfl) (by kernel_rfl) (by kernel_rfl) (fun _ _ _ h => h) hHeld (Or.inl ⟨by rfl, ?_⟩) ?_
          rotate_left 1
          · (intro w hSw; (try dsimp only at hSw); first | (go_simp; done) | (go_simp; with_reducible rfl))
          simp only [Act.put]
          refine wpAnyL_take 9 (v := ?_) rfl (by kernel_rfl) (by kernel_rfl) (by kernel_rfl) (by kernel_rfl) (fun _ _ _ h => h) hHeld (Or.inl ⟨by rfl, ?_⟩) ?_
          rotate_left 1
          · (intro w hSw; (try dsimp only at hSw); first | (go_simp; done) | (go_simp; with_reducible rfl))
          simp only [Act.put]
          refine wpAnyL_take 10 (v := ?_) rfl (by kernel_rfl) (by kernel_rfl) (by kernel_rfl) (by kernel_rfl) (fun _ _ _ h => h) hHeld (Or.inl ⟨by rfl, ?_⟩) ?_
          rotate_left 1
          · (intro w hSw; (try dsimp only at hSw); first | (go_simp; done) | (go_simp; with_reducible rfl))
          simp only [Act.put]
          refine wpAnyL_one 11 (by kernel_rfl) rfl (fun K hK0 => ?_)
          have hK : Shut _ := hK0
          clear hK0
          go_simp
          refine Calls.mono (by exact HHI.out _ rfl) ?_
          rintro e w7 ⟨b, ov', be', pa', pv', rfl, hbm, hst, hfi, hfa, hbw⟩
          obtain ⟨t2, ht2⟩ := HNN.out h b hbm
          have hNA7 := NAt.ofF HNA1.out hfa
          have k1 : w7.cell? ⟨B, 2, none⟩ = some (slV g3 m) := hNA7.toF.box.2.2.1
          have k2 : w7.cell? ⟨g3, z, none⟩ = some (.int .i64 (h : Int)) := hNA7.toF.h (HHZ.out _)
          have k3 : w7.cell? ⟨g3, b, none⟩ = some (.int .i64 (t2 : Int)) := hNA7.toF.h ht2
          have k4 : w7.frozen? ⟨g3, z, none⟩ = false := hNA7.fzh z
          have hbm' : (b : Int) < m := by omega
          have hmin : (min (h : Int) (t2 : Int)) = ((min h t2 : Nat) : Int) := by omega
          clear hfa
          refine hK.out _ _ (fun _ => ⟨k1, k2⟩) ?_
          clear hK K
          refine wpAnyL_one 12 (by kernel_rfl) rfl (fun K hK0 => ?_)
          have hK : Shut _ := hK0
          clear hK0
          go_simp
          refine hK.out _ _ (fun _ => ⟨k1, k2⟩) ?_
          clear hK K
          refine wpAnyL_one 13 (by kernel_rfl) rfl (fun K hK0 => ?_)
          have hK : Shut _ := hK0
          clear hK0
          go_simp
          refine hK.out _ _ (fun _ => ⟨k1, k2⟩) ?_
          clear hK K
          refine wpAnyL_one 14 (by kernel_rfl) rfl (fun K hK0 => ?_)
          have hK : Shut _ := hK0
          clear hK0
          go_simp
          refine hK.out _ _ (fun _ => ⟨k1, k2⟩) ?_
          clear hK K
          refine wpAnyL_one 15 (by kernel_rfl) rfl (fun K hK0 => ?_)
          have hK : Shut _ := hK0
          clear hK0
          go_simp
          refine hK.out _ _ (fun _ => ⟨k1, k2⟩) ?_
          clear hK K
          refine wpAnyL_one 16 (by kernel_rfl) rfl (fun K hK0 => ?_)
          have hK : Shut _ := hK0
          clear hK0
          go_simp
          refine hK.out _ _ (fun h => by cases h) ?_
          clear hK K
          refine wpAnyL_done (by kernel_rfl) ?_
          have hmn2 : (if t2 < h then (t2 : Int) else (h : Int)) = ((min h t2 : Nat) : Int) := by split <;> omega
          rw [hmn2]
          have HNA8 : Hid (NAt (w7.setCell ⟨g3, z, none⟩ (.int .i64 ((min h t2 : Nat) : Int))) W1.heap.size ⟨B, g1, g2, g3, alg, wg, ag, m, akv, rows⟩ { s with ov := ov', be := be', pa := pa', pv := pv', hi := s.hi.set z ((min h t2 : Nat) : Int) }) := by
            have h9 := hNA7.setH z ((min h t2 : Nat) : Int)
            simp only [List.set_set] at h9
            exact h9
          have HFI8 : Hid (FI m (frF fs) (z + 1) ov' be' (s.hi.set z ((min h t2 : Nat) : Int))) := by
            have h9 := hfi.hiset (i := z) (by omega) ((min h t2 : Nat) : Int)
            rw [List.set_set] at h9
            exact h9
          have HPI8 : Hid (PI (EdN nx ns) (frF fs) z s.hi (A.take (k + 1)) (min h t2)) := by
            show PI _ _ _ _ _ _
            rw [HTK.out]
            have D9 := HD.out.dfs
            rw [← HMM.out] at D9
            exact pi_next D9 HNI.out rfl hzm HPI.out HQZ.out hst ht2
          have HBW8 : Hid (Below W1.heap.size W1 (w7.setCell ⟨g3, z, none⟩ (.int .i64 ((min h t2 : Nat) : Int)))) := Below.setCell (p := ⟨g3, z, none⟩) (HBW.out.trans ((bel_drewN (Below.refl _ wr) 1).trans hbw)) (hNA7.hp.lt (i := 3) (n := m) (c := m) rfl).1 _
          clear hNA7 hfi hst hbw k1 k2 k3 k4 HHI HNA1 HBW HPI HQZ HTK c2 c3 cx hmin ht2 hmn2
          generalize min h t2 = h8 at *
          generalize w7.setCell ⟨g3, z, none⟩ (.int .i64 (h8 : Int)) = w8 at *
          go_wp2
          go_roundw
          case rel => exact ⟨k + 1, h8, ov', be', pa', pv', by first | rfl | (rw [hwk]) | (congr 1; omega), by omega, HPI8.out, HFI8.out, HNA8.out, HBW8.out⟩
          case measure => simp only [intOf]; omega
        · obtain rfl : k = A.length := by omega
          have hDz := HD.out.dfs
          rw [← HMM.out] at hDz
          have hPI : PI (EdN nx ns) (frF fs) z s.hi A h := by have h9 := hq.out.1; rw [List.take_length] at h9; exact h9
          obtain ⟨hsm, hhz⟩ := hPI.semi hDz hz2 hzm HAI.out.2 HNI.out.semi
          obtain ⟨p, hp, hpz⟩ := HD.out.frm z hz2 (by rw [← HMM.out]; exact hzm)
          have hfp : frF fs z = p := frF_at hp
          obtain ⟨gf, of, hfa, hgf, cf⟩ := IntsAt.get (l := fs) Hf1.out (i := z) (by rw [HFM.out]; exact hzm)
          subst hfa
          have ef : fs.getD z 0 = (p : Int) := by rw [List.getD_eq_getElem?_getD, hp]; rfl
          rw [ef] at cf
          have HSM : Hid _ := hsm
          have HFP : Hid _ := hfp
          have HFI0 : Hid _ := hq.out.2.1
          obtain ⟨kv, hkv⟩ : ∃ kv, s.kvs[h]? = some kv := ⟨_, List.getElem?_eq_getElem (by have h9 : s.kvs.length = m := hq.out.2.2.1.kl; omega)⟩
          obtain ⟨r, hr⟩ : ∃ r, s.wt[h]? = some r := ⟨_, List.getElem?_eq_getElem (by have h9 : s.wt.length = m := hq.out.2.2.1.wl; omega)⟩
          have hNA := hq.out.2.2.1
          have hBW := hq.out.2.2.2
          have hok : wr.ownsRow W1.heap.size 3 1 kv r.length (r.map intV) := hNA.wkid hkv hr
          have hrl : r.length ≤ 2000000 := by have := lens_mem (List.mem_of_getElem? hr); have := HLN.out; omega
          have HA1 : Below wr.heap.size wr ((wr.alloc (.cells #[.int .i64 (z : Int)] 3)).drew) := below_drew (below_alloc (Below.refl _ _) _)
          have hbs : W1.heap.size ≤ wr.heap.size := hNA.hb
          obtain ⟨q2, cc2, w7, hrun, ho, hg2, hat⟩ := app_one ((wr.alloc (.cells #[.int .i64 (z : Int)] 3)).drew) 23 W1.heap.size kv r z wr.heap.size r.length rfl (owns_below hok HA1) (cell_lit1 wr z) (by omega) (by simp; omega)
          have ho' : w7.ownsRow W1.heap.size 3 1 (.slice (some ⟨q2, 0, none⟩) (r.length + 1) cc2) (r ++ [(z : Int)]).length ((r ++ [(z : Int)]).map intV) := by simpa using ho
          obtain ⟨hN9, hT9⟩ := (hNA.below HA1).turnW hkv hr ho' hg2 (by rcases hat with h9 | h9; exact .inl h9; exact .inr (.inl h9))
          obtain ⟨t1, t2, t3, t4⟩ := turn_cell hT9
          have k1 : w7.cell? ⟨B, 2, none⟩ = some (slV g3 m) := t2
          have k2 : w7.cell? ⟨g3, z, none⟩ = some (.int .i64 (h : Int)) := t1 z _ (HHZ.out h)
          have k3 : w7.cell? ⟨wg, h, none⟩ = some kv := t3 h kv hkv
          have k4 : w7.frozen? ⟨wg, h, none⟩ = false := t4 h
          have c2 : wr.cell? ⟨B, 2, none⟩ = some (slV g3 m) := hNA.toF.box.2.2.1
          have c3 : wr.cell? ⟨g3, z, none⟩ = some (.int .i64 (h : Int)) := hNA.toF.h (HHZ.out h)
          have c4 : wr.cell? ⟨wg, h, none⟩ = some kv := hNA.wout hkv
          have c5 : wr.cell? ⟨w.heap.size, 1, none⟩ = some (.slice (some ⟨gf, of, none⟩) m fc) := (HF1.out wr hBW).1
          have c6 : wr.cell? ⟨gf, of + z, none⟩ = some (.int .i64 (p : Int)) := (hBW.cell (p := ⟨gf, of + z, none⟩) hgf).trans cf
          have HM9 : Hid (s.wt.modify h (· ++ [(z : Int)]) = s.wt.set h (r ++ [(z : Int)])) := modify_set hr
          have HN9 : Hid (NAt (w7.setCell ⟨wg, h, none⟩ (.slice (some ⟨q2, 0, none⟩) (r.length + 1) cc2)) W1.heap.size ⟨B, g1, g2, g3, alg, wg, ag, m, akv, rows⟩ { s with ov := ov, be := be, pa := pa, pv := pv, hi := s.hi.set z (h : Int), kvs := s.kvs.set h (.slice (some ⟨q2, 0, none⟩) (r.length + 1) cc2), wt := s.wt.set h (r ++ [(z : Int)]) }) := hN9
          have HB9 : Hid (Below W1.heap.size W1 (w7.setCell ⟨wg, h, none⟩ (.slice (some ⟨q2, 0, none⟩) (r.length + 1) cc2))) := Below.setCell (p := ⟨wg, h, none⟩) (bel_grown (hBW.trans (HA1.mono hbs)) (Nat.le_refl _) hg2 (fun g e => (hok.lt g e).1)) (hNA.hp.lt (i := 6) (n := m) (c := m) rfl).1 _
          have hhm : h < m := by omega
          have hhm' : (h : Int) < m := by omega
          have hpm : p < m := by omega
          have hpm' : (p : Int) < m := by omega
          have HLR : Hid (lensA (s.wt.set h (r ++ [(z : Int)])) = lensA s.wt + 1) := by show _ = _; rw [← HM9.out, lens_modify _ _ _ (by have h9 : s.wt.length = m := hNA.wl; omega)]
          clear hq hN9 hT9 t1 t2 t3 t4 hok ho ho' hg2 hat HA1 hNA hBW hkv hr cf ef hp hfp hsm hPI hrl hbs
          go_wp2
          refine wp_region_late (fun w' => w'.cell? ⟨B, 2, none⟩ = some (slV g3 m) ∧ w'.cell? ⟨g3, z, none⟩ = some (.int .i64 (h : Int)) ∧ w'.cell? ⟨wg, h, none⟩ = some kv) (fun j => j == 18) (by kernel_rfl) (by go_keep) (fun hHeld => ?_)
          refine wpAnyL_take 0 (v := ?_) rfl (by kernel_rfl) (by kernel_rfl) (by kernel_rfl) (by kernel_rfl) (fun _ _ _ h => h) hHeld (Or.inl ⟨by rfl, ?_⟩) ?_
          rotate_left 1
          · (intro w hSw; (try dsimp only at hSw); first | (go_simp; done) | (go_simp; with_reducible rfl))
          simp only [Act.put, List.setIfInBounds_toArray]
          refine wpAnyL_take 1 (v := ?_) rfl (by kernel_rfl) (by kernel_rfl) (by kernel_rfl) (by kernel_rfl) (fun _ _ _ h => h) hHeld (Or.inl ⟨by rfl, ?_⟩) ?_
          rotate_left 1
          · (intro w hSw; (try dsimp only at hSw); first | (go_simp; done) | (go_simp; with_reducible rfl))
          simp only [Act.put]
          refine wpAnyL_take 2 (v := ?_) rfl (by kernel_rfl) (by kernel_rfl) (by kernel_rfl) (by kernel_rfl) (fun _ _ _ h => h) hHeld (Or.inl ⟨by rfl, ?_⟩) ?_
          rotate_left 1
          · (intro w hSw; (try dsimp only at hSw); first | (go_simp; done) | (go_simp; with_reducible rfl))
          simp only [Act.put]
          refine wpAnyL_take 3 (v := ?_) rfl (by kernel_rfl) (by kernel_rfl) (by kernel_rfl) (by kernel_rfl) (fun _ _ _ h => h) hHeld (Or.inl ⟨by rfl, ?_⟩) ?_
          rotate_left 1
          · (intro w hSw; (try dsimp only at hSw); first | (go_simp; done) | (go_simp; with_reducible rfl))
          simp only [Act.put]
          refine wpAnyL_take 4 (v := ?_) rfl (by kernel_rfl) (by kernel_rfl) (by kernel_rfl) (by kernel_rfl) (fun _ _ _ h => h) hHeld (Or.inl ⟨by rfl, ?_⟩) ?_
          rotate_left 1
          · (intro w hSw; (try dsimp only at hSw); first | (go_simp; done) | (go_simp; with_reducible rfl))
          simp only [Act.put]
          refine wpAnyL_take 5 (v := ?_) rfl (by kernel_rfl) (by kernel_rfl) (by kernel_rfl) (by kernel_rfl) (fun _ _ _ h => h) hHeld (Or.inl ⟨by rfl, ?_⟩) ?_
          rotate_left 1
          · (intro w hSw; (try dsimp only at hSw); first | (go_simp; done) | (go_simp; with_reducible rfl))
          simp only [Act.put]
          refine wpAnyL_take 6 (v := ?_) rfl (by kernel_rfl) (by kernel_rfl) (by kernel_rfl) (by kernel_rfl) (fun _ _ _ h => h) hHeld (Or.inl ⟨by rfl, ?_⟩) ?_
          rotate_left 1
          · (intro w hSw; (try dsimp only at hSw); first | (go_simp; done) | (go_simp; with_reducible rfl))
          simp only [Act.put]
          refine wpAnyL_take 7 (v := ?_) rfl (by kernel_rfl) (by kernel_rfl) (by kernel_rfl) (by kernel_rfl) (fun _ _ _ h => h) hHeld (Or.inl ⟨by rfl, ?_⟩) ?_
          rotate_left 1
          · (intro w hSw; (try dsimp only at hSw); first | (go_simp; done) | (go_simp; with_reducible rfl))
          simp only [Act.put]
          refine wpAnyL_take 8 (v := ?_) rfl (by kernel_rfl) (by kernel_rfl) (by kernel_rfl) (by kernel_rfl) (fun _ _ _ h => h) hHeld (Or.inl ⟨by rfl, ?_⟩) ?_
          rotate_left 1
          · (intro w hSw; (try dsimp only at hSw); first | (go_simp; done) | (go_simp; with_reducible rfl))
          simp only [Act.put]
          refine wpAnyL_take 9 (v := ?_) rfl (by kernel_rfl) (by kernel_rfl) (by kernel_rfl) (by kernel_rfl) (fun _ _ _ h => h) hHeld (Or.inl ⟨by rfl, ?_⟩) ?_
          rotate_left 1
          · (intro w hSw; (try dsimp only at hSw); first | (go_simp; done) | (go_simp; with_reducible rfl))
          simp only [Act.put]
          refine wpAnyL_take 10 (v := ?_) rfl (by kernel_rfl) (by kernel_rfl) (by kernel_rfl) (by kernel_rfl) (fun _ _ _ h => h) hHeld (Or.inl ⟨by rfl, ?_⟩) ?_
          rotate_left 1
          · (intro w hSw; (try dsimp only at hSw); first | (go_simp; done) | (go_simp; with_reducible rfl))
          simp only [Act.put]
          refine wpAnyL_take 11 (v := ?_) rfl (by kernel_rfl) (by kernel_rfl) (by kernel_rfl) (by kernel_rfl) (fun _ _ _ h => h) hHeld (Or.inl ⟨by rfl, ?_⟩) ?_
          rotate_left 1
          · (intro w hSw; (try dsimp only at hSw); first | (go_simp; done) | (go_simp; with_reducible rfl))
          simp only [Act.put]
          refine wpAnyL_take 12 (v := ?_) rfl (by kernel_rfl) (by kernel_rfl) (by kernel_rfl) (by kernel_rfl) (fun _ _ _ h => h) hHeld (Or.inl ⟨by rfl, ?_⟩) ?_
          rotate_left 1
          · (intro w hSw; (try dsimp only at hSw); first | (go_simp; done) | (go_simp; with_reducible rfl))
          simp only [Act.put]
          refine wpAnyL_take 13 (v := ?_) rfl (by kernel_rfl) (by kernel_rfl) (by kernel_rfl) (by kernel_rfl) (fun _ _ _ h => h) hHeld (Or.inl ⟨by rfl, ?_⟩) ?_
          rotate_left 1
          · (intro w hSw; (try dsimp only at hSw); first | (go_simp; done) | (go_simp; with_reducible rfl))
          simp only [Act.put]
          refine wpAnyL_take 14 (v := ?_) rfl (by kernel_rfl) (by kernel_rfl) (by kernel_rfl) (by kernel_rfl) (fun _ _ _ h => h) hHeld (Or.inl ⟨by rfl, ?_⟩) ?_
          rotate_left 1
          · (intro w hSw; (try dsimp only at hSw); first | (go_simp; done) | (go_simp; with_reducible rfl))
          simp only [Act.put]
          refine wpAnyL_one 15 (by kernel_rfl) rfl (fun K hK0 => ?_)
          have hK : Shut _ := hK0
          clear hK0
          go_simp
          refine hK.out _ _ (fun _ => by go_keep) ?_
          clear hK K
          refine wpAnyL_one 16 (by kernel_rfl) rfl (fun K hK0 => ?_)
          have hK : Shut _ := hK0
          clear hK0
          refine step_append_run rfl (.tmp 84) (.tmp 86) 23 rfl kv (.slice (some ⟨wr.heap.size, 0, none⟩) 1 1) _ _ ?e1 ?e2 hrun ?_
          case e1 => simp [Act.eval]
          case e2 => simp [Act.eval]
          refine hK.out _ _ (fun _ => ⟨k1, k2, k3⟩) ?_
          clear hK K
          simp only [Act.put]
          refine wpAnyL_one 17 (by kernel_rfl) rfl (fun K hK0 => ?_)
          have hK : Shut _ := hK0
          clear hK0
          go_simp
          refine hK.out _ _ (fun _ => ⟨k1, k2, k3⟩) ?_
          clear hK K
          refine wpAnyL_one 18 (by kernel_rfl) rfl (fun K hK0 => ?_)
          have hK : Shut _ := hK0
          clear hK0
          go_simp
          refine hK.out _ _ (fun h => by cases h) ?_
          clear hK K
          refine wpAnyL_done (by kernel_rfl) ?_
          generalize w7.setCell ⟨wg, h, none⟩ (.slice (some ⟨q2, 0, none⟩) (r.length + 1) cc2) = w9 at *
          generalize s.kvs.set h (.slice (some ⟨q2, 0, none⟩) (r.length + 1) cc2) = kvs9 at *
          clear hrun k1 k2 k3 k4 c2 c3 c4 c5 c6
          have hNA9 := HN9.out
          have d0 : w9.cell? ⟨B, 0, none⟩ = some (slV g1 m) := hNA9.toF.box.1
          have d1 : w9.cell? ⟨g1, z, none⟩ = some (.int .i64 (-1)) := hNA9.toF.o (HFI0.out.lowO z (by omega) hzm)
          have d2 : w9.frozen? ⟨g1, z, none⟩ = false := hNA9.toF.fzo z
          have hN10 := hNA9.setO z (p : Int)
          have HB10 : Hid (Below W1.heap.size W1 (w9.setCell ⟨g1, z, none⟩ (.int .i64 (p : Int)))) := Below.setCell (p := ⟨g1, z, none⟩) HB9.out (hNA9.toF.ne.2.1.1) _
          obtain ⟨kvp, hkvp⟩ : ∃ kvp, kvs9[p]? = some kvp := ⟨_, List.getElem?_eq_getElem (by have h9 : kvs9.length = m := hNA9.kl; omega)⟩
          obtain ⟨R, hR⟩ : ∃ R, (s.wt.set h (r ++ [(z : Int)]))[p]? = some R := ⟨_, List.getElem?_eq_getElem (by have h9 : (s.wt.set h (r ++ [(z : Int)])).length = m := hNA9.wl; omega)⟩
          obtain ⟨ra, rc, rfl⟩ := own_sl (hN10.wkid hkvp hR)
          have d3 : (w9.setCell ⟨g1, z, none⟩ (.int .i64 (p : Int))).cell? ⟨wg, p, none⟩ = some (.slice ra R.length rc) := hN10.wout hkvp
          have HKP : Hid _ := hkvp
          have HRR : Hid _ := hR
          have HRW : Hid (R = (s.wt.modify h (· ++ [(z : Int)])).getD (frF fs z) []) := by show _ = _; rw [HM9.out, HFP.out, getD_get hR]
          have HRI2 : Hid (∀ x ∈ R, ∃ i : Nat, x = (i : Int) ∧ z ≤ i ∧ i < m ∧ gN (s.hi.set z (h : Int)) i = frF fs z) := fun x hx => wait_in HNI.out hzm hhm (by rw [← HRW.out]; exact hx)
          have hRl : R.length ≤ 4000000 := by have h8 := lens_mem (List.mem_of_getElem? hR); have := HLR.out; have := HLN.out; omega
          have HRL2 : Hid _ := hRl
          have HFZ : Hid (FI m (frF fs) z (ov.set z (p : Int)) be (s.hi.set z (h : Int))) := by
            have h9 := FI.link hDz.frlt HFI0.out hz2 hzm
            rw [HFP.out] at h9
            exact h9
          have HQ0 : Hid (QI m (frF fs) z (s.hi.set z (h : Int)) s.al s.al (R.take 0)) := qi_start HNI.out.la
          have HN10 : Hid (NAt (w9.setCell ⟨g1, z, none⟩ (.int .i64 (p : Int))) W1.heap.size ⟨B, g1, g2, g3, alg, wg, ag, m, akv, rows⟩ { s with ov := ov.set z (p : Int), be := be, pa := pa, pv := pv, hi := s.hi.set z (h : Int), kvs := kvs9, wt := s.wt.set h (r ++ [(z : Int)]) }) := hN10
          have HDZ : Hid _ := hDz
          clear hNA9 hN10 HN9 HB9 hkvp hR HFI0 hRl hDz
          go_wp2
          clear d0 d1 d2 d3
          generalize w9.setCell ⟨g1, z, none⟩ (.int .i64 (p : Int)) = w10 at *
          go_loopw [99] (fun vk wr => ∃ (k : Nat) (ov be pa al : List Int) (pv : Value), vk = .int .i64 k ∧ k ≤ R.length ∧ Hid (QI m (frF fs) z (s.hi.set z (h : Int)) s.al al (R.take k) ∧ FI m (frF fs) z ov be (s.hi.set z (h : Int)) ∧ NAt wr W1.heap.size ⟨B, g1, g2, g3, alg, wg, ag, m, akv, rows⟩ { s with ov := ov, be := be, pa := pa, pv := pv, al := al, hi := s.hi.set z (h : Int), kvs := kvs9, wt := s.wt.set h (r ++ [(z : Int)]) } ∧ Below W1.heap.size W1 wr)) (fun vk _ => R.length - (intOf vk).toNat)
          case atStart => exact ⟨0, ov.set z (p : Int), be, pa, s.al, pv, rfl, by omega, HQ0.out, HFZ.out, HN10.out, HB10.out⟩
          case round =>
            obtain ⟨k, ov, be, pa, al, pv, rfl, hk, hq⟩ := hrel
            clear HQ0 HFZ HN10 HB10
            by_cases hkR : k < R.length
            · have hkR' : (k : Int) < R.length := by omega
              obtain ⟨x, hx⟩ : ∃ x, R[k]? = some x := ⟨_, List.getElem?_eq_getElem hkR⟩
              obtain ⟨i, rfl, hiz, him, hgi⟩ := HRI2.out x (List.mem_of_getElem? hx)
              have him' : (i : Int) < m := by omega
              have hown : wr.ownsRow W1.heap.size 3 1 (.slice ra R.length rc) R.length (R.map intV) := hq.out.2.2.1.wkid HKP.out HRR.out
              obtain ⟨gR, hgR⟩ : ∃ gR, ra = some ⟨gR, 0, none⟩ := by
                rcases own_shape hown with ⟨_, h0⟩ | ⟨g, c, h9, _⟩
                · omega
                · injection h9 with e1 e2 e3
                  exact ⟨g, e1⟩
              subst hgR
              have cx : wr.cell? ⟨gR, k, none⟩ = some (.int .i64 (i : Int)) := by
                rw [hown.cellAt k (by omega)]
                exact map_get hx
              have HTK : Hid (R.take (k + 1) = R.take k ++ [(i : Int)]) := by show _ = _; rw [List.take_add_one, hx]; rfl
              have HGI : Hid _ := hgi
              have HQI : Hid _ := hq.out.1
              have HNA1 : Hid (NAt wr W1.heap.size ⟨B, g1, g2, g3, alg, wg, ag, m, akv, rows⟩ { s with ov := ov, be := be, pa := pa, pv := pv, al := al, hi := s.hi.set z (h : Int), kvs := kvs9, wt := s.wt.set h (r ++ [(z : Int)]) }) := hq.out.2.2.1
              have HBW : Hid _ := hq.out.2.2.2
              have hwk : IntKind.i64.wrap ((k : Int) + 1) = ((k + 1 : Nat) : Int) := by have := HRL2.out; unfold IntKind.wrap; simp [IntKind.bits, IntKind.signed]; omega
              have HHI : Hid (Calls Tryz.prog 53 #[ptr B, .int .i64 (i : Int)] wr fun e w' => ∃ (b : Nat) (ov' be' pa' : List Int) (pv' : Value), e = .returned (.int .i64 (b : Int)) ∧ b < m ∧ Hst (frF fs) z (s.hi.set z (h : Int)) i b ∧ FI m (frF fs) z ov' be' (s.hi.set z (h : Int)) ∧ FAt w' W1.heap.size (nsS ⟨B, g1, g2, g3, alg, wg, ag, m, akv, rows⟩ { s with ov := ov, be := be, pa := pa, pv := pv, al := al, hi := s.hi.set z (h : Int), kvs := kvs9, wt := s.wt.set h (r ++ [(z : Int)]) }) B g1 g2 g3 m ov' be' (s.hi.set z (h : Int)) pv' pa' ∧ Below W1.heap.size wr w') := highest_any m (frF fs) z HD.out.dfs.frlt ov be (s.hi.set z (h : Int)) pa hq.out.2.1 (HNN.out h) (by omega) wr W1.heap.size _ B g1 g2 g3 pv hq.out.2.2.1.toF i him
              clear hq hown hx hgi
              go_wp2_with (go_at_call 53; go_loud (refine Calls.mono (by exact HHI.out) ?_; rintro e w11 ⟨b, ov', be', pa', pv', rfl, hbm, hst, hfi, hfa, hbw⟩; have hNA7 := NAt.ofF HNA1.out hfa; obtain ⟨y, hy⟩ : ∃ y, al[i]? = some y := ⟨_, List.getElem?_eq_getElem (by have h9 : al.length = m := HQI.out.la; omega)⟩; have k1 : w11.cell? ⟨alg, i, none⟩ = some (.int .i64 y) := hNA7.a hy; have k2 : w11.frozen? ⟨alg, i, none⟩ = false := hNA7.fza i; have HNA7 : Hid _ := hNA7; have HST7 : Hid _ := hst; have HFI7 : Hid _ := hfi; have HBW7 : Hid _ := hbw; clear hNA7 hst hfi hfa hbw hy))
              have HNA8 : Hid (NAt (w11.setCell ⟨alg, i, none⟩ (.int .i64 (b : Int))) W1.heap.size ⟨B, g1, g2, g3, alg, wg, ag, m, akv, rows⟩ { s with ov := ov', be := be', pa := pa', pv := pv', al := al.set i (b : Int), hi := s.hi.set z (h : Int), kvs := kvs9, wt := s.wt.set h (r ++ [(z : Int)]) }) := HNA7.out.setA i (b : Int)
              have HQI8 : Hid (QI m (frF fs) z (s.hi.set z (h : Int)) s.al (al.set i (b : Int)) (R.take (k + 1))) := by
                show QI _ _ _ _ _ _ _
                rw [HTK.out]
                exact HQI.out.step HDZ.out hz2 hiz him HGI.out HST7.out
              have HBW8 : Hid (Below W1.heap.size W1 (w11.setCell ⟨alg, i, none⟩ (.int .i64 (b : Int)))) := Below.setCell (p := ⟨alg, i, none⟩) (HBW.out.trans HBW7.out) (HNA7.out.hp.lt (i := 5) (n := m) (c := m) rfl).1 _
              go_roundw
              case rel => exact ⟨k + 1, ov', be', pa', al.set i (b : Int), pv', by first | rfl | (rw [hwk]) | (congr 1; omega), by omega, HQI8.out, HFI7.out, HNA8.out, HBW8.out⟩
              case measure => simp only [intOf]; omega
            · obtain rfl : k = R.length := by omega
              have hNA := hq.out.2.2.1
              have k1 : wr.cell? ⟨wg, p, none⟩ = some (.slice ra R.length rc) := hNA.wout HKP.out
              have k2 : wr.frozen? ⟨wg, p, none⟩ = false := hNA.fzw p
              have hQR : QI m (frF fs) z (s.hi.set z (h : Int)) s.al al R := by have h9 := hq.out.1; rw [List.take_length] at h9; exact h9
              have HNX : Hid (NI m (EdN nx ns) (frF fs) (z - 1 + 1) ov be (s.hi.set z (h : Int)) al ((s.wt.set h (r ++ [(z : Int)])).set p [])) := by
                show NI _ _ _ _ _ _ _ _ _
                rw [Nat.sub_add_cancel hz2, ← HM9.out]
                have h9 := NI.next HDZ.out HNI.out hz2 hzm rfl HSM.out hhz hq.out.2.1 HRW.out hQR
                rw [HFP.out] at h9
                exact h9
              have HNA9 : Hid (NAt (wr.setCell ⟨wg, p, none⟩ (.slice none 0 0)) W1.heap.size ⟨B, g1, g2, g3, alg, wg, ag, m, akv, rows⟩ { s with ov := ov, be := be, pa := pa, pv := pv, al := al, hi := s.hi.set z (h : Int), kvs := kvs9.set p (.slice none 0 0), wt := (s.wt.set h (r ++ [(z : Int)])).set p [] }) := (hNA.turnW HKP.out HRR.out (r' := []) (kv' := .slice none 0 0) (World.ownsRow_nil _ _ _ _) (grownBy_refl _ _) (.inr (.inr rfl))).1
              have HBW9 : Hid (Below W1.heap.size W1 (wr.setCell ⟨wg, p, none⟩ (.slice none 0 0))) := Below.setCell (p := ⟨wg, p, none⟩) hq.out.2.2.2 (hNA.hp.lt (i := 6) (n := m) (c := m) rfl).1 _
              have HL9 : Hid (lensA ((s.wt.set h (r ++ [(z : Int)])).set p []) + (z - 1 + 1) ≤ m) := by
                have h8 := lens_set (rows := s.wt.set h (r ++ [(z : Int)])) (k := p)
                have h7 := HLR.out
                have h6 := HLN.out
                show _ ≤ _
                omega
              have hwz : IntKind.i64.wrap ((z : Int) - 1) = ((z - 1 : Nat) : Int) := by unfold IntKind.wrap; simp [IntKind.bits, IntKind.signed]; omega
              clear hNA hQR hq
              go_wp2
              go_roundw
              case rel => exact ⟨z - 1, { s with ov := ov, be := be, pa := pa, pv := pv, al := al, hi := s.hi.set z (h : Int), kvs := kvs9.set p (.slice none 0 0), wt := (s.wt.set h (r ++ [(z : Int)])).set p [] }, by first | rfl | (rw [hwz]), by omega, HNX.out, HNA9.out, HL9.out, HBW9.out⟩
              case measure => simp only [intOf]; omega
end Go.Proofs.YtogjjmbcbnceoaaGreat
