/- The program's Tree. -/
import Derived.Test.YtogjjmbcbnceoaaGreatDNe
import Derived.Test.YtogjjmbcbnceoaaGreatDWdM
namespace Go.Proofs.YtogjjmbcbnceoaaGreat
open Go.RowKit Lt

/-- The tree so far: the nearest ones of the numbers from 1 up to i. -/
structure TI (ns nr : List Int) (n i : Nat) (T : List Int) : Prop where
  len : T.length = n
  set : ∀ j b : Nat, 0 < j → j < i → ns[j]? = some (b : Int) → ∃ k a : Nat, nr[j]? = some (k : Int) ∧ ns[k]? = some (a : Int) ∧ T[b]? = some (a : Int)
  not : ∀ b : Nat, b < n → (∀ j : Nat, 0 < j → j < i → ns[j]? ≠ some (b : Int)) → T[b]? = some (-1)
theorem TI.start (ns nr : List Int) (n : Nat) : TI ns nr n 0 (List.replicate n (-1)) := ⟨by simp, fun j b _ h => by omega, fun b hb _ => by rw [List.getElem?_replicate, if_pos hb]⟩
theorem TI.skip {ns nr : List Int} {n : Nat} {T : List Int} (h : TI ns nr n 0 T) : TI ns nr n 1 T := ⟨h.len, fun j b h0 h1 => by omega, fun b hb hn => h.not b hb (fun j h0 h1 => by omega)⟩
theorem TI.step {nx : List (List Int)} {ns fs ps nr : List Int} (D : Done nx ns fs ps) {i : Nat} {T : List Int} (h : TI ns nr nx.length i T) (hi : 0 < i) {k a b : Nat} (hb : ns[i]? = some (b : Int)) (hk : nr[i]? = some (k : Int)) (ha : ns[k]? = some (a : Int)) (hbn : b < nx.length) : TI ns nr nx.length (i + 1) (T.set b (a : Int)) := by
  have hl := h.len
  refine ⟨by simpa using hl, fun j c h0 h1 hc => ?_, fun c hc hn => ?_⟩
  · by_cases e : j = i
    · subst e
      rw [hb] at hc
      cases hc
      exact ⟨k, a, hk, ha, by rw [List.getElem?_set, if_pos rfl, if_pos (by omega)]⟩
    · obtain ⟨k', a', h2, h3, h4⟩ := h.set j c h0 (by omega) hc
      refine ⟨k', a', h2, h3, ?_⟩
      rw [List.getElem?_set, if_neg (fun e2 => e (D.inj hc (by rw [hb, e2])))]
      exact h4
  · have hne : b ≠ c := fun e => hn i hi (by omega) (by rw [hb, e])
    rw [List.getElem?_set, if_neg hne]
    exact h.not c hc (fun j h0 h1 => hn j h0 (by omega))
theorem TI.tree {nx : List (List Int)} {ns fs ps nr : List Int} (hm : May nx) (D : Done nx ns fs ps) {T : List Int} (h : TI ns nr nx.length ns.length T) (hnr : ∀ i, 0 < i → i < ns.length → ∃ k : Nat, nr[i]? = some (k : Int) ∧ k < ns.length ∧ NearN (EdN nx ns) i k) : T = treeL nx := by
  refine treeL_uniq hm h.len fun b hb => ?_
  have hl := h.len
  have none : (∀ j : Nat, 0 < j → j < ns.length → ns[j]? ≠ some (b : Int)) → T.getD b 0 = -1 := fun hn => by rw [List.getD_eq_getElem?_getD, h.not b hb hn]; rfl
  by_cases hr : Rch nx noneS b
  · obtain ⟨j, hj⟩ := D.num hr
    have hjl := (List.getElem?_eq_some_iff.1 hj).1
    rcases Nat.eq_zero_or_pos j with e | h0
    · subst e
      have hb0 : b = 0 := by have h9 := D.zero; rw [hj] at h9; cases h9; rfl
      subst hb0
      rw [none fun j h1 h2 hc => by have := D.inj hc hj; omega]
      exact near_entry nx
    · obtain ⟨k, a, h1, h2, h3⟩ := h.set j b h0 hjl hj
      obtain ⟨k', g1, _, g3⟩ := hnr j h0 hjl
      rw [h1] at g1
      have : k = k' := by cases g1; rfl
      subst this
      rw [List.getD_eq_getElem?_getD, h3]
      exact D.near hj h2 g3
  · rw [none fun j h1 h2 hc => hr (D.rch hc)]
    exact near_none hr
set_option maxRecDepth 100000 in
set_option maxHeartbeats 2000000 in
theorem tree_no (nx : List (List Int)) (v : Value) (w : World) (hN : NetAt w v nx) (hm : ¬ May nx) : Calls Tryz.prog 9 #[v] w fun e w' => e = .returned (.tuple #[.slice none 0 0, .int .i64 4]) ∧ Below w.heap.size w w' := by
  have HM : Hid (Calls Tryz.prog 30 #[v] w fun e w' => e = .returned (.bool false) ∧ Below w.heap.size w w') := (maybe_any nx v w hN).mono fun e w' hh => by rw [dec_false hm] at hh; exact hh
  clear hN hm
  go_enter Tryz.func9, Tryz.ntmps9
  go_wp2_with (go_at_call 30; go_loud (refine Calls.mono (by exact HM.out) ?_; rintro e w1 ⟨rfl, hb⟩; have HB : Hid _ := hb; clear hb))
  go_ret2
  exact ⟨rfl, HB.out⟩
set_option maxRecDepth 100000 in
set_option maxHeartbeats 2000000 in
theorem tree_yes (nx : List (List Int)) (v : Value) (w : World) (hN : NetAt w v nx) (hm : May nx) (hb1 : nx.length ≤ 2000000) (hb2 : ∀ r ∈ nx, r.length ≤ 2000000) : Calls Tryz.prog 9 #[v] w fun e w' => (∃ v', e = .returned (.tuple #[v', .int .i64 0]) ∧ OwnI w' w.heap.size v' (treeL nx)) ∧ Below w.heap.size w w' := by
  have HM : Hid (Calls Tryz.prog 30 #[v] w fun e w' => e = .returned (.bool true) ∧ Below w.heap.size w w') := (maybe_any nx v w hN).mono fun e w' hh => by rw [dec_true hm] at hh; exact hh
  have HWK : Hid (∀ W, NetAt W v nx → _) := fun W h => walked_any nx v W h hm hb1
  have HNE : Hid (∀ (ns fs ps : List Int) (nv fv pv : Value) (W : World), NetAt W v nx → IntsAt W nv ns → IntsAt W fv fs → IntsAt W pv ps → Done nx ns fs ps → _) := fun ns fs ps nv fv pv W h1 h2 h3 h4 h5 => nearest_any nx ns fs ps v nv fv pv W h1 h2 h3 h4 h5 hm hb1 hb2
  obtain ⟨a, c, rfl, hll⟩ := hN.form
  have hpos := hm.1
  have HMY : Hid _ := hm
  have HN : Hid _ := hN
  have HTL : Hid ((treeL nx).length = nx.length) := treeL_len nx
  obtain ⟨n, hn⟩ : ∃ n, n = nx.length := ⟨_, rfl⟩
  have HNN : Hid _ := hn
  have HRP : Hid (∀ (W : World) (g : Nat), g < W.heap.size → W.cell? ⟨g, 0, none⟩ = some (.int .i64 (-1)) → _) := fun W g h1 h2 => repeat_any (-1) n g (by omega) (by omega) W h2 h1
  rw [← hn] at hpos hb1 hll HM HWK HNE HN
  rw [← hn]
  clear hN hm hn hb2
  go_enter Tryz.func9, Tryz.ntmps9
  go_wp2_with (first
    | (go_at_call 30; go_loud (refine Calls.mono (by exact HM.out) ?_; rintro e w1 ⟨rfl, hb⟩; have HB1 : Hid _ := hb; clear hb))
    | (go_at_call 31; go_loud (refine Calls.mono (by exact HWK.out w1 (HN.out.below HB1.out)) ?_; rintro e w2 ⟨nV, fV, pV, ns, fs, ps, rfl, hD, hI1, hI2, hI3, hb⟩; obtain ⟨na, nc, rfl, hnl⟩ := hI1.form; obtain ⟨fa, fc, rfl, hfl⟩ := hI2.form; obtain ⟨pa, pc, rfl, hpl⟩ := hI3.form; have HD : Hid _ := hD; have HI1 : Hid _ := hI1; have HI2 : Hid _ := hI2; have HI3 : Hid _ := hI3; have HB2 : Hid (Below w.heap.size w w2) := below_trans HB1.out hb; clear hD hI1 hI2 hI3 hb))
    | (go_at_call 32; go_loud (obtain ⟨w4, hw4⟩ : ∃ w4, w4 = (w2.alloc (.cells #[.slice na ns.length nc, .slice fa fs.length fc, .slice pa ps.length pc] 46)).alloc (.cells #[.int .i64 (-1)] 3) := ⟨_, rfl⟩; rw [← hw4]; have hs4 : w4.heap.size = w2.heap.size + 2 := (by rw [hw4]; simp); have hb24 : Below w2.heap.size w2 w4 := (by rw [hw4]; exact below_alloc (below_alloc (Below.refl _ _) _) _); have hbx : Box w4 w2.heap.size [.slice na ns.length nc, .slice fa fs.length fc, .slice pa ps.length pc] := (by rw [hw4]; exact (Box.new w2 [.slice na ns.length nc, .slice fa fs.length fc, .slice pa ps.length pc] 46).below (below_alloc (Below.refl _ _) _)); refine Calls.mono (by exact HRP.out w4 (w2.heap.size + 1) (by omega) (by rw [hw4]; simp)) ?_; rintro e w5 ⟨rfl, ho5, hb5⟩; have hb25 : Below w2.heap.size w2 w5 := below_trans hb24 hb5; have hbx5 := hbx.below hb5; have HO5 : Hid _ := ho5; have HB5 : Hid _ := hb5; have HB25 : Hid _ := hb25; have HBX : Hid _ := hbx5; have k0 := hbx5.cell 0 _ rfl; have k1 := hbx5.cell 1 _ rfl; have k2 := hbx5.cell 2 _ rfl; have l5 := hbx5.lt; have HS4 : Hid _ := hs4; clear ho5 hb5 hb25 hbx hbx5 hb24 hw4 hs4))
    | (go_at_call 33; go_loud (refine Calls.mono (by exact HNE.out ns fs ps _ _ _ w5 ((HN.out.below HB2.out).below HB25.out) (HI1.out.below HB25.out) (HI2.out.below HB25.out) (HI3.out.below HB25.out) HD.out) ?_; rintro e w6 ⟨g, nr, rfl, hna⟩; have HNA : Hid _ := hna; clear hna)))
  obtain ⟨hno, hnl2, hn0, hnn2, hb6⟩ := HNA.out
  have hDle := done_le HD.out
  obtain ⟨tb, htb⟩ : ∃ tb, tb = w4.heap.size := ⟨_, rfl⟩
  have hs5 : tb < w5.heap.size := by
    have h9 : w5.ownsRow w4.heap.size 3 1 (slV w4.heap.size n) (List.replicate n (-1 : Int)).length ((List.replicate n (-1)).map intV) := HO5.out
    rw [htb]
    exact (h9.lt _ rfl).2
  have hgge : w5.heap.size ≤ g := (hno.lt g rfl).1
  have hs4 : w2.heap.size < tb := by have := HS4.out; omega
  have HOT : Hid (w6.ownsRow tb 3 1 (slV tb n) n ((List.replicate n (-1)).map intV)) := by
    have h9 : w5.ownsRow w4.heap.size 3 1 (slV w4.heap.size n) (List.replicate n (-1 : Int)).length ((List.replicate n (-1)).map intV) := HO5.out
    rw [List.length_replicate] at h9
    show World.ownsRow _ _ _ _ _ _ _
    rw [htb]
    exact owns_below h9 hb6
  have HFAR : Hid (∀ W : World, w6.grownBy W (some tb) → ∀ (b o : Nat) (x : Value), w5.cell? ⟨b, o, none⟩ = some x → b < w5.heap.size → b ≠ tb → W.cell? ⟨b, o, none⟩ = some x) := fun W hW b o x hx hb hne => by
    have e1 : W.heap[b]? = w6.heap[b]? := hW.block b (by have := hb6.size; omega) (by intro h9; injection h9 with h9; exact hne h9)
    exact (World.cell?_of_block (a := ⟨b, o, none⟩) e1).trans ((hb6.cell (p := ⟨b, o, none⟩) hb).trans hx)
  have HNR : Hid (∀ W : World, w6.grownBy W (some tb) → ∀ (i : Nat) (x : Int), nr[i]? = some x → W.cell? ⟨g, i, none⟩ = some (.int .i64 x)) := fun W hW i x hx => by
    have e1 : W.heap[g]? = w6.heap[g]? := hW.block g (hno.lt g rfl).2 (by intro h9; injection h9 with h9; omega)
    have hi := (List.getElem?_eq_some_iff.1 hx).1
    refine (World.cell?_of_block (a := ⟨g, i, none⟩) e1).trans ?_
    rw [hno.cellAt i (by omega)]
    exact map_get hx
  have HNS : Hid (∀ i, i < ns.length → _) := fun i hi => IntsAt.get (l := ns) (IntsAt.below (l := ns) HI1.out HB25.out) (i := i) hi
  have HNSL : Hid (∀ i, i < ns.length → ∃ gn on, na = some ⟨gn, on, none⟩ ∧ gn < w2.heap.size) := fun i hi => by obtain ⟨gn, on, h1, h2, _⟩ := IntsAt.get (l := ns) HI1.out (i := i) hi; exact ⟨gn, on, h1, h2⟩
  have HN0 : Hid _ := hn0
  have HN2 : Hid _ := hnn2
  have HTI : Hid (TI ns nr n 0 (List.replicate n (-1))) := TI.start ns nr n
  have HB6 : Hid (Below w.heap.size w w6) := below_trans (below_trans HB2.out HB25.out) hb6
  have HW2 : Hid (w.heap.size ≤ w2.heap.size) := HB2.out.size
  have HK0 : Hid _ := k0
  rw [← htb]
  clear hno hnl2 hn0 hnn2 hb6 HO5 HB5 HNA HRP HM HWK HNE HBX k0 k1 k2 htb HS4
  obtain ⟨m, hm⟩ : ∃ m, m = ns.length := ⟨_, rfl⟩
  have HMM : Hid _ := hm
  rw [← hm] at HNS HNSL hDle HK0 hnl HN2
  rw [← hm]
  clear hm
  go_loopw [21] (fun vi wr => ∃ (i : Nat) (T : List Int), vi = .int .i64 i ∧ i ≤ m ∧ Hid (TI ns nr n i T ∧ wr.ownsRow tb 3 1 (slV tb n) n (T.map intV) ∧ w6.grownBy wr (some tb))) (fun vi _ => m - (intOf vi).toNat)
  case atStart => exact ⟨0, List.replicate n (-1), rfl, by omega, HTI.out, HOT.out, grownBy_refl _ _⟩
  case round =>
    obtain ⟨i, T, rfl, hi, hq⟩ := hrel
    clear HTI HOT
    by_cases him : i < m
    · have him' : (i : Int) < m := by omega
      rcases Nat.eq_zero_or_pos i with hi0 | hi0
      · subst hi0
        have c1 : wr.cell? ⟨g, 0, none⟩ = some (.int .i64 (-1)) := HNR.out wr hq.out.2.2 0 _ HN0.out
        have HT1 : Hid _ := hq.out.1.skip
        go_wp2
        go_roundw
        case rel => exact ⟨1, T, by first | rfl | (congr 1; omega), by omega, HT1.out, hq.out.2.1, hq.out.2.2⟩
        case measure => simp [intOf]; omega
      · obtain ⟨k, hk, hkm, _⟩ := HN2.out i hi0 him
        obtain ⟨b, hb, hbn, _⟩ := HD.out.nod i (by rw [← HMM.out]; exact him)
        obtain ⟨d, hd, _, _⟩ := HD.out.nod k (by rw [← HMM.out]; exact hkm)
        have c1 : wr.cell? ⟨g, i, none⟩ = some (.int .i64 (k : Int)) := HNR.out wr hq.out.2.2 i _ hk
        obtain ⟨gn, on, hna, hgn⟩ := HNSL.out i him
        subst hna
        obtain ⟨gn2, on2, e2, _, cb⟩ := HNS.out i him
        cases e2
        obtain ⟨gn3, on3, e3, _, cd⟩ := HNS.out k hkm
        cases e3
        have eb : ns.getD i 0 = (b : Int) := by rw [List.getD_eq_getElem?_getD, hb]; rfl
        have ed : ns.getD k 0 = (d : Int) := by rw [List.getD_eq_getElem?_getD, hd]; rfl
        rw [eb] at cb
        rw [ed] at cd
        have c2 : wr.cell? ⟨w2.heap.size, 0, none⟩ = some (.slice (some ⟨gn, on, none⟩) m nc) := HFAR.out wr hq.out.2.2 _ _ _ HK0.out l5 (by omega)
        have c3 : wr.cell? ⟨gn, on + i, none⟩ = some (.int .i64 (b : Int)) := HFAR.out wr hq.out.2.2 _ _ _ cb (by omega) (by omega)
        have c4 : wr.cell? ⟨gn, on + k, none⟩ = some (.int .i64 (d : Int)) := HFAR.out wr hq.out.2.2 _ _ _ cd (by omega) (by omega)
        have hkm' : (k : Int) < m := by omega
        have hbn2 : b < n := by rw [HNN.out]; exact hbn
        have hbn' : (b : Int) < n := by omega
        have hkne : ¬ (k : Int) = -1 := by omega
        have hkne' : ((k : Int) != -1) = true := by simp [hkne]
        obtain ⟨y, hy⟩ : ∃ y, T[b]? = some y := ⟨_, List.getElem?_eq_getElem (by rw [hq.out.1.len]; exact hbn2)⟩
        have c5 : wr.cell? ⟨tb, b, none⟩ = some (.int .i64 y) := by
          rw [hq.out.2.1.cellAt b (by omega)]
          exact map_get hy
        have f5 : wr.frozen? ⟨tb, b, none⟩ = false := hq.out.2.1.frozenAt b
        have HT1 : Hid (TI ns nr n (i + 1) (T.set b (d : Int))) := by
          have h9 := hq.out.1
          rw [HNN.out] at h9 ⊢
          exact h9.step HD.out hi0 hb hk hd hbn
        have HQ1 : Hid (∀ q, ((wr.drewN q).setCell ⟨tb, b, none⟩ (.int .i64 (d : Int))).ownsRow tb 3 1 (slV tb n) n ((T.set b (d : Int)).map intV) ∧ w6.grownBy ((wr.drewN q).setCell ⟨tb, b, none⟩ (.int .i64 (d : Int))) (some tb)) := fun q => by
          have h8 : (wr.drewN q).ownsRow tb 3 1 (slV tb n) n (T.map intV) := hq.out.2.1
          have h9 := (World.ownsRow.stored h8 b (.int .i64 (d : Int))).1
          refine ⟨?_, ?_⟩
          · rw [List.map_set]
            exact h9
          · have h7 : w6.grownBy (wr.drewN q) (some tb) := ⟨hq.out.2.2.os, hq.out.2.2.tape, hq.out.2.2.output, hq.out.2.2.size, hq.out.2.2.block⟩
            exact grown_set h7 _ _
        clear hq hy hk hb hd cb cd eb ed
        go_wp2
        refine wp_region_last 12 _ rfl rfl (by kernel_rfl) (by kernel_rfl) (by kernel_rfl) (by kernel_rfl) (by kernel_rfl) (by kernel_rfl) ?_
        simp only [List.take_succ_cons, List.take_zero]
        repeat (go_big_quiet_step (fail))
        refine wpQuiet_nil ?_
        intro _ hw'
        obtain ⟨nq3, hw''⟩ := hw'
        subst hw''
        intro K hK
        go_simp
        refine hK _ _ ?_
        clear hK K
        go_wp2
        go_roundw
        case rel => exact ⟨i + 1, T.set b (d : Int), by first | rfl | (congr 1; omega), by omega, HT1.out, (HQ1.out nq3).1, (HQ1.out nq3).2⟩
        case measure => simp [intOf]; omega
    · obtain rfl : i = m := by omega
      have HT : Hid (T = treeL nx) := by
        have h9 := hq.out.1
        have h8 := HN2.out
        rw [HNN.out, HMM.out] at h9
        rw [HMM.out] at h8
        exact h9.tree HMY.out HD.out h8
      go_wp2
      go_ret2
      refine ⟨⟨_, rfl, ?_⟩, ?_⟩
      · show World.ownsRow _ _ _ _ _ _ _
        rw [HTL.out, ← HNN.out, ← HT.out]
        exact own_mono hq.out.2.1 (by have := HW2.out; omega)
      · exact below_grown HB6.out hq.out.2.2 (fun q e => by cases e; have := HW2.out; omega)
theorem tree_ok {nx : List (List Int)} (hb1 : nx.length ≤ 2000000) (hb2 : ∀ r ∈ nx, r.length ≤ 2000000) : TreeOk nx := fun v w hN => by
  by_cases hm : May nx
  · exact (tree_yes nx v w hN hm hb1 hb2).mono fun e w' hh => ⟨fun _ => hh.1, fun h => absurd hm h, hh.2⟩
  · exact (tree_no nx v w hN hm).mono fun e w' hh => ⟨fun h => absurd h hm, fun _ => hh.1, hh.2⟩
end Go.Proofs.YtogjjmbcbnceoaaGreat
