/- The document's Trim. -/
import Derived.Test.YtobnpllppohofaaGreatDoorGRTuM
namespace Go.Proofs.YtobnpllppohofaaGreatDoor
open Go.RowKit

theorem b1_at {bs : List Bl} {i k : Nat} (h : (orderT (tms bs))[i]? = some (k : Int)) : (b1D bs)[i]? = some (ledB (orderT (tms bs)) (bs.getD k default)) := by
 unfold b1D
 rw [List.getElem?_map, h]
 rfl
theorem b1_mem {bs : List Bl} {b : Bl} (h : b ∈ b1D bs) : ∃ c ∈ bs, b.ins = c.ins := by
 unfold b1D at h
 obtain ⟨a, ha, rfl⟩ := List.mem_map.1 h
 obtain ⟨k, rfl, hk⟩ := (order_ok (tms bs)).nat a ha
 have hk' : k < bs.length := by simpa [tms] using hk
 exact ⟨_, getD_memB hk', rfl⟩
theorem trim_bds {bs : List Bl} (hn : bs.length ≤ 400) (h5 : ∀ b ∈ bs, OkB b) (hw : ∀ b ∈ bs, ∀ x ∈ b.ins, 0 ≤ x.bits ∧ x.bits < 18446744073709551616) :
  (∀ b ∈ trimBs bs, b.ins.length ≤ 1000000) ∧ (∀ b ∈ trimBs bs, ∀ x ∈ b.ins, x.args.length ≤ 1000000) ∧ (∀ b ∈ trimBs bs, ∀ x ∈ b.ins, 0 ≤ x.bits ∧ x.bits < 18446744073709551616) := by
 have hol := order_len (order_ok (tms bs))
 have htl : (tms bs).length = bs.length := by simp [tms]
 refine ⟨fun b hb => ?_, fun b hb x hx => ?_, fun b hb x hx => ?_⟩
 all_goals
  obtain ⟨i, a, _, _, _, hm, rfl⟩ := trim_at hb
  obtain ⟨q1, q2⟩ := h5 _ hm
 ·unfold trimB
  rw [List.length_map]; omega
 ·unfold trimB at hx
  obtain ⟨y, hy, rfl⟩ := List.mem_map.1 hx
  unfold trimI
  split
  ·exact Nat.le_trans kept_le (Nat.le_trans stay_le (by omega))
  ·exact Nat.le_trans (q2 y hy) (by omega)
 ·unfold trimB at hx
  obtain ⟨y, hy, rfl⟩ := List.mem_map.1 hx
  unfold trimI
  split
  ·exact hw _ hm y hy
  ·exact hw _ hm y hy
set_option maxRecDepth 100000 in
set_option maxHeartbeats 16000000 in
theorem rtrim_any (G : Gr) (pv vv av bv : Value) (w : World) (h : GrAt w pv vv av bv G) (hk : OkG G) :
  Calls Tryz.prog 27 #[.agg #[.string G.name, pv, .int .u8 G.result, vv, av, bv]] w fun e w' => ∃ pv' vv' av' bv', e = .returned (.agg #[.string G.name, pv', .int .u8 G.result, vv', av', bv']) ∧ GrAt w' pv' vv' av' bv' (trimG G) ∧ Below w.heap.size w w' := by
 obtain ⟨k1, k2, k3, k4, k5⟩ := hk
 have hw := bits_of h.bs
 have hol := order_len (order_ok (tms G.blocks))
 have htl : (tms G.blocks).length = G.blocks.length := by simp [tms]
 have hb1l : (b1D G.blocks).length = (orderT (tms G.blocks)).length := by unfold b1D; simp
 have HCG : Hid (∀ W, Below w.heap.size w W → _) := fun W hb => rcopy_any G pv vv av bv W (h.below hb) (by omega) (by omega) (by omega) (by omega) (fun b hb => Nat.le_trans (k5 b hb).1 (by omega)) (fun b hb x hx => Nat.le_trans ((k5 b hb).2 x hx) (by omega))
 have HGA : Hid (∀ w0 W B p v a b ivs avss, CG w0 W G B p v a b ivs avss → GrAt W p v a b G) := fun w0 W B p v a b ivs avss hc => hc.at' (by omega) (by omega) (by omega) (by omega) (fun b hb => Nat.le_trans (k5 b hb).1 (by omega)) (fun b hb x hx => Nat.le_trans ((k5 b hb).2 x hx) (by omega)) hw
 have HOR : Hid (∀ W p v a b, GrAt W p v a b G → Calls Tryz.prog 23 #[.agg #[.string G.name, p, .int .u8 G.result, v, a, b]] W fun e w' => ∃ v, e = .returned v ∧ OwnI w' W.heap.size v (orderT (tms G.blocks)) ∧ Below W.heap.size W w') := fun W p v a b hg => rorder_any G p v a b W hg (by omega)
 have HAH : Hid (∀ W p v a b, GrAt W p v a b G → Calls Tryz.prog 22 #[.agg #[.string G.name, p, .int .u8 G.result, v, a, b]] W fun e w' => ∃ kvs, e = .returned (.slice (some ⟨W.heap.size + 1, 0, none⟩) G.blocks.length G.blocks.length) ∧ RowsIn w' W.heap.size (W.heap.size + 1) G.blocks.length kvs (aheadT (tms G.blocks)) ∧ Below W.heap.size W w') := fun W p v a b hg => rahead_any G p v a b W hg (by omega)
 have HG1 : Hid (∀ w0 W B p v a b ivs avss, CG w0 W ⟨G.name, G.params, G.result, G.vars, G.arrs, b1D G.blocks⟩ B p v a b ivs avss → Calls Tryz.prog 22 #[.agg #[.string G.name, p, .int .u8 G.result, v, a, b]] W fun e w' => ∃ kvs, e = .returned (.slice (some ⟨W.heap.size + 1, 0, none⟩) (b1D G.blocks).length (b1D G.blocks).length) ∧ RowsIn w' W.heap.size (W.heap.size + 1) (b1D G.blocks).length kvs (aheadT (tms (b1D G.blocks))) ∧ Below W.heap.size W w') := fun w0 W B p v a b ivs avss hc => rahead_any ⟨G.name, G.params, G.result, G.vars, G.arrs, b1D G.blocks⟩ p v a b W (hc.at' (by dsimp only; omega) (by dsimp only; omega) (by dsimp only; omega) (by dsimp only; omega) (fun b hb => by obtain ⟨c, hc, e⟩ := b1_mem hb; rw [e]; exact Nat.le_trans (k5 c hc).1 (by omega)) (fun b hb x hx => by obtain ⟨c, hc, e⟩ := b1_mem hb; rw [e] at hx; exact Nat.le_trans ((k5 c hc).2 x hx) (by omega)) (fun b hb x hx => by obtain ⟨c, hc, e⟩ := b1_mem hb; rw [e] at hx; exact hw c hc x hx)) (by dsimp only; omega)
 have HFI : Hid (∀ w0 W B p v a b ivs avss, CG w0 W ⟨G.name, G.params, G.result, G.vars, G.arrs, trimD G.blocks⟩ B p v a b ivs avss → GrAt W p v a b (trimG G)) := fun w0 W B p v a b ivs avss hc => by
  obtain ⟨u1, u2, u3⟩ := trim_bds k1 k5 hw
  rw [trim_same] at hc
  exact hc.at' (by dsimp only; omega) (by dsimp only; omega) (by dsimp only; omega) (by dsimp only; rw [trim_len]; omega) u1 u2 u3
 have HNK : Hid (∀ i, i < (orderT (tms G.blocks)).length → ∃ k : Nat, (orderT (tms G.blocks)).getD i 0 = (k : Int) ∧ k < G.blocks.length ∧ ((orderT (tms G.blocks)).map Int.toNat)[i]? = some k ∧ (b1D G.blocks)[i]? = some (ledB (orderT (tms G.blocks)) (G.blocks.getD k default))) := fun i hi => by
  have e := getD_some hi
  obtain ⟨k, hk, hkl⟩ := (order_ok (tms G.blocks)).nat _ (List.mem_of_getElem? e)
  rw [hk] at e
  refine ⟨k, hk, by omega, ?_, b1_at e⟩
  rw [List.getElem?_map, e]; rfl
 have HND : Hid (((orderT (tms G.blocks)).map Int.toNat).Nodup ∧ ∀ k ∈ (orderT (tms G.blocks)).map Int.toNat, k < G.blocks.length) := by
  refine ⟨?_, fun k hk => ?_⟩
  ·rw [List.Nodup, List.pairwise_map]
   refine ((order_ok (tms G.blocks)).nodup).imp_of_mem fun {a b} ha hb hab e => hab ?_
   obtain ⟨x, rfl, _⟩ := (order_ok (tms G.blocks)).nat a ha
   obtain ⟨y, rfl, _⟩ := (order_ok (tms G.blocks)).nat b hb
   have e9 : x = y := by simpa using e
   rw [e9]
  ·obtain ⟨a, ha, rfl⟩ := List.mem_map.1 hk
   obtain ⟨x, rfl, hx⟩ := (order_ok (tms G.blocks)).nat a ha
   simp; omega
 have HNR : Hid (∀ i, i < (orderT (tms G.blocks)).length → ((aheadT (tms (b1D G.blocks))).getD i []).length ≤ 800 ∧ ∀ j, j < ((aheadT (tms (b1D G.blocks))).getD i []).length → ∃ y : Nat, ((aheadT (tms (b1D G.blocks))).getD i []).getD j 0 = (y : Int) ∧ y < (orderT (tms G.blocks)).length) := fun i hi => by
  have htb : (tms (b1D G.blocks)).length = (orderT (tms G.blocks)).length := by rw [← hb1l]; simp [tms]
  refine ⟨Nat.le_trans (ahead_len_le (by omega)) (by omega), fun j hj => ?_⟩
  obtain ⟨y, h1, h2, _⟩ := (mem_ahead (ts := tms (b1D G.blocks)) (j := i) (by omega)).1 (List.mem_of_getElem? (getD_some hj))
  exact ⟨y, h1, by omega⟩
 have HWR : Hid (∀ k, k < G.blocks.length → ((aheadT (tms G.blocks)).getD k []).length ≤ 800) := fun k hk => Nat.le_trans (ahead_len_le (by omega)) (by omega)
 have HF : Hid (∀ i, i < (orderT (tms G.blocks)).length → (trimD G.blocks)[i]? = some ⟨((b1D G.blocks).getD i default).ins.map (phiD (orderT (tms G.blocks)) ((aheadT (tms G.blocks)).getD ((orderT (tms G.blocks)).getD i 0).toNat []) ((aheadT (tms (b1D G.blocks))).getD i [])), ((b1D G.blocks).getD i default).tm⟩) := fun i hi => trimD_get hi
 have HFL : Hid ((trimD G.blocks).length = (b1D G.blocks).length) := by show _ = _; rw [trimD_len, hb1l]
 have HLB : Hid (∀ k, k < G.blocks.length → (G.blocks.getD k default).ins.length ≤ 2000) := fun k hk => (k5 _ (getD_memB hk)).1
 have HLA : Hid (∀ k, k < G.blocks.length → ∀ x ∈ (G.blocks.getD k default).ins, x.args.length ≤ 2000) := fun k hk x hx => (k5 _ (getD_memB hk)).2 x hx
 obtain ⟨pa, pc, va, vc, aa, ac, ba, bc, rfl, rfl, rfl, rfl, _, _, _, _⟩ := h.openF
 have hm4 : (orderT (tms G.blocks)).length ≤ 400 := by omega
 clear h hw hol htl k5
 obtain ⟨nm, ps, r, vs, ars, bs⟩ := G
 dsimp only at *
 have HB1L : Hid ((b1D bs).length = (orderT (tms bs)).length) := hb1l
 rw [hb1l] at HG1 HFL
 clear hb1l
 generalize b1D bs = b1 at *
 generalize trimD bs = F at *
 generalize aheadT (tms bs) = A at *
 generalize aheadT (tms b1) = NW at *
 generalize orderT (tms bs) = O at *
 generalize hp1 : ps.length = pl at *
 generalize hv1 : vs.length = vl at *
 generalize ha1 : ars.length = al at *
 generalize hn1 : bs.length = n at *
 generalize hm1 : O.length = m at *
 have HLN : Hid (ps.length = pl ∧ vs.length = vl ∧ ars.length = al ∧ bs.length = n ∧ O.length = m) := ⟨hp1, hv1, ha1, hn1, hm1⟩
 clear hp1 hv1 ha1 hn1 hm1
 have H1 : Hid (BG w ((w.alloc (.cells #[.string nm, .slice pa pl pc, .int .u8 r, .slice va vl vc, .slice aa al ac, .slice ba n bc] 28)).alloc (.cells #[.string ⟨#[]⟩, .slice none 0 0, .int .u8 0, .slice none 0 0, .slice none 0 0, .slice none 0 0] 28)) [.string nm, .slice pa pl pc, .int .u8 r, .slice va vl vc, .slice aa al ac, .slice ba n bc]) := BG.new w [.string nm, .slice pa pl pc, .int .u8 r, .slice va vl vc, .slice aa al ac, .slice ba n bc]
 obtain ⟨w1, hw1⟩ : ∃ w1, w1 = ((w.alloc (.cells #[.string nm, .slice pa pl pc, .int .u8 r, .slice va vl vc, .slice aa al ac, .slice ba n bc] 28)).alloc (.cells #[.string ⟨#[]⟩, .slice none 0 0, .int .u8 0, .slice none 0 0, .slice none 0 0, .slice none 0 0] 28)) := ⟨_, rfl⟩
 have HW1 : Hid _ := hw1
 rw [← hw1] at H1
 clear hw1
 obtain ⟨e0, e1, e2, e3, e4, e5⟩ := box6 (HW1.out ▸ H1.out.box)
 go_enter Tryz.func27, Tryz.ntmps27
 go_wp2_with (first
  | (go_at_call 54; go_loud (refine Calls.mono (by rw [← HW1.out]; exact HCG.out _ H1.out.low) ?_; rintro e w2 ⟨p2, v2, a2, b2, B, ivs, avss, rfl, hc, hb, hB2⟩; obtain ⟨ya, yc, rfl⟩ : ∃ ya yc, p2 = .slice ya pl yc := (by have h9 := hc.ps; dsimp only at h9; rw [HLN.out.1] at h9; obtain ⟨ya, yc, hv, _⟩ := own_blk (Nat.le_refl _) h9; exact ⟨ya, yc, hv⟩); obtain ⟨yb, yd, rfl⟩ : ∃ ya yc, v2 = .slice ya vl yc := (by have h9 := hc.vs; dsimp only at h9; rw [HLN.out.2.1] at h9; obtain ⟨ya, yc, hv, _⟩ := own_blk (Nat.le_refl _) h9; exact ⟨ya, yc, hv⟩); obtain ⟨ye, yf, rfl⟩ : ∃ ya yc, a2 = .slice ya al yc := (by have h9 := hc.ars; dsimp only at h9; rw [HLN.out.2.2.1] at h9; obtain ⟨ya, yc, hv, _⟩ := own_blk (Nat.le_refl _) h9; exact ⟨ya, yc, hv⟩); obtain ⟨yg, yh, rfl, gB, hgB, hzB⟩ : ∃ ya yc, b2 = .slice ya n yc ∧ ∃ g, B ≤ g ∧ (n = 0 ∨ (ya = some ⟨g, 0, none⟩ ∧ n ≤ yc)) := (by have h9 := hc.bs.row; dsimp only at h9; rw [HLN.out.2.2.2.1] at h9; obtain ⟨ya, yc, hv, hh⟩ := own_blk (Nat.le_refl _) h9; exact ⟨ya, yc, hv, hh⟩); have k2 := H1.out.below hb; obtain ⟨f0, f1, f2, f3, f4, f5⟩ := box6 k2.box; have ff := k2.box.fz; have hlt2 := k2.box.lt; have HZB : Hid _ := hzB; have HKX : Hid (BG w ((((((w2.setCell ⟨w.heap.size, 0, none⟩ (.string nm)).setCell ⟨w.heap.size, 1, none⟩ (.slice ya pl yc)).setCell ⟨w.heap.size, 2, none⟩ (.int .u8 r)).setCell ⟨w.heap.size, 3, none⟩ (.slice yb vl yd)).setCell ⟨w.heap.size, 4, none⟩ (.slice ye al yf)).setCell ⟨w.heap.size, 5, none⟩ (.slice yg n yh)) [.string nm, .slice ya pl yc, .int .u8 r, .slice yb vl yd, .slice ye al yf, .slice yg n yh]) := k2.six _ _ _ _ _ _; have HLO : Hid (w.heap.size + 2 ≤ w1.heap.size) := H1.out.sz; have HCX : Hid (CG w1 ((((((w2.setCell ⟨w.heap.size, 0, none⟩ (.string nm)).setCell ⟨w.heap.size, 1, none⟩ (.slice ya pl yc)).setCell ⟨w.heap.size, 2, none⟩ (.int .u8 r)).setCell ⟨w.heap.size, 3, none⟩ (.slice yb vl yd)).setCell ⟨w.heap.size, 4, none⟩ (.slice ye al yf)).setCell ⟨w.heap.size, 5, none⟩ (.slice yg n yh)) ⟨nm, ps, r, vs, ars, bs⟩ B (.slice ya pl yc) (.slice yb vl yd) (.slice ye al yf) (.slice yg n yh) ivs avss) := hc.same (w2 := ((((((w2.setCell ⟨w.heap.size, 0, none⟩ (.string nm)).setCell ⟨w.heap.size, 1, none⟩ (.slice ya pl yc)).setCell ⟨w.heap.size, 2, none⟩ (.int .u8 r)).setCell ⟨w.heap.size, 3, none⟩ (.slice yb vl yd)).setCell ⟨w.heap.size, 4, none⟩ (.slice ye al yf)).setCell ⟨w.heap.size, 5, none⟩ (.slice yg n yh))) (fun g hg => six_keep w2 w.heap.size _ _ _ _ _ _ (by have := HLO.out; omega)); have HSX2 : Hid (((((((w2.setCell ⟨w.heap.size, 0, none⟩ (.string nm)).setCell ⟨w.heap.size, 1, none⟩ (.slice ya pl yc)).setCell ⟨w.heap.size, 2, none⟩ (.int .u8 r)).setCell ⟨w.heap.size, 3, none⟩ (.slice yb vl yd)).setCell ⟨w.heap.size, 4, none⟩ (.slice ye al yf)).setCell ⟨w.heap.size, 5, none⟩ (.slice yg n yh)).heap.size = w2.heap.size) := six_size w2 w.heap.size _ _ _ _ _ _; have HIV : Hid (∀ (i : Nat) (iv : Value) (g : Nat), ivs[i]? = some iv → iv.ownBlock = some g → g < w2.heap.size) := (fun i iv g hi hg => (hc.bs.iv_kb hi (List.getElem?_eq_getElem (by rw [hc.bs.vl, ← hc.bs.al]; exact (List.getElem?_eq_some_iff.1 hi).1)) (.inl hg)).2); have HB2 : Hid (B ≤ w2.heap.size) := hB2; obtain ⟨g0, g1, g2, g3, g4, g5⟩ := box6 HKX.out.box; obtain ⟨W2, hW2⟩ : ∃ W2, W2 = ((((((w2.setCell ⟨w.heap.size, 0, none⟩ (.string nm)).setCell ⟨w.heap.size, 1, none⟩ (.slice ya pl yc)).setCell ⟨w.heap.size, 2, none⟩ (.int .u8 r)).setCell ⟨w.heap.size, 3, none⟩ (.slice yb vl yd)).setCell ⟨w.heap.size, 4, none⟩ (.slice ye al yf)).setCell ⟨w.heap.size, 5, none⟩ (.slice yg n yh)) := ⟨_, rfl⟩; have HW2 : Hid _ := hW2; rw [← hW2] at HKX HCX HSX2; clear hc hb k2 hzB hW2 hB2 HCG H1))
  | (go_at_call 23; go_loud (refine Calls.mono (by rw [← HW2.out]; exact HOR.out _ _ _ _ _ (HGA.out _ _ _ _ _ _ _ _ _ HCX.out)) ?_; rintro e w3 ⟨ov, rfl, ho3, hb3⟩; obtain ⟨oa, oc, rfl, go, hgo, hzo⟩ : ∃ ya yc, ov = .slice ya m yc ∧ ∃ g, W2.heap.size ≤ g ∧ (m = 0 ∨ (ya = some ⟨g, 0, none⟩ ∧ m ≤ yc)) := (by have h9 := ho3; unfold OwnI at h9; rw [HLN.out.2.2.2.2] at h9; obtain ⟨ya, yc, hv, hh⟩ := own_blk (Nat.le_refl _) h9; exact ⟨ya, yc, hv, hh⟩); have HO3 : Hid (OwnI w3 W2.heap.size (.slice oa m oc) O) := ho3; have HB3 : Hid (Below W2.heap.size W2 w3) := hb3; have HZO : Hid _ := hzo; have HK3 : Hid (BG w w3 [.string nm, .slice ya pl yc, .int .u8 r, .slice yb vl yd, .slice ye al yf, .slice yg n yh]) := HKX.out.below hb3; have HC3 : Hid (CG w1 w3 ⟨nm, ps, r, vs, ars, bs⟩ B (.slice ya pl yc) (.slice yb vl yd) (.slice ye al yf) (.slice yg n yh) ivs avss) := HCX.out.below hb3; clear ho3 hb3 hzo f0 f1 f2 f3 f4 f5 ff g0 g1 g2 g3 g4 g5 HKX HCX HOR; obtain ⟨f0, f1, f2, f3, f4, f5⟩ := box6 HK3.out.box))
  | (go_at_call 22; go_loud (refine Calls.mono (by exact HAH.out _ _ _ _ _ (HGA.out _ _ _ _ _ _ _ _ _ HC3.out)) ?_; rintro e w4 ⟨kvs, rfl, hra, hb4⟩; have HRA : Hid (RowsIn w4 w3.heap.size (w3.heap.size + 1) n kvs A) := hra; have HB4 : Hid (Below w3.heap.size w3 w4) := hb4; have HK4 : Hid (BG w w4 [.string nm, .slice ya pl yc, .int .u8 r, .slice yb vl yd, .slice ye al yf, .slice yg n yh]) := HK3.out.below hb4; have HC4 : Hid (CG w1 w4 ⟨nm, ps, r, vs, ars, bs⟩ B (.slice ya pl yc) (.slice yb vl yd) (.slice ye al yf) (.slice yg n yh) ivs avss) := HC3.out.below hb4; have HO4 : Hid (OwnI w4 W2.heap.size (.slice oa m oc) O) := owns_below HO3.out hb4; clear hra hb4 f0 f1 f2 f3 f4 f5 HK3 HC3 HO3 HAH HGA)))

 have HS23 : Hid (W2.heap.size ≤ w3.heap.size ∧ w3.heap.size ≤ w4.heap.size) := ⟨HB3.out.size, HB4.out.size⟩
 obtain ⟨gA, hgA⟩ : ∃ gA, gA = w3.heap.size + 1 := ⟨_, rfl⟩
 rw [← hgA] at HRA
 rw [← hgA]
 obtain ⟨s3, hs3⟩ : ∃ s3, s3 = w3.heap.size := ⟨_, rfl⟩
 rw [← hs3] at HRA HS23
 clear hgA hs3 HB3 HB4 w3
 have HIV1 : Hid (∀ i, i < m → ((O.map Int.toNat).map fun k => ivs.getD k default).take (i + 1) = ((O.map Int.toNat).map fun k => ivs.getD k default).take i ++ [((O.map Int.toNat).map fun k => ivs.getD k default).getD i default]) := fun i hi => by
  have hl : i < ((O.map Int.toNat).map fun k => ivs.getD k default).length := by simp; rw [HLN.out.2.2.2.2]; exact hi
  rw [List.take_add_one, List.getElem?_eq_getElem hl, List.getD, List.getElem?_eq_getElem hl]; rfl
 have HIVG : Hid (∀ i k, (O.map Int.toNat)[i]? = some k → ((O.map Int.toNat).map fun k => ivs.getD k default).getD i default = ivs.getD k default) := fun i k h => by
  rw [List.getD_eq_getElem?_getD, List.getElem?_map, h]; rfl
 have HBT : Hid (∀ i x, b1[i]? = some x → b1.take (i + 1) = b1.take i ++ [x]) := fun i x h => by
  rw [List.take_add_one, h]; rfl
 have HTL : Hid (∀ i, i ≤ m → (b1.take i).length = i ∧ (((O.map Int.toNat).map fun k => ivs.getD k default).take i).length = i) := fun i hi => by
  refine ⟨by rw [List.length_take, HB1L.out]; omega, by rw [List.length_take]; simp; rw [HLN.out.2.2.2.2]; omega⟩
 have HIVF : Hid (((O.map Int.toNat).map fun k => ivs.getD k default).length = m) := by show _ = _; simp; exact HLN.out.2.2.2.2
 obtain ⟨iv1, hiv1⟩ : ∃ iv1, iv1 = (O.map Int.toNat).map fun k => ivs.getD k default := ⟨_, rfl⟩
 have HI1 : Hid _ := hiv1
 rw [← hiv1] at HIV1 HIVG HTL HIVF
 clear hiv1
 have HPL : Hid (∀ W x, Below w4.heap.size w4 W → Calls Tryz.prog 55 #[.slice oa m oc, .int .i64 x] W fun e w' => e = .returned (.int .i64 (placeOf O x)) ∧ w' = W) := fun W x hb => rplace_is O x _ W (OwnI.at' (owns_below HO4.out hb) (by rw [HLN.out.2.2.2.2]; omega))
 obtain ⟨i0, hi0, hz0, hz1, hz2⟩ := info_parts infoBl
 go_loopw [5, 6] (fun vb vi wr => ∃ (i : Nat) (xa : Option Addr) (xc : Nat), vi = .int .i64 i ∧ vb = .slice xa i xc ∧ i ≤ m ∧ Hid (Below w4.heap.size w4 wr ∧ wr.ownsRow w4.heap.size 49 6 (.slice xa i xc) i (blsCells (b1.take i) (iv1.take i)))) (fun _ vi _ => m - (intOf vi).toNat)
 case atStart => exact ⟨0, none, 0, rfl, rfl, by omega, Below.refl _ _, World.ownsRow_nil _ _ _ _⟩
 case round =>
  obtain ⟨i, xa, xc, rfl, rfl, hi, hr⟩ := hrel
  generalize wr = wo at *
  have HRR : Hid _ := hr.out
  have HBO : Hid (BG w wo [.string nm, .slice ya pl yc, .int .u8 r, .slice yb vl yd, .slice ye al yf, .slice yg n yh]) := HK4.out.below HRR.out.1
  clear hr
  by_cases hin : i < m
  ·obtain ⟨k, hok, hkn, hkO, hkb⟩ := HNK.out i hin
   obtain ⟨rfl, hoc⟩ := HZO.out.resolve_left (by omega)
   obtain ⟨rfl, hyh⟩ := HZB.out.resolve_left (by omega)
   have hin' : (i : Int) < m := by omega
   have hkn' : (k : Int) < n := by omega
   have co : ∀ W, Below wo.heap.size wo W → W.cell? ⟨go, i, none⟩ = some (.int .i64 (k : Int)) := fun W hb => by
    have h9 := own_at (owns_below (owns_below HO4.out HRR.out.1) hb) HLN.out.2.2.2.2.symm (j := i) (by rw [HLN.out.2.2.2.2]; exact hin)
    rw [hok] at h9
    exact h9
   have hCB := (HC4.out.below HRR.out.1).bs
   dsimp only at hCB
   have hbk : bs[k]? = some (bs.getD k default) := getD_somL (by rw [HLN.out.2.2.2.1]; exact hkn)
   have hki : k < ivs.length := by rw [hCB.al, HLN.out.2.2.2.1]; exact hkn
   have hka : k < avss.length := by rw [hCB.vl, HLN.out.2.2.2.1]; exact hkn
   have hivk : ivs[k]? = some (ivs.getD k default) := by rw [List.getD_eq_getElem?_getD, List.getElem?_eq_getElem hki]; rfl
   obtain ⟨ia, ic, hia⟩ : ∃ ia ic, ivs.getD k default = .slice ia (bs.getD k default).ins.length ic := by
    obtain ⟨ya, yc, e, _⟩ := own_blk (Nat.le_refl _) (hCB.kid k _ _ _ hbk hivk (List.getElem?_eq_getElem hka)).row
    exact ⟨ya, yc, e⟩
   have hrow := hCB.row
   rw [HLN.out.2.2.2.1] at hrow
   rw [hia] at hivk
   have hcq := fun q u (hu : (blCells (bs.getD k default) (.slice ia (bs.getD k default).ins.length ic))[q]? = some u) => (hrow.cellAt (k * 6 + q) (by have := (List.getElem?_eq_some_iff.1 hu).1; simp [blCells] at this; omega)).trans (blsCells_get hbk hivk q u hu)
   have c0 := hcq 0 _ rfl
   have c1 := hcq 1 _ rfl
   have c2 := hcq 2 _ rfl
   have c3 := hcq 3 _ rfl
   have c4 := hcq 4 _ rfl
   have c5 := hcq 5 _ rfl
   rw [Nat.add_zero] at c0
   have hgBl : gB < wo.heap.size := (hrow.lt gB rfl).2
   have HVI : Hid (iv1.take (i + 1) = iv1.take i ++ [.slice ia (bs.getD k default).ins.length ic]) := by show _ = _; rw [HIV1.out i hin, HIVG.out i k hkO, hia]
   have HBI : Hid (b1.take (i + 1) = b1.take i ++ [ledB O (bs.getD k default)]) := HBT.out i _ hkb
   have hTL := HTL.out i hi
   have HTI : Hid _ := hTL
   clear hCB hrow hcq hbk hivk hia hki hka hTL HF HNR HWR HG1 HFI HLA HLB HND HIVG HIV1 HBT HTL
   generalize bs.getD k default = X at *
   obtain ⟨L, tk, ta, t0, t1, tt⟩ := X
   dsimp only at *
   generalize hil : L.length = il at *
   have HSX : Hid (∀ W, Below wo.heap.size wo W → W.cell? ⟨w.heap.size, 5, none⟩ = some (.slice (some ⟨gB, 0, none⟩) n yh) ∧ W.cell? ⟨go, i, none⟩ = some (.int .i64 (k : Int)) ∧ W.cell? ⟨gB, k * 6, none⟩ = some (.slice ia il ic) ∧ W.cell? ⟨gB, k * 6 + 1, none⟩ = some (.int .u8 tk) ∧ W.cell? ⟨gB, k * 6 + 2, none⟩ = some (.int .i64 ta) ∧ W.cell? ⟨gB, k * 6 + 3, none⟩ = some (.int .i64 t0) ∧ W.cell? ⟨gB, k * 6 + 4, none⟩ = some (.int .i64 t1) ∧ W.cell? ⟨gB, k * 6 + 5, none⟩ = some (.int .u8 tt)) := fun W hb => by
    have hc : ∀ j, W.cell? ⟨gB, j, none⟩ = wo.cell? ⟨gB, j, none⟩ := fun j => hb.cell (p := ⟨gB, j, none⟩) hgBl
    exact ⟨(box6 (HBO.out.below hb).box).2.2.2.2.2, co W hb, (hc _).trans c0, (hc _).trans c1, (hc _).trans c2, (hc _).trans c3, (hc _).trans c4, (hc _).trans c5⟩
   clear c0 c1 c2 c3 c4 c5 co hil
   go_wp2
   refine wp_region_late (fun W => W.cell? ⟨w.heap.size, 5, none⟩ = some (.slice (some ⟨gB, 0, none⟩) n yh) ∧ W.cell? ⟨go, i, none⟩ = some (.int .i64 (k : Int)) ∧ W.cell? ⟨gB, k * 6, none⟩ = some (.slice ia il ic) ∧ W.cell? ⟨gB, k * 6 + 1, none⟩ = some (.int .u8 tk) ∧ W.cell? ⟨gB, k * 6 + 2, none⟩ = some (.int .i64 ta) ∧ W.cell? ⟨gB, k * 6 + 3, none⟩ = some (.int .i64 t0) ∧ W.cell? ⟨gB, k * 6 + 4, none⟩ = some (.int .i64 t1) ∧ W.cell? ⟨gB, k * 6 + 5, none⟩ = some (.int .u8 tt)) (fun _ => false) (by kernel_rfl) (HSX.out _ (below_drew (Below.refl _ _))) (fun hHeld => ?_)
   refine wpAnyL_take 0 (v := ?_) rfl (by kernel_rfl) (by kernel_rfl) (by kernel_rfl) (by kernel_rfl) (fun _ _ _ h => h) hHeld (Or.inl ⟨by rfl, ?_⟩) ?_
   rotate_left 1
   ·(intro w hSw; (try dsimp only at hSw); (try obtain ⟨s0, s1, s2, s3, s4, s5, s6, s7⟩ := hSw); first | (go_simp; done) | (go_simp; with_reducible rfl))
   simp only [Act.put, List.setIfInBounds_toArray]
   refine wpAnyL_take 1 (v := ?_) rfl (by kernel_rfl) (by kernel_rfl) (by kernel_rfl) (by kernel_rfl) (fun _ _ _ h => h) hHeld (Or.inl ⟨by rfl, ?_⟩) ?_
   rotate_left 1
   ·(intro w hSw; (try dsimp only at hSw); (try obtain ⟨s0, s1, s2, s3, s4, s5, s6, s7⟩ := hSw); first | (go_simp; done) | (go_simp; with_reducible rfl))
   simp only [Act.put]
   refine wpAnyL_take 2 (v := ?_) rfl (by kernel_rfl) (by kernel_rfl) (by kernel_rfl) (by kernel_rfl) (fun _ _ _ h => h) hHeld (Or.inl ⟨by rfl, ?_⟩) ?_
   rotate_left 1
   ·(intro w hSw; (try dsimp only at hSw); (try obtain ⟨s0, s1, s2, s3, s4, s5, s6, s7⟩ := hSw); first | (go_simp; done) | (go_simp; with_reducible rfl))
   simp only [Act.put]
   refine wpAnyL_take 3 (v := ?_) rfl (by kernel_rfl) (by kernel_rfl) (by kernel_rfl) (by kernel_rfl) (fun _ _ _ h => h) hHeld (Or.inl ⟨by rfl, ?_⟩) ?_
   rotate_left 1
   ·(intro w hSw; (try dsimp only at hSw); (try obtain ⟨s0, s1, s2, s3, s4, s5, s6, s7⟩ := hSw); first | (go_simp; done) | (go_simp; with_reducible rfl))
   simp only [Act.put]
   refine wpAnyL_take 4 (v := ?_) rfl (by kernel_rfl) (by kernel_rfl) (by kernel_rfl) (by kernel_rfl) (fun _ _ _ h => h) hHeld (Or.inl ⟨by rfl, ?_⟩) ?_
   rotate_left 1
   ·(intro w hSw; (try dsimp only at hSw); (try obtain ⟨s0, s1, s2, s3, s4, s5, s6, s7⟩ := hSw); first | (go_simp; done) | (go_simp; with_reducible rfl))
   simp only [Act.put]
   refine wpAnyL_take 5 (v := ?_) rfl (by kernel_rfl) (by kernel_rfl) (by kernel_rfl) (by kernel_rfl) (fun _ _ _ h => h) hHeld (Or.inl ⟨by rfl, ?_⟩) ?_
   rotate_left 1
   ·(intro w hSw; (try dsimp only at hSw); (try obtain ⟨s0, s1, s2, s3, s4, s5, s6, s7⟩ := hSw); first | (go_simp; done) | (go_simp; with_reducible rfl))
   simp only [Act.put]
   refine wpAnyL_take 6 (v := ?_) rfl (by kernel_rfl) (by kernel_rfl) (by kernel_rfl) (by kernel_rfl) (fun _ _ _ h => h) hHeld (Or.inl ⟨by rfl, ?_⟩) ?_
   rotate_left 1
   ·(intro w hSw; (try dsimp only at hSw); (try obtain ⟨s0, s1, s2, s3, s4, s5, s6, s7⟩ := hSw); first | (go_simp; done) | (go_simp; with_reducible rfl))
   simp only [Act.put]
   refine wpAnyL_take 7 (v := ?_) rfl (by kernel_rfl) (by kernel_rfl) (by kernel_rfl) (by kernel_rfl) (fun _ _ _ h => h) hHeld (Or.inl ⟨by rfl, ?_⟩) ?_
   rotate_left 1
   ·(intro w hSw; (try dsimp only at hSw); (try obtain ⟨s0, s1, s2, s3, s4, s5, s6, s7⟩ := hSw); first | (go_simp; done) | (go_simp; with_reducible rfl))
   simp only [Act.put]
   refine wpAnyL_one 8 (by kernel_rfl) rfl (fun K hK0 => ?_)
   have hK : Shut _ := hK0
   clear hK0
   go_simp
   have hHeld := HSX.out _ (below_alloc (below_drew (Below.refl _ _)) (.cells #[.slice none 0 0, .int .u8 0, .int .i64 0, .int .i64 0, .int .i64 0, .int .u8 0] 49))
   refine hK.out _ _ (fun _ => hHeld) ?_
   clear hK K hHeld
   have HX0 : Hid (Box (wo.drew.alloc (.cells #[.slice none 0 0, .int .u8 0, .int .i64 0, .int .i64 0, .int .i64 0, .int .u8 0] 49)) wo.heap.size [.slice none 0 0, .int .u8 0, .int .i64 0, .int .i64 0, .int .i64 0, .int .u8 0]) := Box.new wo.drew [.slice none 0 0, .int .u8 0, .int .i64 0, .int .i64 0, .int .i64 0, .int .u8 0] 49
   obtain ⟨z0, z1, z2, z3, z4, z5⟩ := box6 HX0.out
   have zf := HX0.out.fz
   have zlt := HX0.out.lt
   refine wpAnyL_one 9 (by kernel_rfl) rfl (fun K hK0 => ?_)
   have hK : Shut _ := hK0
   clear hK0
   go_simp
   have HX8 : Hid (Box ((wo.alloc (.cells #[.slice ia il ic, .int .u8 tk, .int .i64 ta, .int .i64 t0, .int .i64 t1, .int .u8 tt] 49)).drew) wo.heap.size [.slice ia il ic, .int .u8 tk, .int .i64 ta, .int .i64 t0, .int .i64 t1, .int .u8 tt]) := (Box.new wo [.slice ia il ic, .int .u8 tk, .int .i64 ta, .int .i64 t0, .int .i64 t1, .int .u8 tt] 49).below (below_drew (Below.refl _ _))
   have HB8 : Hid (Below wo.heap.size wo ((wo.alloc (.cells #[.slice ia il ic, .int .u8 tk, .int .i64 ta, .int .i64 t0, .int .i64 t1, .int .u8 tt] 49)).drew)) := below_drew (below_alloc (Below.refl _ _) _)
   refine hK.out _ _ (fun _ => HSX.out _ HB8.out) ?_
   clear hK K
   refine ⟨by kernel_rfl, ?_⟩
   clear z0 z1 z2 z3 z4 z5 zf zlt HX0
   generalize ((wo.alloc (.cells #[.slice ia il ic, .int .u8 tk, .int .i64 ta, .int .i64 t0, .int .i64 t1, .int .u8 tt] 49)).drew) = W8 at *
   go_simp
   go_wp2
   have HLD : Hid (ledB O ⟨L, tk, ta, t0, t1, tt⟩ = ⟨L, tk, ta, (ledD O ⟨tk, ta, t0, t1, tt⟩).t0, (ledD O ⟨tk, ta, t0, t1, tt⟩).t1, tt⟩) := rfl
   have HL0 : Hid ((ledD O ⟨tk, ta, t0, t1, tt⟩).t0 = if 0 ≤ placeOf O t0 ∧ (tk = 2 ∨ tk = 1) then placeOf O t0 else t0) := rfl
   have HL1 : Hid ((ledD O ⟨tk, ta, t0, t1, tt⟩).t1 = if 0 ≤ placeOf O t1 ∧ tk = 2 then placeOf O t1 else t1) := rfl
   rw [HLD.out] at HBI
   clear HLD
   generalize (ledD O ⟨tk, ta, t0, t1, tt⟩).t0 = T0 at *
   generalize (ledD O ⟨tk, ta, t0, t1, tt⟩).t1 = T1 at *
   have HP0 : Hid (∀ W, Below wo.heap.size wo W → _) := fun W hb => HPL.out W t0 (below_trans HRR.out.1 hb)
   have HP1 : Hid (∀ W, Below wo.heap.size wo W → _) := fun W hb => HPL.out W t1 (below_trans HRR.out.1 hb)
   generalize placeOf O t0 = p0 at *
   generalize placeOf O t1 = p1 at *
   go_loopw [8] (fun vk wr => ∃ (q : Nat) (u0 u1 : Int), vk = .int .i64 q ∧ q ≤ 2 ∧ Hid (u0 = (if 1 ≤ q then T0 else t0) ∧ u1 = (if 2 ≤ q then T1 else t1)) ∧ Hid (Below wo.heap.size wo wr ∧ Box wr wo.heap.size [.slice ia il ic, .int .u8 tk, .int .i64 ta, .int .i64 u0, .int .i64 u1, .int .u8 tt])) (fun vk _ => 2 - (intOf vk).toNat)
   case atStart => exact ⟨0, t0, t1, rfl, by omega, ⟨rfl, rfl⟩, HB8.out, HX8.out⟩
   case round =>
    obtain ⟨q, u0, u1, rfl, hq2, hu, hr⟩ := hrel
    clear HX8 HB8
    generalize wr = wi at *
    have HRI : Hid _ := hr.out
    clear hr
    obtain ⟨n0, n1, n2, n3, n4, n5⟩ := box6 HRI.out.2
    have nf := HRI.out.2.fz
    have nlt := HRI.out.2.lt
    obtain rfl | rfl | rfl : q = 0 ∨ q = 1 ∨ q = 2 := by omega
    ·obtain ⟨rfl, rfl⟩ : u0 = t0 ∧ u1 = t1 := hu.out
     have HU0 : Hid (∀ z : Int, T0 = z → z = (if 1 ≤ 1 then T0 else u0) ∧ u1 = (if 2 ≤ 1 then T1 else u1)) := fun z h => ⟨h.symm, rfl⟩
     have HNS : Hid (Below wo.heap.size wo (wi.setCell ⟨wo.heap.size, 3, none⟩ (.int .i64 p0)) ∧ Box (wi.setCell ⟨wo.heap.size, 3, none⟩ (.int .i64 p0)) wo.heap.size [.slice ia il ic, .int .u8 tk, .int .i64 ta, .int .i64 p0, .int .i64 u1, .int .u8 tt]) := ⟨HRI.out.1.setCell (p := ⟨wo.heap.size, 3, none⟩) (Nat.le_refl _) _, HRI.out.2.set (j := 3) (by simp) _⟩
     by_cases h0 : 0 ≤ p0
     ·by_cases h2 : tk = 2
      ·have HT : Hid (T0 = p0) := by show _ = _; rw [HL0.out, if_pos ⟨h0, .inl h2⟩]
       subst h2
       go_wp2_with (go_at_call 55; refine Calls.mono (by exact HP0.out _ HRI.out.1) ?_; rintro e wx ⟨rfl, hwx⟩; subst wx)
       go_roundw
       case rel => exact ⟨1, p0, u1, by first | rfl | (congr 1; omega), by omega, HU0.out _ HT.out, HNS.out⟩
       case measure => simp [intOf]
      ·have f2 : (tk == 2) = false := beq_false_of_ne h2
       by_cases h1 : tk = 1
       ·have HT : Hid (T0 = p0) := by show _ = _; rw [HL0.out, if_pos ⟨h0, .inr h1⟩]
        subst h1
        clear f2 h2
        go_wp2_with (go_at_call 55; refine Calls.mono (by exact HP0.out _ HRI.out.1) ?_; rintro e wx ⟨rfl, hwx⟩; subst wx)
        go_roundw
        case rel => exact ⟨1, p0, u1, by first | rfl | (congr 1; omega), by omega, HU0.out _ HT.out, HNS.out⟩
        case measure => simp [intOf]
       ·have f1 : (tk == 1) = false := beq_false_of_ne h1
        have HT : Hid (T0 = u0) := by show _ = _; rw [HL0.out, if_neg (by omega)]
        go_wp2_with (go_at_call 55; refine Calls.mono (by exact HP0.out _ HRI.out.1) ?_; rintro e wx ⟨rfl, hwx⟩; subst wx)
        go_roundw
        case rel => exact ⟨1, u0, u1, by first | rfl | (congr 1; omega), by omega, HU0.out _ HT.out, HRI.out⟩
        case measure => simp [intOf]
     ·have HT : Hid (T0 = u0) := by show _ = _; rw [HL0.out, if_neg (by omega)]
      go_wp2_with (go_at_call 55; refine Calls.mono (by exact HP0.out _ HRI.out.1) ?_; rintro e wx ⟨rfl, hwx⟩; subst wx)
      go_roundw
      case rel => exact ⟨1, u0, u1, by first | rfl | (congr 1; omega), by omega, HU0.out _ HT.out, HRI.out⟩
      case measure => simp [intOf]
    ·obtain ⟨rfl, rfl⟩ : u0 = T0 ∧ u1 = t1 := hu.out
     have HU1 : Hid (∀ z : Int, T1 = z → u0 = (if 1 ≤ 2 then u0 else t0) ∧ z = (if 2 ≤ 2 then T1 else u1)) := fun z h => ⟨rfl, h.symm⟩
     have HNS : Hid (Below wo.heap.size wo (wi.setCell ⟨wo.heap.size, 4, none⟩ (.int .i64 p1)) ∧ Box (wi.setCell ⟨wo.heap.size, 4, none⟩ (.int .i64 p1)) wo.heap.size [.slice ia il ic, .int .u8 tk, .int .i64 ta, .int .i64 u0, .int .i64 p1, .int .u8 tt]) := ⟨HRI.out.1.setCell (p := ⟨wo.heap.size, 4, none⟩) (Nat.le_refl _) _, HRI.out.2.set (j := 4) (by simp) _⟩
     by_cases h0 : 0 ≤ p1
     ·by_cases h2 : tk = 2
      ·have HT : Hid (T1 = p1) := by show _ = _; rw [HL1.out, if_pos ⟨h0, h2⟩]
       subst h2
       go_wp2_with (go_at_call 55; refine Calls.mono (by exact HP1.out _ HRI.out.1) ?_; rintro e wx ⟨rfl, hwx⟩; subst wx)
       go_roundw
       case rel => exact ⟨2, u0, p1, by first | rfl | (congr 1; omega), by omega, HU1.out _ HT.out, HNS.out⟩
       case measure => simp [intOf]
      ·have f2 : (tk == 2) = false := beq_false_of_ne h2
       have HT : Hid (T1 = u1) := by show _ = _; rw [HL1.out, if_neg (by omega)]
       by_cases h1 : tk = 1
       ·subst h1
        clear f2 h2
        go_wp2_with (go_at_call 55; refine Calls.mono (by exact HP1.out _ HRI.out.1) ?_; rintro e wx ⟨rfl, hwx⟩; subst wx)
        go_roundw
        case rel => exact ⟨2, u0, u1, by first | rfl | (congr 1; omega), by omega, HU1.out _ HT.out, HRI.out⟩
        case measure => simp [intOf]
       ·have f1 : (tk == 1) = false := beq_false_of_ne h1
        go_wp2_with (go_at_call 55; refine Calls.mono (by exact HP1.out _ HRI.out.1) ?_; rintro e wx ⟨rfl, hwx⟩; subst wx)
        go_roundw
        case rel => exact ⟨2, u0, u1, by first | rfl | (congr 1; omega), by omega, HU1.out _ HT.out, HRI.out⟩
        case measure => simp [intOf]
     ·have HT : Hid (T1 = u1) := by show _ = _; rw [HL1.out, if_neg (by omega)]
      go_wp2_with (go_at_call 55; refine Calls.mono (by exact HP1.out _ HRI.out.1) ?_; rintro e wx ⟨rfl, hwx⟩; subst wx)
      go_roundw
      case rel => exact ⟨2, u0, u1, by first | rfl | (congr 1; omega), by omega, HU1.out _ HT.out, HRI.out⟩
      case measure => simp [intOf]
    ·obtain ⟨rfl, rfl⟩ : u0 = T0 ∧ u1 = T1 := hu.out
     have HRW : Hid (wi.ownsRow w4.heap.size 49 6 (.slice xa i xc) i (blsCells (b1.take i) (iv1.take i))) := owns_below HRR.out.2 HRI.out.1
     have HSB : Hid (w4.heap.size ≤ wi.heap.size) := Nat.le_trans HRR.out.1.size HRI.out.1.size
     go_wp2_with (at_builtin; go_loud (refine wpList_append_own_at _ rfl _ _ 26 rfl w4.heap.size 49 i0 (.agg #[.slice none 0 0, .int .u8 0, .int .i64 0, .int .i64 0, .int .i64 0, .int .u8 0]) 6 64 Tryz.underlying26 hi0 hz0 hz1 hz2 rfl (by decide) _ i (blsCells (b1.take i) (iv1.take i)) rfl (owns_below HRW.out (below_alloc (Below.refl _ _) _)) ⟨wi.heap.size, 0, none⟩ 1 1 (blCells ⟨L, tk, ta, u0, u1, tt⟩ (.slice ia il ic)) rfl rfl ?c1 ?c2 ?c3 ?c4 ?c5 ?_))
     case c1 => intro j u hj; rw [Addr.add_lit, Nat.zero_add]; exact (Box.new wi (blCells ⟨L, tk, ta, u0, u1, tt⟩ (.slice ia il ic)) 49).cell j u hj
     case c2 => exact bl_cells_one rfl
     case c3 => unfold maxLen; omega
     case c4 => omega
     case c5 => have h8 := HSB.out; simp; omega
     intro v2 w8 ho hg9 _ hat
     obtain ⟨g9, c9, rfl, _, _, _, _⟩ := own_form ho
     have HN : Hid (Below w4.heap.size w4 w8 ∧ w8.ownsRow w4.heap.size 49 6 (.slice (some ⟨g9, 0, none⟩) (i + 1) c9) (i + 1) (blsCells (b1.take (i + 1)) (iv1.take (i + 1)))) := by
      refine ⟨below_grown (below_trans (below_trans HRR.out.1 HRI.out.1) (below_alloc (Below.refl _ _) _)) hg9 (fun q hq => (HRR.out.2.lt q hq).1), ?_⟩
      rw [HBI.out, HVI.out, blsCells_snoc _ _ (by rw [HTI.out.1, HTI.out.2])]
      exact ho
     clear ho hg9 hat
     go_wp2
     go_roundw
     case rel => exact ⟨i + 1, _, _, by first | rfl | (congr 1; omega), rfl, by omega, HN.out.1, HN.out.2⟩
     case measure => simp [intOf]; omega

  ·obtain rfl : m = i := by omega
   have HTF : Hid (b1.take m = b1 ∧ iv1.take m = iv1) := ⟨by rw [← HB1L.out, List.take_length], by rw [← HIVF.out, List.take_length]⟩
   obtain ⟨gX, hgX, hzX⟩ : ∃ g, w4.heap.size ≤ g ∧ (m = 0 ∨ (xa = some ⟨g, 0, none⟩ ∧ m ≤ xc)) := by
    obtain ⟨ya, yc, hv, g, h1, h2⟩ := own_blk (Nat.le_refl _) HRR.out.2
    injection hv with q1 q2 q3
    subst q1 q3
    exact ⟨g, h1, h2⟩
   have HZX : Hid _ := hzX
   have HBW : Hid (B ≤ w4.heap.size) := by have h1 := HB2.out; have h2 := HSX2.out; have h3 := HS23.out; show _ ≤ _; omega
   have HC5 : Hid (CG w1 wo ⟨nm, ps, r, vs, ars, b1⟩ B (.slice ya pl yc) (.slice yb vl yd) (.slice ye al yf) (.slice xa m xc) iv1 ((O.map Int.toNat).map fun k => avss.getD k default)) := by
    have h4 := HC4.out
    have h5 := h4.below HRR.out.1
    refine ⟨h5.lo, h5.ps, h5.vs, h5.ars, h5.pb, h5.vb, h5.ab, ?_⟩
    have hrw := HRR.out.2
    rw [HTF.out.1, HTF.out.2] at hrw
    show CB wo B (.slice xa m xc) b1 iv1 _
    rw [HI1.out] at hrw ⊢
    refine CB.order (top := w4.heap.size) (cs := b1) (O.map Int.toNat) h4.bs HRR.out.1 rfl HBW.out HND.out.1 (fun k hk => by dsimp only; rw [HLN.out.2.2.2.1]; exact HND.out.2 k hk) (by rw [HB1L.out, List.length_map, HLN.out.2.2.2.2]) (fun i k hik => ?_) (by rw [HB1L.out]; exact hrw)
    have hil : i < m := by have := (List.getElem?_eq_some_iff.1 hik).1; rw [List.length_map, HLN.out.2.2.2.2] at this; exact this
    obtain ⟨k', _, _, q3, q4⟩ := HNK.out i hil
    rw [hik] at q3
    cases q3
    rw [List.getD_eq_getElem?_getD, q4]
    rfl
   have HIW : Hid (∀ (i : Nat) (iv : Value) (g : Nat), iv1[i]? = some iv → iv.ownBlock = some g → g < W2.heap.size) := fun i iv g h1 h2 => by
    have hil : i < m := by have := (List.getElem?_eq_some_iff.1 h1).1; rw [HIVF.out] at this; exact this
    obtain ⟨k, _, q2, q3, _⟩ := HNK.out i hil
    have e1 := HIVG.out i k q3
    rw [List.getD_eq_getElem?_getD, h1] at e1
    have hkl : k < ivs.length := by have := HC4.out.bs.al; dsimp only at this; rw [this, HLN.out.2.2.2.1]; exact q2
    rw [List.getD_eq_getElem?_getD, List.getElem?_eq_getElem hkl] at e1
    rw [HSX2.out]
    exact HIV.out k iv g (by rw [List.getElem?_eq_getElem hkl]; exact congrArg some e1.symm) h2
   generalize ((O.map Int.toNat).map fun k => avss.getD k default) = av1 at HC5
   obtain ⟨b0, b1', b2, b3, b4, b5⟩ := box6 HBO.out.box
   have bf := HBO.out.box.fz
   have blt := HBO.out.box.lt
   have HK5 : Hid (BG w (wo.setCell ⟨w.heap.size, 5, none⟩ (.slice xa m xc)) [.string nm, .slice ya pl yc, .int .u8 r, .slice yb vl yd, .slice ye al yf, .slice xa m xc]) := HBO.out.set 5 (by simp) _
   have HC6 : Hid (CG w1 (wo.setCell ⟨w.heap.size, 5, none⟩ (.slice xa m xc)) ⟨nm, ps, r, vs, ars, b1⟩ B (.slice ya pl yc) (.slice yb vl yd) (.slice ye al yf) (.slice xa m xc) iv1 av1) := HC5.out.same (fun g hg => Below.heap_setCell wo ⟨w.heap.size, 5, none⟩ _ g (by show g ≠ w.heap.size; have := HLO.out; omega))
   have HKP : Hid (Kpt W2.heap.size w4 (wo.setCell ⟨w.heap.size, 5, none⟩ (.slice xa m xc))) := ((Kpt.refl W2.heap.size w4).below HRR.out.1).cell (by have h1 := HLO.out; have h2 := HSX2.out; have h3 := HC4.out.lo; have h4 := HB2.out; omega) 5 _
   obtain ⟨m0, m1, m2, m3, m4, m5⟩ := box6 HK5.out.box
   obtain ⟨W5, hW5⟩ : ∃ W5, W5 = wo.setCell ⟨w.heap.size, 5, none⟩ (.slice xa m xc) := ⟨_, rfl⟩
   have HW5 : Hid _ := hW5
   rw [← hW5] at HK5 HC6 HKP
   clear hW5 HC5 HIV HIVG HIV1 HBT HTL HPL HTF
   go_wp2_with (go_at_call 22; go_loud (refine Calls.mono (by rw [← HW5.out]; exact HG1.out _ _ _ _ _ _ _ _ _ HC6.out) ?_; rintro e w6 ⟨kv2, rfl, hrn, hb6⟩; have HRN : Hid (RowsIn w6 W5.heap.size (W5.heap.size + 1) m kv2 NW) := hrn; have HK6 : Hid (BG w w6 [.string nm, .slice ya pl yc, .int .u8 r, .slice yb vl yd, .slice ye al yf, .slice xa m xc]) := HK5.out.below hb6; have HC7 : Hid (CG w1 w6 ⟨nm, ps, r, vs, ars, b1⟩ B (.slice ya pl yc) (.slice yb vl yd) (.slice ye al yf) (.slice xa m xc) iv1 av1) := HC6.out.below hb6; have HK7 : Hid (Kpt W2.heap.size w4 w6) := HKP.out.below hb6; clear hrn hb6 b0 b1' b2 b3 b4 b5 bf blt m0 m1 m2 m3 m4 m5 HG1))
   have HO6 : Hid (OwnI w6 W2.heap.size (.slice oa m oc) O) := HK7.out.own HO4.out (Nat.le_refl _)
   have HA6 : Hid (RowsIn w6 s3 gA n kvs A) := HK7.out.rows HRA.out HS23.out.1
   have HLW : Hid (W2.heap.size ≤ W5.heap.size ∧ B ≤ w6.heap.size) := ⟨Nat.le_trans (Nat.le_trans HS23.out.1 HS23.out.2) HKP.out.size, Nat.le_trans HBW.out HK7.out.size⟩
   obtain ⟨gN, hgN⟩ : ∃ gN, gN = W5.heap.size + 1 := ⟨_, rfl⟩
   rw [← hgN] at HRN
   rw [← hgN]
   obtain ⟨s5, hs5⟩ : ∃ s5, s5 = W5.heap.size := ⟨_, rfl⟩
   rw [← hs5] at HRN HLW
   clear hgN hs5 HW5 HKP HK5 HC6 HK7 HK4 HC4 HO4 HRA HBO HRR HI1
   obtain ⟨i1, hj0, hy0, hy1, hy2⟩ := info_parts infoI
   go_loopw [11] (fun vi wr => ∃ (i : Nat) (avs : List (List Value)), vi = .int .i64 i ∧ i ≤ m ∧ Hid (BG w wr [.string nm, .slice ya pl yc, .int .u8 r, .slice yb vl yd, .slice ye al yf, .slice xa m xc] ∧ CG w1 wr ⟨nm, ps, r, vs, ars, F.take i ++ b1.drop i⟩ B (.slice ya pl yc) (.slice yb vl yd) (.slice ye al yf) (.slice xa m xc) iv1 avs ∧ Kpt W2.heap.size w6 wr)) (fun vi _ => m - (intOf vi).toNat)
   case atStart => exact ⟨0, av1, rfl, by omega, HK6.out, HC7.out, Kpt.refl _ _⟩
   case round =>
    obtain ⟨i, avs, rfl, hi, hr⟩ := hrel
    generalize wr = wz at *
    have HRZ : Hid _ := hr.out
    clear hr HK6 HC7
    by_cases hin : i < m
    ·obtain ⟨ki, hok, hkn, hkO, hkb⟩ := HNK.out i hin
     obtain ⟨rfl, hoc⟩ := HZO.out.resolve_left (by omega)
     obtain ⟨rfl, hxc⟩ := HZX.out.resolve_left (by omega)
     have hin' : (i : Int) < m := by omega
     have hkn' : (ki : Int) < n := by omega
     have hF := HF.out i hin
     rw [hok, Int.toNat_natCast] at hF
     have hb1i : b1[i]? = some (b1.getD i default) := getD_somL (by rw [HB1L.out]; exact hin)
     have hLi : (b1.getD i default).ins = (bs.getD ki default).ins := by rw [List.getD_eq_getElem?_getD, hkb]; rfl
     have hLB := HLB.out ki hkn
     have hLA := HLA.out ki hkn
     rw [← hLi] at hLB hLA
     have hFL : F.length = b1.length := by rw [HFL.out, HB1L.out]
     have hg1 := mxl_get hFL hb1i
     have hg2 := mxl_step hFL hF
     have hXL : (F.take i ++ b1.drop i).length = m := by rw [mxl_len hFL, HB1L.out]
     have hr1 := HRZ.out.2.1
     obtain ⟨hn8, hny⟩ := HNR.out i hin
     have hwr := HWR.out ki hkn
     obtain ⟨kvN, hkvN⟩ : ∃ v, kv2[i]? = some v := ⟨_, List.getElem?_eq_getElem (by rw [HRN.out.klen]; exact hin)⟩
     obtain ⟨kvA, hkvA⟩ : ∃ v, kvs[ki]? = some v := ⟨_, List.getElem?_eq_getElem (by rw [HA6.out.klen]; exact hkn)⟩
     have hNr : NW[i]? = some (NW.getD i []) := by rw [List.getD_eq_getElem?_getD, List.getElem?_eq_getElem (by rw [HRN.out.rlen]; exact hin)]; rfl
     have hAr : A[ki]? = some (A.getD ki []) := by rw [List.getD_eq_getElem?_getD, List.getElem?_eq_getElem (by rw [HA6.out.rlen]; exact hkn)]; rfl
     have hoN := (HRN.out.kid i _ _ hNr hkvN).1
     have hoA := (HA6.out.kid ki _ _ hAr hkvA).1
     generalize NW.getD i [] = now at *
     generalize A.getD ki [] = was at *
     obtain ⟨na, nc, hnv, gn, hgn, hzn⟩ := own_blk (Nat.le_refl _) hoN
     obtain ⟨ka, kc, hkv⟩ : ∃ ka kc, kvA = .slice ka was.length kc := by obtain ⟨x, y, e, _⟩ := own_blk (Nat.le_refl _) hoA; exact ⟨x, y, e⟩
     subst hnv hkv
     have HZN : Hid _ := hzn
     have HCE : Hid (∀ W, Kpt W2.heap.size w6 W → W.cell? ⟨go, i, none⟩ = some (.int .i64 (ki : Int)) ∧ W.cell? ⟨gA, ki, none⟩ = some (.slice ka was.length kc) ∧ W.cell? ⟨gN, i, none⟩ = some (.slice na now.length nc) ∧ OwnI W s3 (.slice ka was.length kc) was ∧ OwnI W s5 (.slice na now.length nc) now ∧ OwnI W W2.heap.size (.slice (some ⟨go, 0, none⟩) m oc) O) := fun W hk => by
      have e1 := own_at (hk.own HO6.out (Nat.le_refl _)) HLN.out.2.2.2.2.symm (j := i) (by rw [HLN.out.2.2.2.2]; exact hin)
      rw [hok] at e1
      exact ⟨e1, (hk.rows HA6.out HS23.out.1).cellG hkvA, (hk.rows HRN.out HLW.out.1).cellG hkvN, hk.own hoA HS23.out.1, hk.own hoN HLW.out.1, hk.own HO6.out (Nat.le_refl _)⟩
     generalize hkl : was.length = kl at *
     generalize hnl : now.length = nl at *
     have HNL : Hid (now.length = nl ∧ was.length = kl) := ⟨hnl, hkl⟩
     have HNY : Hid _ := hny
     clear hkl hnl hny hzn hoN hoA hNr hAr hkvN hkvA hFL
     generalize hXX : F.take i ++ b1.drop i = X at *
     clear hXX
     generalize b1.getD i default = bb at *
     obtain ⟨L, t⟩ := bb
     dsimp only at *
     have HG2 : Hid _ := hg2
     have HX1 : Hid (X[i]? = some ⟨L, t⟩) := hg1
     have HXN : Hid (X.length = m) := hXL
     have HLX : Hid _ := hLA
     have HML : Hid (∀ k, ((L.map (phiD O was now)).take k ++ L.drop k).length = L.length) := fun k => mxl_len (by simp) k
     have HMI : Hid (∀ k, k < L.length → ((L.map (phiD O was now)).take k ++ L.drop k)[k]? = some (L.getD k default) ∧ ((L.map (phiD O was now)).take k ++ L.drop k).set k (phiD O was now (L.getD k default)) = (L.map (phiD O was now)).take (k + 1) ++ L.drop (k + 1)) := fun k hk => ⟨mxl_get (by simp) (getD_somL hk), mxl_step (by simp) (by rw [List.getElem?_map, getD_somL hk]; rfl)⟩
     have HS0 : Hid (CG w1 wz ⟨nm, ps, r, vs, ars, X.set i ⟨(L.map (phiD O was now)).take 0 ++ L.drop 0, t⟩⟩ B (.slice ya pl yc) (.slice yb vl yd) (.slice ye al yf) (.slice (some ⟨gX, 0, none⟩) m xc) iv1 avs) := by
      show CG _ _ _ _ _ _ _ _ _ _
      rw [show X.set i ⟨(L.map (phiD O was now)).take 0 ++ L.drop 0, t⟩ = X from set_sam hg1]
      exact hr1
     have HFN : Hid (X.set i ⟨(L.map (phiD O was now)).take L.length ++ L.drop L.length, t⟩ = F.take (i + 1) ++ b1.drop (i + 1)) := by show _ = _; rw [mxl_end (by simp) rfl]; exact HG2.out
     obtain ⟨jv, hjv⟩ : ∃ jv, iv1[i]? = some jv := ⟨_, List.getElem?_eq_getElem (by rw [HIVF.out]; exact hin)⟩
     obtain ⟨ja, jc, hje, gi, _, hzj⟩ : ∃ ja jc, jv = .slice ja L.length jc ∧ ∃ g, B ≤ g ∧ (L.length = 0 ∨ (ja = some ⟨g, 0, none⟩ ∧ L.length ≤ jc)) := by
      have hva : i < avs.length := by have := hr1.bs.vl; dsimp only at this; rw [this, HXN.out]; exact hin
      exact own_blk (Nat.le_refl _) (hr1.bs.kid i ⟨L, t⟩ jv _ hg1 hjv (List.getElem?_eq_getElem hva)).row
     subst hje
     have HJV : Hid _ := hjv
     have HZJ : Hid _ := hzj
     have HB0 : Hid _ := HRZ.out.1
     have HP0 : Hid _ := HRZ.out.2.2
     clear hF hb1i hLi hkb hLA hg1 hg2 hXL hr1 hjv hzj HRZ HNK HF HLB HLA HNR HWR HND hkO hok
     generalize hil : L.length = il at *
     have HIL : Hid (L.length = il) := hil
     clear hil
     obtain ⟨e0, e1, e2, e3, e4, e5⟩ := box6 HB0.out.box
     go_wp2
     clear e0 e1 e2 e3 e4 e5
     go_loopw [12] (fun vk wr => ∃ (k : Nat) (avs : List (List Value)), vk = .int .i64 k ∧ k ≤ il ∧ Hid (BG w wr [.string nm, .slice ya pl yc, .int .u8 r, .slice yb vl yd, .slice ye al yf, .slice (some ⟨gX, 0, none⟩) m xc] ∧ CG w1 wr ⟨nm, ps, r, vs, ars, X.set i ⟨(L.map (phiD O was now)).take k ++ L.drop k, t⟩⟩ B (.slice ya pl yc) (.slice yb vl yd) (.slice ye al yf) (.slice (some ⟨gX, 0, none⟩) m xc) iv1 avs ∧ Kpt W2.heap.size w6 wr)) (fun vk _ => il - (intOf vk).toNat)
     case atStart => exact ⟨0, avs, rfl, by omega, HB0.out, HS0.out, HP0.out⟩
     case round =>
      obtain ⟨k, avs, rfl, hk, hq⟩ := hrel
      generalize wr = wk at *
      clear HS0 HB0 HP0
      have HQ : Hid _ := hq.out
      clear hq
      have hXi : (X.set i ⟨(L.map (phiD O was now)).take k ++ L.drop k, t⟩)[i]? = some ⟨(L.map (phiD O was now)).take k ++ L.drop k, t⟩ := by rw [List.getElem?_set, if_pos rfl, if_pos (by rw [HXN.out]; exact hin)]
      have hrow := HQ.out.2.1.bs.row
      dsimp only at hrow
      rw [List.length_set, HXN.out] at hrow
      have cJ : wk.cell? ⟨gX, i * 6, none⟩ = some (.slice ja il jc) := (hrow.cellAt (i * 6) (by omega)).trans (blsCells_get hXi HJV.out 0 _ rfl)
      have hgXl := (hrow.lt gX rfl).2
      by_cases hkn2 : k < il
      ·have hkn3 : (k : Int) < il := by omega
       obtain ⟨rfl, hjc⟩ := HZJ.out.resolve_left (by omega)
       obtain ⟨asv, hav⟩ : ∃ asv, avs[i]? = some asv := ⟨_, List.getElem?_eq_getElem (by have := HQ.out.2.1.bs.vl; dsimp only at this; rw [this, List.length_set, HXN.out]; exact hin)⟩
       have hK := HQ.out.2.1.bs.kid i ⟨(L.map (phiD O was now)).take k ++ L.drop k, t⟩ (.slice (some ⟨gi, 0, none⟩) il jc) asv hXi HJV.out hav
       obtain ⟨hm1, hm2⟩ := HMI.out k hkn2
       have hKr := hK.row
       dsimp only at hKr
       rw [HML.out] at hKr
       have hKl := hK.al
       dsimp only at hKl
       rw [HML.out] at hKl
       have hak : asv[k]? = some (asv[k]'(by omega)) := List.getElem?_eq_getElem _
       have hcq := fun q u (hu : (inCells (L.getD k default) (asv[k]'(by omega)))[q]? = some u) => (hKr.cellAt (k * 6 + q) (by have := (List.getElem?_eq_some_iff.1 hu).1; simp [inCells] at this; omega)).trans (insCells_get hm1 hak q u hu)
       have hkid := hK.kid k _ _ hm1 hak
       obtain ⟨za, zc, hz, gh, hgh, hzh⟩ := own_blk (Nat.le_refl _) hkid
       have d0 := hcq 0 _ rfl
       have d3 := hcq 3 _ rfl
       rw [hz] at d3 hkid
       rw [Nat.add_zero] at d0
       have hfz := hKr.frozenAt
       have hgi := hKr.lt gi rfl
       have hgil := hgi.2
       have HAV : Hid _ := hav
       have HM1 : Hid _ := hm1
       have HM2 : Hid _ := hm2
       have HXI : Hid _ := hXi
       have HGI : Hid (B ≤ gi ∧ gi < W2.heap.size) := ⟨hgi.1, HIW.out i _ gi HJV.out rfl⟩
       have HXS : Hid (∀ u v : Bl, (X.set i u).set i v = X.set i v) := fun u v => List.set_set ..
       have HZH : Hid _ := hzh
       have HKD : Hid _ := hkid
       have hxl2 : (L.getD k default).args.length ≤ 2000 := HLX.out _ (getD_memI (by rw [HIL.out]; exact hkn2))
       clear hrow hXi hav hK hm1 hm2 hKr hKl hak hcq hz hgi hzh hkid HMI HLX
       generalize L.getD k default = x at *
       obtain ⟨xk, xo, xd, xargs, xb, xr⟩ := x
       dsimp only at *
       generalize hxal : xargs.length = xal at *
       have HXAL : Hid (xargs.length = xal) := hxal
       clear hxal
       by_cases hk1 : xk = 1
       ·subst hk1
        have HUE : Hid (phiD O was now ⟨1, xo, xd, xargs, xb, xr⟩ = ⟨1, xo, xd, argsD O was now xargs, xb, xr⟩) := by show _ = _; unfold phiD; rw [if_pos rfl]
        obtain ⟨ce1, ce2, ce3, _⟩ := HCE.out _ HQ.out.2.2
        have d33 := d3
        have cJJ := cJ
        go_wp2
        clear d0 d3 cJ
        go_loopw [14, 15] (fun va vj wr => ∃ (j bl : Nat) (ba : Option Addr) (bc : Nat), va = .slice ba bl bc ∧ vj = .int .i64 j ∧ j ≤ nl ∧ bl ≤ j ∧ Hid (Below wk.heap.size wk wr ∧ OwnI wr wk.heap.size (.slice ba bl bc) (argsD O was (now.take j) xargs) ∧ (argsD O was (now.take j) xargs).length = bl)) (fun _ vj _ => nl - (intOf vj).toNat)
        case atStart => exact ⟨0, 0, none, 0, rfl, rfl, by omega, by omega, Below.refl _ _, World.ownsRow_nil _ _ _ _, rfl⟩
        case round =>
         obtain ⟨j, bl, ba, bc, rfl, rfl, hj, hbl, hrj⟩ := hrel
         generalize wr = wj at *
         have HRJ : Hid _ := hrj.out
         clear hrj
         have HKJ : Hid (Kpt W2.heap.size w6 wj) := HQ.out.2.2.below HRJ.out.1
         clear ce1 ce2 ce3
         obtain ⟨ce1, ce2, ce3, ce4, ce5, ce6⟩ := HCE.out _ HKJ.out
         by_cases hjn : j < nl
         ·obtain ⟨rfl, hnc⟩ := HZN.out.resolve_left (by omega)
          have hjn' : (j : Int) < nl := by omega
          obtain ⟨y, hy1', hy2'⟩ := HNY.out j hjn
          have hyn' : (y : Int) < m := by omega
          have cy : wj.cell? ⟨gn, j, none⟩ = some (.int .i64 (y : Int)) := by
           have h9 := own_at ce5 HNL.out.1.symm (j := j) (by rw [HNL.out.1]; exact hjn)
           rw [hy1'] at h9
           exact h9
          have cz : wj.cell? ⟨go, y, none⟩ = some (.int .i64 (O.getD y 0)) := own_at ce6 HLN.out.2.2.2.2.symm (by rw [HLN.out.2.2.2.2]; exact hy2')
          have HPS : Hid (∀ W, Below wj.heap.size wj W → Calls Tryz.prog 55 #[.slice ka kl kc, .int .i64 (O.getD y 0)] W fun e w' => e = .returned (.int .i64 (placeOf was (O.getD y 0))) ∧ w' = W) := fun W hb => rplace_is was _ _ W (OwnI.at' (owns_below ce4 hb) (by rw [HNL.out.2]; omega))
          have HST : Hid (argsD O was (now.take (j + 1)) xargs = argsD O was (now.take j) xargs ++ (if 0 ≤ placeOf was (O.getD y 0) ∧ placeOf was (O.getD y 0) < (xal : Int) then [xargs.getD (placeOf was (O.getD y 0)).toNat 0] else [])) := by
           have h9 := argsD_step (O := O) (was := was) (now := now) (had := xargs) (j := j) (by rw [HNL.out.1]; exact hjn)
           rw [hy1', Int.toNat_natCast, HXAL.out] at h9
           exact h9
          generalize O.getD y 0 = z at *
          generalize placeOf was z = q at *
          clear ce4 ce5 ce6 hy1'
          have HSX : Hid (∀ W, Below wj.heap.size wj W → W.cell? ⟨go, i, none⟩ = some (.int .i64 (ki : Int)) ∧ W.cell? ⟨gA, ki, none⟩ = some (.slice ka kl kc) ∧ W.cell? ⟨gN, i, none⟩ = some (.slice (some ⟨gn, 0, none⟩) nl nc) ∧ W.cell? ⟨gn, j, none⟩ = some (.int .i64 (y : Int)) ∧ W.cell? ⟨go, y, none⟩ = some (.int .i64 z)) := fun W hb => by
           have hk9 := HKJ.out.below hb
           obtain ⟨a1, a2, a3, a4, a5, a6⟩ := HCE.out _ hk9
           have hgn2 : W.cell? ⟨gn, j, none⟩ = wj.cell? ⟨gn, j, none⟩ := hb.cell (p := ⟨gn, j, none⟩) (by have := (HCE.out _ HKJ.out).2.2.2.2.1.lt gn rfl; exact this.2)
           have hgo2 : W.cell? ⟨go, y, none⟩ = wj.cell? ⟨go, y, none⟩ := hb.cell (p := ⟨go, y, none⟩) (by have := (HCE.out _ HKJ.out).2.2.2.2.2.lt go rfl; exact this.2)
           exact ⟨a1, a2, a3, hgn2.trans cy, hgo2.trans cz⟩
          go_wp2
          refine wp_region_late (fun W => W.cell? ⟨go, i, none⟩ = some (.int .i64 (ki : Int)) ∧ W.cell? ⟨gA, ki, none⟩ = some (.slice ka kl kc) ∧ W.cell? ⟨gN, i, none⟩ = some (.slice (some ⟨gn, 0, none⟩) nl nc) ∧ W.cell? ⟨gn, j, none⟩ = some (.int .i64 (y : Int)) ∧ W.cell? ⟨go, y, none⟩ = some (.int .i64 z)) (fun _ => false) (by kernel_rfl) (HSX.out _ (below_drew (Below.refl _ _))) (fun hHeld => ?_)
          refine wpAnyL_take 0 (v := ?_) rfl (by kernel_rfl) (by kernel_rfl) (by kernel_rfl) (by kernel_rfl) (fun _ _ _ h => h) hHeld (Or.inl ⟨by rfl, ?_⟩) ?_
          rotate_left 1
          ·(intro w hSw; (try dsimp only at hSw); (try obtain ⟨s0, s1, s2, s3, s4⟩ := hSw); first | (go_simp; done) | (go_simp; with_reducible rfl))
          simp only [Act.put, List.setIfInBounds_toArray]
          refine wpAnyL_take 1 (v := ?_) rfl (by kernel_rfl) (by kernel_rfl) (by kernel_rfl) (by kernel_rfl) (fun _ _ _ h => h) hHeld (Or.inl ⟨by rfl, ?_⟩) ?_
          rotate_left 1
          ·(intro w hSw; (try dsimp only at hSw); (try obtain ⟨s0, s1, s2, s3, s4⟩ := hSw); first | (go_simp; done) | (go_simp; with_reducible rfl))
          simp only [Act.put]
          refine wpAnyL_take 2 (v := ?_) rfl (by kernel_rfl) (by kernel_rfl) (by kernel_rfl) (by kernel_rfl) (fun _ _ _ h => h) hHeld (Or.inl ⟨by rfl, ?_⟩) ?_
          rotate_left 1
          ·(intro w hSw; (try dsimp only at hSw); (try obtain ⟨s0, s1, s2, s3, s4⟩ := hSw); first | (go_simp; done) | (go_simp; with_reducible rfl))
          simp only [Act.put]
          refine wpAnyL_take 3 (v := ?_) rfl (by kernel_rfl) (by kernel_rfl) (by kernel_rfl) (by kernel_rfl) (fun _ _ _ h => h) hHeld (Or.inl ⟨by rfl, ?_⟩) ?_
          rotate_left 1
          ·(intro w hSw; (try dsimp only at hSw); (try obtain ⟨s0, s1, s2, s3, s4⟩ := hSw); first | (go_simp; done) | (go_simp; with_reducible rfl))
          simp only [Act.put]
          refine wpAnyL_take 4 (v := ?_) rfl (by kernel_rfl) (by kernel_rfl) (by kernel_rfl) (by kernel_rfl) (fun _ _ _ h => h) hHeld (Or.inl ⟨by rfl, ?_⟩) ?_
          rotate_left 1
          ·(intro w hSw; (try dsimp only at hSw); (try obtain ⟨s0, s1, s2, s3, s4⟩ := hSw); first | (go_simp; done) | (go_simp; with_reducible rfl))
          simp only [Act.put]
          refine wpAnyL_take 5 (v := ?_) rfl (by kernel_rfl) (by kernel_rfl) (by kernel_rfl) (by kernel_rfl) (fun _ _ _ h => h) hHeld (Or.inl ⟨by rfl, ?_⟩) ?_
          rotate_left 1
          ·(intro w hSw; (try dsimp only at hSw); (try obtain ⟨s0, s1, s2, s3, s4⟩ := hSw); first | (go_simp; done) | (go_simp; with_reducible rfl))
          simp only [Act.put]
          refine wpAnyL_take 6 (v := ?_) rfl (by kernel_rfl) (by kernel_rfl) (by kernel_rfl) (by kernel_rfl) (fun _ _ _ h => h) hHeld (Or.inl ⟨by rfl, ?_⟩) ?_
          rotate_left 1
          ·(intro w hSw; (try dsimp only at hSw); (try obtain ⟨s0, s1, s2, s3, s4⟩ := hSw); first | (go_simp; done) | (go_simp; with_reducible rfl))
          simp only [Act.put]
          refine wpAnyL_take 7 (v := ?_) rfl (by kernel_rfl) (by kernel_rfl) (by kernel_rfl) (by kernel_rfl) (fun _ _ _ h => h) hHeld (Or.inl ⟨by rfl, ?_⟩) ?_
          rotate_left 1
          ·(intro w hSw; (try dsimp only at hSw); (try obtain ⟨s0, s1, s2, s3, s4⟩ := hSw); first | (go_simp; done) | (go_simp; with_reducible rfl))
          simp only [Act.put]
          refine wpAnyL_take 8 (v := ?_) rfl (by kernel_rfl) (by kernel_rfl) (by kernel_rfl) (by kernel_rfl) (fun _ _ _ h => h) hHeld (Or.inl ⟨by rfl, ?_⟩) ?_
          rotate_left 1
          ·(intro w hSw; (try dsimp only at hSw); (try obtain ⟨s0, s1, s2, s3, s4⟩ := hSw); first | (go_simp; done) | (go_simp; with_reducible rfl))
          simp only [Act.put]
          refine wpAnyL_take 9 (v := ?_) rfl (by kernel_rfl) (by kernel_rfl) (by kernel_rfl) (by kernel_rfl) (fun _ _ _ h => h) hHeld (Or.inl ⟨by rfl, ?_⟩) ?_
          rotate_left 1
          ·(intro w hSw; (try dsimp only at hSw); (try obtain ⟨s0, s1, s2, s3, s4⟩ := hSw); first | (go_simp; done) | (go_simp; with_reducible rfl))
          simp only [Act.put]
          refine wpAnyL_take 10 (v := ?_) rfl (by kernel_rfl) (by kernel_rfl) (by kernel_rfl) (by kernel_rfl) (fun _ _ _ h => h) hHeld (Or.inl ⟨by rfl, ?_⟩) ?_
          rotate_left 1
          ·(intro w hSw; (try dsimp only at hSw); (try obtain ⟨s0, s1, s2, s3, s4⟩ := hSw); first | (go_simp; done) | (go_simp; with_reducible rfl))
          simp only [Act.put]
          refine wpAnyL_take 11 (v := ?_) rfl (by kernel_rfl) (by kernel_rfl) (by kernel_rfl) (by kernel_rfl) (fun _ _ _ h => h) hHeld (Or.inl ⟨by rfl, ?_⟩) ?_
          rotate_left 1
          ·(intro w hSw; (try dsimp only at hSw); (try obtain ⟨s0, s1, s2, s3, s4⟩ := hSw); first | (go_simp; done) | (go_simp; with_reducible rfl))
          simp only [Act.put]
          refine wpAnyL_take 12 (v := ?_) rfl (by kernel_rfl) (by kernel_rfl) (by kernel_rfl) (by kernel_rfl) (fun _ _ _ h => h) hHeld (Or.inl ⟨by rfl, ?_⟩) ?_
          rotate_left 1
          ·(intro w hSw; (try dsimp only at hSw); (try obtain ⟨s0, s1, s2, s3, s4⟩ := hSw); first | (go_simp; done) | (go_simp; with_reducible rfl))
          simp only [Act.put]
          refine wpAnyL_take 13 (v := ?_) rfl (by kernel_rfl) (by kernel_rfl) (by kernel_rfl) (by kernel_rfl) (fun _ _ _ h => h) hHeld (Or.inl ⟨by rfl, ?_⟩) ?_
          rotate_left 1
          ·(intro w hSw; (try dsimp only at hSw); (try obtain ⟨s0, s1, s2, s3, s4⟩ := hSw); first | (go_simp; done) | (go_simp; with_reducible rfl))
          simp only [Act.put]
          refine wpAnyL_take 14 (v := ?_) rfl (by kernel_rfl) (by kernel_rfl) (by kernel_rfl) (by kernel_rfl) (fun _ _ _ h => h) hHeld (Or.inl ⟨by rfl, ?_⟩) ?_
          rotate_left 1
          ·(intro w hSw; (try dsimp only at hSw); (try obtain ⟨s0, s1, s2, s3, s4⟩ := hSw); first | (go_simp; done) | (go_simp; with_reducible rfl))
          simp only [Act.put]
          refine wpAnyL_take 15 (v := ?_) rfl (by kernel_rfl) (by kernel_rfl) (by kernel_rfl) (by kernel_rfl) (fun _ _ _ h => h) hHeld (Or.inl ⟨by rfl, ?_⟩) ?_
          rotate_left 1
          ·(intro w hSw; (try dsimp only at hSw); (try obtain ⟨s0, s1, s2, s3, s4⟩ := hSw); first | (go_simp; done) | (go_simp; with_reducible rfl))
          simp only [Act.put]
          refine wpAnyL_take 16 (v := ?_) rfl (by kernel_rfl) (by kernel_rfl) (by kernel_rfl) (by kernel_rfl) (fun _ _ _ h => h) hHeld (Or.inl ⟨by rfl, ?_⟩) ?_
          rotate_left 1
          ·(intro w hSw; (try dsimp only at hSw); (try obtain ⟨s0, s1, s2, s3, s4⟩ := hSw); first | (go_simp; done) | (go_simp; with_reducible rfl))
          simp only [Act.put]
          refine wpAnyL_one 17 (by kernel_rfl) rfl (fun K hK0 => ?_)
          have hK : Shut _ := hK0
          clear hK0
          go_simp
          refine Calls.mono (by exact HPS.out _ (below_drew (Below.refl _ _))) ?_
          rintro e wx ⟨rfl, hwx⟩
          subst wx
          dsimp only
          refine hK.out _ _ (fun _ => hHeld) ?_
          clear hK K
          refine wpAnyL_one 18 (by kernel_rfl) rfl (fun K hK0 => ?_)
          have hK : Shut _ := hK0
          clear hK0
          go_simp
          refine hK.out _ _ (fun _ => hHeld) ?_
          clear hK K hHeld
          refine ⟨by kernel_rfl, ?_⟩
          have HDJ : Hid (Below wk.heap.size wk wj.drew) := below_drew HRJ.out.1
          have HOJ : Hid (OwnI wj.drew wk.heap.size (.slice ba bl bc) (argsD O was (now.take j) xargs)) := owns_below HRJ.out.2.1 (below_drew (Below.refl _ _))
          have HLJ : Hid _ := HRJ.out.2.2
          have HKE : Hid (OwnI wj.drew B (.slice za xal zc) xargs) := by show OwnI _ _ _ _; unfold OwnI; rw [HXAL.out]; exact owns_below HKD.out HDJ.out
          clear HSX cy cz ce1 ce2 ce3 HPS HRJ HKJ
          generalize wj.drew = wd at *
          go_simp
          by_cases h0 : 0 ≤ q
          ·by_cases h1 : q < (xal : Int)
           ·obtain ⟨q', rfl⟩ : ∃ q' : Nat, q = (q' : Int) := Int.eq_ofNat_of_zero_le h0
            have hq' : q' < xal := by omega
            obtain ⟨rfl, hzc⟩ := HZH.out.resolve_left (by omega)
            have cx : wd.cell? ⟨gh, q', none⟩ = some (.int .i64 (xargs.getD q' 0)) := own_at HKE.out HXAL.out.symm (by rw [HXAL.out]; exact hq')
            rw [if_pos ⟨h0, h1⟩, Int.toNat_natCast] at HST
            generalize xargs.getD q' 0 = xv at *
            have HOW : Hid (wd.ownsRow wk.heap.size 3 1 (.slice ba bl bc) bl ((argsD O was (now.take j) xargs).map intV)) := by have h9 := HOJ.out; unfold OwnI at h9; rw [HLJ.out] at h9; exact h9
            have hws : wk.heap.size ≤ wd.heap.size := HDJ.out.size
            go_wp2_with (at_builtin; go_loud (refine wpList_append_own_at _ rfl _ _ 22 rfl wk.heap.size 3 i1 (.int .i64 0) 1 8 Tryz.underlying22 hj0 hy0 hy1 hy2 rfl (by decide) _ bl ((argsD O was (now.take j) xargs).map intV) rfl (HOW.out.alloc _) ⟨wd.heap.size, 0, none⟩ 1 1 [intV xv] rfl rfl ?c1 ?c2 ?c3 ?c4 ?c5 ?_))
            try (case c1 => first | exact cell_one_new wd (intV xv) 3 | simp)
            case c2 => first | (intro u hu; simp at hu; subst hu; rfl) | rfl
            case c3 => first | (unfold maxLen; omega) | omega
            case c4 => omega
            case c5 => first | omega | (simp; omega)
            intro v2 w8 ho hg9 _ hat
            obtain ⟨g9, c9, rfl, _, _, _, _⟩ := own_form ho
            have HN : Hid (Below wk.heap.size wk w8 ∧ OwnI w8 wk.heap.size (.slice (some ⟨g9, 0, none⟩) (bl + 1) c9) (argsD O was (now.take (j + 1)) xargs) ∧ (argsD O was (now.take (j + 1)) xargs).length = bl + 1) := by
             refine ⟨below_grown (below_alloc HDJ.out _) hg9 (fun q hq => (HOW.out.lt q hq).1), ?_, ?_⟩
             ·unfold OwnI
              rw [HST.out, List.length_append, List.map_append, HLJ.out]
              exact ho
             ·rw [HST.out, List.length_append, HLJ.out]; rfl
            clear ho hg9 hat
            go_wp2
            go_roundw
            case rel => exact ⟨j + 1, bl + 1, _, _, rfl, by first | rfl | (congr 1; omega), by omega, by omega, HN.out⟩
            case measure => simp [intOf]; omega
           ·rw [if_neg (by omega), List.append_nil] at HST
            have HN : Hid (Below wk.heap.size wk wd ∧ OwnI wd wk.heap.size (.slice ba bl bc) (argsD O was (now.take (j + 1)) xargs) ∧ (argsD O was (now.take (j + 1)) xargs).length = bl) := by rw [HST.out]; exact ⟨HDJ.out, HOJ.out, HLJ.out⟩
            go_wp2
            go_roundw
            case rel => exact ⟨j + 1, bl, _, _, rfl, by first | rfl | (congr 1; omega), by omega, by omega, HN.out⟩
            case measure => simp [intOf]; omega
          ·rw [if_neg (by omega), List.append_nil] at HST
           have HN : Hid (Below wk.heap.size wk wd ∧ OwnI wd wk.heap.size (.slice ba bl bc) (argsD O was (now.take (j + 1)) xargs) ∧ (argsD O was (now.take (j + 1)) xargs).length = bl) := by rw [HST.out]; exact ⟨HDJ.out, HOJ.out, HLJ.out⟩
           go_wp2
           go_roundw
           case rel => exact ⟨j + 1, bl, _, _, rfl, by first | rfl | (congr 1; omega), by omega, by omega, HN.out⟩
           case measure => simp [intOf]; omega
         ·obtain rfl : nl = j := by omega
          have HAE : Hid (OwnI wj wk.heap.size (.slice ba bl bc) (argsD O was now xargs)) := by
           have h9 := HRJ.out.2.1
           rw [show now.take nl = now by rw [← HNL.out.1, List.take_length]] at h9
           exact h9
          have cJ2 : wj.cell? ⟨gX, i * 6, none⟩ = some (.slice (some ⟨gi, 0, none⟩) il jc) := (HRJ.out.1.cell (p := ⟨gX, i * 6, none⟩) hgXl).trans cJJ
          have hgX2 : gX < wj.heap.size := Nat.lt_of_lt_of_le hgXl HRJ.out.1.size
          have d3' : wj.cell? ⟨gi, k * 6 + 3, none⟩ = some (.slice za xal zc) := (HRJ.out.1.cell (p := ⟨gi, k * 6 + 3, none⟩) hgil).trans d33
          have hfz2 : ∀ j, wj.frozen? ⟨gi, j, none⟩ = false := fun j => (HRJ.out.1.frozen (p := ⟨gi, j, none⟩) hgil).trans (hfz j)
          have hgi2 : gi < wj.heap.size := Nat.lt_of_lt_of_le hgil HRJ.out.1.size
          have HN : Hid (BG w (wj.setCell ⟨gi, k * 6 + 3, none⟩ (.slice ba bl bc)) [.string nm, .slice ya pl yc, .int .u8 r, .slice yb vl yd, .slice ye al yf, .slice (some ⟨gX, 0, none⟩) m xc] ∧ CG w1 (wj.setCell ⟨gi, k * 6 + 3, none⟩ (.slice ba bl bc)) ⟨nm, ps, r, vs, ars, X.set i ⟨(L.map (phiD O was now)).take (k + 1) ++ L.drop (k + 1), t⟩⟩ B (.slice ya pl yc) (.slice yb vl yd) (.slice ye al yf) (.slice (some ⟨gX, 0, none⟩) m xc) iv1 (avs.set i (asv.set k (.slice ba bl bc))) ∧ Kpt W2.heap.size w6 (wj.setCell ⟨gi, k * 6 + 3, none⟩ (.slice ba bl bc))) := by
           refine ⟨(HQ.out.1.below HRJ.out.1).cell (by have h1 := HQ.out.2.1.lo; have h2 := HLO.out; have h3 := HGI.out.1; omega) _ _, ?_, HKJ.out.cell HGI.out.2 _ _⟩
           have h9 := HQ.out.2.1.arg HRJ.out.1 (by have h1 := HLW.out.2; have h2 := HQ.out.2.2.size; omega) HXI.out HM1.out (by show _ = some (Value.slice (some ⟨gi, 0, none⟩) ((L.map (phiD O was now)).take k ++ L.drop k).length jc); rw [HML.out]; exact HJV.out) HAV.out HAE.out
           dsimp only at h9
           rw [HXS.out, ← HUE.out, HM2.out] at h9
           exact h9
          clear HM1 HM2 HUE HAV HXI HXS HCE HQ
          go_wp2
          go_roundw
          case rel => exact ⟨k + 1, _, by first | rfl | (congr 1; omega), by omega, HN.out⟩
          case measure => simp [intOf]; omega
       ·have hk1f : (xk == 1) = false := beq_false_of_ne hk1
        have HUE : Hid (phiD O was now ⟨xk, xo, xd, xargs, xb, xr⟩ = ⟨xk, xo, xd, xargs, xb, xr⟩) := by show _ = _; unfold phiD; rw [if_neg hk1]
        have HP : Hid (BG w wk [.string nm, .slice ya pl yc, .int .u8 r, .slice yb vl yd, .slice ye al yf, .slice (some ⟨gX, 0, none⟩) m xc] ∧ CG w1 wk ⟨nm, ps, r, vs, ars, X.set i ⟨(L.map (phiD O was now)).take (k + 1) ++ L.drop (k + 1), t⟩⟩ B (.slice ya pl yc) (.slice yb vl yd) (.slice ye al yf) (.slice (some ⟨gX, 0, none⟩) m xc) iv1 avs ∧ Kpt W2.heap.size w6 wk) := by
         have h9 := HQ.out.2.1
         have e9 := HM2.out
         rw [HUE.out, set_sam HM1.out] at e9
         rw [e9] at h9
         exact ⟨HQ.out.1, h9, HQ.out.2.2⟩
        clear HM1 HM2 HUE HAV HXI HXS HQ HCE
        go_wp2
        go_roundw
        case rel => exact ⟨k + 1, avs, by first | rfl | (congr 1; omega), by omega, HP.out⟩
        case measure => simp [intOf]; omega
      ·obtain rfl : il = k := by omega
       have HQ2 : Hid (BG w wk [.string nm, .slice ya pl yc, .int .u8 r, .slice yb vl yd, .slice ye al yf, .slice (some ⟨gX, 0, none⟩) m xc] ∧ CG w1 wk ⟨nm, ps, r, vs, ars, F.take (i + 1) ++ b1.drop (i + 1)⟩ B (.slice ya pl yc) (.slice yb vl yd) (.slice ye al yf) (.slice (some ⟨gX, 0, none⟩) m xc) iv1 avs ∧ Kpt W2.heap.size w6 wk) := by
        have h9 := HQ.out
        have e9 := HFN.out
        rw [e9] at h9
        exact h9
       clear HQ hrow hXi
       go_wp2
       go_roundw
       case rel => exact ⟨i + 1, avs, by first | rfl | (congr 1; omega), by omega, HQ2.out⟩
       case measure => simp [intOf]; omega
    ·obtain rfl : m = i := by omega
     have HFE : Hid (F.take m ++ b1.drop m = F) := mxl_end (by rw [HFL.out, HB1L.out]) HB1L.out
     have HR2 : Hid _ := HRZ.out
     rw [HFE.out] at HR2
     obtain ⟨e0, e1, e2, e3, e4, e5⟩ := box6 HR2.out.1.box
     obtain ⟨r0, r1, r2, r3, r4, r5⟩ := box6 HR2.out.1.rbx
     have rf := HR2.out.1.rbx.fz
     have rlt := HR2.out.1.rbx.lt
     clear HRZ HNK HF HLB HLA HNR HWR HND
     go_wp2
     obtain ⟨q1, q2, q3⟩ := six_end HR2.out.1.low (Nat.le_succ _) HR2.out.1.res (.string nm) (.slice ya pl yc) (.int .u8 r) (.slice yb vl yd) (.slice ye al yf) (.slice xa m xc)
     refine bodyPost_ret (results_cell_row rfl _ _ (w.heap.size + 1) 28 #[.string nm, .slice ya pl yc, .int .u8 r, .slice yb vl yd, .slice ye al yf, .slice xa m xc] _ _ rfl q2 Tryz.underlying28 rfl (by rfl)) rfl ⟨_, _, _, _, rfl, ?_, q1⟩
     exact HFI.out w1 _ B _ _ _ _ iv1 avs (HR2.out.2.1.same fun g hg => q3 g (by have := HLO.out; omega))
end Go.Proofs.YtobnpllppohofaaGreatDoor
