/- A graph with just the blocks that are reached: also one that has none. -/
import Derived.Test.YtobnpllppohofaaGreatDoorGPl0M
import Derived.Test.YtobnpllppohofaaGreatDoorGRCpM
namespace Go.Proofs.YtobnpllppohofaaGreatDoor
open Go.RowKit

set_option maxRecDepth 100000 in
set_option maxHeartbeats 8000000 in
theorem trim_all (G : Gr) (pv vv av bv : Value) (w : World) (h : GrAt w pv vv av bv G) (hn : G.blocks.length ≤ 4000) (hpl : G.params.length ≤ 1000000) (hml : G.vars.length ≤ 1000000) (hal : G.arrs.length ≤ 1000000) (hli : ∀ b ∈ G.blocks, b.ins.length ≤ 1000000) (hla : ∀ b ∈ G.blocks, ∀ x ∈ b.ins, x.args.length ≤ 1000000) :
  Calls Tryz.prog 9 #[.agg #[.string G.name, pv, .int .u8 G.result, vv, av, bv]] w fun e w' => ∃ pv' vv' av' bv', e = .returned (.agg #[.string G.name, pv', .int .u8 G.result, vv', av', bv']) ∧ GN w w' pv' vv' av' bv' (trimG G) ∧ Below w.heap.size w w' := by
 obtain ⟨pa, pc, va, vc, aa, ac, ba, bc, rfl, rfl, rfl, rfl, _, _, _, _⟩ := h.openF
 have HOR : Hid (∀ W, Below w.heap.size w W → Calls Tryz.prog 12 #[.agg #[.string G.name, .slice pa G.params.length pc, .int .u8 G.result, .slice va G.vars.length vc, .slice aa G.arrs.length ac, .slice ba G.blocks.length bc]] W fun e w' => ∃ v, e = .returned v ∧ OwnI w' W.heap.size v (orderT (tms G.blocks)) ∧ Below W.heap.size W w') := fun W hb => order_any G _ _ _ _ W (h.below hb) hn
 have HAH : Hid (∀ W, Below w.heap.size w W → Calls Tryz.prog 13 #[.agg #[.string G.name, .slice pa G.params.length pc, .int .u8 G.result, .slice va G.vars.length vc, .slice aa G.arrs.length ac, .slice ba G.blocks.length bc]] W fun e w' => ∃ kvs, e = .returned (.slice (some ⟨W.heap.size + 1, 0, none⟩) G.blocks.length G.blocks.length) ∧ RowsIn w' W.heap.size (W.heap.size + 1) G.blocks.length kvs (aheadT (tms G.blocks)) ∧ Below W.heap.size W w') := fun W hb => ahead_any G _ _ _ _ W (h.below hb) (by omega)
 have HC1 : Hid (∀ W, Below w.heap.size w W → _) := fun W hb => clone1_any (h.ps.below hb) (by simp) hpl (ints_one _)
 have HC2 : Hid (∀ W, Below w.heap.size w W → _) := fun W hb => cloneT_any (h.vs.below hb) (by simp) hml (tys_one _)
 have HC3 : Hid (∀ W, Below w.heap.size w W → _) := fun W hb => cloneA_any (h.ars.below hb) (arrs_len _) hal (arrs_one _)
 have HGA : Hid (GrAt w (.slice pa G.params.length pc) (.slice va G.vars.length vc) (.slice aa G.arrs.length ac) (.slice ba G.blocks.length bc) G) := h
 clear h
 obtain ⟨nm, ps, r, vs, ars, bs⟩ := G
 dsimp only at *
 have HTL : Hid ((tms bs).length = bs.length) := by show _ = _; simp [tms]
 have HOK := order_ok (tms bs)
 generalize hbn : bs.length = n at *
 have HBN : Hid (bs.length = n) := hbn
 clear hbn
 generalize hp9 : ps.length = pl at *
 generalize hv9 : vs.length = vl at *
 generalize ha9 : ars.length = al at *
 have HPN : Hid (ps.length = pl ∧ vs.length = vl ∧ ars.length = al) := ⟨hp9, hv9, ha9⟩
 clear hp9 hv9 ha9
 have HOD : Hid _ := HOK
 clear HOK
 have HB0 : Hid _ := BG.new w [.string nm, .slice pa pl pc, .int .u8 r, .slice va vl vc, .slice aa al ac, .slice ba n bc]
 have HAL : Hid (∀ r ∈ aheadT (tms bs), r.length ≤ 8000) := fun r hr => by
  obtain ⟨j, hj, he⟩ := List.mem_iff_getElem.1 hr
  have h9 := ahead_len_le (ts := tms bs) (j := j) (by rw [← aheadT_len]; exact hj)
  rw [List.getD_eq_getElem?_getD, List.getElem?_eq_getElem hj, Option.getD_some, he, HTL.out] at h9
  omega
 have HTR : Hid (∀ (W : World) (base : Nat) (v : Value) (ivs : List Value) (avss : List (List Value)), CB W base v (trimBs bs) ivs avss → BlsAt W v (trimBs bs)) := fun W base v ivs avss hc => by
  have hol := order_len HOD.out
  rw [HTL.out] at hol
  have hmem : ∀ b ∈ trimBs bs, ∀ x ∈ b.ins, ∃ c ∈ bs, ∃ y ∈ c.ins, x.args.length ≤ 1000000 ∧ x.bits = y.bits := fun b hb x hx => by
   obtain ⟨i, a, _, _, _, hm, rfl⟩ := trim_at hb
   unfold trimB at hx
   obtain ⟨y, hy, rfl⟩ := List.mem_map.1 hx
   refine ⟨_, hm, y, hy, ?_, ?_⟩
   ·unfold trimI
    split
    ·exact Nat.le_trans kept_le (Nat.le_trans stay_le (by omega))
    ·exact hla _ hm y hy
   ·unfold trimI
    split <;> rfl
  refine CB.at' hc (by rw [trim_len]; omega) (fun b hb => ?_) (fun b hb x hx => (hmem b hb x hx).choose_spec.2.choose_spec.2.1) (fun b hb x hx => ?_)
  ·obtain ⟨i, a, _, _, _, hm, rfl⟩ := trim_at hb
   unfold trimB
   rw [List.length_map]
   exact hli _ hm
  ·obtain ⟨c, hcm, y, hy, _, he⟩ := hmem b hb x hx
   rw [he]
   obtain ⟨q, hq, hqe⟩ := List.mem_iff_getElem.1 hcm
   obtain ⟨_, _, _, _, _, _, _, _, _, _, _, hins⟩ := HGA.out.bs.get (i := q) hq
   have e9 : bs.getD q default = c := by rw [List.getD_eq_getElem?_getD, List.getElem?_eq_getElem hq, Option.getD_some, hqe]
   dsimp only at hins
   rw [e9] at hins
   exact hins.wf y hy
 go_enter Tryz.func9, Tryz.ntmps9
 go_wp2
 refine wp_region_late (fun w' => w'.cell? ⟨w.heap.size, 0, none⟩ = some (.string nm) ∧ w'.cell? ⟨w.heap.size, 1, none⟩ = some (.slice pa pl pc) ∧ w'.cell? ⟨w.heap.size, 2, none⟩ = some (.int .u8 r) ∧ w'.cell? ⟨w.heap.size, 3, none⟩ = some (.slice va vl vc) ∧ w'.cell? ⟨w.heap.size, 4, none⟩ = some (.slice aa al ac) ∧ w'.cell? ⟨w.heap.size, 5, none⟩ = some (.slice ba n bc)) (fun _ => false) (by kernel_rfl) (box6 (HB0.out.below (below_drew (Below.refl _ _))).box) (fun hHeld => ?_)
 have HBW : Hid (BG w ((w.alloc (.cells #[.string nm, .slice pa pl pc, .int .u8 r, .slice va vl vc, .slice aa al ac, .slice ba n bc] 28)).alloc (.cells #[.string ⟨#[]⟩, .slice none 0 0, .int .u8 0, .slice none 0 0, .slice none 0 0, .slice none 0 0] 28)).drew [.string nm, .slice pa pl pc, .int .u8 r, .slice va vl vc, .slice aa al ac, .slice ba n bc]) := HB0.out.below (below_drew (Below.refl _ _))
 clear HB0
 generalize ((w.alloc (.cells #[.string nm, .slice pa pl pc, .int .u8 r, .slice va vl vc, .slice aa al ac, .slice ba n bc] 28)).alloc (.cells #[.string ⟨#[]⟩, .slice none 0 0, .int .u8 0, .slice none 0 0, .slice none 0 0, .slice none 0 0] 28)).drew = W0 at *
 refine wpAnyL_take 0 (v := ?_) rfl (by kernel_rfl) (by kernel_rfl) (by kernel_rfl) (by kernel_rfl) (fun _ _ _ h => h) hHeld (Or.inl ⟨by rfl, ?_⟩) ?_
 rotate_left 1
 ·(intro w hSw; (try dsimp only at hSw); (try obtain ⟨s0, s1, s2, s3, s4, s5⟩ := hSw); first | (go_simp; done) | (go_simp; with_reducible rfl))
 simp only [Act.put, List.setIfInBounds_toArray]
 refine wpAnyL_take 2 (v := ?_) rfl (by kernel_rfl) (by kernel_rfl) (by kernel_rfl) (by kernel_rfl) (fun _ _ _ h => h) hHeld (Or.inl ⟨by rfl, ?_⟩) ?_
 rotate_left 1
 ·(intro w hSw; (try dsimp only at hSw); (try obtain ⟨s0, s1, s2, s3, s4, s5⟩ := hSw); first | (go_simp; done) | (go_simp; with_reducible rfl))
 simp only [Act.put]
 clear hHeld
 refine wpAnyL_one 1 (by kernel_rfl) rfl (fun K hK0 => ?_)
 have hK : Shut _ := hK0
 clear hK0
 go_simp
 refine Calls.mono (by exact HOR.out _ HBW.out.low) ?_
 rintro e w1 ⟨ov, rfl, ho1, hb1⟩
 obtain ⟨oa, oc, rfl, _⟩ := (OwnI.at' ho1 (by have := order_len HOD.out; rw [HTL.out] at this; omega)).form
 have HO1 : Hid (OwnI w1 W0.heap.size (.slice oa (orderT (tms bs)).length oc) (orderT (tms bs))) := ho1
 have HB1 : Hid (BG w w1 [.string nm, .slice pa pl pc, .int .u8 r, .slice va vl vc, .slice aa al ac, .slice ba n bc]) := HBW.out.below hb1
 have hHeld := box6 HB1.out.box
 clear ho1 hb1
 dsimp only
 refine hK.out _ _ (fun _ => hHeld) ?_
 clear hK K
 clear hHeld
 refine wpAnyL_one 3 (by kernel_rfl) rfl (fun K hK0 => ?_)
 have hK : Shut _ := hK0
 clear hK0
 go_simp
 refine Calls.mono (by exact HAH.out _ HB1.out.low) ?_
 rintro e w2 ⟨kvs, rfl, hr2, hb2⟩
 have HA2 : Hid (NetAt w2 (.slice (some ⟨w1.heap.size + 1, 0, none⟩) n n) (aheadT (tms bs))) := hr2.at' (by omega) (fun r hr => Nat.le_trans (HAL.out r hr) (by omega))
 have HO2 : Hid (OwnI w2 W0.heap.size (.slice oa (orderT (tms bs)).length oc) (orderT (tms bs))) := owns_below HO1.out hb2
 have HB2 : Hid (BG w w2 [.string nm, .slice pa pl pc, .int .u8 r, .slice va vl vc, .slice aa al ac, .slice ba n bc]) := HB1.out.below hb2
 have hHeld := box6 HB2.out.box
 clear hr2 hb2
 dsimp only
 refine hK.out _ _ (fun _ => hHeld) ?_
 clear hK K
 refine wpAnyL_take 4 (v := ?_) rfl (by kernel_rfl) (by kernel_rfl) (by kernel_rfl) (by kernel_rfl) (fun _ _ _ h => h) hHeld (Or.inl ⟨by rfl, ?_⟩) ?_
 rotate_left 1
 ·(intro w hSw; (try dsimp only at hSw); (try obtain ⟨s0, s1, s2, s3, s4, s5⟩ := hSw); first | (go_simp; done) | (go_simp; with_reducible rfl))
 simp only [Act.put]
 clear hHeld
 refine wpAnyL_one 5 (by kernel_rfl) rfl (fun K hK0 => ?_)
 have hK : Shut _ := hK0
 clear hK0
 go_simp
 have hHeld := box6 HB2.out.box
 refine hK.out _ _ (fun _ => hHeld) ?_
 clear hK K
 refine ⟨by kernel_rfl, ?_⟩
 clear hHeld HB1 HO1 HBW HOR HAH
 have HOI : Hid (IntsAt w2 (.slice oa (orderT (tms bs)).length oc) (orderT (tms bs))) := OwnI.at' HO2.out (by have := order_len HOD.out; rw [HTL.out] at this; omega)
 have hON : (orderT (tms bs)).length ≤ n := by have := order_len HOD.out; rw [HTL.out] at this; exact this
 have HPC : Hid (∀ W, Below w2.heap.size w2 W → Calls Tryz.prog 28 #[.slice oa (orderT (tms bs)).length oc, .int .i64 (n : Int)] W fun e w' => ∃ v', e = .returned v' ∧ OwnI w' W.heap.size v' (placesL (orderT (tms bs)) n) ∧ Below W.heap.size W w') := fun W hb => places_all _ n _ W (HOI.out.below hb) (by omega) HOD.out.nodup (fun x hx => by obtain ⟨k, hk, hl⟩ := HOD.out.nat x hx; rw [HTL.out] at hl; exact ⟨k, hk, hl⟩)
 have hON9 : (tms bs).length = n := HTL.out
 have HOD2 : Hid (∀ j, j < (orderT (tms bs)).length → ∃ k : Nat, (orderT (tms bs)).getD j 0 = (k : Int) ∧ k < n) := fun j hj => by
  obtain ⟨k, hk, hl⟩ := HOD.out.nat ((orderT (tms bs)).getD j 0) (by rw [List.getD_eq_getElem?_getD, List.getElem?_eq_getElem hj]; exact List.getElem_mem hj)
  exact ⟨k, hk, by omega⟩
 have HTK : Hid (∀ j, j < (orderT (tms bs)).length → ∀ k : Nat, (orderT (tms bs)).getD j 0 = (k : Int) → ((orderT (tms bs)).take (j + 1)).map (fun a => trimB (orderT (tms bs)) n ((aheadT (tms bs)).getD a.toNat []) (bs.getD a.toNat default)) = ((orderT (tms bs)).take j).map (fun a => trimB (orderT (tms bs)) n ((aheadT (tms bs)).getD a.toNat []) (bs.getD a.toNat default)) ++ [trimB (orderT (tms bs)) n ((aheadT (tms bs)).getD k []) (bs.getD k default)]) := fun j hj k hk => by
  rw [map_take (x := (k : Int)) (by rw [← hk]; exact getD_some hj), Int.toNat_natCast]
 have HTF : Hid (((orderT (tms bs)).take (orderT (tms bs)).length).map (fun a => trimB (orderT (tms bs)) n ((aheadT (tms bs)).getD a.toNat []) (bs.getD a.toNat default)) = trimBs bs) := by
  show _ = _
  rw [List.take_length]
  unfold trimBs
  rw [HBN.out]
 have HLT : Hid (∀ j, j ≤ (orderT (tms bs)).length → (((orderT (tms bs)).take j).map (fun a => trimB (orderT (tms bs)) n ((aheadT (tms bs)).getD a.toNat []) (bs.getD a.toNat default))).length = j) := fun j hj => by rw [List.length_map, List.length_take]; omega
 have HND : Hid (∀ k, k < n → ((aheadT (tms bs)).getD k []).Nodup ∧ (∀ x ∈ (aheadT (tms bs)).getD k [], ∃ q : Nat, x = (q : Int) ∧ q < n) ∧ ((aheadT (tms bs)).getD k []).length ≤ 8000) := fun k hk => by
  have hk' : k < (tms bs).length := by omega
  refine ⟨ahead_nodup hk', fun x hx => ?_, ?_⟩
  ·obtain ⟨q, hq, hl, _⟩ := (mem_ahead hk').1 hx
   exact ⟨q, hq, by omega⟩
  ·have := ahead_len_le (ts := tms bs) (j := k) hk'
   omega
 have HBI : Hid (∀ k, k < n → (bs.getD k default).ins.length ≤ 1000000 ∧ ∀ x ∈ (bs.getD k default).ins, x.args.length ≤ 1000000) := fun k hk => by
  have hm : bs.getD k default ∈ bs := getD_memB (by rw [HBN.out]; exact hk)
  exact ⟨hli _ hm, hla _ hm⟩
 have HBS : Hid (∀ k, k < n → _) := fun k hk => HGA.out.bs.get (i := k) (by dsimp only; rw [HBN.out]; exact hk)
 have HAN : Hid ((aheadT (tms bs)).length = n) := by show _ = _; rw [aheadT_len]; exact HTL.out
 have HNO : Hid (orderT (tms bs)).Nodup := HOD.out.nodup
 clear HOD hli hla hON9 HAL HO2
 generalize hOO : orderT (tms bs) = O at *
 generalize hAA : aheadT (tms bs) = AH at *
 clear hAA
 have HOO : Hid (orderT (tms bs) = O) := hOO
 clear hOO
 generalize hmm : O.length = m at *
 have HMM : Hid (O.length = m) := hmm
 clear hmm
 obtain ⟨b0, b1, b2, b3, b4, b5⟩ := box6 HB2.out.box
 have hbl := HB2.out.box.lt
 go_wp2_with (go_at_call 28; go_loud (refine Calls.mono (by exact HPC.out _ (Below.refl _ _)) ?_; rintro e w3 ⟨qv, rfl, ho3, hb3⟩; obtain ⟨qa, qc, rfl⟩ : ∃ qa qc, qv = .slice qa n qc := (by obtain ⟨qa, qc, e, _⟩ := (OwnI.at' ho3 (by rw [places_len]; omega)).form; rw [places_len] at e; exact ⟨qa, qc, e⟩); have HP3 : Hid (IntsAt w3 (.slice qa n qc) (placesL O n)) := OwnI.at' ho3 (by rw [places_len]; omega); have HB3 : Hid (BG w w3 [.string nm, .slice pa pl pc, .int .u8 r, .slice va vl vc, .slice aa al ac, .slice ba n bc]) := HB2.out.below hb3; have HO3 : Hid (IntsAt w3 (.slice oa m oc) O) := HOI.out.below hb3; have HA3 : Hid (NetAt w3 (.slice (some ⟨w1.heap.size + 1, 0, none⟩) n n) AH) := HA2.out.below hb3; clear ho3 hb3))
 clear HPC HOI HA2 HB2 b0 b1 b2 b3 b4 b5 hbl
 go_loopw [6, 20] (fun vb vi wr => ∃ (i : Nat) (ivs : List Value) (avss : List (List Value)) (xa : Option Addr) (xc : Nat), vi = .int .i64 i ∧ vb = .slice xa i xc ∧ i ≤ m ∧ Hid (Below w3.heap.size w3 wr ∧ CB wr w3.heap.size (.slice xa i xc) ((O.take i).map (fun a => trimB O n (AH.getD a.toNat []) (bs.getD a.toNat default))) ivs avss)) (fun _ vi _ => m - (intOf vi).toNat)
 case atStart => exact ⟨0, [], [], none, 0, rfl, rfl, by omega, Below.refl _ _, CB.nil _ _⟩
 case round =>
  obtain ⟨i, ivs, avss, xa, xc, rfl, rfl, hi, hr⟩ := hrel
  generalize wr = wo at *
  have HRR : Hid _ := hr.out
  have HBO : Hid (BG w wo [.string nm, .slice pa pl pc, .int .u8 r, .slice va vl vc, .slice aa al ac, .slice ba n bc]) := HB3.out.below hr.out.1
  clear hr
  by_cases hin : i < m
  ·obtain ⟨k, hk, hkn⟩ := HOD2.out i hin
   obtain ⟨go, oo, hoe, hgo, co⟩ := HO3.out.get (i := i) (by rw [HMM.out]; exact hin)
   subst hoe
   rw [hk] at co
   have co' : wo.cell? ⟨go, oo + i, none⟩ = _ := (HRR.out.1.cell (p := ⟨go, oo + i, none⟩) hgo).trans co
   have hin' : (i : Int) < m := by omega
   have hkn' : (k : Int) < n := by omega
   go_wp2
   obtain ⟨gb, ob, iv, hbe, hgb, c0, c1, c2, c3, c4, c5, hins⟩ := HBS.out k hkn

   subst hbe
   obtain ⟨ia, ic, rfl, hil⟩ := hins.form
   obtain ⟨ga, oaa, ra, rc, hae, hga, ca, hrow⟩ := HA3.out.get (i := k) (by rw [HAN.out]; exact hkn)
   injection hae with hae
   injection hae with y1 y2
   subst y1 y2
   obtain ⟨nd1, nd2, nd3⟩ := HND.out k hkn
   obtain ⟨bi1, bi2⟩ := HBI.out k hkn
   have HT1 : Hid _ := HTK.out i hin k hk
   have hbw3 : ∀ W, Below w3.heap.size w3 W → Below w.heap.size w W := fun W hb => below_trans HB3.out.low hb
   have HSX : Hid (∀ W, Below w3.heap.size w3 W → W.cell? ⟨w.heap.size, 5, none⟩ = some (.slice (some ⟨gb, ob, none⟩) n bc) ∧ W.cell? ⟨gb, ob + k * 6, none⟩ = some (.slice ia (bs.getD k default).ins.length ic) ∧ W.cell? ⟨gb, ob + k * 6 + 1, none⟩ = some (.int .u8 (bs.getD k default).tm.kind) ∧ W.cell? ⟨gb, ob + k * 6 + 2, none⟩ = some (.int .i64 (bs.getD k default).tm.arg) ∧ W.cell? ⟨gb, ob + k * 6 + 3, none⟩ = some (.int .i64 (bs.getD k default).tm.t0) ∧ W.cell? ⟨gb, ob + k * 6 + 4, none⟩ = some (.int .i64 (bs.getD k default).tm.t1) ∧ W.cell? ⟨gb, ob + k * 6 + 5, none⟩ = some (.int .u8 (bs.getD k default).tm.trap) ∧ W.cell? ⟨w1.heap.size + 1, k, none⟩ = some (.slice ra (AH.getD k []).length rc)) := fun W hb => by
    have hc : ∀ j, W.cell? ⟨gb, j, none⟩ = w.cell? ⟨gb, j, none⟩ := fun j => (hbw3 W hb).cell (p := ⟨gb, j, none⟩) hgb
    refine ⟨(box6 (HB3.out.box.below hb)).2.2.2.2.2, (hc _).trans c0, (hc _).trans c1, (hc _).trans c2, (hc _).trans c3, (hc _).trans c4, (hc _).trans c5, ?_⟩
    rw [Nat.zero_add] at ca
    exact (hb.cell (p := ⟨w1.heap.size + 1, k, none⟩) hga).trans ca
   have HSY : Hid (∀ W, Below w3.heap.size w3 W → Calls Tryz.prog 30 #[.slice ra (AH.getD k []).length rc, .slice qa n qc] W fun e w' => ∃ v', e = .returned v' ∧ OwnI w' W.heap.size v' (stayP O (AH.getD k [])) ∧ Below W.heap.size W w') := fun W hb => staying_any O _ n _ _ W HNO.out nd1 (HP3.out.below hb) (hrow.below hb) nd2 (by omega)
   have HTY : Hid (∀ W sv, Below w3.heap.size w3 W → IntsAt W sv (stayP O (AH.getD k [])) → Calls Tryz.prog 29 #[.agg #[.slice ia (bs.getD k default).ins.length ic, .int .u8 (bs.getD k default).tm.kind, .int .i64 (bs.getD k default).tm.arg, .int .i64 (bs.getD k default).tm.t0, .int .i64 (bs.getD k default).tm.t1, .int .u8 (bs.getD k default).tm.trap], sv, .slice qa n qc] W fun e w' => ∃ iv' avs, e = .returned (.agg (blArr iv' (ledT O n (bs.getD k default).tm))) ∧ CI w' W.heap.size iv' ((bs.getD k default).ins.map (trimI (stayP O (AH.getD k [])))) avs ∧ Below W.heap.size W w') := fun W sv hb hsv => trimmed_any (bs.getD k default) _ sv _ O _ n W (hins.below (hbw3 W hb)) hsv (fun x hx => (stay_in x hx).1) (by have := stay_le (O := O) (ah := AH.getD k []); rw [HMM.out] at this; omega) (HP3.out.below hb) bi1 bi2
   have HSL : Hid ((stayP O (AH.getD k [])).length ≤ 1000000) := by show _ ≤ _; have := stay_le (O := O) (ah := AH.getD k []); rw [HMM.out] at this; omega
   have HTB : Hid (trimB O n (AH.getD k []) (bs.getD k default) = ⟨(bs.getD k default).ins.map (trimI (stayP O (AH.getD k []))), ledT O n (bs.getD k default).tm⟩) := rfl
   clear HBS HA3 HND HBI HTK HOD2 HO3 hins hrow nd1 nd2 nd3 bi1 bi2 c0 c1 c2 c3 c4 c5 ca hk co co'
   generalize bs.getD k default = X at *
   generalize AH.getD k [] = ahk at *
   obtain ⟨L, tk, ta, t0, t1, tt⟩ := X
   dsimp only at *
   generalize hLL : L.length = il at *
   generalize ahk.length = al9 at *
   generalize hled : ledT O n ⟨tk, ta, t0, t1, tt⟩ = LT at *
   obtain ⟨sk, sarg, s0', s1', strap⟩ := LT
   have HRL : Hid (wo.ownsRow w3.heap.size 49 6 (.slice xa i xc) i (blsCells ((O.take i).map (fun a => trimB O n (AH.getD a.toNat []) (bs.getD a.toNat default))) ivs)) := by have h9 := HRR.out.2.row; rw [HLT.out i hi] at h9; exact h9
   have HLI : Hid (((O.take i).map (fun a => trimB O n (AH.getD a.toNat []) (bs.getD a.toNat default))).length = i) := HLT.out i hi
   generalize hBB : (O.take i).map (fun a => trimB O n (AH.getD a.toNat []) (bs.getD a.toNat default)) = BBS at *
   refine wp_region_late (fun W => W.cell? ⟨w.heap.size, 5, none⟩ = some (.slice (some ⟨gb, ob, none⟩) n bc) ∧ W.cell? ⟨gb, ob + k * 6, none⟩ = some (.slice ia il ic) ∧ W.cell? ⟨gb, ob + k * 6 + 1, none⟩ = some (.int .u8 tk) ∧ W.cell? ⟨gb, ob + k * 6 + 2, none⟩ = some (.int .i64 ta) ∧ W.cell? ⟨gb, ob + k * 6 + 3, none⟩ = some (.int .i64 t0) ∧ W.cell? ⟨gb, ob + k * 6 + 4, none⟩ = some (.int .i64 t1) ∧ W.cell? ⟨gb, ob + k * 6 + 5, none⟩ = some (.int .u8 tt) ∧ W.cell? ⟨w1.heap.size + 1, k, none⟩ = some (.slice ra al9 rc)) (fun _ => false) (by kernel_rfl) (HSX.out _ (below_drew HRR.out.1)) (fun hHeld => ?_)
   refine wpAnyL_take 0 (v := ?_) rfl (by kernel_rfl) (by kernel_rfl) (by kernel_rfl) (by kernel_rfl) (fun _ _ _ h => h) hHeld (Or.inl ⟨by rfl, ?_⟩) ?_
   rotate_left 1
   ·(intro w hSw; (try dsimp only at hSw); (try obtain ⟨s0, s1, s2, s3, s4, s5, s6, s7⟩ := hSw); first | (go_simp; done) | (go_simp; with_reducible rfl))
   simp only [Act.put, List.setIfInBounds_toArray]
   refine wpAnyL_take 1 (v := ?_) rfl (by kernel_rfl) (by kernel_rfl) (by kernel_rfl) (by kernel_rfl) (fun _ _ _ h => h) hHeld (Or.inl ⟨by rfl, ?_⟩) ?_
   rotate_left 1
   ·(intro w hSw; (try dsimp only at hSw); (try obtain ⟨s0, s1, s2, s3, s4, s5, s6, s7⟩ := hSw); first | (go_simp; done) | (go_simp; with_reducible rfl))
   simp only [Act.put]
   refine wpAnyL_take 2 (v := ?_) rfl (by kernel_rfl) (by kernel_rfl) (by kernel_rfl) (by kernel_rfl) (fun _ _ _ h => h) hHeld (Or.inl ⟨by rfl, ?_⟩) ?_
   rotate_left 1
   ·(intro w hSw; (try dsimp only at hSw); (try obtain ⟨s0, s1, s2, s3, s4, s5, s6, s7⟩ := hSw); first | (go_simp; done) | (go_simp; with_reducible rfl))
   simp only [Act.put]
   refine wpAnyL_take 3 (v := ?_) rfl (by kernel_rfl) (by kernel_rfl) (by kernel_rfl) (by kernel_rfl) (fun _ _ _ h => h) hHeld (Or.inl ⟨by rfl, ?_⟩) ?_
   rotate_left 1
   ·(intro w hSw; (try dsimp only at hSw); (try obtain ⟨s0, s1, s2, s3, s4, s5, s6, s7⟩ := hSw); first | (go_simp; done) | (go_simp; with_reducible rfl))
   simp only [Act.put]
   refine wpAnyL_take 4 (v := ?_) rfl (by kernel_rfl) (by kernel_rfl) (by kernel_rfl) (by kernel_rfl) (fun _ _ _ h => h) hHeld (Or.inl ⟨by rfl, ?_⟩) ?_
   rotate_left 1
   ·(intro w hSw; (try dsimp only at hSw); (try obtain ⟨s0, s1, s2, s3, s4, s5, s6, s7⟩ := hSw); first | (go_simp; done) | (go_simp; with_reducible rfl))
   simp only [Act.put]
   refine wpAnyL_take 5 (v := ?_) rfl (by kernel_rfl) (by kernel_rfl) (by kernel_rfl) (by kernel_rfl) (fun _ _ _ h => h) hHeld (Or.inl ⟨by rfl, ?_⟩) ?_
   rotate_left 1
   ·(intro w hSw; (try dsimp only at hSw); (try obtain ⟨s0, s1, s2, s3, s4, s5, s6, s7⟩ := hSw); first | (go_simp; done) | (go_simp; with_reducible rfl))
   simp only [Act.put]
   refine wpAnyL_take 6 (v := ?_) rfl (by kernel_rfl) (by kernel_rfl) (by kernel_rfl) (by kernel_rfl) (fun _ _ _ h => h) hHeld (Or.inl ⟨by rfl, ?_⟩) ?_
   rotate_left 1
   ·(intro w hSw; (try dsimp only at hSw); (try obtain ⟨s0, s1, s2, s3, s4, s5, s6, s7⟩ := hSw); first | (go_simp; done) | (go_simp; with_reducible rfl))
   simp only [Act.put]
   refine wpAnyL_take 7 (v := ?_) rfl (by kernel_rfl) (by kernel_rfl) (by kernel_rfl) (by kernel_rfl) (fun _ _ _ h => h) hHeld (Or.inl ⟨by rfl, ?_⟩) ?_
   rotate_left 1
   ·(intro w hSw; (try dsimp only at hSw); (try obtain ⟨s0, s1, s2, s3, s4, s5, s6, s7⟩ := hSw); first | (go_simp; done) | (go_simp; with_reducible rfl))
   simp only [Act.put]
   refine wpAnyL_take 8 (v := ?_) rfl (by kernel_rfl) (by kernel_rfl) (by kernel_rfl) (by kernel_rfl) (fun _ _ _ h => h) hHeld (Or.inl ⟨by rfl, ?_⟩) ?_
   rotate_left 1
   ·(intro w hSw; (try dsimp only at hSw); (try obtain ⟨s0, s1, s2, s3, s4, s5, s6, s7⟩ := hSw); first | (go_simp; done) | (go_simp; with_reducible rfl))
   simp only [Act.put]
   refine wpAnyL_take 9 (v := ?_) rfl (by kernel_rfl) (by kernel_rfl) (by kernel_rfl) (by kernel_rfl) (fun _ _ _ h => h) hHeld (Or.inl ⟨by rfl, ?_⟩) ?_
   rotate_left 1
   ·(intro w hSw; (try dsimp only at hSw); (try obtain ⟨s0, s1, s2, s3, s4, s5, s6, s7⟩ := hSw); first | (go_simp; done) | (go_simp; with_reducible rfl))
   simp only [Act.put]
   refine wpAnyL_take 10 (v := ?_) rfl (by kernel_rfl) (by kernel_rfl) (by kernel_rfl) (by kernel_rfl) (fun _ _ _ h => h) hHeld (Or.inl ⟨by rfl, ?_⟩) ?_
   rotate_left 1
   ·(intro w hSw; (try dsimp only at hSw); (try obtain ⟨s0, s1, s2, s3, s4, s5, s6, s7⟩ := hSw); first | (go_simp; done) | (go_simp; with_reducible rfl))
   simp only [Act.put]
   refine wpAnyL_take 12 (v := ?_) rfl (by kernel_rfl) (by kernel_rfl) (by kernel_rfl) (by kernel_rfl) (fun _ _ _ h => h) hHeld (Or.inl ⟨by rfl, ?_⟩) ?_
   rotate_left 1
   ·(intro w hSw; (try dsimp only at hSw); (try obtain ⟨s0, s1, s2, s3, s4, s5, s6, s7⟩ := hSw); first | (go_simp; done) | (go_simp; with_reducible rfl))
   simp only [Act.put]
   have HBD : Hid (Below w3.heap.size w3 wo.drew) := below_drew HRR.out.1
   have HRD : Hid (wo.drew.ownsRow w3.heap.size 49 6 (.slice xa i xc) i (blsCells BBS ivs)) := owns_below HRL.out (below_drew (Below.refl _ _))
   clear hHeld
   refine wpAnyL_one 11 (by kernel_rfl) rfl (fun K hK0 => ?_)
   have hK : Shut _ := hK0
   clear hK0
   go_simp
   refine Calls.mono (by exact HSY.out _ HBD.out) ?_
   rintro e w4 ⟨sv, rfl, ho4, hb4⟩
   have HB4 : Hid (Below w3.heap.size w3 w4) := below_trans HBD.out hb4
   have HS4 : Hid (IntsAt w4 sv (stayP O ahk)) := OwnI.at' ho4 (by have := HSL.out; omega)
   have HR4 : Hid (w4.ownsRow w3.heap.size 49 6 (.slice xa i xc) i (blsCells BBS ivs)) := owns_below HRD.out hb4
   have HW4 : Hid (Below wo.heap.size wo w4) := below_trans (below_drew (Below.refl _ _)) hb4
   have hHeld := HSX.out _ HB4.out
   clear ho4 hb4
   dsimp only
   refine hK.out _ _ (fun _ => hHeld) ?_
   clear hK K
   clear hHeld
   refine wpAnyL_one 13 (by kernel_rfl) rfl (fun K hK0 => ?_)
   have hK : Shut _ := hK0
   clear hK0
   go_simp
   refine Calls.mono (by exact HTY.out _ _ HB4.out HS4.out) ?_
   rintro e w5 ⟨iv5, avs5, rfl, hci5, hb5⟩
   obtain ⟨ja, jc, rfl⟩ : ∃ ja jc, iv5 = .slice ja il jc := (by have h9 := hci5.row; rw [List.length_map, hLL] at h9; obtain ⟨ya, yc, hv, _⟩ := own_blk (Nat.le_refl _) h9; exact ⟨ya, yc, hv⟩)
   have HB5 : Hid (Below w3.heap.size w3 w5) := below_trans HB4.out hb5
   have HR5 : Hid (w5.ownsRow w3.heap.size 49 6 (.slice xa i xc) i (blsCells BBS ivs)) := owns_below HR4.out hb5
   have HW5 : Hid (Below wo.heap.size wo w5) := below_trans HW4.out hb5
   have HC5 : Hid (CI w5 wo.heap.size (.slice ja il jc) (L.map (trimI (stayP O ahk))) avs5) := hci5.low HW4.out.size
   have hHeld := HSX.out _ HB5.out
   clear hci5 hb5
   dsimp only
   refine hK.out _ _ (fun _ => hHeld) ?_
   clear hK K
   clear hHeld
   refine wpAnyL_one 14 (by kernel_rfl) rfl (fun K hK0 => ?_)
   have hK : Shut _ := hK0
   clear hK0
   go_simp
   have hHeld := HSX.out _ (below_alloc HB5.out (.cells #[.slice ja il jc, .int .u8 sk, .int .i64 sarg, .int .i64 s0', .int .i64 s1', .int .u8 strap] 49))
   refine hK.out _ _ (fun _ => hHeld) ?_
   clear hK K
   clear hHeld
   obtain ⟨g7, c7, w7, hrun, ho7, hg7, hat7⟩ := app_bl (w5.alloc (.cells #[.slice ja il jc, .int .u8 sk, .int .i64 sarg, .int .i64 s0', .int .i64 s1', .int .u8 strap] 49)) w3.heap.size (.slice xa i xc) i (blsCells BBS ivs) (blCells ⟨L.map (trimI (stayP O ahk)), ⟨sk, sarg, s0', s1', strap⟩⟩ (.slice ja il jc)) (owns_below HR5.out (below_alloc (Below.refl _ _) _)) w5.heap.size (fun j u hj => (Box.new w5 (blCells ⟨L.map (trimI (stayP O ahk)), ⟨sk, sarg, s0', s1', strap⟩⟩ (.slice ja il jc)) 49).cell j u hj) rfl (bl_cells_one rfl) (by omega) (by have := HB5.out.size; simp; omega)
   have HA5 : Hid (Below wo.heap.size wo (w5.alloc (.cells #[.slice ja il jc, .int .u8 sk, .int .i64 sarg, .int .i64 s0', .int .i64 s1', .int .u8 strap] 49))) := below_alloc HW5.out _
   have HB7 : Hid (Below w3.heap.size w3 w7) := below_grown (below_alloc HB5.out _) hg7 (fun q hq => (HR5.out.lt q hq).1)
   have HN : Hid (Below w3.heap.size w3 w7 ∧ CB w7 w3.heap.size (.slice (some ⟨g7, 0, none⟩) (i + 1) c7) ((O.take (i + 1)).map (fun a => trimB O n (AH.getD a.toNat []) (bs.getD a.toNat default))) (ivs ++ [.slice ja il jc]) (avss ++ [avs5])) := by
    refine ⟨HB7.out, ?_⟩
    rw [HT1.out, HTB.out]
    exact CB.push HRR.out.2 HA5.out (HC5.out.below (below_alloc (Below.refl _ _) _)) HRR.out.1.size (by rw [HLI.out]; exact ho7) hg7 hat7
   refine wpAnyL_one 15 (by kernel_rfl) rfl (fun K hK0 => ?_)
   have hK : Shut _ := hK0
   clear hK0
   refine step_append_run rfl _ _ _ rfl _ _ _ _ rfl rfl hrun (hK.out _ _ (fun _ => HSX.out _ HB7.out) ?_)
   clear hK K hrun ho7 hg7 hat7
   simp only [Act.put]
   refine wpAnyL_one 16 (by kernel_rfl) rfl (fun K hK0 => ?_)
   have hK : Shut _ := hK0
   clear hK0
   go_simp
   have hHeld := HSX.out _ HB7.out
   refine hK.out _ _ (fun _ => hHeld) ?_
   clear hK K
   clear hHeld
   refine ⟨by kernel_rfl, ?_⟩
   go_simp
   go_wp2
   go_roundw
   case rel => exact ⟨i + 1, _, _, _, _, by first | rfl | (congr 1; omega), rfl, by omega, HN.out.1, HN.out.2⟩
   case measure => simp [intOf]; omega
  ·obtain rfl : i = m := by omega
   have HCC : Hid (CB wo w3.heap.size (.slice xa i xc) (trimBs bs) ivs avss) := by show CB _ _ _ _ _ _; rw [← HTF.out]; exact HRR.out.2
   have hw3 : w.heap.size + 2 ≤ w3.heap.size := HB3.out.sz
   have HSO : Hid (w3.heap.size ≤ wo.heap.size) := HRR.out.1.size
   obtain ⟨d0, d1, d2, d3, d4, d5⟩ := box6 HBO.out.box
   have hdl := HBO.out.box.lt
   have hdf := HBO.out.box.fz 5
   have HBX : Hid (BG w (wo.setCell ⟨w.heap.size, 5, none⟩ (.slice xa i xc)) [.string nm, .slice pa pl pc, .int .u8 r, .slice va vl vc, .slice aa al ac, .slice xa i xc]) := HBO.out.set 5 (by simp) _
   have HCX : Hid (CB (wo.setCell ⟨w.heap.size, 5, none⟩ (.slice xa i xc)) w3.heap.size (.slice xa i xc) (trimBs bs) ivs avss) := HCC.out.same fun g hg => Below.heap_setCell wo ⟨w.heap.size, 5, none⟩ _ g (by show g ≠ w.heap.size; omega)
   clear HRR HBS HA3 HND HBI HTK HOD2 HO3 HTF HLT HP3 HCC HBO HMM
   have HSW : Hid (w3.heap.size ≤ (wo.setCell ⟨w.heap.size, 5, none⟩ (.slice xa i xc)).drew.heap.size) := by show _ ≤ _; have := HSO.out; simpa [World.setCell, World.drew] using this
   go_wp2
   generalize wo.setCell ⟨w.heap.size, 5, none⟩ (.slice xa i xc) = W8 at *
   refine wp_region_late (fun W => W.cell? ⟨w.heap.size, 0, none⟩ = some (.string nm) ∧ W.cell? ⟨w.heap.size, 1, none⟩ = some (.slice pa pl pc) ∧ W.cell? ⟨w.heap.size, 2, none⟩ = some (.int .u8 r) ∧ W.cell? ⟨w.heap.size, 3, none⟩ = some (.slice va vl vc) ∧ W.cell? ⟨w.heap.size, 4, none⟩ = some (.slice aa al ac) ∧ W.cell? ⟨w.heap.size, 5, none⟩ = some (.slice xa i xc)) (fun j => decide (10 ≤ j)) (by kernel_rfl) (box6 (HBX.out.below (below_drew (Below.refl _ _))).box) (fun hHeld => ?_)
   have HB8 : Hid (BG w W8.drew [.string nm, .slice pa pl pc, .int .u8 r, .slice va vl vc, .slice aa al ac, .slice xa i xc]) := HBX.out.below (below_drew (Below.refl _ _))
   have HC8 : Hid (CB W8.drew w3.heap.size (.slice xa i xc) (trimBs bs) ivs avss) := HCX.out.below (below_drew (Below.refl _ _))
   have hs8 : w3.heap.size ≤ W8.drew.heap.size := HSW.out
   clear HBX HCX
   generalize W8.drew = W9 at *
   refine wpAnyL_take 0 (v := ?_) rfl (by kernel_rfl) (by kernel_rfl) (by kernel_rfl) (by kernel_rfl) (fun _ _ _ h => h) hHeld (Or.inl ⟨by rfl, ?_⟩) ?_
   rotate_left 1
   ·(intro w hSw; (try dsimp only at hSw); (try obtain ⟨s0, s1, s2, s3, s4, s5⟩ := hSw); first | (go_simp; done) | (go_simp; with_reducible rfl))
   simp only [Act.put, List.setIfInBounds_toArray]
   refine wpAnyL_take 1 (v := ?_) rfl (by kernel_rfl) (by kernel_rfl) (by kernel_rfl) (by kernel_rfl) (fun _ _ _ h => h) hHeld (Or.inl ⟨by rfl, ?_⟩) ?_
   rotate_left 1
   ·(intro w hSw; (try dsimp only at hSw); (try obtain ⟨s0, s1, s2, s3, s4, s5⟩ := hSw); first | (go_simp; done) | (go_simp; with_reducible rfl))
   simp only [Act.put]
   refine wpAnyL_take 3 (v := ?_) rfl (by kernel_rfl) (by kernel_rfl) (by kernel_rfl) (by kernel_rfl) (fun _ _ _ h => h) hHeld (Or.inl ⟨by rfl, ?_⟩) ?_
   rotate_left 1
   ·(intro w hSw; (try dsimp only at hSw); (try obtain ⟨s0, s1, s2, s3, s4, s5⟩ := hSw); first | (go_simp; done) | (go_simp; with_reducible rfl))
   simp only [Act.put]
   refine wpAnyL_take 4 (v := ?_) rfl (by kernel_rfl) (by kernel_rfl) (by kernel_rfl) (by kernel_rfl) (fun _ _ _ h => h) hHeld (Or.inl ⟨by rfl, ?_⟩) ?_
   rotate_left 1
   ·(intro w hSw; (try dsimp only at hSw); (try obtain ⟨s0, s1, s2, s3, s4, s5⟩ := hSw); first | (go_simp; done) | (go_simp; with_reducible rfl))
   simp only [Act.put]
   refine wpAnyL_take 6 (v := ?_) rfl (by kernel_rfl) (by kernel_rfl) (by kernel_rfl) (by kernel_rfl) (fun _ _ _ h => h) hHeld (Or.inl ⟨by rfl, ?_⟩) ?_
   rotate_left 1
   ·(intro w hSw; (try dsimp only at hSw); (try obtain ⟨s0, s1, s2, s3, s4, s5⟩ := hSw); first | (go_simp; done) | (go_simp; with_reducible rfl))
   simp only [Act.put]
   refine wpAnyL_take 7 (v := ?_) rfl (by kernel_rfl) (by kernel_rfl) (by kernel_rfl) (by kernel_rfl) (fun _ _ _ h => h) hHeld (Or.inl ⟨by rfl, ?_⟩) ?_
   rotate_left 1
   ·(intro w hSw; (try dsimp only at hSw); (try obtain ⟨s0, s1, s2, s3, s4, s5⟩ := hSw); first | (go_simp; done) | (go_simp; with_reducible rfl))
   simp only [Act.put]
   clear hHeld
   have HQ1 : Hid (∀ W, Below w.heap.size w W → Calls Tryz.prog 31 #[.slice pa pl pc] W fun e w' => ∃ v', e = .returned v' ∧ w'.ownsRow W.heap.size 3 1 v' pl (ps.map intV) ∧ Below W.heap.size W w') := fun W hb => HC1.out W hb
   have HQ2 : Hid (∀ W, Below w.heap.size w W → Calls Tryz.prog 32 #[.slice va vl vc] W fun e w' => ∃ v', e = .returned v' ∧ w'.ownsRow W.heap.size 23 1 v' vl (vs.map bytV) ∧ Below W.heap.size W w') := fun W hb => HC2.out W hb
   have HQ3 : Hid (∀ W, Below w.heap.size w W → Calls Tryz.prog 33 #[.slice aa al ac] W fun e w' => ∃ v', e = .returned v' ∧ w'.ownsRow W.heap.size 51 2 v' al (arrCells ars) ∧ Below W.heap.size W w') := fun W hb => HC3.out W hb
   refine wpAnyL_one 2 (by kernel_rfl) rfl (fun K hK0 => ?_)
   have hK : Shut _ := hK0
   clear hK0
   go_simp
   refine Calls.mono (by exact HQ1.out _ HB8.out.low) ?_
   rintro e w10 ⟨v10, rfl, ho10, hb10⟩
   obtain ⟨p1, p2, rfl⟩ : ∃ p1 p2, v10 = .slice p1 pl p2 := (by obtain ⟨ya, yc, hv, _⟩ := own_blk (Nat.le_refl _) ho10; exact ⟨ya, yc, hv⟩)
   have HB10 : Hid (BG w w10 [.string nm, .slice pa pl pc, .int .u8 r, .slice va vl vc, .slice aa al ac, .slice xa i xc]) := HB8.out.below hb10
   have HC10 : Hid (CB w10 w3.heap.size (.slice xa i xc) (trimBs bs) ivs avss) := HC8.out.below hb10
   have HO10 : Hid (OW w10 w3.heap.size 3 1 (.slice p1 pl p2) pl (ps.map intV)) := ⟨own_mono ho10 hs8⟩
   have hs10 : w3.heap.size ≤ w10.heap.size := Nat.le_trans hs8 hb10.size
   have hHeld := box6 HB10.out.box
   clear ho10 hb10
   dsimp only
   refine hK.out _ _ (fun _ => hHeld) ?_
   clear hK K
   refine wpAnyL_take 9 (v := ?_) rfl (by kernel_rfl) (by kernel_rfl) (by kernel_rfl) (by kernel_rfl) (fun _ _ _ h => h) hHeld (Or.inl ⟨by rfl, ?_⟩) ?_
   rotate_left 1
   ·(intro w hSw; (try dsimp only at hSw); (try obtain ⟨s0, s1, s2, s3, s4, s5⟩ := hSw); first | (go_simp; done) | (go_simp; with_reducible rfl))
   simp only [Act.put]
   clear hHeld
   refine wpAnyL_one 5 (by kernel_rfl) rfl (fun K hK0 => ?_)
   have hK : Shut _ := hK0
   clear hK0
   go_simp
   refine Calls.mono (by exact HQ2.out _ HB10.out.low) ?_
   rintro e w11 ⟨v11, rfl, ho11, hb11⟩
   obtain ⟨t1, t2, rfl⟩ : ∃ t1 t2, v11 = .slice t1 vl t2 := (by obtain ⟨ya, yc, hv, _⟩ := own_blk (Nat.le_refl _) ho11; exact ⟨ya, yc, hv⟩)
   have HB11 : Hid (BG w w11 [.string nm, .slice pa pl pc, .int .u8 r, .slice va vl vc, .slice aa al ac, .slice xa i xc]) := HB10.out.below hb11
   have HC11 : Hid (CB w11 w3.heap.size (.slice xa i xc) (trimBs bs) ivs avss) := HC10.out.below hb11
   have HO11 : Hid (OW w11 w3.heap.size 3 1 (.slice p1 pl p2) pl (ps.map intV) ∧ OW w11 w3.heap.size 23 1 (.slice t1 vl t2) vl (vs.map bytV)) := ⟨HO10.out.below hb11, ⟨own_mono ho11 hs10⟩⟩
   have hs11 : w3.heap.size ≤ w11.heap.size := Nat.le_trans hs10 hb11.size
   have hHeld := box6 HB11.out.box
   clear ho11 hb11
   dsimp only
   refine hK.out _ _ (fun _ => hHeld) ?_
   clear hK K
   clear hHeld
   refine wpAnyL_one 8 (by kernel_rfl) rfl (fun K hK0 => ?_)
   have hK : Shut _ := hK0
   clear hK0
   go_simp
   refine Calls.mono (by exact HQ3.out _ HB11.out.low) ?_
   rintro e w12 ⟨v12, rfl, ho12, hb12⟩
   obtain ⟨a1, a2, rfl⟩ : ∃ a1 a2, v12 = .slice a1 al a2 := (by obtain ⟨ya, yc, hv, _⟩ := own_blk (Nat.le_refl _) ho12; exact ⟨ya, yc, hv⟩)
   have HB12 : Hid (BG w w12 [.string nm, .slice pa pl pc, .int .u8 r, .slice va vl vc, .slice aa al ac, .slice xa i xc]) := HB11.out.below hb12
   have HC12 : Hid (CB w12 w3.heap.size (.slice xa i xc) (trimBs bs) ivs avss) := HC11.out.below hb12
   have HO12 : Hid (OW w12 w3.heap.size 3 1 (.slice p1 pl p2) pl (ps.map intV) ∧ OW w12 w3.heap.size 23 1 (.slice t1 vl t2) vl (vs.map bytV) ∧ OW w12 w3.heap.size 51 2 (.slice a1 al a2) al (arrCells ars)) := ⟨HO11.out.1.below hb12, HO11.out.2.below hb12, ⟨own_mono ho12 hs11⟩⟩
   have hHeld := box6 HB12.out.box
   clear ho12 hb12
   dsimp only
   refine hK.out _ _ (fun _ => hHeld) ?_
   clear hK K
   clear hHeld
   obtain ⟨k0, k1, k2, k3, k4, k5⟩ := box6 HB12.out.box
   have kf := HB12.out.box.fz
   refine wpAnyL_one 10 (by kernel_rfl) rfl (fun K hK0 => ?_)
   have hK : Shut _ := hK0
   clear hK0
   go_simp
   refine hK.out _ _ (fun h => absurd h (by decide)) ?_
   clear hK K
   have HB13 : Hid (BG w (w12.setCell ⟨w.heap.size, 1, none⟩ (.slice p1 pl p2)) [.string nm, .slice p1 pl p2, .int .u8 r, .slice va vl vc, .slice aa al ac, .slice xa i xc]) := HB12.out.set 1 (by simp) _
   have HO13 : Hid (OW (w12.setCell ⟨w.heap.size, 1, none⟩ (.slice p1 pl p2)) w3.heap.size 3 1 (.slice p1 pl p2) pl (ps.map intV) ∧ OW (w12.setCell ⟨w.heap.size, 1, none⟩ (.slice p1 pl p2)) w3.heap.size 23 1 (.slice t1 vl t2) vl (vs.map bytV) ∧ OW (w12.setCell ⟨w.heap.size, 1, none⟩ (.slice p1 pl p2)) w3.heap.size 51 2 (.slice a1 al a2) al (arrCells ars) ∧ CB (w12.setCell ⟨w.heap.size, 1, none⟩ (.slice p1 pl p2)) w3.heap.size (.slice xa i xc) (trimBs bs) ivs avss) := ⟨BG.own HO12.out.1 (by omega) _ _, BG.own HO12.out.2.1 (by omega) _ _, BG.own HO12.out.2.2 (by omega) _ _, HC12.out.same fun g hg => Below.heap_setCell w12 ⟨w.heap.size, 1, none⟩ _ g (by show g ≠ w.heap.size; omega)⟩
   clear HB12 HO12 HC12 k0 k1 k2 k3 k4 k5 kf
   generalize w12.setCell ⟨w.heap.size, 1, none⟩ (.slice p1 pl p2) = w13 at *
   obtain ⟨k0, k1, k2, k3, k4, k5⟩ := box6 HB13.out.box
   have kf := HB13.out.box.fz
   refine wpAnyL_one 11 (by kernel_rfl) rfl (fun K hK0 => ?_)
   have hK : Shut _ := hK0
   clear hK0
   go_simp
   refine hK.out _ _ (fun h => absurd h (by decide)) ?_
   clear hK K
   refine wpAnyL_one 12 (by kernel_rfl) rfl (fun K hK0 => ?_)
   have hK : Shut _ := hK0
   clear hK0
   go_simp
   refine hK.out _ _ (fun h => absurd h (by decide)) ?_
   clear hK K
   have HB14 : Hid (BG w (w13.setCell ⟨w.heap.size, 3, none⟩ (.slice t1 vl t2)) [.string nm, .slice p1 pl p2, .int .u8 r, .slice t1 vl t2, .slice aa al ac, .slice xa i xc]) := HB13.out.set 3 (by simp) _
   have HO14 : Hid (OW (w13.setCell ⟨w.heap.size, 3, none⟩ (.slice t1 vl t2)) w3.heap.size 3 1 (.slice p1 pl p2) pl (ps.map intV) ∧ OW (w13.setCell ⟨w.heap.size, 3, none⟩ (.slice t1 vl t2)) w3.heap.size 23 1 (.slice t1 vl t2) vl (vs.map bytV) ∧ OW (w13.setCell ⟨w.heap.size, 3, none⟩ (.slice t1 vl t2)) w3.heap.size 51 2 (.slice a1 al a2) al (arrCells ars) ∧ CB (w13.setCell ⟨w.heap.size, 3, none⟩ (.slice t1 vl t2)) w3.heap.size (.slice xa i xc) (trimBs bs) ivs avss) := ⟨BG.own HO13.out.1 (by omega) _ _, BG.own HO13.out.2.1 (by omega) _ _, BG.own HO13.out.2.2.1 (by omega) _ _, HO13.out.2.2.2.same fun g hg => Below.heap_setCell w13 ⟨w.heap.size, 3, none⟩ _ g (by show g ≠ w.heap.size; omega)⟩
   clear HB13 HO13 k0 k1 k2 k3 k4 k5 kf
   generalize w13.setCell ⟨w.heap.size, 3, none⟩ (.slice t1 vl t2) = w14 at *
   obtain ⟨k0, k1, k2, k3, k4, k5⟩ := box6 HB14.out.box
   have kf := HB14.out.box.fz
   refine wpAnyL_one 13 (by kernel_rfl) rfl (fun K hK0 => ?_)
   have hK : Shut _ := hK0
   clear hK0
   go_simp
   refine hK.out _ _ (fun h => absurd h (by decide)) ?_
   clear hK K
   refine wpAnyL_one 14 (by kernel_rfl) rfl (fun K hK0 => ?_)
   have hK : Shut _ := hK0
   clear hK0
   go_simp
   refine hK.out _ _ (fun h => absurd h (by decide)) ?_
   clear hK K
   have HB15 : Hid (BG w (w14.setCell ⟨w.heap.size, 4, none⟩ (.slice a1 al a2)) [.string nm, .slice p1 pl p2, .int .u8 r, .slice t1 vl t2, .slice a1 al a2, .slice xa i xc]) := HB14.out.set 4 (by simp) _
   have HO15 : Hid (OW (w14.setCell ⟨w.heap.size, 4, none⟩ (.slice a1 al a2)) w3.heap.size 3 1 (.slice p1 pl p2) pl (ps.map intV) ∧ OW (w14.setCell ⟨w.heap.size, 4, none⟩ (.slice a1 al a2)) w3.heap.size 23 1 (.slice t1 vl t2) vl (vs.map bytV) ∧ OW (w14.setCell ⟨w.heap.size, 4, none⟩ (.slice a1 al a2)) w3.heap.size 51 2 (.slice a1 al a2) al (arrCells ars) ∧ CB (w14.setCell ⟨w.heap.size, 4, none⟩ (.slice a1 al a2)) w3.heap.size (.slice xa i xc) (trimBs bs) ivs avss) := ⟨BG.own HO14.out.1 (by omega) _ _, BG.own HO14.out.2.1 (by omega) _ _, BG.own HO14.out.2.2.1 (by omega) _ _, HO14.out.2.2.2.same fun g hg => Below.heap_setCell w14 ⟨w.heap.size, 4, none⟩ _ g (by show g ≠ w.heap.size; omega)⟩
   clear HB14 HO14 k0 k1 k2 k3 k4 k5 kf
   generalize w14.setCell ⟨w.heap.size, 4, none⟩ (.slice a1 al a2) = w15 at *
   obtain ⟨k0, k1, k2, k3, k4, k5⟩ := box6 HB15.out.box
   have klt := HB15.out.box.lt
   obtain ⟨z0, z1, z2, z3, z4, z5⟩ := box6 HB15.out.rbx
   have zf := HB15.out.rbx.fz
   have zlt := HB15.out.rbx.lt
   refine ⟨by kernel_rfl, ?_⟩
   go_simp
   go_wp2
   obtain ⟨q1, q2, q3⟩ := six_end (r := w.heap.size + 1) HB15.out.low (by omega) HB15.out.res (.string nm) (.slice p1 pl p2) (.int .u8 r) (.slice t1 vl t2) (.slice a1 al a2) (.slice xa i xc)
   refine bodyPost_ret (results_cell_row rfl _ _ (w.heap.size + 1) 28 #[.string nm, .slice p1 pl p2, .int .u8 r, .slice t1 vl t2, .slice a1 al a2, .slice xa i xc] _ _ rfl q2 Tryz.underlying28 rfl (by rfl)) rfl ⟨.slice p1 pl p2, .slice t1 vl t2, .slice a1 al a2, .slice xa i xc, rfl, ?_, q1⟩
   have hk9 : ∀ k, w3.heap.size ≤ k → (setSix w15 (w.heap.size + 1) (.string nm) (.slice p1 pl p2) (.int .u8 r) (.slice t1 vl t2) (.slice a1 al a2) (.slice xa i xc)).heap[k]? = w15.heap[k]? := fun k hk => q3 k (by omega)
   intro W hW
   have hkW : ∀ k, w3.heap.size ≤ k → k < w15.heap.size → W.heap[k]? = w15.heap[k]? := fun k h1 h2 => (hW k (by omega) (by simpa [World.setCell] using h2)).trans (hk9 k h1)
   have o1 := owns_same HO15.out.1.own fun g hg => hkW g (HO15.out.1.own.lt g hg).1 (HO15.out.1.own.lt g hg).2
   have o2 := owns_same HO15.out.2.1.own fun g hg => hkW g (HO15.out.2.1.own.lt g hg).1 (HO15.out.2.1.own.lt g hg).2
   have o3 := owns_same HO15.out.2.2.1.own fun g hg => hkW g (HO15.out.2.2.1.own.lt g hg).1 (HO15.out.2.2.1.own.lt g hg).2
   have hcb := HO15.out.2.2.2
   have o4 : CB W w3.heap.size (.slice xa i xc) (trimBs bs) ivs avss := ⟨owns_same hcb.row fun g hg => hkW g (hcb.row.lt g hg).1 (hcb.row.lt g hg).2, hcb.al, hcb.vl, fun i b iv avs e1 e2 e3 => (hcb.kid i b iv avs e1 e2 e3).same fun g hg => hkW g ((hcb.kid i b iv avs e1 e2 e3).lt hg).1 ((hcb.kid i b iv avs e1 e2 e3).lt hg).2, hcb.ap, hcb.pw⟩
   obtain ⟨e1, e2, e3⟩ := HPN.out
   refine ⟨?_, ?_, ?_, HTR.out _ _ _ _ _ o4⟩
   ·show RowAt _ _ ps.length (ps.map intV)
    rw [e1]
    exact row_own o1 hpl
   ·show RowAt _ _ vs.length (vs.map bytV)
    rw [e2]
    exact row_own o2 hml
   ·show RowAt _ _ ars.length (arrCells ars)
    rw [e3]
    exact row_own o3 hal
end Go.Proofs.YtobnpllppohofaaGreatDoor
