/- The document's copies: a graph. -/
import Derived.Test.YtobnpllppohofaaGreatDoorGRCpM
namespace Go.Proofs.YtobnpllppohofaaGreatDoor
open Go.RowKit

theorem app_in (w : World) (base : Nat) (v : Value) (i : Nat) (cs ys : List Value) (hown : w.ownsRow base 41 6 v i cs) (G : Nat) (hc : ∀ j u, ys[j]? = some u → w.cell? ⟨G, j, none⟩ = some u) (hy : ys.length = 6) (h1 : ∀ u ∈ ys, u.oneCell' = true) (hl : i ≤ 1000000) (hb : base ≤ w.heap.size) :
  ∃ g2 cc2 w', (Builtin.append_ #[42, 42] 42 #[v, .slice (some ⟨G, 0, none⟩) 1 1]).run Tryz.prog w = .ok (.slice (some ⟨g2, 0, none⟩) (i + 1) cc2) w' ∧ w'.ownsRow base 41 6 (.slice (some ⟨g2, 0, none⟩) (i + 1) cc2) (i + 1) (cs ++ ys) ∧ w.grownBy w' v.ownBlock ∧ ((Value.slice (some ⟨g2, 0, none⟩) (i + 1) cc2).ownBlock = v.ownBlock ∨ (Value.slice (some ⟨g2, 0, none⟩) (i + 1) cc2).ownBlock = some w.heap.size) := by
 obtain ⟨i0, hi0, hz0, hz1, hz2⟩ := info_parts (P := Tryz.prog) infoIn
 obtain ⟨v', w', h1, h2, h3, _, h5⟩ := run_append_own_at (P := Tryz.prog) w base 42 42 41 i0 (.agg #[.int .u8 0, .int .u8 0, .int .i64 0, .slice none 0 0, .int .u64 0, .int .i64 0]) 6 56 Tryz.underlying42 hi0 hz0 hz1 hz2 rfl (by decide) v i cs hown ⟨G, 0, none⟩ 1 1 ys (by rw [hy]) (fun j u hj => by rw [Addr.add_lit, Nat.zero_add]; exact hc j u hj) h1 (by unfold maxLen; omega) (by omega) hb
 obtain ⟨g2, cc2, rfl, _, _, _, _⟩ := own_form h2
 exact ⟨g2, cc2, w', h1, h2, h3, h5⟩
set_option maxRecDepth 100000 in
set_option maxHeartbeats 8000000 in
theorem rcopy_any (G : Gr) (pv vv av bv : Value) (w : World) (h : GrAt w pv vv av bv G) (hpl : G.params.length ≤ 1000000) (hml : G.vars.length ≤ 1000000) (hal : G.arrs.length ≤ 1000000) (hl : G.blocks.length ≤ 1000000) (hli : ∀ b ∈ G.blocks, b.ins.length ≤ 1000000) (hla : ∀ b ∈ G.blocks, ∀ x ∈ b.ins, x.args.length ≤ 1000000) :
  Calls Tryz.prog 54 #[.agg #[.string G.name, pv, .int .u8 G.result, vv, av, bv]] w fun e w' => ∃ pv' vv' av' bv' B ivs avss, e = .returned (.agg #[.string G.name, pv', .int .u8 G.result, vv', av', bv']) ∧ CG w w' G B pv' vv' av' bv' ivs avss ∧ Below w.heap.size w w' ∧ B ≤ w'.heap.size := by
 obtain ⟨pa, pc, va, vc, aa, ac, ba, bc, rfl, rfl, rfl, rfl, _, _, _, _⟩ := h.openF
 have HP : Hid (∀ V S, V.heap.size = S → Below w.heap.size w V → ∃ xa xc w', (Builtin.append_ #[22, 22] 22 #[.slice (some ⟨S, 0, none⟩) 0 0, .slice pa G.params.length pc]).run Tryz.prog (V.alloc (.cells #[] 3)) = .ok (.slice xa G.params.length xc) w' ∧ w'.ownsRow V.heap.size 3 1 (.slice xa G.params.length xc) G.params.length (G.params.map intV) ∧ Below V.heap.size V w') := fun V S hS hb => by subst hS; exact app_litI V pa G.params.length pc _ (h.ps.below (below_alloc hb _)) (by simp) hpl (ints_one _)
 have HV : Hid (∀ V S, V.heap.size = S → Below w.heap.size w V → ∃ xa xc w', (Builtin.append_ #[24, 24] 24 #[.slice (some ⟨S, 0, none⟩) 0 0, .slice va G.vars.length vc]).run Tryz.prog (V.alloc (.cells #[] 23)) = .ok (.slice xa G.vars.length xc) w' ∧ w'.ownsRow V.heap.size 23 1 (.slice xa G.vars.length xc) G.vars.length (G.vars.map bytV) ∧ Below V.heap.size V w') := fun V S hS hb => by subst hS; exact app_litT V va G.vars.length vc _ (h.vs.below (below_alloc hb _)) (by simp) hml (tys_one _)
 have HA : Hid (∀ V S, V.heap.size = S → Below w.heap.size w V → ∃ xa xc w', (Builtin.append_ #[25, 25] 25 #[.slice (some ⟨S, 0, none⟩) 0 0, .slice aa G.arrs.length ac]).run Tryz.prog (V.alloc (.cells #[] 51)) = .ok (.slice xa G.arrs.length xc) w' ∧ w'.ownsRow V.heap.size 51 2 (.slice xa G.arrs.length xc) G.arrs.length (arrCells G.arrs) ∧ Below V.heap.size V w') := fun V S hS hb => by subst hS; exact app_litA V aa G.arrs.length ac _ (h.ars.below (below_alloc hb _)) (arrs_len _) hal (arrs_one _)
 have HBL : Hid (BlsAt w (.slice ba G.blocks.length bc) G.blocks) := h.bs
 clear h
 obtain ⟨nm, ps, r, vs, ars, bs⟩ := G
 dsimp only at *
 have HI : Hid (∀ i, i < bs.length → _) := fun i hi => HBL.out.get (i := i) hi
 have HLI : Hid (∀ i, i < bs.length → (bs.getD i default).ins.length ≤ 1000000) := fun i hi => hli _ (getD_memB hi)
 have HLA : Hid (∀ i, i < bs.length → ∀ j, j < (bs.getD i default).ins.length → ((bs.getD i default).ins.getD j default).args.length ≤ 1000000) := fun i hi j hj => hla _ (getD_memB hi) _ (getD_memI hj)
 have HTK : Hid (∀ i, i < bs.length → bs.take (i + 1) = bs.take i ++ [bs.getD i default]) := fun i hi => by
  rw [List.take_add_one, List.getElem?_eq_getElem hi, List.getD, List.getElem?_eq_getElem hi]; rfl
 have HTF : Hid (bs.take bs.length = bs) := List.take_length
 have HLT : Hid (∀ i, i ≤ bs.length → (bs.take i).length = i) := fun i hi => by rw [List.length_take]; omega
 clear hpl hml hal hli hla HBL
 generalize hp1 : ps.length = pl at *
 generalize hm1 : vs.length = vl at *
 generalize ha1 : ars.length = al at *
 generalize hn1 : bs.length = n at *
 have HLN : Hid (ps.length = pl ∧ vs.length = vl ∧ ars.length = al ∧ bs.length = n) := ⟨hp1, hm1, ha1, hn1⟩
 clear hp1 hm1 ha1 hn1
 have hl' : (n : Int) ≤ 1000000 := by omega
 have H1 : Hid (BG w ((w.alloc (.cells #[.string nm, .slice pa pl pc, .int .u8 r, .slice va vl vc, .slice aa al ac, .slice ba n bc] 28)).alloc (.cells #[.string ⟨#[]⟩, .slice none 0 0, .int .u8 0, .slice none 0 0, .slice none 0 0, .slice none 0 0] 28)) [.string nm, .slice pa pl pc, .int .u8 r, .slice va vl vc, .slice aa al ac, .slice ba n bc]) := BG.new w [.string nm, .slice pa pl pc, .int .u8 r, .slice va vl vc, .slice aa al ac, .slice ba n bc]
 have HSZ : Hid (((w.alloc (.cells #[.string nm, .slice pa pl pc, .int .u8 r, .slice va vl vc, .slice aa al ac, .slice ba n bc] 28)).alloc (.cells #[.string ⟨#[]⟩, .slice none 0 0, .int .u8 0, .slice none 0 0, .slice none 0 0, .slice none 0 0] 28)).heap.size = w.heap.size + 2) := by show _ = _; simp
 have HSC : Hid (∀ (V : World) (a : Addr) (u : Value), (V.setCell a u).heap.size = V.heap.size) := fun V a u => by simp [World.setCell]
 obtain ⟨xa, xc, w2, hrun1, hop, hb2⟩ := HP.out ((w.alloc (.cells #[.string nm, .slice pa pl pc, .int .u8 r, .slice va vl vc, .slice aa al ac, .slice ba n bc] 28)).alloc (.cells #[.string ⟨#[]⟩, .slice none 0 0, .int .u8 0, .slice none 0 0, .slice none 0 0, .slice none 0 0] 28)) (w.heap.size + 2) HSZ.out H1.out.low
 have HW2 : Hid (BG w w2 [.string nm, .slice pa pl pc, .int .u8 r, .slice va vl vc, .slice aa al ac, .slice ba n bc]) := H1.out.below hb2
 have HK2 : Hid (BG w (w2.setCell ⟨w.heap.size, 1, none⟩ (.slice xa pl xc)) [.string nm, .slice xa pl xc, .int .u8 r, .slice va vl vc, .slice aa al ac, .slice ba n bc]) := HW2.out.set 1 (by simp) _
 obtain ⟨ya, yc, w3, hrun2, hov, hb3⟩ := HV.out (w2.setCell ⟨w.heap.size, 1, none⟩ (.slice xa pl xc)) w2.heap.size (HSC.out _ _ _) HK2.out.low
 have HW3 : Hid (BG w w3 [.string nm, .slice xa pl xc, .int .u8 r, .slice va vl vc, .slice aa al ac, .slice ba n bc]) := HK2.out.below hb3
 have HK3 : Hid (BG w (w3.setCell ⟨w.heap.size, 3, none⟩ (.slice ya vl yc)) [.string nm, .slice xa pl xc, .int .u8 r, .slice ya vl yc, .slice aa al ac, .slice ba n bc]) := HW3.out.set 3 (by simp) _
 obtain ⟨za, zc, w4, hrun3, hoa, hb4⟩ := HA.out (w3.setCell ⟨w.heap.size, 3, none⟩ (.slice ya vl yc)) w3.heap.size (HSC.out _ _ _) HK3.out.low
 have HW4 : Hid (BG w w4 [.string nm, .slice xa pl xc, .int .u8 r, .slice ya vl yc, .slice aa al ac, .slice ba n bc]) := HK3.out.below hb4
 have HK4 : Hid (BG w (w4.setCell ⟨w.heap.size, 4, none⟩ (.slice za al zc)) [.string nm, .slice xa pl xc, .int .u8 r, .slice ya vl yc, .slice za al zc, .slice ba n bc]) := HW4.out.set 4 (by simp) _
 have HS2 : Hid (w.heap.size + 2 ≤ w2.heap.size) := HW2.out.sz
 have HS3 : Hid (w.heap.size + 2 ≤ w3.heap.size) := HW3.out.sz
 have HOP : Hid (OW (w4.setCell ⟨w.heap.size, 4, none⟩ (.slice za al zc)) ((w.alloc (.cells #[.string nm, .slice pa pl pc, .int .u8 r, .slice va vl vc, .slice aa al ac, .slice ba n bc] 28)).alloc (.cells #[.string ⟨#[]⟩, .slice none 0 0, .int .u8 0, .slice none 0 0, .slice none 0 0, .slice none 0 0] 28)).heap.size 3 1 (.slice xa pl xc) pl (ps.map intV)) := BG.own (w := w) ((BG.own (w := w) ((BG.own (w := w) (OW.mk hop) (by rw [HSZ.out]; omega) 1 (.slice xa pl xc)).below hb3) (by rw [HSZ.out]; omega) 3 (.slice ya vl yc)).below hb4) (by rw [HSZ.out]; omega) 4 (.slice za al zc)
 have HOV : Hid (OW (w4.setCell ⟨w.heap.size, 4, none⟩ (.slice za al zc)) (w2.setCell ⟨w.heap.size, 1, none⟩ (.slice xa pl xc)).heap.size 23 1 (.slice ya vl yc) vl (vs.map bytV)) := BG.own (w := w) ((BG.own (w := w) (OW.mk hov) (by rw [HSC.out]; have := HS2.out; omega) 3 (.slice ya vl yc)).below hb4) (by rw [HSC.out]; have := HS2.out; omega) 4 (.slice za al zc)
 have HOA : Hid (OW (w4.setCell ⟨w.heap.size, 4, none⟩ (.slice za al zc)) (w3.setCell ⟨w.heap.size, 3, none⟩ (.slice ya vl yc)).heap.size 51 2 (.slice za al zc) al (arrCells ars)) := BG.own (w := w) (OW.mk hoa) (by rw [HSC.out]; have := HS3.out; omega) 4 (.slice za al zc)
 obtain ⟨d0, d1, d2, d3, d4, d5⟩ := box6 (H1.out.below (below_alloc (Below.refl _ _) (.cells #[] 3))).box
 obtain ⟨e0, e1, e2, e3, e4, e5⟩ := box6 HW2.out.box
 have ef := HW2.out.box.fz
 have elt := HW2.out.box.lt
 obtain ⟨f0, f1, f2, f3, f4, f5⟩ := box6 (HK2.out.below (below_alloc (Below.refl _ _) (.cells #[] 23))).box
 obtain ⟨g0, g1, g2, g3, g4, g5⟩ := box6 HW3.out.box
 have gf := HW3.out.box.fz
 have glt := HW3.out.box.lt
 obtain ⟨h0, h1, h2, h3, h4, h5⟩ := box6 (HK3.out.below (below_alloc (Below.refl _ _) (.cells #[] 51))).box
 obtain ⟨k0, k1, k2, k3, k4, k5⟩ := box6 HW4.out.box
 have kf := HW4.out.box.fz
 have klt := HW4.out.box.lt
 clear HP HV HA hop hov hoa hb2 hb3 hb4
 go_enter Tryz.func54, Tryz.ntmps54
 go_wp2_with (first
  | (at_builtin; go_loud (refine wpList_append_to _ _ rfl _ _ 22 rfl _ _ _ rfl rfl hrun1 ?_))
  | (at_builtin; go_loud (refine wpList_append_to _ _ rfl _ _ 24 rfl _ _ _ rfl rfl hrun2 ?_))
  | (at_builtin; go_loud (refine wpList_append_to _ _ rfl _ _ 25 rfl _ _ _ rfl rfl hrun3 ?_)))
 generalize (w4.setCell ⟨w.heap.size, 4, none⟩ (.slice za al zc)) = W4 at *
 clear hrun1 hrun2 hrun3 H1 HW2 HK2 HW3 HK3 HW4 d0 d1 d2 d3 d4 d5 e0 e1 e2 e3 e4 e5 ef elt f0 f1 f2 f3 f4 f5 g0 g1 g2 g3 g4 g5 gf glt h0 h1 h2 h3 h4 h5 k0 k1 k2 k3 k4 k5 kf klt
 obtain ⟨i0, hi0, hz0, hz1, hz2⟩ := info_parts infoBl
 go_loopw [3, 4] (fun vb vi wr => ∃ (i : Nat) (ivs : List Value) (avss : List (List Value)) (oa : Option Addr) (oc : Nat), vi = .int .i64 i ∧ vb = .slice oa i oc ∧ i ≤ n ∧ Hid (Below W4.heap.size W4 wr ∧ CB wr W4.heap.size (.slice oa i oc) (bs.take i) ivs avss)) (fun _ vi _ => n - (intOf vi).toNat)
 case atStart => exact ⟨0, [], [], none, 0, rfl, rfl, by omega, Below.refl _ _, CB.nil _ _⟩
 case round =>
  obtain ⟨i, ivs, avss, oa, oc, rfl, rfl, hi, hr⟩ := hrel
  generalize wr = wo at *
  have HRR : Hid _ := hr.out
  have HBO : Hid (BG w wo [.string nm, .slice xa pl xc, .int .u8 r, .slice ya vl yc, .slice za al zc, .slice ba n bc]) := HK4.out.below hr.out.1
  clear hr
  by_cases hin : i < n
  ·obtain ⟨b0, b1, b2, b3, b4, b5⟩ := box6 HBO.out.box
   have hbl := HBO.out.box.lt
   obtain ⟨g, o, iv, rfl, hg, c0, c1, c2, c3, c4, c5, hins⟩ := HI.out i hin
   obtain ⟨ia, ic, rfl, hxl⟩ := hins.form
   have hin' : (i : Int) < n := by omega
   have hwo : Below w.heap.size w wo := HBO.out.low
   have HC0 : Hid (w.cell? ⟨g, o + i * 6, none⟩ = some (.slice ia (bs.getD i default).ins.length ic)) := c0
   have hcl : ∀ j, wo.cell? ⟨g, j, none⟩ = w.cell? ⟨g, j, none⟩ := fun j => hwo.cell (p := ⟨g, j, none⟩) hg
   rw [← hcl] at c0 c1 c2 c3 c4 c5
   have HII : Hid (∀ k, k < (bs.getD i default).ins.length → _) := fun k hk => hins.get (i := k) hk
   have HLL : Hid (∀ k, k < (bs.getD i default).ins.length → ((bs.getD i default).ins.getD k default).args.length ≤ 1000000) := HLA.out i hin
   have hll := HLI.out i hin
   have HT1 : Hid _ := HTK.out i hin
   have HRL : Hid (wo.ownsRow W4.heap.size 49 6 (.slice oa i oc) i (blsCells (bs.take i) ivs)) := by have h9 := HRR.out.2.row; rw [HLT.out i hi] at h9; exact h9
   have HLI' : Hid ((bs.take i).length = i) := HLT.out i hi
   have HWO : Hid (Below w.heap.size w wo) := hwo
   have HG : Hid (g < w.heap.size) := hg
   clear hins hcl hwo hg HI HLA HLI HTK HTF HLT
   generalize bs.getD i default = X at *
   obtain ⟨L, tk, ta, t0, t1, tt⟩ := X
   dsimp only at *
   have HLTk : Hid (∀ k, k < L.length → L.take (k + 1) = L.take k ++ [L.getD k default]) := fun k hk => by
    rw [List.take_add_one, List.getElem?_eq_getElem hk, List.getD, List.getElem?_eq_getElem hk]; rfl
   have HLF : Hid (L.take L.length = L) := List.take_length
   have HLN2 : Hid (∀ k, k ≤ L.length → (L.take k).length = k) := fun k hk => by rw [List.length_take]; omega
   generalize hil : L.length = il at *
   have HIL : Hid (L.length = il) := hil
   clear hil
   go_wp2
   clear b0 b1 b2 b3 b4 b5 c0 c1 c2 c3 c4 c5
   go_loopw [6] (fun vk wr => ∃ (k : Nat) (avs : List Value) (qa : Option Addr) (qc : Nat), vk = .int .i64 k ∧ k ≤ il ∧ Hid (Below wo.heap.size wo wr ∧ Box wr wo.heap.size [.slice qa k qc, .int .u8 tk, .int .i64 ta, .int .i64 t0, .int .i64 t1, .int .u8 tt] ∧ CI wr (wo.heap.size + 1) (.slice qa k qc) (L.take k) avs)) (fun vk _ => il - (intOf vk).toNat)
   case atStart => exact ⟨0, [], none, 0, rfl, by omega, below_alloc (Below.refl _ _) _, Box.new wo [.slice none 0 0, .int .u8 tk, .int .i64 ta, .int .i64 t0, .int .i64 t1, .int .u8 tt] 49, CI.nil _ _⟩
   case round =>
    obtain ⟨k, avs, qa, qc, rfl, hk, hr⟩ := hrel
    generalize wr = wi at *
    have HRI : Hid _ := hr.out
    clear hr
    have HBI : Hid (BG w wi [.string nm, .slice xa pl xc, .int .u8 r, .slice ya vl yc, .slice za al zc, .slice (some ⟨g, o, none⟩) n bc]) := HBO.out.below HRI.out.1
    have HSI : Hid (wo.heap.size < wi.heap.size) := HRI.out.2.1.lt
    have HWI : Hid (Below w.heap.size w wi) := HBI.out.low
    have hc0 : wi.cell? ⟨g, o + i * 6, none⟩ = _ := (HWI.out.cell (p := ⟨g, o + i * 6, none⟩) HG.out).trans HC0.out
    by_cases hkn : k < il
    ·obtain ⟨b0, b1, b2, b3, b4, b5⟩ := box6 HBI.out.box
     have hbl2 := HBI.out.box.lt
     have hkn' : (k : Int) < il := by omega
     obtain ⟨g2, o2, xv, rfl, hg2, c0, c1, c2, c3, c4, c5, hxa⟩ := HII.out k hkn
     obtain ⟨xaa, xcc, rfl, _⟩ := hxa.form
     have hxl2 := HLL.out k hkn
     have HTT : Hid _ := HLTk.out k hkn
     have HRL2 : Hid (wi.ownsRow (wo.heap.size + 1) 41 6 (.slice qa k qc) k (insCells (L.take k) avs)) := by have h9 := HRI.out.2.2.row; rw [HLN2.out k hk] at h9; exact h9
     have HLK : Hid ((L.take k).length = k) := HLN2.out k hk
     go_wp2
     generalize L.getD k default = Y at *
     obtain ⟨xk, xop, xd, xs, xb, xr⟩ := Y
     dsimp only at *
     have HCP : Hid (∀ W, Below w.heap.size w W → Calls Tryz.prog 72 #[.agg #[.int .u8 xk, .int .u8 xop, .int .i64 xd, .slice xaa xs.length xcc, .int .u64 xb, .int .i64 xr]] W fun e w' => ∃ av', e = .returned (.agg #[.int .u8 xk, .int .u8 xop, .int .i64 xd, av', .int .u64 xb, .int .i64 xr]) ∧ OwnI w' W.heap.size av' xs ∧ Below W.heap.size W w') := fun W hb => rcopied_any ⟨xk, xop, xd, xs, xb, xr⟩ _ W (hxa.below hb) hxl2
     have HBX : Hid (∀ W, Below wi.heap.size wi W → Box W wo.heap.size [.slice qa k qc, .int .u8 tk, .int .i64 ta, .int .i64 t0, .int .i64 t1, .int .u8 tt]) := fun W hb => HRI.out.2.1.below hb
     generalize hxs : xs.length = xl at *
     have HXL : Hid (xs.length = xl) := hxs
     clear hxs hxa
     have HSX : Hid (∀ W, Below wi.heap.size wi W → W.cell? ⟨w.heap.size, 5, none⟩ = some (.slice (some ⟨g, o, none⟩) n bc) ∧ W.cell? ⟨g, o + i * 6, none⟩ = some (.slice (some ⟨g2, o2, none⟩) il ic) ∧ W.cell? ⟨g2, o2 + k * 6, none⟩ = some (.int .u8 xk) ∧ W.cell? ⟨g2, o2 + k * 6 + 1, none⟩ = some (.int .u8 xop) ∧ W.cell? ⟨g2, o2 + k * 6 + 2, none⟩ = some (.int .i64 xd) ∧ W.cell? ⟨g2, o2 + k * 6 + 3, none⟩ = some (.slice xaa xl xcc) ∧ W.cell? ⟨g2, o2 + k * 6 + 4, none⟩ = some (.int .u64 xb) ∧ W.cell? ⟨g2, o2 + k * 6 + 5, none⟩ = some (.int .i64 xr) ∧ W.cell? ⟨wo.heap.size, 0, none⟩ = some (.slice qa k qc)) := fun W hb => by
      have h9 : Below w.heap.size w W := below_trans HWI.out hb
      have hc : ∀ j, W.cell? ⟨g2, j, none⟩ = w.cell? ⟨g2, j, none⟩ := fun j => h9.cell (p := ⟨g2, j, none⟩) hg2
      exact ⟨(box6 (HBI.out.below hb).box).2.2.2.2.2, (h9.cell (p := ⟨g, o + i * 6, none⟩) HG.out).trans HC0.out, (hc _).trans c0, (hc _).trans c1, (hc _).trans c2, (hc _).trans c3, (hc _).trans c4, (hc _).trans c5, (box6 (HBX.out W hb)).1⟩
     clear c0 c1 c2 c3 c4 c5 HII HLL HLTk b0 b1 b2 b3 b4 b5 hc0
     generalize hBB : wo.heap.size = B at *
     have hbB : w.heap.size + 2 ≤ B := by have := HBO.out.sz; omega
     refine wp_region_late (fun W => W.cell? ⟨w.heap.size, 5, none⟩ = some (.slice (some ⟨g, o, none⟩) n bc) ∧ W.cell? ⟨g, o + i * 6, none⟩ = some (.slice (some ⟨g2, o2, none⟩) il ic) ∧ W.cell? ⟨g2, o2 + k * 6, none⟩ = some (.int .u8 xk) ∧ W.cell? ⟨g2, o2 + k * 6 + 1, none⟩ = some (.int .u8 xop) ∧ W.cell? ⟨g2, o2 + k * 6 + 2, none⟩ = some (.int .i64 xd) ∧ W.cell? ⟨g2, o2 + k * 6 + 3, none⟩ = some (.slice xaa xl xcc) ∧ W.cell? ⟨g2, o2 + k * 6 + 4, none⟩ = some (.int .u64 xb) ∧ W.cell? ⟨g2, o2 + k * 6 + 5, none⟩ = some (.int .i64 xr) ∧ W.cell? ⟨B, 0, none⟩ = some (.slice qa k qc)) (fun j => decide (15 ≤ j)) (by kernel_rfl) (HSX.out _ (below_drew (Below.refl _ _))) (fun hHeld => ?_)
     ·have HBD : Hid (Below wi.heap.size wi wi.drew) := below_drew (Below.refl _ _)
      refine wpAnyL_take 0 (v := ?_) rfl (by kernel_rfl) (by kernel_rfl) (by kernel_rfl) (by kernel_rfl) (fun _ _ _ h => h) hHeld (Or.inl ⟨by rfl, ?_⟩) ?_
      rotate_left 1
      ·(intro w hSw; (try dsimp only at hSw); (try obtain ⟨s0, s1, s2, s3, s4, s5, s6, s7, s8⟩ := hSw); first | (go_simp; done) | (go_simp; with_reducible rfl))
      simp only [Act.put, List.setIfInBounds_toArray]
      refine wpAnyL_take 1 (v := ?_) rfl (by kernel_rfl) (by kernel_rfl) (by kernel_rfl) (by kernel_rfl) (fun _ _ _ h => h) hHeld (Or.inl ⟨by rfl, ?_⟩) ?_
      rotate_left 1
      ·(intro w hSw; (try dsimp only at hSw); (try obtain ⟨s0, s1, s2, s3, s4, s5, s6, s7, s8⟩ := hSw); first | (go_simp; done) | (go_simp; with_reducible rfl))
      simp only [Act.put]
      refine wpAnyL_take 2 (v := ?_) rfl (by kernel_rfl) (by kernel_rfl) (by kernel_rfl) (by kernel_rfl) (fun _ _ _ h => h) hHeld (Or.inl ⟨by rfl, ?_⟩) ?_
      rotate_left 1
      ·(intro w hSw; (try dsimp only at hSw); (try obtain ⟨s0, s1, s2, s3, s4, s5, s6, s7, s8⟩ := hSw); first | (go_simp; done) | (go_simp; with_reducible rfl))
      simp only [Act.put]
      refine wpAnyL_take 3 (v := ?_) rfl (by kernel_rfl) (by kernel_rfl) (by kernel_rfl) (by kernel_rfl) (fun _ _ _ h => h) hHeld (Or.inl ⟨by rfl, ?_⟩) ?_
      rotate_left 1
      ·(intro w hSw; (try dsimp only at hSw); (try obtain ⟨s0, s1, s2, s3, s4, s5, s6, s7, s8⟩ := hSw); first | (go_simp; done) | (go_simp; with_reducible rfl))
      simp only [Act.put]
      refine wpAnyL_take 4 (v := ?_) rfl (by kernel_rfl) (by kernel_rfl) (by kernel_rfl) (by kernel_rfl) (fun _ _ _ h => h) hHeld (Or.inl ⟨by rfl, ?_⟩) ?_
      rotate_left 1
      ·(intro w hSw; (try dsimp only at hSw); (try obtain ⟨s0, s1, s2, s3, s4, s5, s6, s7, s8⟩ := hSw); first | (go_simp; done) | (go_simp; with_reducible rfl))
      simp only [Act.put]
      refine wpAnyL_take 5 (v := ?_) rfl (by kernel_rfl) (by kernel_rfl) (by kernel_rfl) (by kernel_rfl) (fun _ _ _ h => h) hHeld (Or.inl ⟨by rfl, ?_⟩) ?_
      rotate_left 1
      ·(intro w hSw; (try dsimp only at hSw); (try obtain ⟨s0, s1, s2, s3, s4, s5, s6, s7, s8⟩ := hSw); first | (go_simp; done) | (go_simp; with_reducible rfl))
      simp only [Act.put]
      refine wpAnyL_take 6 (v := ?_) rfl (by kernel_rfl) (by kernel_rfl) (by kernel_rfl) (by kernel_rfl) (fun _ _ _ h => h) hHeld (Or.inl ⟨by rfl, ?_⟩) ?_
      rotate_left 1
      ·(intro w hSw; (try dsimp only at hSw); (try obtain ⟨s0, s1, s2, s3, s4, s5, s6, s7, s8⟩ := hSw); first | (go_simp; done) | (go_simp; with_reducible rfl))
      simp only [Act.put]
      refine wpAnyL_take 7 (v := ?_) rfl (by kernel_rfl) (by kernel_rfl) (by kernel_rfl) (by kernel_rfl) (fun _ _ _ h => h) hHeld (Or.inl ⟨by rfl, ?_⟩) ?_
      rotate_left 1
      ·(intro w hSw; (try dsimp only at hSw); (try obtain ⟨s0, s1, s2, s3, s4, s5, s6, s7, s8⟩ := hSw); first | (go_simp; done) | (go_simp; with_reducible rfl))
      simp only [Act.put]
      refine wpAnyL_take 8 (v := ?_) rfl (by kernel_rfl) (by kernel_rfl) (by kernel_rfl) (by kernel_rfl) (fun _ _ _ h => h) hHeld (Or.inl ⟨by rfl, ?_⟩) ?_
      rotate_left 1
      ·(intro w hSw; (try dsimp only at hSw); (try obtain ⟨s0, s1, s2, s3, s4, s5, s6, s7, s8⟩ := hSw); first | (go_simp; done) | (go_simp; with_reducible rfl))
      simp only [Act.put]
      refine wpAnyL_take 9 (v := ?_) rfl (by kernel_rfl) (by kernel_rfl) (by kernel_rfl) (by kernel_rfl) (fun _ _ _ h => h) hHeld (Or.inl ⟨by rfl, ?_⟩) ?_
      rotate_left 1
      ·(intro w hSw; (try dsimp only at hSw); (try obtain ⟨s0, s1, s2, s3, s4, s5, s6, s7, s8⟩ := hSw); first | (go_simp; done) | (go_simp; with_reducible rfl))
      simp only [Act.put]
      refine wpAnyL_take 10 (v := ?_) rfl (by kernel_rfl) (by kernel_rfl) (by kernel_rfl) (by kernel_rfl) (fun _ _ _ h => h) hHeld (Or.inl ⟨by rfl, ?_⟩) ?_
      rotate_left 1
      ·(intro w hSw; (try dsimp only at hSw); (try obtain ⟨s0, s1, s2, s3, s4, s5, s6, s7, s8⟩ := hSw); first | (go_simp; done) | (go_simp; with_reducible rfl))
      simp only [Act.put]
      clear hHeld
      refine wpAnyL_one 11 (by kernel_rfl) rfl (fun K hK0 => ?_)
      have hK : Shut _ := hK0
      clear hK0
      go_simp
      refine Calls.mono (by exact HCP.out _ (below_trans HWI.out HBD.out)) ?_
      rintro e w5 ⟨av5, rfl, ho5, hb5⟩
      obtain ⟨ja, jc, rfl⟩ : ∃ ja jc, av5 = .slice ja xl jc := (by obtain ⟨ya, yc, hv, _⟩ := own_blk (Nat.le_refl _) ho5; rw [HXL.out] at hv; exact ⟨ya, yc, hv⟩)
      have HB5 : Hid (Below wi.heap.size wi w5) := below_trans HBD.out hb5
      have HO5 : Hid (OwnI w5 wi.heap.size (.slice ja xl jc) xs) := own_mono ho5 HBD.out.size
      have hHeld := HSX.out _ HB5.out
      clear ho5 hb5
      dsimp only
      refine hK.out _ _ (fun _ => hHeld) ?_
      clear hK K
      clear hHeld
      refine wpAnyL_one 12 (by kernel_rfl) rfl (fun K hK0 => ?_)
      have hK : Shut _ := hK0
      clear hK0
      go_simp
      have hHeld := HSX.out _ (below_alloc HB5.out (.cells #[.int .u8 xk, .int .u8 xop, .int .i64 xd, .slice ja xl jc, .int .u64 xb, .int .i64 xr] 41))
      refine hK.out _ _ (fun _ => hHeld) ?_
      clear hK K
      clear hHeld
      obtain ⟨g7, c7, w7, hrun, ho7, hg7, hat7⟩ := app_in (w5.alloc (.cells #[.int .u8 xk, .int .u8 xop, .int .i64 xd, .slice ja xl jc, .int .u64 xb, .int .i64 xr] 41)) (B + 1) (.slice qa k qc) k (insCells (L.take k) avs) (inCells ⟨xk, xop, xd, xs, xb, xr⟩ (.slice ja xl jc)) (owns_below (owns_below HRL2.out HB5.out) (below_alloc (Below.refl _ _) _)) w5.heap.size (fun j u hj => (Box.new w5 (inCells ⟨xk, xop, xd, xs, xb, xr⟩ (.slice ja xl jc)) 41).cell j u hj) rfl (in_cells_one rfl) (by omega) (by have := HB5.out.size; have := HSI.out; simp; omega)
      have HA5 : Hid (Below wi.heap.size wi (w5.alloc (.cells #[.int .u8 xk, .int .u8 xop, .int .i64 xd, .slice ja xl jc, .int .u64 xb, .int .i64 xr] 41))) := below_alloc HB5.out _
      have hrb : ∀ q, (Value.slice qa k qc).ownBlock = some q → B + 1 ≤ q ∧ q < wi.heap.size := fun q hq => HRL2.out.lt q hq
      have HB7 : Hid (Below B wo w7) := by
       have h8 := HRI.out.1
       show Below B wo w7
       rw [← hBB] at h8 ⊢
       exact below_grown (below_trans h8 HA5.out) hg7 (fun q hq => by have := (hrb q hq).1; omega)
      have HX7 : Hid (Box w7 B [.slice qa k qc, .int .u8 tk, .int .i64 ta, .int .i64 t0, .int .i64 t1, .int .u8 tt]) := HRI.out.2.1.same ((hg7.block B (by have := HA5.out.size; have := HSI.out; omega) (fun e => by have := (hrb B e.symm).1; omega)).trans (HA5.out.block B HSI.out))
      have HC7 : Hid (CI w7 (B + 1) (.slice (some ⟨g7, 0, none⟩) (k + 1) c7) (L.take (k + 1)) (avs ++ [.slice ja xl jc])) := by
       show CI _ _ _ _ _
       rw [HTT.out]
       exact CI.push HRI.out.2.2 HA5.out (owns_below HO5.out (below_alloc (Below.refl _ _) _)) HSI.out (by rw [HLK.out]; exact ho7) hg7 hat7
      have hS7 : w7.cell? ⟨w.heap.size, 5, none⟩ = some (.slice (some ⟨g, o, none⟩) n bc) ∧ w7.cell? ⟨g, o + i * 6, none⟩ = some (.slice (some ⟨g2, o2, none⟩) il ic) ∧ w7.cell? ⟨g2, o2 + k * 6, none⟩ = some (.int .u8 xk) ∧ w7.cell? ⟨g2, o2 + k * 6 + 1, none⟩ = some (.int .u8 xop) ∧ w7.cell? ⟨g2, o2 + k * 6 + 2, none⟩ = some (.int .i64 xd) ∧ w7.cell? ⟨g2, o2 + k * 6 + 3, none⟩ = some (.slice xaa xl xcc) ∧ w7.cell? ⟨g2, o2 + k * 6 + 4, none⟩ = some (.int .u64 xb) ∧ w7.cell? ⟨g2, o2 + k * 6 + 5, none⟩ = some (.int .i64 xr) ∧ w7.cell? ⟨B, 0, none⟩ = some (.slice qa k qc) := by
       have h9 : Below w.heap.size w w7 := below_grown (below_trans HWI.out HA5.out) hg7 (fun q hq => by have := (hrb q hq).1; omega)
       have s := HSX.out wi (Below.refl _ _)
       have hcc : ∀ (b : Nat) (_ : b < w.heap.size) (j : Nat), w7.cell? ⟨b, j, none⟩ = wi.cell? ⟨b, j, none⟩ := fun b hb j => (h9.cell (p := ⟨b, j, none⟩) hb).trans (HWI.out.cell (p := ⟨b, j, none⟩) hb).symm
       have hk9 : w7.heap[w.heap.size]? = wi.heap[w.heap.size]? := (hg7.block _ (by have := HA5.out.size; omega) (fun e => by have := (hrb _ e.symm).1; omega)).trans (HA5.out.block _ hbl2)
       exact ⟨(box6 (HBI.out.box.same hk9)).2.2.2.2.2, (hcc g HG.out _).trans s.2.1, (hcc g2 hg2 _).trans s.2.2.1, (hcc g2 hg2 _).trans s.2.2.2.1, (hcc g2 hg2 _).trans s.2.2.2.2.1, (hcc g2 hg2 _).trans s.2.2.2.2.2.1, (hcc g2 hg2 _).trans s.2.2.2.2.2.2.1, (hcc g2 hg2 _).trans s.2.2.2.2.2.2.2.1, (box6 HX7.out).1⟩
      have HS7 : Hid _ := hS7
      clear hS7 hrb
      refine wpAnyL_one 13 (by kernel_rfl) rfl (fun K hK0 => ?_)
      have hK : Shut _ := hK0
      clear hK0
      refine step_append_run rfl _ _ _ rfl _ _ _ _ rfl rfl hrun (hK.out _ _ (fun _ => HS7.out) ?_)
      clear hK K hrun ho7 hg7 hat7
      simp only [Act.put]
      refine wpAnyL_one 14 (by kernel_rfl) rfl (fun K hK0 => ?_)
      have hK : Shut _ := hK0
      clear hK0
      go_simp
      refine hK.out _ _ (fun _ => HS7.out) ?_
      clear hK K
      obtain ⟨m0, m1, m2, m3, m4, m5⟩ := box6 HX7.out
      have mf := HX7.out.fz 0
      have mlt := HX7.out.lt
      refine wpAnyL_one 15 (by kernel_rfl) rfl (fun K hK0 => ?_)
      have hK : Shut _ := hK0
      clear hK0
      go_simp
      refine hK.out _ _ (fun h => absurd h (by decide)) ?_
      clear hK K
      refine ⟨by kernel_rfl, ?_⟩
      go_simp
      have HN : Hid (Below B wo (w7.setCell ⟨B, 0, none⟩ (.slice (some ⟨g7, 0, none⟩) (k + 1) c7)) ∧ Box (w7.setCell ⟨B, 0, none⟩ (.slice (some ⟨g7, 0, none⟩) (k + 1) c7)) B [.slice (some ⟨g7, 0, none⟩) (k + 1) c7, .int .u8 tk, .int .i64 ta, .int .i64 t0, .int .i64 t1, .int .u8 tt] ∧ CI (w7.setCell ⟨B, 0, none⟩ (.slice (some ⟨g7, 0, none⟩) (k + 1) c7)) (B + 1) (.slice (some ⟨g7, 0, none⟩) (k + 1) c7) (L.take (k + 1)) (avs ++ [.slice ja xl jc])) :=
       ⟨HB7.out.setCell (p := ⟨B, 0, none⟩) (Nat.le_refl _) _, HX7.out.set (by simp) _, HC7.out.same fun q hq => Below.heap_setCell w7 ⟨B, 0, none⟩ _ q (by have := (HC7.out.lt hq).1; show q ≠ B; omega)⟩
      subst hBB
      go_wp2
      go_roundw
      case rel => exact ⟨k + 1, _, _, _, by first | rfl | (congr 1; omega), by omega, HN.out.1, HN.out.2.1, HN.out.2.2⟩
      case measure => simp [intOf]; omega
    ·obtain rfl : k = il := by omega
     have HCC : Hid (CI wi (wo.heap.size + 1) (.slice qa k qc) L avs) := by have h9 := HRI.out.2.2; rw [HLF.out] at h9; exact h9
     obtain ⟨b0, b1, b2, b3, b4, b5⟩ := box6 HBI.out.box
     have hbl2 := HBI.out.box.lt
     obtain ⟨n0, n1, n2, n3, n4, n5⟩ := box6 HRI.out.2.1
     have nlt := HRI.out.2.1.lt
     have HRW : Hid (wi.ownsRow W4.heap.size 49 6 (.slice oa i oc) i (blsCells (bs.take i) ivs)) := owns_below HRL.out HRI.out.1
     have HSB : Hid (W4.heap.size ≤ wi.heap.size) := Nat.le_trans HRR.out.1.size HRI.out.1.size
     clear HII HLL HLTk HLF HLN2
     go_wp2_with (at_builtin; go_loud (refine wpList_append_own_at _ rfl _ _ 26 rfl W4.heap.size 49 i0 (.agg #[.slice none 0 0, .int .u8 0, .int .i64 0, .int .i64 0, .int .i64 0, .int .u8 0]) 6 64 Tryz.underlying26 hi0 hz0 hz1 hz2 rfl (by decide) _ i (blsCells (bs.take i) ivs) rfl (owns_below HRW.out (below_alloc (Below.refl _ _) _)) ⟨wi.heap.size, 0, none⟩ 1 1 (blCells ⟨L, tk, ta, t0, t1, tt⟩ (.slice qa k qc)) rfl rfl ?c1 ?c2 ?c3 ?c4 ?c5 ?_))
     case c1 => intro j u hj; rw [Addr.add_lit, Nat.zero_add]; exact (Box.new wi (blCells ⟨L, tk, ta, t0, t1, tt⟩ (.slice qa k qc)) 49).cell j u hj
     case c2 => exact bl_cells_one rfl
     case c3 => unfold maxLen; omega
     case c4 => omega
     case c5 => have h8 := HSB.out; simp; omega
     intro v2 w8 ho hg9 _ hat
     obtain ⟨g9, c9, rfl, _, _, _, _⟩ := own_form ho
     have HBA : Hid (Below wo.heap.size wo (wi.alloc (.cells #[.slice qa k qc, .int .u8 tk, .int .i64 ta, .int .i64 t0, .int .i64 t1, .int .u8 tt] 49))) := below_alloc HRI.out.1 _
     have HSZ2 : Hid (∀ o : Obj, (wi.alloc o).heap.size = wi.heap.size + 1) := fun o => by simp
     have HN : Hid (Below W4.heap.size W4 w8 ∧ CB w8 W4.heap.size (.slice (some ⟨g9, 0, none⟩) (i + 1) c9) (bs.take (i + 1)) (ivs ++ [.slice qa k qc]) (avss ++ [avs])) := by
      refine ⟨below_grown (below_trans HRR.out.1 HBA.out) hg9 (fun q hq => (HRL.out.lt q hq).1), ?_⟩
      rw [HT1.out]
      refine CB.push HRR.out.2 HBA.out ((HCC.out.low (Nat.le_succ _)).below (below_alloc (Below.refl _ _) _)) HRR.out.1.size (by rw [HLI'.out]; exact ho) hg9 ?_
      rcases hat with e | e
      ·exact .inl e
      ·exact .inr (by first | exact e | (rw [HSZ2.out]; exact e))
     clear ho hg9 hat
     go_wp2
     go_roundw
     case rel => exact ⟨i + 1, _, _, _, _, by first | rfl | (congr 1; omega), rfl, by omega, HN.out.1, HN.out.2⟩
     case measure => simp [intOf]; omega
  ·obtain rfl : i = n := by omega
   have HCB : Hid (CB wo W4.heap.size (.slice oa i oc) bs ivs avss) := by have h9 := HRR.out.2; rw [HTF.out] at h9; exact h9
   obtain ⟨b0, b1, b2, b3, b4, b5⟩ := box6 HBO.out.box
   have bf := HBO.out.box.fz
   have blt := HBO.out.box.lt
   have HK5 : Hid (BG w (wo.setCell ⟨w.heap.size, 5, none⟩ (.slice oa i oc)) [.string nm, .slice xa pl xc, .int .u8 r, .slice ya vl yc, .slice za al zc, .slice oa i oc]) := HBO.out.set 5 (by simp) _
   obtain ⟨m0, m1, m2, m3, m4, m5⟩ := box6 HK5.out.box
   have mf := HK5.out.box.fz
   have HRS : Hid _ := HK5.out.res
   obtain ⟨r0, r1, r2, r3, r4, r5⟩ := box6 HK5.out.rbx
   have rf := HK5.out.rbx.fz
   have rlt := HK5.out.rbx.lt
   clear HI HLA HLI HTK HTF HLT
   go_wp2
   obtain ⟨q1, q2, q3⟩ := six_end HK5.out.low (Nat.le_succ _) HRS.out (.string nm) (.slice xa pl xc) (.int .u8 r) (.slice ya vl yc) (.slice za al zc) (.slice oa i oc)
   refine bodyPost_ret (results_cell_row rfl _ _ (w.heap.size + 1) 28 #[.string nm, .slice xa pl xc, .int .u8 r, .slice ya vl yc, .slice za al zc, .slice oa i oc] _ _ rfl q2 Tryz.underlying28 rfl (by rfl)) rfl ⟨_, _, _, _, W4.heap.size, ivs, avss, rfl, ?_, q1, by have h9 := HRR.out.1.size; simp [World.setCell]; exact h9⟩
   have keep : ∀ g, w.heap.size + 2 ≤ g → (setSix (wo.setCell ⟨w.heap.size, 5, none⟩ (.slice oa i oc)) (w.heap.size + 1) (.string nm) (.slice xa pl xc) (.int .u8 r) (.slice ya vl yc) (.slice za al zc) (.slice oa i oc)).heap[g]? = wo.heap[g]? := fun g hg => by
    rw [q3 g (by omega)]
    exact Below.heap_setCell wo ⟨w.heap.size, 5, none⟩ (.slice oa i oc) g (by show g ≠ w.heap.size; omega)
   have h2s := HS2.out
   have h3s := HS3.out
   have h4s := HK4.out.sz
   have op5 := HOP.out.below HRR.out.1
   have ov5 := HOV.out.below HRR.out.1
   have oa5 := HOA.out.below HRR.out.1
   rw [HSZ.out] at op5
   rw [HSC.out] at ov5 oa5
   refine ⟨by omega, ?_, ?_, ?_, fun g hg => (HOP.out.own.lt g hg).2, fun g hg => (HOV.out.own.lt g hg).2, fun g hg => (HOA.out.own.lt g hg).2, ?_⟩
   ·rw [HLN.out.1]
    exact own_mono (owns_same op5.own fun g hg => keep g (by have := (op5.own.lt g hg).1; omega)) (by omega)
   ·rw [HLN.out.2.1]
    exact own_mono (owns_same ov5.own fun g hg => keep g (by have := (ov5.own.lt g hg).1; omega)) (by omega)
   ·rw [HLN.out.2.2.1]
    exact own_mono (owns_same oa5.own fun g hg => keep g (by have := (oa5.own.lt g hg).1; omega)) (by omega)
   ·exact HCB.out.same fun g hg => keep g (by omega)
end Go.Proofs.YtobnpllppohofaaGreatDoor
