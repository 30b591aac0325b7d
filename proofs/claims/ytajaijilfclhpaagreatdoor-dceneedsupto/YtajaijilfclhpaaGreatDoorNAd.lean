/- A graph without what nobody asks for: the walk. -/
import Derived.Test.YtajaijilfclhpaaGreatDoorNBkM
import Derived.Test.YtajaijilfclhpaaGreatDoorNEvM
import Derived.Test.YtajaijilfclhpaaGreatDoorGRCxM
namespace Go.Proofs.YtajaijilfclhpaaGreatDoor
open Go.RowKit Go.Sort

/-- A graph in memory of its own: its blocks below B, all else above. -/
structure CQ (w w' : World) (G : Gr) (B : Nat) (pv vv av bv : Value) (ivs : List Value) (avss : List (List Value)) : Prop where
 sz : B ≤ w'.heap.size
 lo : w.heap.size ≤ B
 ps : w'.ownsRow B 3 1 pv G.params.length (G.params.map intV)
 vs : w'.ownsRow B 23 1 vv G.vars.length (G.vars.map bytV)
 ars : w'.ownsRow B 50 2 av G.arrs.length (arrCells G.arrs)
 bs : CB w' (w.heap.size + 2) bv G.blocks ivs avss
 low : ∀ g, (bv.ownBlock = some g ∨ ∃ (i : Nat) (iv : Value) (avs : List Value), ivs[i]? = some iv ∧ avss[i]? = some avs ∧ KB iv avs g) → g < B
theorem BG.far {w wr : World} {cs : List Value} (h : BG w wr cs) {g : Nat} (hg : w.heap.size + 2 ≤ g) (j : Nat) (u : Value) : BG w (wr.setCell ⟨g, j, none⟩ u) cs :=
 ⟨h.low.setCell (p := ⟨g, j, none⟩) (by show _ ≤ g; omega) _, h.box.other (by show w.heap.size ≠ g; omega) _, (Below.heap_setCell wr ⟨g, j, none⟩ u (w.heap.size + 1) (by show w.heap.size + 1 ≠ g; omega)).trans h.res, h.rbx.other (by show w.heap.size + 1 ≠ g; omega) _, by have := h.sz; simpa [World.setCell] using this⟩
theorem makeBl (n : Nat) (hn : n ≤ 1100000) : ∀ W : World, (Instr.makeSlice 26 (.int .i64 n) (.int .i64 n)).run Tryz.prog W = .ok (.slice (some ⟨W.heap.size, 0, none⟩) n n) (W.alloc (.cells (madeCells #[.slice none 0 0, .int .u8 0, .int .i64 0, .int .i64 0, .int .i64 0, .int .u8 0] (n * 6)) 63)) := by
 obtain ⟨i0, hi0, hz0, hz1, hz2⟩ := info_parts infoBl
 intro W
 have hr := run_make (P := Tryz.prog) W 26 63 i0 _ Tryz.underlying26 hi0 hz0 .i64 .i64 (n : Int) (n : Int) (by omega) (by omega) (by rw [hz2]; omega) (by omega)
 simp only [Int.toNat_natCast, hz1] at hr
 exact hr
set_option maxRecDepth 100000 in
set_option maxHeartbeats 8000000 in
theorem dasked_any (G : Gr) (pv vv av bv nv : Value) (need : List Bool) (w : World) (h : GrAt w pv vv av bv G) (hN : BosAt w nv need) (hd : ∀ b ∈ G.blocks, ∀ x ∈ b.ins, staysK x.kind = false → 0 ≤ x.dst ∧ x.dst < need.length) (hsz : G.blocks.length ≤ 100000 ∧ ∀ b ∈ G.blocks, b.ins.length ≤ 100000) (ha : ∀ b ∈ G.blocks, ∀ x ∈ b.ins, x.args.length ≤ 1100000) (hpl : G.params.length ≤ 1100000) (hml : G.vars.length ≤ 1100000) (hal : G.arrs.length ≤ 1100000) :
  Calls Tryz.prog 40 #[.agg #[.string G.name, pv, .int .u8 G.result, vv, av, bv], nv] w fun e w' => ∃ pv' vv' av' bv' B ivs avss, e = .returned (.agg #[.string G.name, pv', .int .u8 G.result, vv', av', bv']) ∧ Below w.heap.size w w' ∧ CQ w w' { G with blocks := G.blocks.map (dBl need) } B pv' vv' av' bv' ivs avss := by
 have HPS := h.ps
 have HVS := h.vs
 have HAS := h.ars
 have HST : Hid (∀ (i : Nat) (hi : i < G.blocks.length) (iv : Value) (W : World), InsAt w iv (G.blocks.getD i default).ins → Below w.heap.size w W → Calls Tryz.prog 95 #[iv, nv] W fun e w' => ∃ v avs, e = .returned v ∧ Below W.heap.size W w' ∧ CI w' W.heap.size v ((G.blocks.getD i default).ins.filter (keepN need)) avs) := fun i hi iv W hI hW => by
  have hm : G.blocks.getD i default ∈ G.blocks := List.mem_of_getElem? (getD_somL hi)
  exact dstay_any (hI.below hW) (hN.below hW) (hd _ hm) (hsz.2 _ hm) (ha _ hm)
 obtain ⟨pa, pc, va, vc, aa, ac, ba, bc, rfl, rfl, rfl, rfl, _, _, _, hbl⟩ := h.openF
 obtain ⟨na, nc, rfl, _⟩ := row_form hN
 have HB : Hid (∀ i, i < G.blocks.length → _) := fun i hi => h.bs.get (i := i) hi
 have hnb : G.blocks.length ≤ 100000 := hsz.1
 have hmk := makeBl G.blocks.length (by omega)
 have HC1 : Hid (∀ W, Below w.heap.size w W → Calls Tryz.prog 96 #[.slice pa G.params.length pc] W fun e w' => ∃ v', e = .returned v' ∧ w'.ownsRow W.heap.size 3 1 v' G.params.length (G.params.map intV) ∧ Below W.heap.size W w') := fun W hb => clone1_any (RowAt.below HPS hb) (by simp) hpl (fun u hu => by obtain ⟨x, _, rfl⟩ := List.mem_map.1 hu; rfl)
 have HC2 : Hid (∀ W, Below w.heap.size w W → Calls Tryz.prog 97 #[.slice va G.vars.length vc] W fun e w' => ∃ v', e = .returned v' ∧ w'.ownsRow W.heap.size 23 1 v' G.vars.length (G.vars.map bytV) ∧ Below W.heap.size W w') := fun W hb => cloneT_any (RowAt.below HVS hb) (by simp) hml (fun u hu => by obtain ⟨x, _, rfl⟩ := List.mem_map.1 hu; rfl)
 have HC3 : Hid (∀ W, Below w.heap.size w W → Calls Tryz.prog 98 #[.slice aa G.arrs.length ac] W fun e w' => ∃ v', e = .returned v' ∧ w'.ownsRow W.heap.size 50 2 v' G.arrs.length (arrCells G.arrs) ∧ Below W.heap.size W w') := fun W hb => cloneA_any (RowAt.below HAS hb) (arrs_len _) hal (arrs_one _)
 have HG0 : Hid (BG w ((w.alloc (.cells #[.string G.name, .slice pa G.params.length pc, .int .u8 G.result, .slice va G.vars.length vc, .slice aa G.arrs.length ac, .slice ba G.blocks.length bc] 28)).alloc (.cells #[.string ⟨#[]⟩, .slice none 0 0, .int .u8 0, .slice none 0 0, .slice none 0 0, .slice none 0 0] 28)) [.string G.name, .slice pa G.params.length pc, .int .u8 G.result, .slice va G.vars.length vc, .slice aa G.arrs.length ac, .slice ba G.blocks.length bc]) := BG.new w [.string G.name, .slice pa G.params.length pc, .int .u8 G.result, .slice va G.vars.length vc, .slice aa G.arrs.length ac, .slice ba G.blocks.length bc]
 have hsz2 : ((w.alloc (.cells #[.string G.name, .slice pa G.params.length pc, .int .u8 G.result, .slice va G.vars.length vc, .slice aa G.arrs.length ac, .slice ba G.blocks.length bc] 28)).alloc (.cells #[.string ⟨#[]⟩, .slice none 0 0, .int .u8 0, .slice none 0 0, .slice none 0 0, .slice none 0 0] 28)).heap.size = w.heap.size + 2 := by simp
 generalize hnlen : need.length = nlen at *
 clear h hN hd hsz ha HPS HVS HAS hnlen
 obtain ⟨nm, ps, r, vs, ars, bs⟩ := G
 dsimp only at *
 have HTO : Hid ((∀ i b, bs[i]? = some b → blsTo need bs (i + 1) = (blsTo need bs i).set i (dBl need b)) ∧ (∀ i, i < bs.length → (blsTo need bs i)[i]? = some zBl) ∧ (∀ i, i ≤ bs.length → (blsTo need bs i).length = bs.length) ∧ blsTo need bs bs.length = bs.map (dBl need) ∧ blsTo need bs 0 = List.replicate bs.length zBl) := ⟨fun i b hb => blsTo_next need hb, fun i hi => blsTo_at need hi, fun i hi => blsTo_len need hi, blsTo_all need bs, blsTo_zero need bs⟩
 have HSM : Hid (∀ i, i < bs.length → bs[i]? = some (bs.getD i default)) := fun i hi => getD_somL hi
 have HPN : Hid (ps.length = ps.length ∧ vs.length = vs.length ∧ ars.length = ars.length) := ⟨rfl, rfl, rfl⟩
 have HLEN : Hid (∀ (W : World) (p t a : Value) (B : Nat), W.ownsRow B 3 1 p ps.length (ps.map intV) → W.ownsRow B 23 1 t vs.length (vs.map bytV) → W.ownsRow B 50 2 a ars.length (arrCells ars) → ∀ (b : Value) (ivs : List Value) (avss : List (List Value)), CB W (w.heap.size + 2) b (bs.map (dBl need)) ivs avss → (∀ g, (b.ownBlock = some g ∨ ∃ (i : Nat) (iv : Value) (avs : List Value), ivs[i]? = some iv ∧ avss[i]? = some avs ∧ KB iv avs g) → g < B) → B ≤ W.heap.size → w.heap.size ≤ B → CQ w W ⟨nm, ps, r, vs, ars, bs.map (dBl need)⟩ B p t a b ivs avss) := fun W p t a B h1 h2 h3 b ivs avss h4 h5 h6 h7 => ⟨h6, h7, h1, h2, h3, h4, h5⟩
 clear HPN
 generalize hnn : bs.length = n at *
 generalize hpl2 : ps.length = pl at *
 generalize hvl2 : vs.length = vl at *
 generalize hal2 : ars.length = al at *
 have HNN : Hid (bs.length = n) := hnn
 clear hnn hpl2 hvl2 hal2
 go_enter Tryz.func40, Tryz.ntmps40
 go_wp2
 generalize hW1 : ((w.alloc (.cells #[.string nm, .slice pa pl pc, .int .u8 r, .slice va vl vc, .slice aa al ac, .slice ba n bc] 28)).alloc (.cells #[.string ⟨#[]⟩, .slice none 0 0, .int .u8 0, .slice none 0 0, .slice none 0 0, .slice none 0 0] 28)) = W1 at *
 clear hW1
 have HB0 : Hid (BG w (W1.alloc (.cells (madeCells #[.slice none 0 0, .int .u8 0, .int .i64 0, .int .i64 0, .int .i64 0, .int .u8 0] (n * 6)) 63)) [.string nm, .slice pa pl pc, .int .u8 r, .slice va vl vc, .slice aa al ac, .slice ba n bc]) := HG0.out.below (below_alloc (Below.refl _ _) _)
 have HCB0 : Hid (CB (W1.alloc (.cells (madeCells #[.slice none 0 0, .int .u8 0, .int .i64 0, .int .i64 0, .int .i64 0, .int .u8 0] (n * 6)) 63)) (w.heap.size + 2) (.slice (some ⟨w.heap.size + 2, 0, none⟩) n n) (blsTo need bs 0) (List.replicate n (.slice none 0 0)) (List.replicate n [])) := by
  rw [HTO.out.2.2.2.2]
  refine CB.zero ?_
  have h9 := World.ownsRow_lit (base := w.heap.size + 2) (e := 63) (size := 6) W1 (madeCells #[.slice none 0 0, .int .u8 0, .int .i64 0, .int .i64 0, .int .i64 0, .int .u8 0] (n * 6)) n (by omega) (by unfold maxLen; omega) (by simp [size_madeCells])
  rw [made6, hsz2] at h9
  exact h9
 obtain ⟨a0, a1, a2, a3, a4, a5⟩ := box6 HB0.out.box
 have abl := HB0.out.box.lt
 clear HG0 hmk hsz2
 generalize (W1.alloc (.cells (madeCells #[.slice none 0 0, .int .u8 0, .int .i64 0, .int .i64 0, .int .i64 0, .int .u8 0] (n * 6)) 63)) = W2 at *
 go_wp2
 clear a0 a1 a2 a3 a4 a5 abl
 go_loopw [15] (fun vi wr => ∃ (i : Nat) (ivs : List Value) (avss : List (List Value)), vi = .int .i64 i ∧ i ≤ n ∧ Hid (BG w wr [.string nm, .slice pa pl pc, .int .u8 r, .slice va vl vc, .slice aa al ac, .slice ba n bc] ∧ CB wr (w.heap.size + 2) (.slice (some ⟨w.heap.size + 2, 0, none⟩) n n) (blsTo need bs i) ivs avss)) (fun vi _ => n - (intOf vi).toNat)
 case atStart => exact ⟨0, _, _, rfl, by omega, HB0.out, HCB0.out⟩
 case round =>
  obtain ⟨i, ivs, avss, rfl, hi, hr⟩ := hrel
  have HR : Hid _ := hr.out
  clear hr HB0 HCB0
  generalize wr = wo at *
  have HBO : Hid (BG w wo [.string nm, .slice pa pl pc, .int .u8 r, .slice va vl vc, .slice aa al ac, .slice ba n bc]) := HR.out.1
  by_cases hin : i < n
  ·have hin' : (i : Int) < n := by omega
   obtain ⟨g1, o1, iv, rfl, hg, k0, k1, k2, k3, k4, k5, hins⟩ := HB.out i hin
   have hcl : ∀ j, wo.cell? ⟨g1, j, none⟩ = w.cell? ⟨g1, j, none⟩ := fun j => HBO.out.low.cell (p := ⟨g1, j, none⟩) hg
   rw [← hcl] at k0 k1 k2 k3 k4 k5
   have HSTI : Hid (∀ W, Below w.heap.size w W → _) := fun W hW => HST.out i hin iv W hins hW
   have HNX : Hid _ := HTO.out.1 i _ (HSM.out i hin)
   have HZ : Hid _ := HTO.out.2.1 i hin
   have HLN : Hid _ := HTO.out.2.2.1 i (by omega)
   obtain ⟨ia, ic, rfl, hil⟩ := hins.form
   clear hcl hins HB HST
   have hDB : dBl need (bs.getD i default) = ⟨(bs.getD i default).ins.filter (keepN need), (bs.getD i default).tm⟩ := rfl
   have HDB : Hid _ := hDB
   clear hDB
   generalize bs.getD i default = X at *
   obtain ⟨L, tk, ta, t0, t1, tt⟩ := X
   dsimp only at *
   have HBT : Hid (Box (wo.alloc (.cells #[.slice ia L.length ic, .int .u8 tk, .int .i64 ta, .int .i64 t0, .int .i64 t1, .int .u8 tt] 63)) wo.heap.size [.slice ia L.length ic, .int .u8 tk, .int .i64 ta, .int .i64 t0, .int .i64 t1, .int .u8 tt]) := Box.new wo [.slice ia L.length ic, .int .u8 tk, .int .i64 ta, .int .i64 t0, .int .i64 t1, .int .u8 tt] 63
   have HBA : Hid (BG w (wo.alloc (.cells #[.slice ia L.length ic, .int .u8 tk, .int .i64 ta, .int .i64 t0, .int .i64 t1, .int .u8 tt] 63)) [.string nm, .slice pa pl pc, .int .u8 r, .slice va vl vc, .slice aa al ac, .slice (some ⟨g1, o1, none⟩) n bc]) := HBO.out.below (below_alloc (Below.refl _ _) _)
   have HCA : Hid (CB (wo.alloc (.cells #[.slice ia L.length ic, .int .u8 tk, .int .i64 ta, .int .i64 t0, .int .i64 t1, .int .u8 tt] 63)) (w.heap.size + 2) (.slice (some ⟨w.heap.size + 2, 0, none⟩) n n) (blsTo need bs i) ivs avss) := HR.out.2.below (below_alloc (Below.refl _ _) _)
   generalize hll : L.length = ll at *
   clear hll
   go_wp2
   have hsO : w.heap.size + 2 ≤ wo.heap.size := HBO.out.sz
   clear k0 k1 k2 k3 k4 k5 HR HBO
   generalize (wo.alloc (.cells #[.slice ia ll ic, .int .u8 tk, .int .i64 ta, .int .i64 t0, .int .i64 t1, .int .u8 tt] 63)) = W3 at *
   have HSX : Hid (∀ W, Below W3.heap.size W3 W → W.cell? ⟨wo.heap.size, 0, none⟩ = some (.slice ia ll ic) ∧ W.cell? ⟨wo.heap.size, 1, none⟩ = some (.int .u8 tk) ∧ W.cell? ⟨wo.heap.size, 2, none⟩ = some (.int .i64 ta) ∧ W.cell? ⟨wo.heap.size, 3, none⟩ = some (.int .i64 t0) ∧ W.cell? ⟨wo.heap.size, 4, none⟩ = some (.int .i64 t1) ∧ W.cell? ⟨wo.heap.size, 5, none⟩ = some (.int .u8 tt)) := fun W hW => box6 (HBT.out.below hW)
   refine wp_region_late (fun W => W.cell? ⟨wo.heap.size, 0, none⟩ = some (.slice ia ll ic) ∧ W.cell? ⟨wo.heap.size, 1, none⟩ = some (.int .u8 tk) ∧ W.cell? ⟨wo.heap.size, 2, none⟩ = some (.int .i64 ta) ∧ W.cell? ⟨wo.heap.size, 3, none⟩ = some (.int .i64 t0) ∧ W.cell? ⟨wo.heap.size, 4, none⟩ = some (.int .i64 t1) ∧ W.cell? ⟨wo.heap.size, 5, none⟩ = some (.int .u8 tt)) (fun j => decide (10 ≤ j)) (by kernel_rfl) (HSX.out _ (below_drew (Below.refl _ _))) (fun hHeld => ?_)
   have HBD : Hid (Below W3.heap.size W3 W3.drew) := below_drew (Below.refl _ _)
   refine wpAnyL_take 0 (v := ?_) rfl (by kernel_rfl) (by kernel_rfl) (by kernel_rfl) (by kernel_rfl) (fun _ _ _ h => h) hHeld (Or.inl ⟨by rfl, ?_⟩) ?_
   rotate_left 1
   ·(intro w hSw; (try dsimp only at hSw); (try obtain ⟨s0, s1, s2, s3, s4, s5⟩ := hSw); first | (go_simp; done) | (go_simp; with_reducible rfl))
   simp only [Act.put, List.setIfInBounds_toArray]
   refine wpAnyL_take 1 (v := ?_) rfl (by kernel_rfl) (by kernel_rfl) (by kernel_rfl) (by kernel_rfl) (fun _ _ _ h => h) hHeld (Or.inl ⟨by rfl, ?_⟩) ?_
   rotate_left 1
   ·(intro w hSw; (try dsimp only at hSw); (try obtain ⟨s0, s1, s2, s3, s4, s5⟩ := hSw); first | (go_simp; done) | (go_simp; with_reducible rfl))
   simp only [Act.put]
   refine wpAnyL_take 2 (v := ?_) rfl (by kernel_rfl) (by kernel_rfl) (by kernel_rfl) (by kernel_rfl) (fun _ _ _ h => h) hHeld (Or.inl ⟨by rfl, ?_⟩) ?_
   rotate_left 1
   ·(intro w hSw; (try dsimp only at hSw); (try obtain ⟨s0, s1, s2, s3, s4, s5⟩ := hSw); first | (go_simp; done) | (go_simp; with_reducible rfl))
   simp only [Act.put]
   refine wpAnyL_take 3 (v := ?_) rfl (by kernel_rfl) (by kernel_rfl) (by kernel_rfl) (by kernel_rfl) (fun _ _ _ h => h) hHeld (Or.inl ⟨by rfl, ?_⟩) ?_
   rotate_left 1
   ·(intro w hSw; (try dsimp only at hSw); (try obtain ⟨s0, s1, s2, s3, s4, s5⟩ := hSw); first | (go_simp; done) | (go_simp; with_reducible rfl))
   simp only [Act.put]
   refine wpAnyL_take 4 (v := ?_) rfl (by kernel_rfl) (by kernel_rfl) (by kernel_rfl) (by kernel_rfl) (fun _ _ _ h => h) hHeld (Or.inl ⟨by rfl, ?_⟩) ?_
   rotate_left 1
   ·(intro w hSw; (try dsimp only at hSw); (try obtain ⟨s0, s1, s2, s3, s4, s5⟩ := hSw); first | (go_simp; done) | (go_simp; with_reducible rfl))
   simp only [Act.put]
   refine wpAnyL_take 6 (v := ?_) rfl (by kernel_rfl) (by kernel_rfl) (by kernel_rfl) (by kernel_rfl) (fun _ _ _ h => h) hHeld (Or.inl ⟨by rfl, ?_⟩) ?_
   rotate_left 1
   ·(intro w hSw; (try dsimp only at hSw); (try obtain ⟨s0, s1, s2, s3, s4, s5⟩ := hSw); first | (go_simp; done) | (go_simp; with_reducible rfl))
   simp only [Act.put]
   refine wpAnyL_take 7 (v := ?_) rfl (by kernel_rfl) (by kernel_rfl) (by kernel_rfl) (by kernel_rfl) (fun _ _ _ h => h) hHeld (Or.inl ⟨by rfl, ?_⟩) ?_
   rotate_left 1
   ·(intro w hSw; (try dsimp only at hSw); (try obtain ⟨s0, s1, s2, s3, s4, s5⟩ := hSw); first | (go_simp; done) | (go_simp; with_reducible rfl))
   simp only [Act.put]
   clear hHeld
   refine wpAnyL_one 5 (by kernel_rfl) rfl (fun K hK0 => ?_)
   have hK : Shut _ := hK0
   clear hK0
   go_simp
   refine Calls.mono (by exact HSTI.out _ (below_trans HBA.out.low HBD.out)) ?_
   rintro e w5 ⟨v5, avs5, rfl, hb5, hc5⟩
   have HB5 : Hid (Below W3.heap.size W3 w5) := below_trans HBD.out hb5
   have HC5 : Hid _ := hc5
   have HL5 : Hid _ := hb5
   obtain ⟨xa, xl, xc, rfl⟩ : ∃ xa xl xc, v5 = .slice xa xl xc := (by obtain ⟨ya, yc, hv, _⟩ := own_blk (Nat.le_refl _) hc5.row; exact ⟨ya, _, yc, hv⟩)
   have hHeld := HSX.out _ HB5.out
   clear hb5 hc5
   dsimp only
   refine hK.out _ _ (fun _ => hHeld) ?_
   clear hK K
   refine wpAnyL_take 8 (v := ?_) rfl (by kernel_rfl) (by kernel_rfl) (by kernel_rfl) (by kernel_rfl) (fun _ _ _ h => h) hHeld (Or.inl ⟨by rfl, ?_⟩) ?_
   rotate_left 1
   ·(intro w hSw; (try dsimp only at hSw); (try obtain ⟨s0, s1, s2, s3, s4, s5⟩ := hSw); first | (go_simp; done) | (go_simp; with_reducible rfl))
   simp only [Act.put]
   clear hHeld
   have HCD : Hid (CB W3.drew (w.heap.size + 2) (.slice (some ⟨w.heap.size + 2, 0, none⟩) n n) (blsTo need bs i) ivs avss) := HCA.out.below HBD.out
   have HC6 : Hid (CB w5 (w.heap.size + 2) (.slice (some ⟨w.heap.size + 2, 0, none⟩) n n) (blsTo need bs i) ivs avss) := HCD.out.below HL5.out
   have hrow6 := HC6.out.row
   rw [HLN.out] at hrow6
   have HR6 : Hid (w5.ownsRow (w.heap.size + 2) 63 6 (.slice (some ⟨w.heap.size + 2, 0, none⟩) n n) n (blsCells (blsTo need bs i) ivs)) := hrow6
   have hz6 := HC6.out.al
   rw [HLN.out] at hz6
   have hfz := fun j => HR6.out.frozenAt j
   have hlt6 := (HR6.out.lt (w.heap.size + 2) rfl).2
   have hcells : ∀ j, j < 6 → ∃ u, w5.cell? ⟨w.heap.size + 2, i * 6 + j, none⟩ = some u := fun j hj => by
    rw [HR6.out.cellAt (i * 6 + j) (by omega)]
    exact ⟨_, List.getElem?_eq_getElem (by have h9 := HR6.out.1; omega)⟩
   obtain ⟨y0, z0⟩ := hcells 0 (by omega)
   obtain ⟨y1, z1⟩ := hcells 1 (by omega)
   obtain ⟨y2, z2⟩ := hcells 2 (by omega)
   obtain ⟨y3, z3⟩ := hcells 3 (by omega)
   obtain ⟨y4, z4⟩ := hcells 4 (by omega)
   obtain ⟨y5, z5⟩ := hcells 5 (by omega)
   have z6 : w5.cell? ⟨w.heap.size + 2, i * 6, none⟩ = some y0 := z0
   clear hcells hrow6 z0
   refine wpAnyL_one 9 (by kernel_rfl) rfl (fun K hK0 => ?_)
   have hK : Shut _ := hK0
   clear hK0
   go_simp
   refine hK.out _ _ (fun _ => HSX.out _ HB5.out) ?_
   clear hK K
   refine wpAnyL_one 10 (by kernel_rfl) rfl (fun K hK0 => ?_)
   have hK : Shut _ := hK0
   clear hK0
   go_simp
   refine hK.out _ _ (fun h => absurd h (by decide)) ?_
   clear hK K
   refine ⟨by kernel_rfl, ?_⟩
   go_simp
   have HIV : Hid (ivs[i]? = some (ivs.getD i (.slice none 0 0))) := by
    show _ = _
    rw [List.getD, List.getElem?_eq_getElem (by omega)]; rfl
   have HW6 : Hid (BG w ((((((w5.setCell ⟨w.heap.size + 2, i * 6, none⟩ (.slice xa xl xc)).setCell ⟨w.heap.size + 2, i * 6 + 1, none⟩ (.int .u8 tk)).setCell ⟨w.heap.size + 2, i * 6 + 2, none⟩ (.int .i64 ta)).setCell ⟨w.heap.size + 2, i * 6 + 3, none⟩ (.int .i64 t0)).setCell ⟨w.heap.size + 2, i * 6 + 4, none⟩ (.int .i64 t1)).setCell ⟨w.heap.size + 2, i * 6 + 5, none⟩ (.int .u8 tt)) [.string nm, .slice pa pl pc, .int .u8 r, .slice va vl vc, .slice aa al ac, .slice (some ⟨g1, o1, none⟩) n bc] ∧ CB ((((((w5.setCell ⟨w.heap.size + 2, i * 6, none⟩ (.slice xa xl xc)).setCell ⟨w.heap.size + 2, i * 6 + 1, none⟩ (.int .u8 tk)).setCell ⟨w.heap.size + 2, i * 6 + 2, none⟩ (.int .i64 ta)).setCell ⟨w.heap.size + 2, i * 6 + 3, none⟩ (.int .i64 t0)).setCell ⟨w.heap.size + 2, i * 6 + 4, none⟩ (.int .i64 t1)).setCell ⟨w.heap.size + 2, i * 6 + 5, none⟩ (.int .u8 tt)) (w.heap.size + 2) (.slice (some ⟨w.heap.size + 2, 0, none⟩) n n) (blsTo need bs (i + 1)) (ivs.set i (.slice xa xl xc)) (avss.set i avs5)) := by
    refine ⟨((((((HBA.out.below HB5.out).far (Nat.le_refl _) _ _).far (Nat.le_refl _) _ _).far (Nat.le_refl _) _ _).far (Nat.le_refl _) _ _).far (Nat.le_refl _) _ _).far (Nat.le_refl _) _ _, ?_⟩
    rw [HNX.out, HDB.out]
    have h6 := own_six (i := i) HR6.out (.slice xa xl xc) (.int .u8 tk) (.int .i64 ta) (.int .i64 t0) (.int .i64 t1) (.int .u8 tt)
    have h7 := blsCells_put (⟨L.filter (keepN need), ⟨tk, ta, t0, t1, tt⟩⟩ : Bl) (.slice xa xl xc) HZ.out HIV.out
    refine CB.put HCD.out (b := ⟨L.filter (keepN need), ⟨tk, ta, t0, t1, tt⟩⟩) (by rw [HLN.out]; exact hin) HL5.out HC5.out (by have := HBA.out.sz; exact Nat.le_trans this HBD.out.size) (by rw [HLN.out, ← h7]; exact h6) (fun g hg => ?_)
    have hne : g ≠ w.heap.size + 2 := fun e => hg (by rw [e]; rfl)
    rw [Below.heap_setCell _ _ _ g (by exact hne), Below.heap_setCell _ _ _ g (by exact hne), Below.heap_setCell _ _ _ g (by exact hne), Below.heap_setCell _ _ _ g (by exact hne), Below.heap_setCell _ _ _ g (by exact hne), Below.heap_setCell _ _ _ g (by exact hne)]
   clear HC6 HCD HCA HBA HR6 HBT HSX HSTI HC5 HL5 HB5 z6 z1 z2 z3 z4 z5 hfz hlt6
   go_wp2
   go_roundw
   case rel => exact ⟨i + 1, _, _, by first | rfl | (congr 1; omega), by omega, HW6.out.1, HW6.out.2⟩
   case measure => simp [intOf]; omega
  ·obtain rfl : i = n := by omega
   have HCC : Hid (CB wo (w.heap.size + 2) (.slice (some ⟨w.heap.size + 2, 0, none⟩) i i) (bs.map (dBl need)) ivs avss) := by have h9 := HR.out.2; rw [HTO.out.2.2.2.1] at h9; exact h9
   obtain ⟨d0, d1, d2, d3, d4, d5⟩ := box6 HBO.out.box
   have hdl := HBO.out.box.lt
   have hdf := HBO.out.box.fz 5
   have HBX : Hid (BG w (wo.setCell ⟨w.heap.size, 5, none⟩ (.slice (some ⟨w.heap.size + 2, 0, none⟩) i i)) [.string nm, .slice pa pl pc, .int .u8 r, .slice va vl vc, .slice aa al ac, .slice (some ⟨w.heap.size + 2, 0, none⟩) i i]) := HBO.out.set 5 (by simp) _
   have HCX : Hid (CB (wo.setCell ⟨w.heap.size, 5, none⟩ (.slice (some ⟨w.heap.size + 2, 0, none⟩) i i)) (w.heap.size + 2) (.slice (some ⟨w.heap.size + 2, 0, none⟩) i i) (bs.map (dBl need)) ivs avss) := HCC.out.same fun g hg => Below.heap_setCell wo ⟨w.heap.size, 5, none⟩ _ g (by show g ≠ w.heap.size; omega)
   clear HR HB HST HTO HSM HNN HBO HCC
   go_wp2
   generalize wo.setCell ⟨w.heap.size, 5, none⟩ (.slice (some ⟨w.heap.size + 2, 0, none⟩) i i) = W8 at *
   refine wp_region_late (fun W => W.cell? ⟨w.heap.size, 0, none⟩ = some (.string nm) ∧ W.cell? ⟨w.heap.size, 1, none⟩ = some (.slice pa pl pc) ∧ W.cell? ⟨w.heap.size, 2, none⟩ = some (.int .u8 r) ∧ W.cell? ⟨w.heap.size, 3, none⟩ = some (.slice va vl vc) ∧ W.cell? ⟨w.heap.size, 4, none⟩ = some (.slice aa al ac) ∧ W.cell? ⟨w.heap.size, 5, none⟩ = some (.slice (some ⟨w.heap.size + 2, 0, none⟩) i i)) (fun j => decide (10 ≤ j)) (by kernel_rfl) (box6 (HBX.out.below (below_drew (Below.refl _ _))).box) (fun hHeld => ?_)
   have HB8 : Hid (BG w W8.drew [.string nm, .slice pa pl pc, .int .u8 r, .slice va vl vc, .slice aa al ac, .slice (some ⟨w.heap.size + 2, 0, none⟩) i i]) := HBX.out.below (below_drew (Below.refl _ _))
   have HC8 : Hid (CB W8.drew (w.heap.size + 2) (.slice (some ⟨w.heap.size + 2, 0, none⟩) i i) (bs.map (dBl need)) ivs avss) := HCX.out.below (below_drew (Below.refl _ _))
   clear HBX HCX
   generalize W8.drew = W9 at *
   obtain ⟨B9, hB9⟩ : ∃ B9, B9 = W9.heap.size := ⟨_, rfl⟩
   have hs8 : B9 ≤ W9.heap.size := by omega
   have hbB : w.heap.size + 2 ≤ B9 := by have := HB8.out.sz; omega
   have HLOW : Hid (∀ g, ((Value.slice (some ⟨w.heap.size + 2, 0, none⟩) i i).ownBlock = some g ∨ ∃ (j : Nat) (iv : Value) (avs : List Value), ivs[j]? = some iv ∧ avss[j]? = some avs ∧ KB iv avs g) → g < B9) := fun g hg => by
    rw [hB9]
    rcases hg with hg | ⟨j, iv, avs, h1, h2, h3⟩
    ·exact (HC8.out.row.lt g hg).2
    ·exact (HC8.out.iv_kb h1 h2 h3).2
   clear hB9
   refine wpAnyL_take 0 (v := ?_) rfl (by kernel_rfl) (by kernel_rfl) (by kernel_rfl) (by kernel_rfl) (fun _ _ _ h => h) hHeld (Or.inl ⟨by rfl, ?_⟩) ?_
   rotate_left 1
   ·(intro w hSw; (try dsimp only at hSw); (try obtain ⟨s0, s1, s2, s3, s4, s5⟩ := hSw); first | (go_simp; done) | (go_simp; with_reducible rfl))
   simp only [Act.put, List.setIfInBounds_toArray]
   refine wpAnyL_take 1 (v := ?_) rfl (by kernel_rfl) (by kernel_rfl) (by kernel_rfl) (by kernel_rfl) (fun _ _ _ h => h) hHeld (Or.inl ⟨by rfl, ?_⟩) ?_
   rotate_left 1
   ·(intro w hSw; (try dsimp only at hSw); (try obtain ⟨s0, s1, s2, s3, s4, s5⟩ := hSw); first | (go_simp; done) | (go_simp; with_reducible rfl))
   simp only [Act.put]
   refine wpAnyL_take 3 (v := ?_) rfl (by kernel_rfl) (by kernel_rfl) (by kernel_rfl) (by kernel_rfl) (fun _ _ _ h => h) hHeld (Or.inl ⟨by rfl, ?_⟩) ?_
   rotate_left 1
   ·(intro w hSw; (try dsimp only at hSw); (try obtain ⟨s0, s1, s2, s3, s4, s5⟩ := hSw); first | (go_simp; done) | (go_simp; with_reducible rfl))
   simp only [Act.put]
   refine wpAnyL_take 4 (v := ?_) rfl (by kernel_rfl) (by kernel_rfl) (by kernel_rfl) (by kernel_rfl) (fun _ _ _ h => h) hHeld (Or.inl ⟨by rfl, ?_⟩) ?_
   rotate_left 1
   ·(intro w hSw; (try dsimp only at hSw); (try obtain ⟨s0, s1, s2, s3, s4, s5⟩ := hSw); first | (go_simp; done) | (go_simp; with_reducible rfl))
   simp only [Act.put]
   refine wpAnyL_take 6 (v := ?_) rfl (by kernel_rfl) (by kernel_rfl) (by kernel_rfl) (by kernel_rfl) (fun _ _ _ h => h) hHeld (Or.inl ⟨by rfl, ?_⟩) ?_
   rotate_left 1
   ·(intro w hSw; (try dsimp only at hSw); (try obtain ⟨s0, s1, s2, s3, s4, s5⟩ := hSw); first | (go_simp; done) | (go_simp; with_reducible rfl))
   simp only [Act.put]
   refine wpAnyL_take 7 (v := ?_) rfl (by kernel_rfl) (by kernel_rfl) (by kernel_rfl) (by kernel_rfl) (fun _ _ _ h => h) hHeld (Or.inl ⟨by rfl, ?_⟩) ?_
   rotate_left 1
   ·(intro w hSw; (try dsimp only at hSw); (try obtain ⟨s0, s1, s2, s3, s4, s5⟩ := hSw); first | (go_simp; done) | (go_simp; with_reducible rfl))
   simp only [Act.put]
   clear hHeld
   have HQ1 : Hid (∀ W, Below w.heap.size w W → Calls Tryz.prog 96 #[.slice pa pl pc] W fun e w' => ∃ v', e = .returned v' ∧ w'.ownsRow W.heap.size 3 1 v' pl (ps.map intV) ∧ Below W.heap.size W w') := fun W hb => HC1.out W hb
   have HQ2 : Hid (∀ W, Below w.heap.size w W → Calls Tryz.prog 97 #[.slice va vl vc] W fun e w' => ∃ v', e = .returned v' ∧ w'.ownsRow W.heap.size 23 1 v' vl (vs.map bytV) ∧ Below W.heap.size W w') := fun W hb => HC2.out W hb
   have HQ3 : Hid (∀ W, Below w.heap.size w W → Calls Tryz.prog 98 #[.slice aa al ac] W fun e w' => ∃ v', e = .returned v' ∧ w'.ownsRow W.heap.size 50 2 v' al (arrCells ars) ∧ Below W.heap.size W w') := fun W hb => HC3.out W hb
   refine wpAnyL_one 2 (by kernel_rfl) rfl (fun K hK0 => ?_)
   have hK : Shut _ := hK0
   clear hK0
   go_simp
   refine Calls.mono (by exact HQ1.out _ HB8.out.low) ?_
   rintro e w10 ⟨v10, rfl, ho10, hb10⟩
   obtain ⟨p1, p2, rfl⟩ : ∃ p1 p2, v10 = .slice p1 pl p2 := (by obtain ⟨ya, yc, hv, _⟩ := own_blk (Nat.le_refl _) ho10; exact ⟨ya, yc, hv⟩)
   have HB10 : Hid (BG w w10 [.string nm, .slice pa pl pc, .int .u8 r, .slice va vl vc, .slice aa al ac, .slice (some ⟨w.heap.size + 2, 0, none⟩) i i]) := HB8.out.below hb10
   have HC10 : Hid (CB w10 (w.heap.size + 2) (.slice (some ⟨w.heap.size + 2, 0, none⟩) i i) (bs.map (dBl need)) ivs avss) := HC8.out.below hb10
   have HO10 : Hid (OW w10 B9 3 1 (.slice p1 pl p2) pl (ps.map intV)) := ⟨own_mono ho10 hs8⟩
   have hs10 : B9 ≤ w10.heap.size := Nat.le_trans hs8 hb10.size
   have hHeld := box6 HB10.out.box
   clear ho10 hb10
   dsimp only
   refine hK.out _ _ (fun _ => hHeld) ?_
   clear hK K
   refine wpAnyL_take 9 (v := ?_) rfl (by kernel_rfl) (by kernel_rfl) (by kernel_rfl) (by kernel_rfl) (fun _ _ _ h => h) hHeld (Or.inl ⟨by rfl, ?_⟩) ?_
   rotate_left 1
   ·(intro w hSw; (try dsimp only at hSw); (try obtain ⟨s0, s1, s2, s3, s4, s5⟩ := hSw); first | (go_simp; done) | (go_simp; with_reducible rfl))
   simp only [Act.put]
   clear hHeld
   refine wpAnyL_one 5 (by kernel_rfl) rfl (fun K hK0 => ?_)
   have hK : Shut _ := hK0
   clear hK0
   go_simp
   refine Calls.mono (by exact HQ2.out _ HB10.out.low) ?_
   rintro e w11 ⟨v11, rfl, ho11, hb11⟩
   obtain ⟨t1, t2, rfl⟩ : ∃ t1 t2, v11 = .slice t1 vl t2 := (by obtain ⟨ya, yc, hv, _⟩ := own_blk (Nat.le_refl _) ho11; exact ⟨ya, yc, hv⟩)
   have HB11 : Hid (BG w w11 [.string nm, .slice pa pl pc, .int .u8 r, .slice va vl vc, .slice aa al ac, .slice (some ⟨w.heap.size + 2, 0, none⟩) i i]) := HB10.out.below hb11
   have HC11 : Hid (CB w11 (w.heap.size + 2) (.slice (some ⟨w.heap.size + 2, 0, none⟩) i i) (bs.map (dBl need)) ivs avss) := HC10.out.below hb11
   have HO11 : Hid (OW w11 B9 3 1 (.slice p1 pl p2) pl (ps.map intV) ∧ OW w11 B9 23 1 (.slice t1 vl t2) vl (vs.map bytV)) := ⟨HO10.out.below hb11, ⟨own_mono ho11 hs10⟩⟩
   have hs11 : B9 ≤ w11.heap.size := Nat.le_trans hs10 hb11.size
   have hHeld := box6 HB11.out.box
   clear ho11 hb11
   dsimp only
   refine hK.out _ _ (fun _ => hHeld) ?_
   clear hK K
   clear hHeld
   refine wpAnyL_one 8 (by kernel_rfl) rfl (fun K hK0 => ?_)
   have hK : Shut _ := hK0
   clear hK0
   go_simp
   refine Calls.mono (by exact HQ3.out _ HB11.out.low) ?_
   rintro e w12 ⟨v12, rfl, ho12, hb12⟩
   obtain ⟨a1, a2, rfl⟩ : ∃ a1 a2, v12 = .slice a1 al a2 := (by obtain ⟨ya, yc, hv, _⟩ := own_blk (Nat.le_refl _) ho12; exact ⟨ya, yc, hv⟩)
   have HB12 : Hid (BG w w12 [.string nm, .slice pa pl pc, .int .u8 r, .slice va vl vc, .slice aa al ac, .slice (some ⟨w.heap.size + 2, 0, none⟩) i i]) := HB11.out.below hb12
   have HC12 : Hid (CB w12 (w.heap.size + 2) (.slice (some ⟨w.heap.size + 2, 0, none⟩) i i) (bs.map (dBl need)) ivs avss) := HC11.out.below hb12
   have HS12 : Hid (B9 ≤ w12.heap.size) := Nat.le_trans hs11 hb12.size
   have HO12 : Hid (OW w12 B9 3 1 (.slice p1 pl p2) pl (ps.map intV) ∧ OW w12 B9 23 1 (.slice t1 vl t2) vl (vs.map bytV) ∧ OW w12 B9 50 2 (.slice a1 al a2) al (arrCells ars)) := ⟨HO11.out.1.below hb12, HO11.out.2.below hb12, ⟨own_mono ho12 hs11⟩⟩
   have hHeld := box6 HB12.out.box
   clear ho12 hb12
   dsimp only
   refine hK.out _ _ (fun _ => hHeld) ?_
   clear hK K
   clear hHeld
   obtain ⟨k0, k1, k2, k3, k4, k5⟩ := box6 HB12.out.box
   have kf := HB12.out.box.fz
   refine wpAnyL_one 10 (by kernel_rfl) rfl (fun K hK0 => ?_)
   have hK : Shut _ := hK0
   clear hK0
   go_simp
   refine hK.out _ _ (fun h => absurd h (by decide)) ?_
   clear hK K
   have HB13 : Hid (BG w (w12.setCell ⟨w.heap.size, 1, none⟩ (.slice p1 pl p2)) [.string nm, .slice p1 pl p2, .int .u8 r, .slice va vl vc, .slice aa al ac, .slice (some ⟨w.heap.size + 2, 0, none⟩) i i]) := HB12.out.set 1 (by simp) _
   have HO13 : Hid (OW (w12.setCell ⟨w.heap.size, 1, none⟩ (.slice p1 pl p2)) B9 3 1 (.slice p1 pl p2) pl (ps.map intV) ∧ OW (w12.setCell ⟨w.heap.size, 1, none⟩ (.slice p1 pl p2)) B9 23 1 (.slice t1 vl t2) vl (vs.map bytV) ∧ OW (w12.setCell ⟨w.heap.size, 1, none⟩ (.slice p1 pl p2)) B9 50 2 (.slice a1 al a2) al (arrCells ars) ∧ CB (w12.setCell ⟨w.heap.size, 1, none⟩ (.slice p1 pl p2)) (w.heap.size + 2) (.slice (some ⟨w.heap.size + 2, 0, none⟩) i i) (bs.map (dBl need)) ivs avss) := ⟨BG.own HO12.out.1 (by omega) _ _, BG.own HO12.out.2.1 (by omega) _ _, BG.own HO12.out.2.2 (by omega) _ _, HC12.out.same fun g hg => Below.heap_setCell w12 ⟨w.heap.size, 1, none⟩ _ g (by show g ≠ w.heap.size; omega)⟩
   clear HB12 HO12 HC12 k0 k1 k2 k3 k4 k5 kf
   have HS13 : Hid (B9 ≤ (w12.setCell ⟨w.heap.size, 1, none⟩ (.slice p1 pl p2)).heap.size) := by show _ ≤ _; have := HS12.out; simpa [World.setCell] using this
   generalize w12.setCell ⟨w.heap.size, 1, none⟩ (.slice p1 pl p2) = w13 at *
   obtain ⟨k0, k1, k2, k3, k4, k5⟩ := box6 HB13.out.box
   have kf := HB13.out.box.fz
   refine wpAnyL_one 11 (by kernel_rfl) rfl (fun K hK0 => ?_)
   have hK : Shut _ := hK0
   clear hK0
   go_simp
   refine hK.out _ _ (fun h => absurd h (by decide)) ?_
   clear hK K
   refine wpAnyL_one 12 (by kernel_rfl) rfl (fun K hK0 => ?_)
   have hK : Shut _ := hK0
   clear hK0
   go_simp
   refine hK.out _ _ (fun h => absurd h (by decide)) ?_
   clear hK K
   have HB14 : Hid (BG w (w13.setCell ⟨w.heap.size, 3, none⟩ (.slice t1 vl t2)) [.string nm, .slice p1 pl p2, .int .u8 r, .slice t1 vl t2, .slice aa al ac, .slice (some ⟨w.heap.size + 2, 0, none⟩) i i]) := HB13.out.set 3 (by simp) _
   have HO14 : Hid (OW (w13.setCell ⟨w.heap.size, 3, none⟩ (.slice t1 vl t2)) B9 3 1 (.slice p1 pl p2) pl (ps.map intV) ∧ OW (w13.setCell ⟨w.heap.size, 3, none⟩ (.slice t1 vl t2)) B9 23 1 (.slice t1 vl t2) vl (vs.map bytV) ∧ OW (w13.setCell ⟨w.heap.size, 3, none⟩ (.slice t1 vl t2)) B9 50 2 (.slice a1 al a2) al (arrCells ars) ∧ CB (w13.setCell ⟨w.heap.size, 3, none⟩ (.slice t1 vl t2)) (w.heap.size + 2) (.slice (some ⟨w.heap.size + 2, 0, none⟩) i i) (bs.map (dBl need)) ivs avss) := ⟨BG.own HO13.out.1 (by omega) _ _, BG.own HO13.out.2.1 (by omega) _ _, BG.own HO13.out.2.2.1 (by omega) _ _, HO13.out.2.2.2.same fun g hg => Below.heap_setCell w13 ⟨w.heap.size, 3, none⟩ _ g (by show g ≠ w.heap.size; omega)⟩
   clear HB13 HO13 k0 k1 k2 k3 k4 k5 kf
   have HS14 : Hid (B9 ≤ (w13.setCell ⟨w.heap.size, 3, none⟩ (.slice t1 vl t2)).heap.size) := by show _ ≤ _; have := HS13.out; simpa [World.setCell] using this
   generalize w13.setCell ⟨w.heap.size, 3, none⟩ (.slice t1 vl t2) = w14 at *
   obtain ⟨k0, k1, k2, k3, k4, k5⟩ := box6 HB14.out.box
   have kf := HB14.out.box.fz
   refine wpAnyL_one 13 (by kernel_rfl) rfl (fun K hK0 => ?_)
   have hK : Shut _ := hK0
   clear hK0
   go_simp
   refine hK.out _ _ (fun h => absurd h (by decide)) ?_
   clear hK K
   refine wpAnyL_one 14 (by kernel_rfl) rfl (fun K hK0 => ?_)
   have hK : Shut _ := hK0
   clear hK0
   go_simp
   refine hK.out _ _ (fun h => absurd h (by decide)) ?_
   clear hK K
   have HB15 : Hid (BG w (w14.setCell ⟨w.heap.size, 4, none⟩ (.slice a1 al a2)) [.string nm, .slice p1 pl p2, .int .u8 r, .slice t1 vl t2, .slice a1 al a2, .slice (some ⟨w.heap.size + 2, 0, none⟩) i i]) := HB14.out.set 4 (by simp) _
   have HO15 : Hid (OW (w14.setCell ⟨w.heap.size, 4, none⟩ (.slice a1 al a2)) B9 3 1 (.slice p1 pl p2) pl (ps.map intV) ∧ OW (w14.setCell ⟨w.heap.size, 4, none⟩ (.slice a1 al a2)) B9 23 1 (.slice t1 vl t2) vl (vs.map bytV) ∧ OW (w14.setCell ⟨w.heap.size, 4, none⟩ (.slice a1 al a2)) B9 50 2 (.slice a1 al a2) al (arrCells ars) ∧ CB (w14.setCell ⟨w.heap.size, 4, none⟩ (.slice a1 al a2)) (w.heap.size + 2) (.slice (some ⟨w.heap.size + 2, 0, none⟩) i i) (bs.map (dBl need)) ivs avss) := ⟨BG.own HO14.out.1 (by omega) _ _, BG.own HO14.out.2.1 (by omega) _ _, BG.own HO14.out.2.2.1 (by omega) _ _, HO14.out.2.2.2.same fun g hg => Below.heap_setCell w14 ⟨w.heap.size, 4, none⟩ _ g (by show g ≠ w.heap.size; omega)⟩
   clear HB14 HO14 k0 k1 k2 k3 k4 k5 kf
   have HS15 : Hid (B9 ≤ (w14.setCell ⟨w.heap.size, 4, none⟩ (.slice a1 al a2)).heap.size) := by show _ ≤ _; have := HS14.out; simpa [World.setCell] using this
   generalize w14.setCell ⟨w.heap.size, 4, none⟩ (.slice a1 al a2) = w15 at *
   obtain ⟨k0, k1, k2, k3, k4, k5⟩ := box6 HB15.out.box
   have klt := HB15.out.box.lt
   obtain ⟨z0, z1, z2, z3, z4, z5⟩ := box6 HB15.out.rbx
   have zf := HB15.out.rbx.fz
   have zlt := HB15.out.rbx.lt
   refine ⟨by kernel_rfl, ?_⟩
   go_simp
   go_wp2
   obtain ⟨q1, q2, q3⟩ := six_end (r := w.heap.size + 1) HB15.out.low (by omega) HB15.out.res (.string nm) (.slice p1 pl p2) (.int .u8 r) (.slice t1 vl t2) (.slice a1 al a2) (.slice (some ⟨w.heap.size + 2, 0, none⟩) i i)
   refine bodyPost_ret (results_cell_row rfl _ _ (w.heap.size + 1) 28 #[.string nm, .slice p1 pl p2, .int .u8 r, .slice t1 vl t2, .slice a1 al a2, .slice (some ⟨w.heap.size + 2, 0, none⟩) i i] _ _ rfl q2 Tryz.underlying28 rfl (by rfl)) rfl ⟨.slice p1 pl p2, .slice t1 vl t2, .slice a1 al a2, .slice (some ⟨w.heap.size + 2, 0, none⟩) i i, B9, ivs, avss, rfl, q1, ?_⟩
   have hk9 : ∀ k, w.heap.size + 2 ≤ k → (setSix w15 (w.heap.size + 1) (.string nm) (.slice p1 pl p2) (.int .u8 r) (.slice t1 vl t2) (.slice a1 al a2) (.slice (some ⟨w.heap.size + 2, 0, none⟩) i i)).heap[k]? = w15.heap[k]? := fun k hk => q3 k (by omega)
   have o1 := owns_same HO15.out.1.own fun g hg => hk9 g (by have := (HO15.out.1.own.lt g hg).1; omega)
   have o2 := owns_same HO15.out.2.1.own fun g hg => hk9 g (by have := (HO15.out.2.1.own.lt g hg).1; omega)
   have o3 := owns_same HO15.out.2.2.1.own fun g hg => hk9 g (by have := (HO15.out.2.2.1.own.lt g hg).1; omega)
   have o4 := HO15.out.2.2.2.same fun g hg => hk9 g hg
   have hfs : (setSix w15 (w.heap.size + 1) (.string nm) (.slice p1 pl p2) (.int .u8 r) (.slice t1 vl t2) (.slice a1 al a2) (.slice (some ⟨w.heap.size + 2, 0, none⟩) i i)).heap.size = w15.heap.size := by unfold setSix; simp [World.setCell]
   exact HLEN.out _ _ _ _ _ o1 o2 o3 _ _ _ o4 HLOW.out (by rw [hfs]; exact HS15.out) (by omega)
end Go.Proofs.YtajaijilfclhpaaGreatDoor
