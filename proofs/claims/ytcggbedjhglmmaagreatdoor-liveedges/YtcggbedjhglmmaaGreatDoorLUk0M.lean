/- A graph copied. -/
import Derived.Test.YtcggbedjhglmmaaGreatDoorLCcM
namespace Go.Proofs.YtcggbedjhglmmaaGreatDoor
open Go.RowKit

theorem tys_one (l : List Int) : ∀ u ∈ l.map bytV, u.oneCell' = true := fun u hu => by obtain ⟨x, _, rfl⟩ := List.mem_map.1 hu; rfl
theorem arrs_one : ∀ (l : List (Int × Int)), ∀ u ∈ arrCells l, u.oneCell' = true
  | [], u, hu => by simp [arrCells] at hu
  | x :: l, u, hu => by
    unfold arrCells at hu
    simp only [List.mem_cons] at hu
    rcases hu with rfl | rfl | hu
    · rfl
    · rfl
    · exact arrs_one l u hu
theorem arrs_len : ∀ (l : List (Int × Int)), (arrCells l).length = l.length * 2
  | [] => rfl
  | x :: l => by
    have := arrs_len l
    unfold arrCells
    simp [this]
    omega
/-- a copy of a graph: its blocks lie at B and above, all else below that -/
structure CG (w w' : World) (G : Gr) (B : Nat) (pv vv av bv : Value) (ivs : List Value) (avss : List (List Value)) : Prop where
  lo : w.heap.size ≤ B
  ps : w'.ownsRow w.heap.size 3 1 pv G.params.length (G.params.map intV)
  vs : w'.ownsRow w.heap.size 23 1 vv G.vars.length (G.vars.map bytV)
  ars : w'.ownsRow w.heap.size 110 2 av G.arrs.length (arrCells G.arrs)
  pb : ∀ g, pv.ownBlock = some g → g < B
  vb : ∀ g, vv.ownBlock = some g → g < B
  ab : ∀ g, av.ownBlock = some g → g < B
  bs : CB w' B bv G.blocks ivs avss
theorem CB.same {w w' : World} {base : Nat} {v : Value} {bs : List Bl} {ivs : List Value} {avss : List (List Value)} (h : CB w base v bs ivs avss) (hk : ∀ g, base ≤ g → w'.heap[g]? = w.heap[g]?) : CB w' base v bs ivs avss :=
  ⟨owns_same h.row fun g hg => hk g (h.row.lt g hg).1, h.al, h.vl, fun i b iv avs h1 h2 h3 => (h.kid i b iv avs h1 h2 h3).same fun g hg => hk g ((h.kid i b iv avs h1 h2 h3).lt hg).1, h.ap, h.pw⟩
/-- while it is copied: the box, the cell of the answer -/
structure BG (w wr : World) (cs : List Value) : Prop where
  low : Below w.heap.size w wr
  box : Box wr w.heap.size cs
  res : wr.heap[w.heap.size + 1]? = some (.cells #[.string ⟨#[]⟩, .slice none 0 0, .int .u8 0, .slice none 0 0, .slice none 0 0, .slice none 0 0] 28 (0, 0))
  rbx : Box wr (w.heap.size + 1) [.string ⟨#[]⟩, .slice none 0 0, .int .u8 0, .slice none 0 0, .slice none 0 0, .slice none 0 0]
  sz : w.heap.size + 2 ≤ wr.heap.size
theorem BG.below {w wr w2 : World} {cs : List Value} (h : BG w wr cs) (hb : Below wr.heap.size wr w2) : BG w w2 cs := ⟨below_trans h.low hb, h.box.below hb, by rw [hb.block _ (by have := h.sz; omega)]; exact h.res, h.rbx.below hb, Nat.le_trans h.sz hb.size⟩
theorem BG.set {w wr : World} {cs : List Value} (h : BG w wr cs) (j : Nat) (hj : j < cs.length) (u : Value) : BG w (wr.setCell ⟨w.heap.size, j, none⟩ u) (cs.set j u) :=
  ⟨h.low.setCell (p := ⟨w.heap.size, j, none⟩) (Nat.le_refl _) _, h.box.set hj u, (Below.heap_setCell wr ⟨w.heap.size, j, none⟩ u (w.heap.size + 1) (by show w.heap.size + 1 ≠ w.heap.size; omega)).trans h.res, h.rbx.other (by show w.heap.size + 1 ≠ w.heap.size; omega) _, by have := h.sz; simp [World.setCell]; exact this⟩
structure OW (wr : World) (base : Nat) (e : TypeId) (sz : Nat) (v : Value) (n : Nat) (xs : List Value) : Prop where
  own : wr.ownsRow base e sz v n xs
theorem OW.below {w w' : World} {base : Nat} {e : TypeId} {sz : Nat} {v : Value} {n : Nat} {xs : List Value} (h : OW w base e sz v n xs) (hb : Below w.heap.size w w') : OW w' base e sz v n xs := ⟨owns_below h.own hb⟩
theorem BG.own {w wr : World} {e : TypeId} {sz : Nat} {v : Value} {n : Nat} {xs : List Value} {base : Nat} (ho : OW wr base e sz v n xs) (hb : w.heap.size < base) (j : Nat) (u : Value) : OW (wr.setCell ⟨w.heap.size, j, none⟩ u) base e sz v n xs := ⟨owns_other ho.own (fun e => by have := (ho.own.lt _ e).1; simp at this; omega) u⟩
set_option maxRecDepth 100000 in
set_option maxHeartbeats 4000000 in
theorem copyG_any (G : Gr) (pv vv av bv : Value) (w : World) (h : GrAt w pv vv av bv G) (hpl : G.params.length ≤ 1000000) (hml : G.vars.length ≤ 1000000) (hal : G.arrs.length ≤ 1000000) (hl : G.blocks.length ≤ 1000000) (hli : ∀ b ∈ G.blocks, b.ins.length ≤ 1000000) (hla : ∀ b ∈ G.blocks, ∀ x ∈ b.ins, x.args.length ≤ 1000000) :
    Calls Tryz.prog 31 #[.agg #[.string G.name, pv, .int .u8 G.result, vv, av, bv]] w fun e w' => ∃ pv' vv' av' bv' B ivs avss, e = .returned (.agg #[.string G.name, pv', .int .u8 G.result, vv', av', bv']) ∧ CG w w' G B pv' vv' av' bv' ivs avss ∧ Below w.heap.size w w' := by
  obtain ⟨pa, pc, va, vc, aa, ac, ba, bc, rfl, rfl, rfl, rfl, _, _, _, _⟩ := h.openF
  have HP : Hid (∀ W, Below w.heap.size w W → _) := fun W hb => copyI_any (h.ps.below hb) (by simp) hpl (ints_one _)
  have HV : Hid (∀ W, Below w.heap.size w W → _) := fun W hb => copyT_any (h.vs.below hb) (by simp) hml (tys_one _)
  have HA : Hid (∀ W, Below w.heap.size w W → _) := fun W hb => copyA_any (h.ars.below hb) (arrs_len _) hal (arrs_one _)
  have HB : Hid (∀ W, Below w.heap.size w W → _) := fun W hb => copyBs_any G.blocks _ W (h.bs.below hb) hl hli hla
  clear h hpl hml hal hl hli hla
  obtain ⟨nm, ps, r, vs, ars, bs⟩ := G
  dsimp only at *
  generalize hp1 : ps.length = pl at *
  generalize hm1 : vs.length = m at *
  generalize ha1 : ars.length = al at *
  generalize hn1 : bs.length = n at *
  have HLN : Hid (ps.length = pl ∧ vs.length = m ∧ ars.length = al ∧ bs.length = n) := ⟨hp1, hm1, ha1, hn1⟩
  clear hp1 hm1 ha1 hn1
  have H1 : Hid (BG w ((w.alloc (.cells #[.string nm, .slice pa pl pc, .int .u8 r, .slice va m vc, .slice aa al ac, .slice ba n bc] 28)).alloc (.cells #[.string ⟨#[]⟩, .slice none 0 0, .int .u8 0, .slice none 0 0, .slice none 0 0, .slice none 0 0] 28)) [.string nm, .slice pa pl pc, .int .u8 r, .slice va m vc, .slice aa al ac, .slice ba n bc]) := by
    refine ⟨below_alloc (below_alloc (Below.refl _ _) _) _, (Box.new w [.string nm, .slice pa pl pc, .int .u8 r, .slice va m vc, .slice aa al ac, .slice ba n bc] 28).below (below_alloc (Below.refl _ _) _), ?_, by have h9 := Box.new (w.alloc (.cells #[.string nm, .slice pa pl pc, .int .u8 r, .slice va m vc, .slice aa al ac, .slice ba n bc] 28)) [.string ⟨#[]⟩, .slice none 0 0, .int .u8 0, .slice none 0 0, .slice none 0 0, .slice none 0 0] 28; rwa [show (w.alloc (.cells #[.string nm, .slice pa pl pc, .int .u8 r, .slice va m vc, .slice aa al ac, .slice ba n bc] 28)).heap.size = w.heap.size + 1 by simp] at h9, by simp⟩
    have e : (w.alloc (.cells #[.string nm, .slice pa pl pc, .int .u8 r, .slice va m vc, .slice aa al ac, .slice ba n bc] 28)).heap.size = w.heap.size + 1 := by simp
    have h9 := heap_alloc_new (w.alloc (.cells #[.string nm, .slice pa pl pc, .int .u8 r, .slice va m vc, .slice aa al ac, .slice ba n bc] 28)) (.cells #[.string ⟨#[]⟩, .slice none 0 0, .int .u8 0, .slice none 0 0, .slice none 0 0, .slice none 0 0] 28)
    rw [e] at h9
    exact h9
  go_enter Tryz.func31, Tryz.ntmps31
  go_wp2_with (first
    | (go_at_call 61; go_loud (refine Calls.mono (by exact HP.out _ H1.out.low) ?_; rintro e w2 ⟨vx, rfl, ho, hb⟩; obtain ⟨ya, yc, rfl⟩ : ∃ ya yc, vx = .slice ya pl yc := (by obtain ⟨ya, yc, hv, _⟩ := own_blk (Nat.le_refl _) ho; exact ⟨ya, yc, hv⟩); have k2 := H1.out.below hb; have HK2 : Hid (BG w (w2.setCell ⟨w.heap.size, 1, none⟩ (.slice ya pl yc)) [.string nm, .slice ya pl yc, .int .u8 r, .slice va m vc, .slice aa al ac, .slice ba n bc]) := k2.set 1 (by simp) _; obtain ⟨e0, e1, e2, e3, e4, e5⟩ := box6 k2.box; have ef := k2.box.fz; obtain ⟨f0, f1, f2, f3, f4, f5⟩ := box6 HK2.out.box; have ff := HK2.out.box.fz; have hlt := k2.box.lt; have HS1 : Hid (w.heap.size + 2 ≤ _) := H1.out.sz; have HOP : Hid _ := BG.own (w := w) (OW.mk ho) (by have := HS1.out; omega) 1 (.slice ya pl yc); clear ho hb k2))
    | (go_at_call 62; go_loud (refine Calls.mono (by exact HV.out _ HK2.out.low) ?_; rintro e w3 ⟨vx, rfl, ho, hb⟩; obtain ⟨yb, yd, rfl⟩ : ∃ ya yc, vx = .slice ya m yc := (by obtain ⟨ya, yc, hv, _⟩ := own_blk (Nat.le_refl _) ho; exact ⟨ya, yc, hv⟩); have k2 := HK2.out.below hb; have HK3 : Hid (BG w (w3.setCell ⟨w.heap.size, 3, none⟩ (.slice yb m yd)) [.string nm, .slice ya pl yc, .int .u8 r, .slice yb m yd, .slice aa al ac, .slice ba n bc]) := k2.set 3 (by simp) _; obtain ⟨g0, g1, g2, g3, g4, g5⟩ := box6 k2.box; have gf := k2.box.fz; obtain ⟨h0, h1, h2, h3, h4, h5⟩ := box6 HK3.out.box; have hf := HK3.out.box.fz; have hlt3 := k2.box.lt; have HS2 : Hid (w.heap.size + 2 ≤ _) := HK2.out.sz; have HOP3 : Hid _ := BG.own (w := w) (HOP.out.below hb) (by have := HS1.out; omega) 3 (.slice yb m yd); have HOV : Hid _ := BG.own (w := w) (OW.mk ho) (by have := HS2.out; omega) 3 (.slice yb m yd); clear ho hb k2))
    | (go_at_call 63; go_loud (refine Calls.mono (by exact HA.out _ HK3.out.low) ?_; rintro e w4 ⟨vx, rfl, ho, hb⟩; obtain ⟨ye, yf, rfl⟩ : ∃ ya yc, vx = .slice ya al yc := (by obtain ⟨ya, yc, hv, _⟩ := own_blk (Nat.le_refl _) ho; exact ⟨ya, yc, hv⟩); have k2 := HK3.out.below hb; have HK4 : Hid (BG w (w4.setCell ⟨w.heap.size, 4, none⟩ (.slice ye al yf)) [.string nm, .slice ya pl yc, .int .u8 r, .slice yb m yd, .slice ye al yf, .slice ba n bc]) := k2.set 4 (by simp) _; obtain ⟨i0, i1, i2, i3, i4, i5⟩ := box6 k2.box; have jf := k2.box.fz; obtain ⟨j0, j1, j2, j3, j4, j5⟩ := box6 HK4.out.box; have kf := HK4.out.box.fz; have hlt4 := k2.box.lt; have HS3 : Hid (w.heap.size + 2 ≤ _) := HK3.out.sz; have HOP4 : Hid _ := BG.own (w := w) (HOP3.out.below hb) (by have := HS1.out; omega) 4 (.slice ye al yf); have HOV4 : Hid _ := BG.own (w := w) (HOV.out.below hb) (by have := HS2.out; omega) 4 (.slice ye al yf); have HOA : Hid _ := BG.own (w := w) (OW.mk ho) (by have := HS3.out; omega) 4 (.slice ye al yf); clear ho hb k2))
    | (go_at_call 64; go_loud (refine Calls.mono (by exact HB.out _ HK4.out.low) ?_; rintro e w5 ⟨vx, ivs, avss, rfl, ho, hb⟩; obtain ⟨yg, yh, rfl⟩ : ∃ ya yc, vx = .slice ya n yc := (by have h9 := ho.row; rw [HLN.out.2.2.2] at h9; obtain ⟨ya, yc, hv, _⟩ := own_blk (Nat.le_refl _) h9; exact ⟨ya, yc, hv⟩); have k2 := HK4.out.below hb; have HK5 : Hid (BG w (w5.setCell ⟨w.heap.size, 5, none⟩ (.slice yg n yh)) [.string nm, .slice ya pl yc, .int .u8 r, .slice yb m yd, .slice ye al yf, .slice yg n yh]) := k2.set 5 (by simp) _; obtain ⟨l0, l1, l2, l3, l4, l5⟩ := box6 k2.box; have lf := k2.box.fz; obtain ⟨m0, m1, m2, m3, m4, m5⟩ := box6 HK5.out.box; have mf := HK5.out.box.fz; have hlt5 := k2.box.lt; have HS4 : Hid (w.heap.size + 2 ≤ _) := HK4.out.sz; have HRS : Hid _ := HK5.out.res; obtain ⟨r0, r1, r2, r3, r4, r5⟩ := box6 HK5.out.rbx; have rf := HK5.out.rbx.fz; have rlt := HK5.out.rbx.lt; have HCB : Hid _ := ho; have HB5 : Hid _ := hb; clear ho hb k2)))
  obtain ⟨q1, q2, q3⟩ := six_end HK5.out.low (Nat.le_succ _) HRS.out (.string nm) (.slice ya pl yc) (.int .u8 r) (.slice yb m yd) (.slice ye al yf) (.slice yg n yh)
  refine bodyPost_ret (results_cell_row rfl _ _ (w.heap.size + 1) 28 #[.string nm, .slice ya pl yc, .int .u8 r, .slice yb m yd, .slice ye al yf, .slice yg n yh] _ _ rfl q2 Tryz.underlying28 rfl (by rfl)) rfl ⟨_, _, _, _, (w4.setCell ⟨w.heap.size, 4, none⟩ (.slice ye al yf)).heap.size, ivs, avss, rfl, ?_, q1⟩
  have keep : ∀ g, w.heap.size + 2 ≤ g → (setSix (w5.setCell ⟨w.heap.size, 5, none⟩ (.slice yg n yh)) (w.heap.size + 1) (.string nm) (.slice ya pl yc) (.int .u8 r) (.slice yb m yd) (.slice ye al yf) (.slice yg n yh)).heap[g]? = w5.heap[g]? := fun g hg => by
    rw [q3 g (by omega)]
    exact Below.heap_setCell w5 ⟨w.heap.size, 5, none⟩ (.slice yg n yh) g (by show g ≠ w.heap.size; omega)
  have h1s := HS1.out
  have h2s := HS2.out
  have h3s := HS3.out
  have h4s := HS4.out
  have op5 := HOP4.out.below HB5.out
  have ov5 := HOV4.out.below HB5.out
  have oa5 := HOA.out.below HB5.out
  refine ⟨by omega, ?_, ?_, ?_, fun g hg => (HOP4.out.own.lt g hg).2, fun g hg => (HOV4.out.own.lt g hg).2, fun g hg => (HOA.out.own.lt g hg).2, ?_⟩
  · rw [HLN.out.1]
    exact own_mono (owns_same op5.own fun g hg => keep g (by have := (op5.own.lt g hg).1; omega)) (by omega)
  · rw [HLN.out.2.1]
    exact own_mono (owns_same ov5.own fun g hg => keep g (by have := (ov5.own.lt g hg).1; omega)) (by omega)
  · rw [HLN.out.2.2.1]
    exact own_mono (owns_same oa5.own fun g hg => keep g (by have := (oa5.own.lt g hg).1; omega)) (by omega)
  · exact HCB.out.same fun g hg => keep g (by omega)
end Go.Proofs.YtcggbedjhglmmaaGreatDoor
/- A graph with constants in the place of calls: what lies in memory. -/
namespace Go.Proofs.YtcggbedjhglmmaaGreatDoor
open Go.RowKit

theorem row_own {w : World} {base : Nat} {e : TypeId} {sz : Nat} {v : Value} {n : Nat} {cs : List Value} (h : w.ownsRow base e sz v n cs) (hn : n ≤ 1000000) : RowAt w v n cs := by
  rcases own_shape h with ⟨e1, e2⟩ | ⟨g, c, e1, hc, _⟩
  · subst e1 e2
    exact ⟨_, _, rfl, ⟨Nat.le_refl _, by omega⟩, .inl rfl⟩
  · subst e1
    exact row_of_own h hn hc
theorem CI.at' {w : World} {base : Nat} {v : Value} {l : List In} {avs : List Value} (h : CI w base v l avs) (hn : l.length ≤ 1000000) (hla : ∀ x ∈ l, x.args.length ≤ 1000000) (hw : ∀ x ∈ l, 0 ≤ x.bits ∧ x.bits < 18446744073709551616) : InsAt w v l :=
  ⟨hw, avs, h.al, row_own h.row hn, fun i x a hx ha => OwnI.at' (h.kid i x a hx ha) (by have := hla x (List.mem_of_getElem? hx); omega)⟩
theorem CB.at' {w : World} {base : Nat} {v : Value} {bs : List Bl} {ivs : List Value} {avss : List (List Value)} (h : CB w base v bs ivs avss) (hn : bs.length ≤ 1000000) (hli : ∀ b ∈ bs, b.ins.length ≤ 1000000) (hla : ∀ b ∈ bs, ∀ x ∈ b.ins, x.args.length ≤ 1000000) (hw : ∀ b ∈ bs, ∀ x ∈ b.ins, 0 ≤ x.bits ∧ x.bits < 18446744073709551616) : BlsAt w v bs :=
  ⟨ivs, h.al, row_own h.row hn, fun i b iv hb hi => by
    have hl : i < avss.length := by rw [h.vl]; exact (List.getElem?_eq_some_iff.1 hb).1
    have hm := List.mem_of_getElem? hb
    exact (h.kid i b iv _ hb hi (List.getElem?_eq_getElem hl)).at' (hli b hm) (hla b hm) (hw b hm)⟩
theorem blsCells_ins {bs : List Bl} {ivs : List Value} {i : Nat} {b : Bl} (hb : bs[i]? = some b) (hl : ivs.length = bs.length) (L : List In) : blsCells (bs.set i ⟨L, b.tm⟩) ivs = blsCells bs ivs := by
  have hi : i < ivs.length := by rw [hl]; exact (List.getElem?_eq_some_iff.1 hb).1
  have h1 := blsCells_set (l := bs) (avs := ivs) (i := i) (y := ⟨L, b.tm⟩) (b := ivs[i]) hb (List.getElem?_eq_getElem hi) rfl
  rw [set_same (List.getElem?_eq_getElem hi)] at h1
  rw [← h1]
  refine set_same ?_
  exact blsCells_get hb (List.getElem?_eq_getElem hi) 0 _ rfl
abbrev putSix (W : World) (g k : Nat) (u0 u1 u2 u3 u4 u5 : Value) : World := (((((W.setCell ⟨g, k * 6, none⟩ u0).setCell ⟨g, k * 6 + 1, none⟩ u1).setCell ⟨g, k * 6 + 2, none⟩ u2).setCell ⟨g, k * 6 + 3, none⟩ u3).setCell ⟨g, k * 6 + 4, none⟩ u4).setCell ⟨g, k * 6 + 5, none⟩ u5
theorem put_keep (W : World) (g k : Nat) (u0 u1 u2 u3 u4 u5 : Value) {q : Nat} (hq : q ≠ g) : (putSix W g k u0 u1 u2 u3 u4 u5).heap[q]? = W.heap[q]? := by
  have st : ∀ (V : World) (j : Nat) (u : Value), (V.setCell ⟨g, j, none⟩ u).heap[q]? = V.heap[q]? := fun V j u => Below.heap_setCell V ⟨g, j, none⟩ u q (by show q ≠ g; exact hq)
  unfold putSix
  rw [st, st, st, st, st, st]
theorem put_below {w W : World} (h : Below w.heap.size w W) {g : Nat} (hg : w.heap.size ≤ g) (k : Nat) (u0 u1 u2 u3 u4 u5 : Value) : Below w.heap.size w (putSix W g k u0 u1 u2 u3 u4 u5) :=
  ((((((h.setCell (p := ⟨g, _, none⟩) hg _).setCell (p := ⟨g, _, none⟩) hg _).setCell (p := ⟨g, _, none⟩) hg _).setCell (p := ⟨g, _, none⟩) hg _).setCell (p := ⟨g, _, none⟩) hg _).setCell (p := ⟨g, _, none⟩) hg _)
theorem put_size (W : World) (g k : Nat) (u0 u1 u2 u3 u4 u5 : Value) : (putSix W g k u0 u1 u2 u3 u4 u5).heap.size = W.heap.size := by simp [World.setCell]
theorem kb_set {iv : Value} {avs : List Value} {k g : Nat} (h : KB iv (avs.set k (.slice none 0 0)) g) : KB iv avs g := by
  rcases h with h | ⟨i, a, ha, hg⟩
  · exact .inl h
  · rw [List.getElem?_set] at ha
    split at ha
    · split at ha
      · cases ha; simp [Value.ownBlock] at hg
      · cases ha
    · exact .inr ⟨i, a, ha, hg⟩
theorem CB.put {w : World} {base : Nat} {v : Value} {bs : List Bl} {ivs : List Value} {avss : List (List Value)} (h : CB w base v bs ivs avss) {i k g c : Nat} {b : Bl} {x y : In} {avs : List Value} (hb : bs[i]? = some b) (hx : b.ins[k]? = some x) (hi : ivs[i]? = some (.slice (some ⟨g, 0, none⟩) b.ins.length c)) (ha : avss[i]? = some avs) (hy : y.args = []) :
    CB (putSix w g k (bytV y.kind) (bytV y.op) (intV y.dst) (.slice none 0 0) (.int .u64 y.bits) (intV y.ref)) base v (bs.set i ⟨b.ins.set k y, b.tm⟩) ivs (avss.set i (avs.set k (.slice none 0 0))) := by
  have hil : i < bs.length := (List.getElem?_eq_some_iff.1 hb).1
  have hK := h.kid i b _ avs hb hi ha
  have hgo : (Value.slice (some ⟨g, 0, none⟩) b.ins.length c).ownBlock = some g := rfl
  have hkp := fun {q : Nat} (hq : q ≠ g) => put_keep w g k (bytV y.kind) (bytV y.op) (intV y.dst) (.slice none 0 0) (.int .u64 y.bits) (intV y.ref) hq
  have hak : avs[k]? = some (avs[k]'(by rw [hK.al]; exact (List.getElem?_eq_some_iff.1 hx).1)) := List.getElem?_eq_getElem _
  have hset : ∀ (j : Nat) (as' : List Value), (avss.set i (avs.set k (.slice none 0 0)))[j]? = some as' → (j = i ∧ as' = avs.set k (.slice none 0 0)) ∨ (j ≠ i ∧ avss[j]? = some as') := fun j as' hj => by
    rw [List.getElem?_set] at hj
    split at hj
    · rename_i e
      split at hj
      · cases hj; exact .inl ⟨e.symm, rfl⟩
      · cases hj
    · rename_i e
      exact .inr ⟨fun e2 => e e2.symm, hj⟩
  refine ⟨?_, by simp [h.al], by simp [h.vl], fun j b' jv as' h1 h2 h3 => ?_, fun j jv as' q h2 h3 hq => ?_, fun j1 j2 jv kv as' q hij h1 h2 h3 hjq hq => ?_⟩
  · rw [blsCells_ins hb h.al, List.length_set]
    exact owns_same h.row fun q hq => hkp (fun e => h.ap i _ avs q hi ha (.inl (by rw [e]; exact hgo)) hq)
  · rcases hset j as' h3 with ⟨e, e2⟩ | ⟨e, h3⟩
    · subst e e2
      rw [hi] at h2
      cases h2
      rw [List.getElem?_set, if_pos rfl, if_pos hil] at h1
      cases h1
      refine ⟨?_, by simp [hK.al], fun t z a hz hza => ?_, fun t a q hta hq => ?_⟩
      · have h6 := own_six (i := k) hK.row (bytV y.kind) (bytV y.op) (intV y.dst) (.slice none 0 0) (.int .u64 y.bits) (intV y.ref)
        rw [insCells_set hx hak] at h6
        show World.ownsRow _ _ _ _ _ (b.ins.set k y).length _
        rw [List.length_set]
        exact h6
      · rw [List.getElem?_set] at hz hza
        by_cases e : k = t
        · subst e
          rw [if_pos rfl, if_pos (List.getElem?_eq_some_iff.1 hx).1] at hz
          rw [if_pos rfl, if_pos (by rw [hK.al]; exact (List.getElem?_eq_some_iff.1 hx).1)] at hza
          cases hz; cases hza
          rw [hy]
          exact World.ownsRow_nil _ _ _ _
        · rw [if_neg e] at hz hza
          refine owns_same (hK.kid t z a hz hza) fun q hq => hkp (fun e2 => hK.ap t a q hza hq (by rw [e2]; exact hgo))
      · rw [List.getElem?_set] at hta
        split at hta
        · split at hta
          · cases hta; simp [Value.ownBlock] at hq
          · cases hta
        · exact hK.ap t a q hta hq
    · rw [List.getElem?_set, if_neg (fun e2 => e e2.symm)] at h1
      have hc := h.kid j b' jv as' h1 h2 h3
      exact hc.same fun q hq => hkp (fun e2 => h.pw i j _ jv as' q (fun e3 => e e3.symm) hi h2 h3 (by rw [e2]; exact hgo) hq)
  · rcases hset j as' h3 with ⟨e, e2⟩ | ⟨e, h3⟩
    · subst e e2
      exact h.ap j jv avs q h2 ha (kb_set hq)
    · exact h.ap j jv as' q h2 h3 hq
  · rcases hset j2 as' h3 with ⟨e, e2⟩ | ⟨e, h3⟩
    · subst e e2
      exact h.pw j1 j2 jv kv avs q hij h1 h2 ha hjq (kb_set hq)
    · exact h.pw j1 j2 jv kv as' q hij h1 h2 h3 hjq hq
end Go.Proofs.YtcggbedjhglmmaaGreatDoor
