/- A graph copied. -/
import Derived.Test.YtabpnjakfoofpaaGreatDoorLCc
namespace Go.Proofs.YtabpnjakfoofpaaGreatDoor
open Go.RowKit

theorem tys_one (l : List Int) : ∀ u ∈ l.map bytV, u.oneCell' = true := fun u hu => by obtain ⟨x, _, rfl⟩ := List.mem_map.1 hu; rfl
theorem arrs_one : ∀ (l : List (Int × Int)), ∀ u ∈ arrCells l, u.oneCell' = true
  | [], u, hu => by simp [arrCells] at hu
  | x :: l, u, hu => by
    unfold arrCells at hu
    simp only [List.mem_cons] at hu
    rcases hu with rfl | rfl | hu
    · rfl
    · rfl
    · exact arrs_one l u hu
theorem arrs_len : ∀ (l : List (Int × Int)), (arrCells l).length = l.length * 2
  | [] => rfl
  | x :: l => by
    have := arrs_len l
    unfold arrCells
    simp [this]
    omega
/-- a copy of a graph: its blocks lie at B and above, all else below that -/
structure CG (w w' : World) (G : Gr) (B : Nat) (pv vv av bv : Value) (ivs : List Value) (avss : List (List Value)) : Prop where
  lo : w.heap.size ≤ B
  ps : w'.ownsRow w.heap.size 3 1 pv G.params.length (G.params.map intV)
  vs : w'.ownsRow w.heap.size 23 1 vv G.vars.length (G.vars.map bytV)
  ars : w'.ownsRow w.heap.size 79 2 av G.arrs.length (arrCells G.arrs)
  pb : ∀ g, pv.ownBlock = some g → g < B
  vb : ∀ g, vv.ownBlock = some g → g < B
  ab : ∀ g, av.ownBlock = some g → g < B
  bs : CB w' B bv G.blocks ivs avss
theorem CB.same {w w' : World} {base : Nat} {v : Value} {bs : List Bl} {ivs : List Value} {avss : List (List Value)} (h : CB w base v bs ivs avss) (hk : ∀ g, base ≤ g → w'.heap[g]? = w.heap[g]?) : CB w' base v bs ivs avss :=
  ⟨owns_same h.row fun g hg => hk g (h.row.lt g hg).1, h.al, h.vl, fun i b iv avs h1 h2 h3 => (h.kid i b iv avs h1 h2 h3).same fun g hg => hk g ((h.kid i b iv avs h1 h2 h3).lt hg).1, h.ap, h.pw⟩
/-- while it is copied: the box, the cell of the answer -/
structure BG (w wr : World) (cs : List Value) : Prop where
  low : Below w.heap.size w wr
  box : Box wr w.heap.size cs
  res : wr.heap[w.heap.size + 1]? = some (.cells #[.string ⟨#[]⟩, .slice none 0 0, .int .u8 0, .slice none 0 0, .slice none 0 0, .slice none 0 0] 28 (0, 0))
  rbx : Box wr (w.heap.size + 1) [.string ⟨#[]⟩, .slice none 0 0, .int .u8 0, .slice none 0 0, .slice none 0 0, .slice none 0 0]
  sz : w.heap.size + 2 ≤ wr.heap.size
theorem BG.below {w wr w2 : World} {cs : List Value} (h : BG w wr cs) (hb : Below wr.heap.size wr w2) : BG w w2 cs := ⟨below_trans h.low hb, h.box.below hb, by rw [hb.block _ (by have := h.sz; omega)]; exact h.res, h.rbx.below hb, Nat.le_trans h.sz hb.size⟩
theorem BG.set {w wr : World} {cs : List Value} (h : BG w wr cs) (j : Nat) (hj : j < cs.length) (u : Value) : BG w (wr.setCell ⟨w.heap.size, j, none⟩ u) (cs.set j u) :=
  ⟨h.low.setCell (p := ⟨w.heap.size, j, none⟩) (Nat.le_refl _) _, h.box.set hj u, (Below.heap_setCell wr ⟨w.heap.size, j, none⟩ u (w.heap.size + 1) (by show w.heap.size + 1 ≠ w.heap.size; omega)).trans h.res, h.rbx.other (by show w.heap.size + 1 ≠ w.heap.size; omega) _, by have := h.sz; simp [World.setCell]; exact this⟩
structure OW (wr : World) (base : Nat) (e : TypeId) (sz : Nat) (v : Value) (n : Nat) (xs : List Value) : Prop where
  own : wr.ownsRow base e sz v n xs
theorem OW.below {w w' : World} {base : Nat} {e : TypeId} {sz : Nat} {v : Value} {n : Nat} {xs : List Value} (h : OW w base e sz v n xs) (hb : Below w.heap.size w w') : OW w' base e sz v n xs := ⟨owns_below h.own hb⟩
theorem BG.own {w wr : World} {e : TypeId} {sz : Nat} {v : Value} {n : Nat} {xs : List Value} {base : Nat} (ho : OW wr base e sz v n xs) (hb : w.heap.size < base) (j : Nat) (u : Value) : OW (wr.setCell ⟨w.heap.size, j, none⟩ u) base e sz v n xs := ⟨owns_other ho.own (fun e => by have := (ho.own.lt _ e).1; simp at this; omega) u⟩
set_option maxRecDepth 100000 in
set_option maxHeartbeats 4000000 in
theorem copyG_any (G : Gr) (pv vv av bv : Value) (w : World) (h : GrAt w pv vv av bv G) (hpl : G.params.length ≤ 1000000) (hml : G.vars.length ≤ 1000000) (hal : G.arrs.length ≤ 1000000) (hl : G.blocks.length ≤ 1000000) (hli : ∀ b ∈ G.blocks, b.ins.length ≤ 1000000) (hla : ∀ b ∈ G.blocks, ∀ x ∈ b.ins, x.args.length ≤ 1000000) :
    Calls Tryz.prog 46 #[.agg #[.string G.name, pv, .int .u8 G.result, vv, av, bv]] w fun e w' => ∃ pv' vv' av' bv' B ivs avss, e = .returned (.agg #[.string G.name, pv', .int .u8 G.result, vv', av', bv']) ∧ CG w w' G B pv' vv' av' bv' ivs avss ∧ Below w.heap.size w w' := by
  obtain ⟨pa, pc, va, vc, aa, ac, ba, bc, rfl, rfl, rfl, rfl, _, _, _, _⟩ := h.openF
  have HP : Hid (∀ W, Below w.heap.size w W → _) := fun W hb => copyI_any (h.ps.below hb) (by simp) hpl (ints_one _)
  have HV : Hid (∀ W, Below w.heap.size w W → _) := fun W hb => copyT_any (h.vs.below hb) (by simp) hml (tys_one _)
  have HA : Hid (∀ W, Below w.heap.size w W → _) := fun W hb => copyA_any (h.ars.below hb) (arrs_len _) hal (arrs_one _)
  have HB : Hid (∀ W, Below w.heap.size w W → _) := fun W hb => copyBs_any G.blocks _ W (h.bs.below hb) hl hli hla
  clear h hpl hml hal hl hli hla
  obtain ⟨nm, ps, r, vs, ars, bs⟩ := G
  dsimp only at *
  generalize hp1 : ps.length = pl at *
  generalize hm1 : vs.length = m at *
  generalize ha1 : ars.length = al at *
  generalize hn1 : bs.length = n at *
  have HLN : Hid (ps.length = pl ∧ vs.length = m ∧ ars.length = al ∧ bs.length = n) := ⟨hp1, hm1, ha1, hn1⟩
  clear hp1 hm1 ha1 hn1
  have H1 : Hid (BG w ((w.alloc (.cells #[.string nm, .slice pa pl pc, .int .u8 r, .slice va m vc, .slice aa al ac, .slice ba n bc] 28)).alloc (.cells #[.string ⟨#[]⟩, .slice none 0 0, .int .u8 0, .slice none 0 0, .slice none 0 0, .slice none 0 0] 28)) [.string nm, .slice pa pl pc, .int .u8 r, .slice va m vc, .slice aa al ac, .slice ba n bc]) := by
    refine ⟨below_alloc (below_alloc (Below.refl _ _) _) _, (Box.new w [.string nm, .slice pa pl pc, .int .u8 r, .slice va m vc, .slice aa al ac, .slice ba n bc] 28).below (below_alloc (Below.refl _ _) _), ?_, by have h9 := Box.new (w.alloc (.cells #[.string nm, .slice pa pl pc, .int .u8 r, .slice va m vc, .slice aa al ac, .slice ba n bc] 28)) [.string ⟨#[]⟩, .slice none 0 0, .int .u8 0, .slice none 0 0, .slice none 0 0, .slice none 0 0] 28; rwa [show (w.alloc (.cells #[.string nm, .slice pa pl pc, .int .u8 r, .slice va m vc, .slice aa al ac, .slice ba n bc] 28)).heap.size = w.heap.size + 1 by simp] at h9, by simp⟩
    have e : (w.alloc (.cells #[.string nm, .slice pa pl pc, .int .u8 r, .slice va m vc, .slice aa al ac, .slice ba n bc] 28)).heap.size = w.heap.size + 1 := by simp
    have h9 := heap_alloc_new (w.alloc (.cells #[.string nm, .slice pa pl pc, .int .u8 r, .slice va m vc, .slice aa al ac, .slice ba n bc] 28)) (.cells #[.string ⟨#[]⟩, .slice none 0 0, .int .u8 0, .slice none 0 0, .slice none 0 0, .slice none 0 0] 28)
    rw [e] at h9
    exact h9
  go_enter Tryz.func46, Tryz.ntmps46
  go_wp2_with (first
    | (go_at_call 65; go_loud (refine Calls.mono (by exact HP.out _ H1.out.low) ?_; rintro e w2 ⟨vx, rfl, ho, hb⟩; obtain ⟨ya, yc, rfl⟩ : ∃ ya yc, vx = .slice ya pl yc := (by obtain ⟨ya, yc, hv, _⟩ := own_blk (Nat.le_refl _) ho; exact ⟨ya, yc, hv⟩); have k2 := H1.out.below hb; have HK2 : Hid (BG w (w2.setCell ⟨w.heap.size, 1, none⟩ (.slice ya pl yc)) [.string nm, .slice ya pl yc, .int .u8 r, .slice va m vc, .slice aa al ac, .slice ba n bc]) := k2.set 1 (by simp) _; obtain ⟨e0, e1, e2, e3, e4, e5⟩ := box6 k2.box; have ef := k2.box.fz; obtain ⟨f0, f1, f2, f3, f4, f5⟩ := box6 HK2.out.box; have ff := HK2.out.box.fz; have hlt := k2.box.lt; have HS1 : Hid (w.heap.size + 2 ≤ _) := H1.out.sz; have HOP : Hid _ := BG.own (w := w) (OW.mk ho) (by have := HS1.out; omega) 1 (.slice ya pl yc); clear ho hb k2))
    | (go_at_call 66; go_loud (refine Calls.mono (by exact HV.out _ HK2.out.low) ?_; rintro e w3 ⟨vx, rfl, ho, hb⟩; obtain ⟨yb, yd, rfl⟩ : ∃ ya yc, vx = .slice ya m yc := (by obtain ⟨ya, yc, hv, _⟩ := own_blk (Nat.le_refl _) ho; exact ⟨ya, yc, hv⟩); have k2 := HK2.out.below hb; have HK3 : Hid (BG w (w3.setCell ⟨w.heap.size, 3, none⟩ (.slice yb m yd)) [.string nm, .slice ya pl yc, .int .u8 r, .slice yb m yd, .slice aa al ac, .slice ba n bc]) := k2.set 3 (by simp) _; obtain ⟨g0, g1, g2, g3, g4, g5⟩ := box6 k2.box; have gf := k2.box.fz; obtain ⟨h0, h1, h2, h3, h4, h5⟩ := box6 HK3.out.box; have hf := HK3.out.box.fz; have hlt3 := k2.box.lt; have HS2 : Hid (w.heap.size + 2 ≤ _) := HK2.out.sz; have HOP3 : Hid _ := BG.own (w := w) (HOP.out.below hb) (by have := HS1.out; omega) 3 (.slice yb m yd); have HOV : Hid _ := BG.own (w := w) (OW.mk ho) (by have := HS2.out; omega) 3 (.slice yb m yd); clear ho hb k2))
    | (go_at_call 67; go_loud (refine Calls.mono (by exact HA.out _ HK3.out.low) ?_; rintro e w4 ⟨vx, rfl, ho, hb⟩; obtain ⟨ye, yf, rfl⟩ : ∃ ya yc, vx = .slice ya al yc := (by obtain ⟨ya, yc, hv, _⟩ := own_blk (Nat.le_refl _) ho; exact ⟨ya, yc, hv⟩); have k2 := HK3.out.below hb; have HK4 : Hid (BG w (w4.setCell ⟨w.heap.size, 4, none⟩ (.slice ye al yf)) [.string nm, .slice ya pl yc, .int .u8 r, .slice yb m yd, .slice ye al yf, .slice ba n bc]) := k2.set 4 (by simp) _; obtain ⟨i0, i1, i2, i3, i4, i5⟩ := box6 k2.box; have jf := k2.box.fz; obtain ⟨j0, j1, j2, j3, j4, j5⟩ := box6 HK4.out.box; have kf := HK4.out.box.fz; have hlt4 := k2.box.lt; have HS3 : Hid (w.heap.size + 2 ≤ _) := HK3.out.sz; have HOP4 : Hid _ := BG.own (w := w) (HOP3.out.below hb) (by have := HS1.out; omega) 4 (.slice ye al yf); have HOV4 : Hid _ := BG.own (w := w) (HOV.out.below hb) (by have := HS2.out; omega) 4 (.slice ye al yf); have HOA : Hid _ := BG.own (w := w) (OW.mk ho) (by have := HS3.out; omega) 4 (.slice ye al yf); clear ho hb k2))
    | (go_at_call 68; go_loud (refine Calls.mono (by exact HB.out _ HK4.out.low) ?_; rintro e w5 ⟨vx, ivs, avss, rfl, ho, hb⟩; obtain ⟨yg, yh, rfl⟩ : ∃ ya yc, vx = .slice ya n yc := (by have h9 := ho.row; rw [HLN.out.2.2.2] at h9; obtain ⟨ya, yc, hv, _⟩ := own_blk (Nat.le_refl _) h9; exact ⟨ya, yc, hv⟩); have k2 := HK4.out.below hb; have HK5 : Hid (BG w (w5.setCell ⟨w.heap.size, 5, none⟩ (.slice yg n yh)) [.string nm, .slice ya pl yc, .int .u8 r, .slice yb m yd, .slice ye al yf, .slice yg n yh]) := k2.set 5 (by simp) _; obtain ⟨l0, l1, l2, l3, l4, l5⟩ := box6 k2.box; have lf := k2.box.fz; obtain ⟨m0, m1, m2, m3, m4, m5⟩ := box6 HK5.out.box; have mf := HK5.out.box.fz; have hlt5 := k2.box.lt; have HS4 : Hid (w.heap.size + 2 ≤ _) := HK4.out.sz; have HRS : Hid _ := HK5.out.res; obtain ⟨r0, r1, r2, r3, r4, r5⟩ := box6 HK5.out.rbx; have rf := HK5.out.rbx.fz; have rlt := HK5.out.rbx.lt; have HCB : Hid _ := ho; have HB5 : Hid _ := hb; clear ho hb k2)))
  obtain ⟨q1, q2, q3⟩ := six_end HK5.out.low (Nat.le_succ _) HRS.out (.string nm) (.slice ya pl yc) (.int .u8 r) (.slice yb m yd) (.slice ye al yf) (.slice yg n yh)
  refine bodyPost_ret (results_cell_row rfl _ _ (w.heap.size + 1) 28 #[.string nm, .slice ya pl yc, .int .u8 r, .slice yb m yd, .slice ye al yf, .slice yg n yh] _ _ rfl q2 Tryz.underlying28 rfl (by rfl)) rfl ⟨_, _, _, _, (w4.setCell ⟨w.heap.size, 4, none⟩ (.slice ye al yf)).heap.size, ivs, avss, rfl, ?_, q1⟩
  have keep : ∀ g, w.heap.size + 2 ≤ g → (setSix (w5.setCell ⟨w.heap.size, 5, none⟩ (.slice yg n yh)) (w.heap.size + 1) (.string nm) (.slice ya pl yc) (.int .u8 r) (.slice yb m yd) (.slice ye al yf) (.slice yg n yh)).heap[g]? = w5.heap[g]? := fun g hg => by
    rw [q3 g (by omega)]
    exact Below.heap_setCell w5 ⟨w.heap.size, 5, none⟩ (.slice yg n yh) g (by show g ≠ w.heap.size; omega)
  have h1s := HS1.out
  have h2s := HS2.out
  have h3s := HS3.out
  have h4s := HS4.out
  have op5 := HOP4.out.below HB5.out
  have ov5 := HOV4.out.below HB5.out
  have oa5 := HOA.out.below HB5.out
  refine ⟨by omega, ?_, ?_, ?_, fun g hg => (HOP4.out.own.lt g hg).2, fun g hg => (HOV4.out.own.lt g hg).2, fun g hg => (HOA.out.own.lt g hg).2, ?_⟩
  · rw [HLN.out.1]
    exact own_mono (owns_same op5.own fun g hg => keep g (by have := (op5.own.lt g hg).1; omega)) (by omega)
  · rw [HLN.out.2.1]
    exact own_mono (owns_same ov5.own fun g hg => keep g (by have := (ov5.own.lt g hg).1; omega)) (by omega)
  · rw [HLN.out.2.2.1]
    exact own_mono (owns_same oa5.own fun g hg => keep g (by have := (oa5.own.lt g hg).1; omega)) (by omega)
  · exact HCB.out.same fun g hg => keep g (by omega)
end Go.Proofs.YtabpnjakfoofpaaGreatDoor
/- Rows cloned. -/
namespace Go.Proofs.YtabpnjakfoofpaaGreatDoor
open Go.RowKit

set_option maxRecDepth 100000 in
set_option maxHeartbeats 1000000 in
theorem clone1_any {w : World} {a : Option Addr} {n c : Nat} {cs : List Value} (h : RowAt w (.slice a n c) n cs) (hl : cs.length = n * 1) (hn : n ≤ 1000000) (h1 : ∀ u ∈ cs, u.oneCell' = true) :
    Calls Tryz.prog 40 #[.slice a n c] w fun e w' => ∃ v', e = .returned v' ∧ w'.ownsRow w.heap.size 3 1 v' n cs ∧ Below w.heap.size w w' := by
  cases a with
  | none =>
    have h0 : n = 0 := by
      obtain ⟨a', c', hv, _, hc⟩ := h
      injection hv with e1 e2 e3
      subst e1
      rcases hc with h0 | ⟨g, o, e, _⟩
      · exact h0
      · cases e
    subst h0
    have hcs : cs = [] := List.eq_nil_of_length_eq_zero (by simpa using hl)
    subst hcs
    have hq : ∀ W, (binOp .eql 22 (.slice none 0 c) (.slice none 0 0)).run Tryz.prog W = .ok (.bool true) W := fun W => Lib.run_eql_slice_nil W _ _ none 0 c 0 0 Tryz.underlying22
    clear h hl hn h1
    go_enter Tryz.func40, Tryz.ntmps40
    go_wp2
    go_ret
    exact ⟨_, rfl, World.ownsRow_nil _ _ _ _, Below.refl _ _⟩
  | some ad =>
    obtain ⟨i0, hi0, hz0, hz1, hz2⟩ := info_parts infoI
    have HC : Hid (∀ j u, cs[j]? = some u → (w.alloc (.cells #[] 3)).cell? (ad.add j) = some u) := by
      intro j u hj
      obtain ⟨a', c', hv, _, hc⟩ := h
      injection hv with e1 e2 e3
      subst e1
      rcases hc with h0 | ⟨g, o, e, hg, hc⟩
      · subst h0; have := (List.getElem?_eq_some_iff.1 hj).1; omega
      · cases e
        rw [Addr.add_lit]
        exact ((below_alloc (Below.refl w.heap.size w) (.cells #[] 3)).cell (p := ⟨g, o + j, none⟩) hg).trans (hc j u hj)
    have HL : Hid (cs.length = n * 1) := hl
    have H1 : Hid (∀ u ∈ cs, u.oneCell' = true) := h1
    have HN : Hid (n ≤ 1000000) := hn
    have hq : ∀ W, (binOp .eql 22 (.slice (some ad) n c) (.slice none 0 0)).run Tryz.prog W = .ok (.bool false) W := fun W => Lib.run_eql_slice_nil W _ _ (some ad) n c 0 0 Tryz.underlying22
    clear h hl hn h1
    go_enter Tryz.func40, Tryz.ntmps40
    go_wp2_with (at_builtin; go_loud (refine wpList_append_own_at _ rfl _ _ 22 rfl w.heap.size 3 i0 (.int .i64 0) 1 8 Tryz.underlying22 hi0 hz0 hz1 hz2 rfl (by decide) _ 0 [] rfl (World.ownsRow_made w #[] 0 (Nat.le_refl _) (Nat.zero_le _) (by simp)) ad n c cs rfl HL.out HC.out H1.out ?c3 ?c4 ?c5 ?_))
    case c3 => have := HN.out; unfold maxLen; omega
    case c4 => have := HN.out; omega
    case c5 => simp
    intro v2 w2 ho hg2 _ hat
    have HQ : Hid (w2.ownsRow w.heap.size 3 1 v2 n cs ∧ Below w.heap.size w w2) := ⟨by simpa using ho, below_grown (below_alloc (Below.refl _ _) _) hg2 (fun g hg => by simp [Value.ownBlock] at hg; omega)⟩
    clear ho hg2 hat
    go_wp2
    go_ret
    exact ⟨_, rfl, HQ.out.1, HQ.out.2⟩
set_option maxRecDepth 100000 in
set_option maxHeartbeats 1000000 in
theorem cloneT_any {w : World} {a : Option Addr} {n c : Nat} {cs : List Value} (h : RowAt w (.slice a n c) n cs) (hl : cs.length = n * 1) (hn : n ≤ 1000000) (h1 : ∀ u ∈ cs, u.oneCell' = true) :
    Calls Tryz.prog 41 #[.slice a n c] w fun e w' => ∃ v', e = .returned v' ∧ w'.ownsRow w.heap.size 23 1 v' n cs ∧ Below w.heap.size w w' := by
  cases a with
  | none =>
    have h0 : n = 0 := by
      obtain ⟨a', c', hv, _, hc⟩ := h
      injection hv with e1 e2 e3
      subst e1
      rcases hc with h0 | ⟨g, o, e, _⟩
      · exact h0
      · cases e
    subst h0
    have hcs : cs = [] := List.eq_nil_of_length_eq_zero (by simpa using hl)
    subst hcs
    have hq : ∀ W, (binOp .eql 24 (.slice none 0 c) (.slice none 0 0)).run Tryz.prog W = .ok (.bool true) W := fun W => Lib.run_eql_slice_nil W _ _ none 0 c 0 0 Tryz.underlying24
    clear h hl hn h1
    go_enter Tryz.func41, Tryz.ntmps41
    go_wp2
    go_ret
    exact ⟨_, rfl, World.ownsRow_nil _ _ _ _, Below.refl _ _⟩
  | some ad =>
    obtain ⟨i0, hi0, hz0, hz1, hz2⟩ := info_parts info_copyT
    have HC : Hid (∀ j u, cs[j]? = some u → (w.alloc (.cells #[] 23)).cell? (ad.add j) = some u) := by
      intro j u hj
      obtain ⟨a', c', hv, _, hc⟩ := h
      injection hv with e1 e2 e3
      subst e1
      rcases hc with h0 | ⟨g, o, e, hg, hc⟩
      · subst h0; have := (List.getElem?_eq_some_iff.1 hj).1; omega
      · cases e
        rw [Addr.add_lit]
        exact ((below_alloc (Below.refl w.heap.size w) (.cells #[] 23)).cell (p := ⟨g, o + j, none⟩) hg).trans (hc j u hj)
    have HL : Hid (cs.length = n * 1) := hl
    have H1 : Hid (∀ u ∈ cs, u.oneCell' = true) := h1
    have HN : Hid (n ≤ 1000000) := hn
    have hq : ∀ W, (binOp .eql 24 (.slice (some ad) n c) (.slice none 0 0)).run Tryz.prog W = .ok (.bool false) W := fun W => Lib.run_eql_slice_nil W _ _ (some ad) n c 0 0 Tryz.underlying24
    clear h hl hn h1
    go_enter Tryz.func41, Tryz.ntmps41
    go_wp2_with (at_builtin; go_loud (refine wpList_append_own_at _ rfl _ _ 24 rfl w.heap.size 23 i0 (.int .u8 0) 1 1 Tryz.underlying24 hi0 hz0 hz1 hz2 rfl (by decide) _ 0 [] rfl (World.ownsRow_made w #[] 0 (Nat.le_refl _) (Nat.zero_le _) (by simp)) ad n c cs rfl HL.out HC.out H1.out ?c3 ?c4 ?c5 ?_))
    case c3 => have := HN.out; unfold maxLen; omega
    case c4 => have := HN.out; omega
    case c5 => simp
    intro v2 w2 ho hg2 _ hat
    have HQ : Hid (w2.ownsRow w.heap.size 23 1 v2 n cs ∧ Below w.heap.size w w2) := ⟨by simpa using ho, below_grown (below_alloc (Below.refl _ _) _) hg2 (fun g hg => by simp [Value.ownBlock] at hg; omega)⟩
    clear ho hg2 hat
    go_wp2
    go_ret
    exact ⟨_, rfl, HQ.out.1, HQ.out.2⟩
set_option maxRecDepth 100000 in
set_option maxHeartbeats 1000000 in
theorem cloneA_any {w : World} {a : Option Addr} {n c : Nat} {cs : List Value} (h : RowAt w (.slice a n c) n cs) (hl : cs.length = n * 2) (hn : n ≤ 1000000) (h1 : ∀ u ∈ cs, u.oneCell' = true) :
    Calls Tryz.prog 42 #[.slice a n c] w fun e w' => ∃ v', e = .returned v' ∧ w'.ownsRow w.heap.size 79 2 v' n cs ∧ Below w.heap.size w w' := by
  cases a with
  | none =>
    have h0 : n = 0 := by
      obtain ⟨a', c', hv, _, hc⟩ := h
      injection hv with e1 e2 e3
      subst e1
      rcases hc with h0 | ⟨g, o, e, _⟩
      · exact h0
      · cases e
    subst h0
    have hcs : cs = [] := List.eq_nil_of_length_eq_zero (by simpa using hl)
    subst hcs
    have hq : ∀ W, (binOp .eql 25 (.slice none 0 c) (.slice none 0 0)).run Tryz.prog W = .ok (.bool true) W := fun W => Lib.run_eql_slice_nil W _ _ none 0 c 0 0 Tryz.underlying25
    clear h hl hn h1
    go_enter Tryz.func42, Tryz.ntmps42
    go_wp2
    go_ret
    exact ⟨_, rfl, World.ownsRow_nil _ _ _ _, Below.refl _ _⟩
  | some ad =>
    obtain ⟨i0, hi0, hz0, hz1, hz2⟩ := info_parts info_copyA
    have HC : Hid (∀ j u, cs[j]? = some u → (w.alloc (.cells #[] 79)).cell? (ad.add j) = some u) := by
      intro j u hj
      obtain ⟨a', c', hv, _, hc⟩ := h
      injection hv with e1 e2 e3
      subst e1
      rcases hc with h0 | ⟨g, o, e, hg, hc⟩
      · subst h0; have := (List.getElem?_eq_some_iff.1 hj).1; omega
      · cases e
        rw [Addr.add_lit]
        exact ((below_alloc (Below.refl w.heap.size w) (.cells #[] 79)).cell (p := ⟨g, o + j, none⟩) hg).trans (hc j u hj)
    have HL : Hid (cs.length = n * 2) := hl
    have H1 : Hid (∀ u ∈ cs, u.oneCell' = true) := h1
    have HN : Hid (n ≤ 1000000) := hn
    have hq : ∀ W, (binOp .eql 25 (.slice (some ad) n c) (.slice none 0 0)).run Tryz.prog W = .ok (.bool false) W := fun W => Lib.run_eql_slice_nil W _ _ (some ad) n c 0 0 Tryz.underlying25
    clear h hl hn h1
    go_enter Tryz.func42, Tryz.ntmps42
    go_wp2_with (at_builtin; go_loud (refine wpList_append_own_at _ rfl _ _ 25 rfl w.heap.size 79 i0 (.agg #[.int .u8 0, .int .i64 0]) 2 16 Tryz.underlying25 hi0 hz0 hz1 hz2 rfl (by decide) _ 0 [] rfl (World.ownsRow_made w #[] 0 (Nat.le_refl _) (Nat.zero_le _) (by simp)) ad n c cs rfl HL.out HC.out H1.out ?c3 ?c4 ?c5 ?_))
    case c3 => have := HN.out; unfold maxLen; omega
    case c4 => have := HN.out; omega
    case c5 => simp
    intro v2 w2 ho hg2 _ hat
    have HQ : Hid (w2.ownsRow w.heap.size 79 2 v2 n cs ∧ Below w.heap.size w w2) := ⟨by simpa using ho, below_grown (below_alloc (Below.refl _ _) _) hg2 (fun g hg => by simp [Value.ownBlock] at hg; omega)⟩
    clear ho hg2 hat
    go_wp2
    go_ret
    exact ⟨_, rfl, HQ.out.1, HQ.out.2⟩
end Go.Proofs.YtabpnjakfoofpaaGreatDoor
