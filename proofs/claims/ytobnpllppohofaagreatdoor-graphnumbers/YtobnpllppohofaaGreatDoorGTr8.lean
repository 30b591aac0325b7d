/- A block with its phis' arguments and its end as they are now. -/
import Derived.Test.YtobnpllppohofaaGreatDoorGTr7
namespace Go.Proofs.YtobnpllppohofaaGreatDoor
open Go.RowKit

abbrev z6 : List Value := [.slice none 0 0, .int .u8 0, .int .i64 0, .int .i64 0, .int .i64 0, .int .u8 0]
/-- the block that was handed in, the one that is made, and the one that is told -/
structure TB (w wr : World) (B : Nat) (pc nc : List Value) : Prop where
 bel : Below w.heap.size w wr
 bp : Box wr w.heap.size pc
 bn : Box wr B nc
 ob : wr.heap[w.heap.size + 1]? = some (.cells #[.slice none 0 0, .int .u8 0, .int .i64 0, .int .i64 0, .int .i64 0, .int .u8 0] 49 (0, 0))
 bo : Box wr (w.heap.size + 1) z6
 lo : w.heap.size + 2 ≤ B
theorem TB.same {w wr w' : World} {B : Nat} {pc nc : List Value} (h : TB w wr B pc nc) (hb : Below w.heap.size w w') (hk : ∀ k, k ≤ B → w'.heap[k]? = wr.heap[k]?) : TB w w' B pc nc :=
 ⟨hb, h.bp.same (hk _ (by have := h.lo; omega)), h.bn.same (hk _ (Nat.le_refl _)), (hk _ (by have := h.lo; omega)).trans h.ob, h.bo.same (hk _ (by have := h.lo; omega)), h.lo⟩
theorem TB.below {w wr w' : World} {B : Nat} {pc nc : List Value} (h : TB w wr B pc nc) (hb : Below wr.heap.size wr w') : TB w w' B pc nc := h.same (below_trans h.bel hb) fun k hk => hb.block k (by have := h.bn.lt; omega)
theorem TB.set {w wr : World} {B : Nat} {pc nc : List Value} (h : TB w wr B pc nc) (hn : 0 < nc.length) (u : Value) : TB w (wr.setCell ⟨B, 0, none⟩ u) B pc (nc.set 0 u) :=
 ⟨h.bel.setCell (p := ⟨B, 0, none⟩) (by have := h.lo; show w.heap.size ≤ B; omega) _, h.bp.other (by have := h.lo; show w.heap.size ≠ B; omega) _, h.bn.set hn _, (Below.heap_setCell wr ⟨B, 0, none⟩ u (w.heap.size + 1) (by have := h.lo; show w.heap.size + 1 ≠ B; omega)).trans h.ob, h.bo.other (by have := h.lo; show w.heap.size + 1 ≠ B; omega) _, h.lo⟩
theorem map_take {α β : Type} {l : List α} {f : α → β} {i : Nat} {x : α} (h : l[i]? = some x) : (l.take (i + 1)).map f = (l.take i).map f ++ [f x] := by
 rw [List.take_add_one, h, List.map_append]; rfl
set_option maxRecDepth 100000 in
set_option maxHeartbeats 8000000 in
theorem trimmed_any (b : Bl) (iv sv pv : Value) (O st : List Int) (n : Nat) (w : World) (h : InsAt w iv b.ins) (hs : IntsAt w sv st) (hst : ∀ i ∈ st, 0 ≤ i) (hsl : st.length ≤ 1000000) (hp : IntsAt w pv (placesL O n)) (hl : b.ins.length ≤ 1000000) (hla : ∀ x ∈ b.ins, x.args.length ≤ 1000000) :
  Calls Tryz.prog 29 #[.agg (blArr iv b.tm), sv, pv] w fun e w' => ∃ iv' avs, e = .returned (.agg (blArr iv' (ledT O n b.tm))) ∧ CI w' w.heap.size iv' (b.ins.map (trimI st)) avs ∧ Below w.heap.size w w' := by
 obtain ⟨L, tk, ta, t0, t1, tt⟩ := b
 dsimp only at h hl hla ⊢
 obtain ⟨a, c, rfl, _⟩ := h.form
 obtain ⟨sa, sc, rfl, _⟩ := hs.form
 obtain ⟨pa, pc, rfl, _⟩ := hp.form
 rw [places_len] at *
 have HLD : Hid (∀ W, Below w.heap.size w W → Calls Tryz.prog 57 #[.agg #[.int .u8 tk, .int .i64 ta, .int .i64 t0, .int .i64 t1, .int .u8 tt], .slice pa n pc] W fun e w' => e = .returned (tmV (ledT O n ⟨tk, ta, t0, t1, tt⟩)) ∧ Below W.heap.size W w') := fun W hb => led_any ⟨tk, ta, t0, t1, tt⟩ O n _ W (hp.below hb)
 have HI : Hid (∀ i, i < L.length → _) := fun i hi => h.get (i := i) hi
 have HKP : Hid (∀ (xs : List Int) (xv : Value) W, Below w.heap.size w W → IntsAt W xv xs → Calls Tryz.prog 58 #[xv, .slice sa st.length sc] W fun e w' => ∃ v', e = .returned v' ∧ OwnI w' W.heap.size v' (keptP xs st) ∧ Below W.heap.size W w') := fun xs xv W hb hx => kept_any xs st xv _ W hx (hs.below hb) hst hsl
 have HCL : Hid (∀ (xs : List Int) (a : Option Addr) (c : Nat) W, IntsAt W (.slice a xs.length c) xs → xs.length ≤ 1000000 → Calls Tryz.prog 31 #[.slice a xs.length c] W fun e w' => ∃ v', e = .returned v' ∧ OwnI w' W.heap.size v' xs ∧ Below W.heap.size W w') := fun xs a c W hx hxl => clone1_any hx (by simp) hxl (ints_one _)
 have HKL : Hid (∀ xs : List Int, (keptP xs st).length ≤ 1000000) := fun xs => Nat.le_trans kept_le hsl
 have HXL : Hid (∀ i, i < L.length → (L.getD i default).args.length ≤ 1000000) := fun i hi => hla _ (getD_memI hi)
 have HTK : Hid (∀ i, i < L.length → (L.take (i + 1)).map (trimI st) = (L.take i).map (trimI st) ++ [trimI st (L.getD i default)]) := fun i hi => map_take (getD_somL hi)
 have HTF : Hid ((L.take L.length).map (trimI st) = L.map (trimI st)) := by show _ = _; rw [List.take_length]
 have HLT : Hid (∀ i, i ≤ L.length → ((L.take i).map (trimI st)).length = i) := fun i hi => by rw [List.length_map, List.length_take]; omega
 obtain ⟨i0, hi0, hz0, hz1, hz2⟩ := info_parts infoIn
 have HB0 : Hid (Below w.heap.size w ((w.alloc (.cells #[.slice a L.length c, .int .u8 tk, .int .i64 ta, .int .i64 t0, .int .i64 t1, .int .u8 tt] 49)).alloc (.cells #[.slice none 0 0, .int .u8 0, .int .i64 0, .int .i64 0, .int .i64 0, .int .u8 0] 49))) := below_alloc (below_alloc (Below.refl _ _) _) _
 have HSZ : Hid (∀ o o' : Obj, ((w.alloc o).alloc o').heap.size = w.heap.size + 2) := fun o o' => by simp
 have HBP : Hid (Box ((w.alloc (.cells #[.slice a L.length c, .int .u8 tk, .int .i64 ta, .int .i64 t0, .int .i64 t1, .int .u8 tt] 49)).alloc (.cells #[.slice none 0 0, .int .u8 0, .int .i64 0, .int .i64 0, .int .i64 0, .int .u8 0] 49)) w.heap.size [.slice a L.length c, .int .u8 tk, .int .i64 ta, .int .i64 t0, .int .i64 t1, .int .u8 tt]) := (Box.new w [.slice a L.length c, .int .u8 tk, .int .i64 ta, .int .i64 t0, .int .i64 t1, .int .u8 tt] 49).below (below_alloc (Below.refl _ _) _)
 have HBO : Hid (Box ((w.alloc (.cells #[.slice a L.length c, .int .u8 tk, .int .i64 ta, .int .i64 t0, .int .i64 t1, .int .u8 tt] 49)).alloc (.cells #[.slice none 0 0, .int .u8 0, .int .i64 0, .int .i64 0, .int .i64 0, .int .u8 0] 49)) (w.heap.size + 1) z6 ∧ ((w.alloc (.cells #[.slice a L.length c, .int .u8 tk, .int .i64 ta, .int .i64 t0, .int .i64 t1, .int .u8 tt] 49)).alloc (.cells #[.slice none 0 0, .int .u8 0, .int .i64 0, .int .i64 0, .int .i64 0, .int .u8 0] 49)).heap[w.heap.size + 1]? = some (.cells #[.slice none 0 0, .int .u8 0, .int .i64 0, .int .i64 0, .int .i64 0, .int .u8 0] 49 (0, 0))) := by
  have e : (w.alloc (.cells #[.slice a L.length c, .int .u8 tk, .int .i64 ta, .int .i64 t0, .int .i64 t1, .int .u8 tt] 49)).heap.size = w.heap.size + 1 := by simp
  have h9 := Box.new (w.alloc (.cells #[.slice a L.length c, .int .u8 tk, .int .i64 ta, .int .i64 t0, .int .i64 t1, .int .u8 tt] 49)) z6 49
  have h8 := heap_alloc_new (w.alloc (.cells #[.slice a L.length c, .int .u8 tk, .int .i64 ta, .int .i64 t0, .int .i64 t1, .int .u8 tt] 49)) (.cells #[.slice none 0 0, .int .u8 0, .int .i64 0, .int .i64 0, .int .i64 0, .int .u8 0] 49)
  rw [e] at h9 h8
  exact ⟨h9, h8⟩
 clear h hs hst hp hla
 generalize hnn : L.length = il at *
 have HNN : Hid (L.length = il) := hnn
 clear hnn
 generalize hTT : ledT O n ⟨tk, ta, t0, t1, tt⟩ = TT at *
 obtain ⟨sk, sarg, s0, s1, strap⟩ := TT
 have hl' : (il : Int) ≤ 1000000 := by omega
 go_enter Tryz.func29, Tryz.ntmps29
 go_wp2_with (go_at_call 57; go_loud (refine Calls.mono (by exact HLD.out _ HB0.out) ?_; rintro e w1 ⟨rfl, hb1⟩; have HB1 : Hid _ := hb1; obtain ⟨e0, e1, e2, e3, e4, e5⟩ := box6 (HBP.out.below hb1); have hel := (HBP.out.below hb1).lt; clear hb1))
 have HT0 : Hid (∀ W, Below w1.heap.size w1 W → Box W w1.heap.size [.slice none 0 0, .int .u8 sk, .int .i64 sarg, .int .i64 s0, .int .i64 s1, .int .u8 strap] → TB w W w1.heap.size [.slice a il c, .int .u8 tk, .int .i64 ta, .int .i64 t0, .int .i64 t1, .int .u8 tt] [.slice none 0 0, .int .u8 sk, .int .i64 sarg, .int .i64 s0, .int .i64 s1, .int .u8 strap]) := fun W hW hbx => by
  have hz := HB1.out.size
  rw [HSZ.out] at hz
  have hlt1 : ∀ k, k < w.heap.size + 2 → W.heap[k]? = ((w.alloc (.cells #[.slice a il c, .int .u8 tk, .int .i64 ta, .int .i64 t0, .int .i64 t1, .int .u8 tt] 49)).alloc (.cells #[.slice none 0 0, .int .u8 0, .int .i64 0, .int .i64 0, .int .i64 0, .int .u8 0] 49)).heap[k]? := fun k hk => (hW.block k (by omega)).trans (HB1.out.block k (by rw [HSZ.out]; exact hk))
  exact ⟨below_trans HB0.out (below_trans HB1.out hW), HBP.out.same (hlt1 _ (by omega)), hbx, (hlt1 _ (by omega)).trans HBO.out.2, HBO.out.1.same (hlt1 _ (by omega)), hz⟩
 go_loopw [18] (fun vi wr => ∃ (i : Nat) (avs : List Value) (oa : Option Addr) (oc : Nat), vi = .int .i64 i ∧ i ≤ il ∧ Hid (TB w wr w1.heap.size [.slice a il c, .int .u8 tk, .int .i64 ta, .int .i64 t0, .int .i64 t1, .int .u8 tt] [.slice oa i oc, .int .u8 sk, .int .i64 sarg, .int .i64 s0, .int .i64 s1, .int .u8 strap] ∧ CI wr (w1.heap.size + 1) (.slice oa i oc) ((L.take i).map (trimI st)) avs)) (fun vi _ => il - (intOf vi).toNat)
 case atStart => exact ⟨0, [], none, 0, rfl, by omega, HT0.out _ (below_alloc (Below.refl _ _) _) (Box.new w1 [.slice none 0 0, .int .u8 sk, .int .i64 sarg, .int .i64 s0, .int .i64 s1, .int .u8 strap] 49), CI.nil _ _⟩
 case round =>
  obtain ⟨i, avs, oa, oc, rfl, hi, hr⟩ := hrel
  generalize hB : w1.heap.size = B at *
  clear hB
  generalize wr = wo at *
  have HRR : Hid _ := hr.out
  clear hr HT0 HB1 HLD HB0 HBP HBO e0 e1 e2 e3 e4 e5
  obtain ⟨b0, b1, b2, b3, b4, b5⟩ := box6 HRR.out.1.bn
  have hbl := HRR.out.1.bn.lt
  by_cases hin : i < il
  ·obtain ⟨g, o, xv, rfl, hg, c0, c1, c2, c3, c4, c5, hxa⟩ := HI.out i hin
   obtain ⟨xa, xc, rfl, _⟩ := hxa.form
   have hcl : ∀ j, wo.cell? ⟨g, j, none⟩ = w.cell? ⟨g, j, none⟩ := fun j => HRR.out.1.bel.cell (p := ⟨g, j, none⟩) hg
   rw [← hcl] at c0 c1 c2 c3 c4 c5
   have hin' : (i : Int) < il := by omega
   have HT1 : Hid _ := HTK.out i hin
   have hxl2 := HXL.out i hin
   have HXA : Hid _ := hxa
   clear HI HTK HXL hxa hcl
   generalize L.getD i default = X at *
   obtain ⟨k, op, dst, xs, bits, ref⟩ := X
   dsimp only at *
   by_cases hk : k = 1
   ·subst hk
    have HW1 : Hid (Below w.heap.size w (wo.alloc (.cells #[.int .u8 1, .int .u8 op, .int .i64 dst, .slice xa xs.length xc, .int .u64 bits, .int .i64 ref] 41)) ∧ IntsAt (wo.alloc (.cells #[.int .u8 1, .int .u8 op, .int .i64 dst, .slice xa xs.length xc, .int .u64 bits, .int .i64 ref] 41)) (.slice xa xs.length xc) xs) := ⟨below_alloc HRR.out.1.bel _, (HXA.out.below HRR.out.1.bel).below (below_alloc (Below.refl _ _) _)⟩
    have HTX : Hid (TB w (wo.alloc (.cells #[.int .u8 1, .int .u8 op, .int .i64 dst, .slice xa xs.length xc, .int .u64 bits, .int .i64 ref] 41)) B [.slice (some ⟨g, o, none⟩) il c, .int .u8 tk, .int .i64 ta, .int .i64 t0, .int .i64 t1, .int .u8 tt] [.slice oa i oc, .int .u8 sk, .int .i64 sarg, .int .i64 s0, .int .i64 s1, .int .u8 strap]) := HRR.out.1.below (below_alloc (Below.refl _ _) _)
    have HXB : Hid (Box (wo.alloc (.cells #[.int .u8 1, .int .u8 op, .int .i64 dst, .slice xa xs.length xc, .int .u64 bits, .int .i64 ref] 41)) wo.heap.size [.int .u8 1, .int .u8 op, .int .i64 dst, .slice xa xs.length xc, .int .u64 bits, .int .i64 ref]) := Box.new wo [.int .u8 1, .int .u8 op, .int .i64 dst, .slice xa xs.length xc, .int .u64 bits, .int .i64 ref] 41
    have HRL : Hid (wo.ownsRow (B + 1) 41 6 (.slice oa i oc) i (insCells ((L.take i).map (trimI st)) avs)) := by have h9 := HRR.out.2.row; rw [HLT.out i hi] at h9; exact h9
    have HLI : Hid (((L.take i).map (trimI st)).length = i) := HLT.out i hi
    have HSA : Hid (∀ o : Obj, (wo.alloc o).heap.size = wo.heap.size + 1) := fun o => by simp
    have HTI : Hid (trimI st ⟨1, op, dst, xs, bits, ref⟩ = ⟨1, op, dst, (keptP xs st), bits, ref⟩) := by show _ = _; unfold trimI; rw [if_pos rfl]
    have HALN : Hid ((keptP xs st).length ≤ 1000000) := HKL.out xs
    clear HXA
    go_wp2_with (first
    | (go_at_call 58; go_loud (refine Calls.mono (by exact HKP.out xs _ _ HW1.out.1 HW1.out.2) ?_; rintro e w2 ⟨v2, rfl, ho2, hb2⟩; obtain ⟨ya, yc, rfl⟩ : ∃ ya yc, v2 = .slice ya (keptP xs st).length yc := (by obtain ⟨ya, yc, hv, _⟩ := own_blk (Nat.le_refl _) ho2; exact ⟨ya, yc, hv⟩); have HO2 : Hid (OwnI w2 (wo.alloc (.cells #[.int .u8 1, .int .u8 op, .int .i64 dst, .slice xa xs.length xc, .int .u64 bits, .int .i64 ref] 41)).heap.size (.slice ya (keptP xs st).length yc) (keptP xs st)) := ho2; have HB2 : Hid _ := hb2; obtain ⟨n0, n1, n2, n3, n4, n5⟩ := box6 (HTX.out.below hb2).bn; obtain ⟨y0, y1, y2, y3, y4, y5⟩ := box6 (HXB.out.below hb2); have yf := (HXB.out.below hb2).fz 3; have ylt := (HXB.out.below hb2).lt; have nlt := (HTX.out.below hb2).bn.lt; have HRL2 : Hid (∀ u, (w2.setCell ⟨wo.heap.size, 3, none⟩ u).ownsRow (B + 1) 41 6 (.slice oa i oc) i (insCells ((L.take i).map (trimI st)) avs)) := (fun u => owns_other (owns_below (owns_below HRL.out (below_alloc (Below.refl _ _) _)) hb2) (fun e => absurd (HRL.out.lt _ e).2 (Nat.lt_irrefl _)) u); have HSC : Hid (∀ (a : Addr) (u : Value), (w2.setCell a u).heap.size = w2.heap.size) := (fun a u => by simp [World.setCell]); clear ho2 hb2 b0 b1 b2 b3 b4 b5))
    | (at_builtin; go_loud (refine wpList_append_own_at _ rfl _ _ 42 rfl (B + 1) 41 i0 (.agg #[.int .u8 0, .int .u8 0, .int .i64 0, .slice none 0 0, .int .u64 0, .int .i64 0]) 6 56 Tryz.underlying42 hi0 hz0 hz1 hz2 rfl (by decide) _ i (insCells ((L.take i).map (trimI st)) avs) rfl (owns_below (HRL2.out _) (below_alloc (Below.refl _ _) _)) ⟨w2.heap.size, 0, none⟩ 1 1 (inCells ⟨1, op, dst, (keptP xs st), bits, ref⟩ (.slice ya (keptP xs st).length yc)) rfl rfl ?c1 ?c2 ?c3 ?c4 ?c5 ?_)))
    case c1 => intro j u hj; rw [Addr.add_lit, Nat.zero_add]; have h9 := (Box.new (w2.setCell ⟨wo.heap.size, 3, none⟩ (.slice ya (keptP xs st).length yc)) (inCells ⟨1, op, dst, (keptP xs st), bits, ref⟩ (.slice ya (keptP xs st).length yc)) 41).cell j u hj; rw [HSC.out] at h9; exact h9
    case c2 => exact in_cells_one rfl
    case c3 => unfold maxLen; omega
    case c4 => omega
    case c5 => simp; omega
    intro v3 w3 ho hg2 _ hat
    obtain ⟨g3, cc3, rfl, _, _, _, _⟩ := own_form ho
    have HW4 : Hid (Below wo.heap.size wo ((w2.setCell ⟨wo.heap.size, 3, none⟩ (.slice ya (keptP xs st).length yc)).alloc (.cells #[.int .u8 1, .int .u8 op, .int .i64 dst, .slice ya (keptP xs st).length yc, .int .u64 bits, .int .i64 ref] 41))) := below_alloc ((below_trans (below_alloc (Below.refl _ _) _) HB2.out).setCell (p := ⟨wo.heap.size, 3, none⟩) (Nat.le_refl _) _) _
    have hS4 : ((w2.setCell ⟨wo.heap.size, 3, none⟩ (.slice ya (keptP xs st).length yc)).alloc (.cells #[.int .u8 1, .int .u8 op, .int .i64 dst, .slice ya (keptP xs st).length yc, .int .u64 bits, .int .i64 ref] 41)).heap.size = w2.heap.size + 1 := by rw [World.size_alloc, HSC.out]
    have hsz2 : wo.heap.size + 1 ≤ w2.heap.size := by have := HB2.out.size; rw [HSA.out] at this; exact this
    have hrb : ∀ q, (Value.slice oa i oc).ownBlock = some q → B + 1 ≤ q ∧ q < wo.heap.size := fun q hq => HRL.out.lt q hq
    have hkeep : ∀ k, k ≤ B → w3.heap[k]? = wo.heap[k]? := fun k hk => (hg2.block k (by rw [hS4]; omega) (fun e => by have := (hrb k e.symm).1; omega)).trans (HW4.out.block k (by omega))
    have HTB3 : Hid (TB w w3 B [.slice (some ⟨g, o, none⟩) il c, .int .u8 tk, .int .i64 ta, .int .i64 t0, .int .i64 t1, .int .u8 tt] [.slice oa i oc, .int .u8 sk, .int .i64 sarg, .int .i64 s0, .int .i64 s1, .int .u8 strap]) := HRR.out.1.same (below_grown (below_trans HRR.out.1.bel HW4.out) hg2 (fun q hq => by have := (hrb q hq).1; have := HRR.out.1.lo; omega)) hkeep
    have HCI3 : Hid (CI w3 (B + 1) (.slice (some ⟨g3, 0, none⟩) (i + 1) cc3) ((L.take (i + 1)).map (trimI st)) (avs ++ [.slice ya (keptP xs st).length yc])) := by
     show CI _ _ _ _ _
     rw [HT1.out, HTI.out]
     refine CI.push HRR.out.2 HW4.out ?_ (by omega) (by rw [HLI.out, List.map_take]; exact ho) hg2 ?_
     ·refine owns_below (owns_other (own_mono HO2.out (by rw [HSA.out]; omega)) ?_ _) (below_alloc (Below.refl _ _) _)
      exact fun e => by have h9 := (HO2.out.lt _ e).1; rw [HSA.out] at h9; exact absurd h9 (by show ¬ wo.heap.size + 1 ≤ wo.heap.size; omega)
     ·rcases hat with e | e
      ·exact .inl e
      ·exact .inr (by rw [hS4]; exact e)
    have HN : Hid (TB w (w3.setCell ⟨B, 0, none⟩ (.slice (some ⟨g3, 0, none⟩) (i + 1) cc3)) B [.slice (some ⟨g, o, none⟩) il c, .int .u8 tk, .int .i64 ta, .int .i64 t0, .int .i64 t1, .int .u8 tt] [.slice (some ⟨g3, 0, none⟩) (i + 1) cc3, .int .u8 sk, .int .i64 sarg, .int .i64 s0, .int .i64 s1, .int .u8 strap] ∧ CI (w3.setCell ⟨B, 0, none⟩ (.slice (some ⟨g3, 0, none⟩) (i + 1) cc3)) (B + 1) (.slice (some ⟨g3, 0, none⟩) (i + 1) cc3) ((L.take (i + 1)).map (trimI st)) (avs ++ [.slice ya (keptP xs st).length yc])) :=
     ⟨HTB3.out.set (by simp) _, HCI3.out.same fun q hq => Below.heap_setCell w3 ⟨B, 0, none⟩ _ q (by have := (HCI3.out.lt hq).1; show q ≠ B; omega)⟩
    obtain ⟨m0, m1, m2, m3, m4, m5⟩ := box6 HTB3.out.bn
    have mf := HTB3.out.bn.fz 0
    have mlt := HTB3.out.bn.lt
    clear ho hg2 hat hkeep hrb n0 n1 n2 n3 n4 n5 y0 y1 y2 y3 y4 y5 yf ylt nlt
    go_wp2
    go_roundw
    case rel => exact ⟨i + 1, _, _, _, by first | rfl | (congr 1; omega), by omega, HN.out.1, HN.out.2⟩
    case measure => simp [intOf]; omega
   ·have hkf : (k == 1) = false := beq_false_of_ne hk
    have HW1 : Hid (Below w.heap.size w (wo.alloc (.cells #[.int .u8 k, .int .u8 op, .int .i64 dst, .slice xa xs.length xc, .int .u64 bits, .int .i64 ref] 41)) ∧ IntsAt (wo.alloc (.cells #[.int .u8 k, .int .u8 op, .int .i64 dst, .slice xa xs.length xc, .int .u64 bits, .int .i64 ref] 41)) (.slice xa xs.length xc) xs) := ⟨below_alloc HRR.out.1.bel _, (HXA.out.below HRR.out.1.bel).below (below_alloc (Below.refl _ _) _)⟩
    have HTX : Hid (TB w (wo.alloc (.cells #[.int .u8 k, .int .u8 op, .int .i64 dst, .slice xa xs.length xc, .int .u64 bits, .int .i64 ref] 41)) B [.slice (some ⟨g, o, none⟩) il c, .int .u8 tk, .int .i64 ta, .int .i64 t0, .int .i64 t1, .int .u8 tt] [.slice oa i oc, .int .u8 sk, .int .i64 sarg, .int .i64 s0, .int .i64 s1, .int .u8 strap]) := HRR.out.1.below (below_alloc (Below.refl _ _) _)
    have HXB : Hid (Box (wo.alloc (.cells #[.int .u8 k, .int .u8 op, .int .i64 dst, .slice xa xs.length xc, .int .u64 bits, .int .i64 ref] 41)) wo.heap.size [.int .u8 k, .int .u8 op, .int .i64 dst, .slice xa xs.length xc, .int .u64 bits, .int .i64 ref]) := Box.new wo [.int .u8 k, .int .u8 op, .int .i64 dst, .slice xa xs.length xc, .int .u64 bits, .int .i64 ref] 41
    have HRL : Hid (wo.ownsRow (B + 1) 41 6 (.slice oa i oc) i (insCells ((L.take i).map (trimI st)) avs)) := by have h9 := HRR.out.2.row; rw [HLT.out i hi] at h9; exact h9
    have HLI : Hid (((L.take i).map (trimI st)).length = i) := HLT.out i hi
    have HSA : Hid (∀ o : Obj, (wo.alloc o).heap.size = wo.heap.size + 1) := fun o => by simp
    have HTI : Hid (trimI st ⟨k, op, dst, xs, bits, ref⟩ = ⟨k, op, dst, xs, bits, ref⟩) := by show _ = _; unfold trimI; rw [if_neg hk]
    have HALN : Hid (xs.length ≤ 1000000) := hxl2
    clear HXA
    go_wp2_with (first
    | (go_at_call 31; go_loud (refine Calls.mono (by exact HCL.out xs _ _ _ HW1.out.2 hxl2) ?_; rintro e w2 ⟨v2, rfl, ho2, hb2⟩; obtain ⟨ya, yc, rfl⟩ : ∃ ya yc, v2 = .slice ya xs.length yc := (by obtain ⟨ya, yc, hv, _⟩ := own_blk (Nat.le_refl _) ho2; exact ⟨ya, yc, hv⟩); have HO2 : Hid (OwnI w2 (wo.alloc (.cells #[.int .u8 k, .int .u8 op, .int .i64 dst, .slice xa xs.length xc, .int .u64 bits, .int .i64 ref] 41)).heap.size (.slice ya xs.length yc) xs) := ho2; have HB2 : Hid _ := hb2; obtain ⟨n0, n1, n2, n3, n4, n5⟩ := box6 (HTX.out.below hb2).bn; obtain ⟨y0, y1, y2, y3, y4, y5⟩ := box6 (HXB.out.below hb2); have yf := (HXB.out.below hb2).fz 3; have ylt := (HXB.out.below hb2).lt; have nlt := (HTX.out.below hb2).bn.lt; have HRL2 : Hid (∀ u, (w2.setCell ⟨wo.heap.size, 3, none⟩ u).ownsRow (B + 1) 41 6 (.slice oa i oc) i (insCells ((L.take i).map (trimI st)) avs)) := (fun u => owns_other (owns_below (owns_below HRL.out (below_alloc (Below.refl _ _) _)) hb2) (fun e => absurd (HRL.out.lt _ e).2 (Nat.lt_irrefl _)) u); have HSC : Hid (∀ (a : Addr) (u : Value), (w2.setCell a u).heap.size = w2.heap.size) := (fun a u => by simp [World.setCell]); clear ho2 hb2 b0 b1 b2 b3 b4 b5))
    | (at_builtin; go_loud (refine wpList_append_own_at _ rfl _ _ 42 rfl (B + 1) 41 i0 (.agg #[.int .u8 0, .int .u8 0, .int .i64 0, .slice none 0 0, .int .u64 0, .int .i64 0]) 6 56 Tryz.underlying42 hi0 hz0 hz1 hz2 rfl (by decide) _ i (insCells ((L.take i).map (trimI st)) avs) rfl (owns_below (HRL2.out _) (below_alloc (Below.refl _ _) _)) ⟨w2.heap.size, 0, none⟩ 1 1 (inCells ⟨k, op, dst, xs, bits, ref⟩ (.slice ya xs.length yc)) rfl rfl ?c1 ?c2 ?c3 ?c4 ?c5 ?_)))
    case c1 => intro j u hj; rw [Addr.add_lit, Nat.zero_add]; have h9 := (Box.new (w2.setCell ⟨wo.heap.size, 3, none⟩ (.slice ya xs.length yc)) (inCells ⟨k, op, dst, xs, bits, ref⟩ (.slice ya xs.length yc)) 41).cell j u hj; rw [HSC.out] at h9; exact h9
    case c2 => exact in_cells_one rfl
    case c3 => unfold maxLen; omega
    case c4 => omega
    case c5 => simp; omega
    intro v3 w3 ho hg2 _ hat
    obtain ⟨g3, cc3, rfl, _, _, _, _⟩ := own_form ho
    have HW4 : Hid (Below wo.heap.size wo ((w2.setCell ⟨wo.heap.size, 3, none⟩ (.slice ya xs.length yc)).alloc (.cells #[.int .u8 k, .int .u8 op, .int .i64 dst, .slice ya xs.length yc, .int .u64 bits, .int .i64 ref] 41))) := below_alloc ((below_trans (below_alloc (Below.refl _ _) _) HB2.out).setCell (p := ⟨wo.heap.size, 3, none⟩) (Nat.le_refl _) _) _
    have hS4 : ((w2.setCell ⟨wo.heap.size, 3, none⟩ (.slice ya xs.length yc)).alloc (.cells #[.int .u8 k, .int .u8 op, .int .i64 dst, .slice ya xs.length yc, .int .u64 bits, .int .i64 ref] 41)).heap.size = w2.heap.size + 1 := by rw [World.size_alloc, HSC.out]
    have hsz2 : wo.heap.size + 1 ≤ w2.heap.size := by have := HB2.out.size; rw [HSA.out] at this; exact this
    have hrb : ∀ q, (Value.slice oa i oc).ownBlock = some q → B + 1 ≤ q ∧ q < wo.heap.size := fun q hq => HRL.out.lt q hq
    have hkeep : ∀ k, k ≤ B → w3.heap[k]? = wo.heap[k]? := fun k hk => (hg2.block k (by rw [hS4]; omega) (fun e => by have := (hrb k e.symm).1; omega)).trans (HW4.out.block k (by omega))
    have HTB3 : Hid (TB w w3 B [.slice (some ⟨g, o, none⟩) il c, .int .u8 tk, .int .i64 ta, .int .i64 t0, .int .i64 t1, .int .u8 tt] [.slice oa i oc, .int .u8 sk, .int .i64 sarg, .int .i64 s0, .int .i64 s1, .int .u8 strap]) := HRR.out.1.same (below_grown (below_trans HRR.out.1.bel HW4.out) hg2 (fun q hq => by have := (hrb q hq).1; have := HRR.out.1.lo; omega)) hkeep
    have HCI3 : Hid (CI w3 (B + 1) (.slice (some ⟨g3, 0, none⟩) (i + 1) cc3) ((L.take (i + 1)).map (trimI st)) (avs ++ [.slice ya xs.length yc])) := by
     show CI _ _ _ _ _
     rw [HT1.out, HTI.out]
     refine CI.push HRR.out.2 HW4.out ?_ (by omega) (by rw [HLI.out, List.map_take]; exact ho) hg2 ?_
     ·refine owns_below (owns_other (own_mono HO2.out (by rw [HSA.out]; omega)) ?_ _) (below_alloc (Below.refl _ _) _)
      exact fun e => by have h9 := (HO2.out.lt _ e).1; rw [HSA.out] at h9; exact absurd h9 (by show ¬ wo.heap.size + 1 ≤ wo.heap.size; omega)
     ·rcases hat with e | e
      ·exact .inl e
      ·exact .inr (by rw [hS4]; exact e)
    have HN : Hid (TB w (w3.setCell ⟨B, 0, none⟩ (.slice (some ⟨g3, 0, none⟩) (i + 1) cc3)) B [.slice (some ⟨g, o, none⟩) il c, .int .u8 tk, .int .i64 ta, .int .i64 t0, .int .i64 t1, .int .u8 tt] [.slice (some ⟨g3, 0, none⟩) (i + 1) cc3, .int .u8 sk, .int .i64 sarg, .int .i64 s0, .int .i64 s1, .int .u8 strap] ∧ CI (w3.setCell ⟨B, 0, none⟩ (.slice (some ⟨g3, 0, none⟩) (i + 1) cc3)) (B + 1) (.slice (some ⟨g3, 0, none⟩) (i + 1) cc3) ((L.take (i + 1)).map (trimI st)) (avs ++ [.slice ya xs.length yc])) :=
     ⟨HTB3.out.set (by simp) _, HCI3.out.same fun q hq => Below.heap_setCell w3 ⟨B, 0, none⟩ _ q (by have := (HCI3.out.lt hq).1; show q ≠ B; omega)⟩
    obtain ⟨m0, m1, m2, m3, m4, m5⟩ := box6 HTB3.out.bn
    have mf := HTB3.out.bn.fz 0
    have mlt := HTB3.out.bn.lt
    clear ho hg2 hat hkeep hrb n0 n1 n2 n3 n4 n5 y0 y1 y2 y3 y4 y5 yf ylt nlt
    go_wp2
    go_roundw
    case rel => exact ⟨i + 1, _, _, _, by first | rfl | (congr 1; omega), by omega, HN.out.1, HN.out.2⟩
    case measure => simp [intOf]; omega
  ·obtain rfl : i = il := by omega
   have HCC : Hid (CI wo (B + 1) (.slice oa i oc) (L.map (trimI st)) avs) := by show CI _ _ _ _ _; rw [← HTF.out]; exact HRR.out.2
   have HTB : Hid _ := HRR.out.1
   obtain ⟨z0, z1, z2, z3, z4, z5⟩ := box6 HRR.out.1.bo
   have zf := HRR.out.1.bo.fz
   have zl := HRR.out.1.bo.lt
   have hlo := HRR.out.1.lo
   clear HRR HI HTK HXL HKP HCL HTF HLT
   go_wp2
   obtain ⟨q1, q2, q3⟩ := six_end (r := w.heap.size + 1) HTB.out.bel (by omega) HTB.out.ob (.slice oa i oc) (.int .u8 sk) (.int .i64 sarg) (.int .i64 s0) (.int .i64 s1) (.int .u8 strap)
   refine bodyPost_ret (results_cell_row rfl _ _ (w.heap.size + 1) 49 #[.slice oa i oc, .int .u8 sk, .int .i64 sarg, .int .i64 s0, .int .i64 s1, .int .u8 strap] _ _ rfl q2 Tryz.underlying49 rfl (by rfl)) rfl ⟨.slice oa i oc, avs, ?_, ?_, q1⟩
   ·rfl
   ·exact CI.moved HCC.out (by omega) fun g hg => q3 g (by omega)
end Go.Proofs.YtobnpllppohofaaGreatDoor
