/- What stays of a block's instructions: the walk. -/
import Derived.Test.YtajaijilfclhpaaGreatDoorNSmM
import Derived.Test.YtajaijilfclhpaaGreatDoorNEvM
import Derived.Test.YtajaijilfclhpaaGreatDoorNUncM
namespace Go.Proofs.YtajaijilfclhpaaGreatDoor
open Go.RowKit Go.Sort

def keepN (need : List Bool) (x : In) : Bool := staysK x.kind || atB need x.dst
theorem filt_next {p : In → Bool} {L : List In} {k : Nat} {x : In} (h : L[k]? = some x) : (L.take (k + 1)).filter p = (L.take k).filter p ++ (if p x then [x] else []) := by
 rw [List.take_add_one, h, List.filter_append]
 congr 1
 cases hk : p x <;> simp [hk]
set_option maxRecDepth 100000 in
set_option maxHeartbeats 4000000 in
theorem dstay_any {w : World} {iv nv : Value} {L : List In} {need : List Bool} (h : InsAt w iv L) (hN : BosAt w nv need) (hd : ∀ x ∈ L, staysK x.kind = false → 0 ≤ x.dst ∧ x.dst < need.length) (hl : L.length ≤ 100000) (ha : ∀ x ∈ L, x.args.length ≤ 1100000) :
  Calls Tryz.prog 95 #[iv, nv] w fun e w' => ∃ v avs, e = .returned v ∧ Below w.heap.size w w' ∧ CI w' w.heap.size v (L.filter (keepN need)) avs := by
 obtain ⟨ia, ic, rfl, hil⟩ := h.form
 have HG : Hid (∀ i, i < L.length → _) := fun i hi => h.get (i := i) hi
 obtain ⟨na, nc, rfl, _⟩ := row_form hN
 have HND : Hid (∀ i, i < need.length → _) := fun i hi => hN.get (i := i) hi
 have HD : Hid (∀ i, i < L.length → staysK (L.getD i default).kind = false → 0 ≤ (L.getD i default).dst ∧ (L.getD i default).dst < need.length) := fun i hi hk => hd _ (getD_memI hi) hk
 have HA : Hid (∀ i, i < L.length → (L.getD i default).args.length ≤ 1100000) := fun i hi => ha _ (getD_memI hi)
 have HNX : Hid (∀ k, k < L.length → (L.take (k + 1)).filter (keepN need) = (L.take k).filter (keepN need) ++ (if keepN need (L.getD k default) then [L.getD k default] else [])) := fun k hk => filt_next (getD_somL hk)
 have HFL : Hid (∀ k, ((L.take k).filter (keepN need)).length ≤ 100000) := fun k => by
  have h1 := List.length_filter_le (keepN need) (L.take k)
  have h2 : (L.take k).length ≤ L.length := by rw [List.length_take]; omega
  omega
 have HEND : Hid (L.take L.length = L) := List.take_length
 obtain ⟨i0, hi0, hz0, hz1, hz2⟩ := info_parts infoIn
 clear h hN hd ha
 generalize L.length = n at *
 generalize hnl : need.length = nl at *
 clear hnl
 go_enter Tryz.func95, Tryz.ntmps95
 go_wp2
 go_loopw [5, 10] (fun vq vk wr => ∃ (k : Nat) (avs : List Value) (vs : Value), vk = .int .i64 k ∧ vs = vq ∧ k ≤ n ∧ Hid (Below w.heap.size w wr ∧ CI wr w.heap.size vs ((L.take k).filter (keepN need)) avs)) (fun _ vk _ => n - (intOf vk).toNat)
 case atStart => exact ⟨0, [], _, rfl, rfl, by omega, Below.refl _ _, by rw [List.take_zero]; exact CI.nil _ _⟩
 case round =>
  obtain ⟨k, avs, vs, rfl, rfl, hk, hr⟩ := hrel
  generalize wr = wk at *
  have HR : Hid (Below w.heap.size w wk ∧ CI wk w.heap.size vs ((L.take k).filter (keepN need)) avs) := hr.out
  clear hr
  by_cases hkn : k < n
  ·have hkn' : (k : Int) < n := by omega
   obtain ⟨g2, o2, xv, rfl, hg2, j0, j1, j2, j3, j4, j5, hxa⟩ := HG.out k hkn
   have hcl : ∀ j, wk.cell? ⟨g2, j, none⟩ = w.cell? ⟨g2, j, none⟩ := fun j => HR.out.1.cell (p := ⟨g2, j, none⟩) hg2
   rw [← hcl] at j0 j1 j2 j3 j4 j5
   have HNK : Hid _ := HNX.out k hkn
   have hfl := HFL.out k
   have hal := HA.out k hkn
   have hdk := HD.out k hkn
   have HXA : Hid (IntsAt w xv (L.getD k default).args) := hxa
   obtain ⟨ya, yc, rfl, hyl⟩ := hxa.form
   clear hcl hxa
   have HAC : Hid (∀ W, Calls Tryz.prog 113 #[.agg #[.int .u8 (L.getD k default).kind, .int .u8 (L.getD k default).op, .int .i64 (L.getD k default).dst, .slice ya (L.getD k default).args.length yc, .int .u64 (L.getD k default).bits, .int .i64 (L.getD k default).ref]] W fun e w' => e = .returned (.bool (staysK (L.getD k default).kind)) ∧ Below W.heap.size W w') := fun W => acts_any (L.getD k default) _ W
   have HCO : Hid (∀ W, Below w.heap.size w W → Calls Tryz.prog 156 #[.slice ya (L.getD k default).args.length yc] W fun e w' => ∃ v', e = .returned v' ∧ OwnI w' W.heap.size v' (L.getD k default).args ∧ Below W.heap.size W w') := fun W hW => dcopied_any (HXA.out.below hW) hal
   have HKP : Hid (keepN need (L.getD k default) = (staysK (L.getD k default).kind || atB need (L.getD k default).dst)) := rfl
   generalize L.getD k default = Y at *
   obtain ⟨kind, op, dst, args, bits, ref⟩ := Y
   dsimp only at *
   have hbx0 := Box.new wk [.int .u8 kind, .int .u8 op, .int .i64 dst, .slice ya args.length yc, .int .u64 bits, .int .i64 ref] 55
   have HBX : Hid (Below wk.heap.size wk (wk.alloc (.cells #[.int .u8 kind, .int .u8 op, .int .i64 dst, .slice ya args.length yc, .int .u64 bits, .int .i64 ref] 55)) ∧ Box (wk.alloc (.cells #[.int .u8 kind, .int .u8 op, .int .i64 dst, .slice ya args.length yc, .int .u64 bits, .int .i64 ref] 55)) wk.heap.size [.int .u8 kind, .int .u8 op, .int .i64 dst, .slice ya args.length yc, .int .u64 bits, .int .i64 ref]) := ⟨below_alloc (Below.refl _ _) _, hbx0⟩
   obtain ⟨sa, m, sc, rfl, hml⟩ : ∃ sa m sc, vs = .slice sa m sc ∧ m = ((L.take k).filter (keepN need)).length := by
    obtain ⟨a, c, e, _⟩ := own_blk (Nat.le_refl _) HR.out.2.row
    exact ⟨a, _, c, e, rfl⟩
   have HML : Hid _ := hml
   rw [← hml] at hfl
   clear hml hbx0 HXA
   -- what comes behind a copy, however we came to it
   have HAPP : Hid (∀ (w2 w3 : World) (v' v2 : Value) (w8 : World), Below wk.heap.size wk w2 → Box w2 wk.heap.size [.int .u8 kind, .int .u8 op, .int .i64 dst, .slice ya args.length yc, .int .u64 bits, .int .i64 ref] → OwnI w3 w2.heap.size v' args → Below w2.heap.size w2 w3 → ((w3.setCell ⟨wk.heap.size, 3, none⟩ v').alloc (.cells #[.int .u8 kind, .int .u8 op, .int .i64 dst, v', .int .u64 bits, .int .i64 ref] 55)).grownBy w8 (Value.slice sa m sc).ownBlock → w8.ownsRow w.heap.size 55 6 v2 (m + 1) (insCells ((L.take k).filter (keepN need)) avs ++ inCells ⟨kind, op, dst, args, bits, ref⟩ v') → (v2.ownBlock = (Value.slice sa m sc).ownBlock ∨ v2.ownBlock = some ((w3.setCell ⟨wk.heap.size, 3, none⟩ v').alloc (.cells #[.int .u8 kind, .int .u8 op, .int .i64 dst, v', .int .u64 bits, .int .i64 ref] 55)).heap.size) → keepN need ⟨kind, op, dst, args, bits, ref⟩ = true → Below w.heap.size w w8 ∧ CI w8 w.heap.size v2 ((L.take (k + 1)).filter (keepN need)) (avs ++ [v'])) := by
    intro w2 w3 v' v2 w8 h2 hx ho h3 hg ho8 hat hkp
    have hb3 : Below wk.heap.size wk (w3.setCell ⟨wk.heap.size, 3, none⟩ v') := (below_trans h2 h3).setCell (p := ⟨wk.heap.size, 3, none⟩) (Nat.le_refl _) _
    have hb4 : Below wk.heap.size wk ((w3.setCell ⟨wk.heap.size, 3, none⟩ v').alloc (.cells #[.int .u8 kind, .int .u8 op, .int .i64 dst, v', .int .u64 bits, .int .i64 ref] 55)) := below_alloc hb3 _
    have hlt := hx.lt
    have ho3 : OwnI (w3.setCell ⟨wk.heap.size, 3, none⟩ v') wk.heap.size v' args := own_mono (owns_other ho (a := ⟨wk.heap.size, 3, none⟩) (fun e => by have := (ho.lt _ e).1; dsimp only at this; omega) _) h2.size
    rw [HNK.out, hkp, if_pos rfl]
    refine ⟨below_grown (below_trans HR.out.1 hb4) hg (fun q hq => (HR.out.2.row.lt q hq).1), ?_⟩
    exact CI.push HR.out.2 hb4 (owns_below ho3 (below_alloc (Below.refl _ _) _)) HR.out.1.size (by rw [← HML.out]; exact ho8) hg hat
   have HOW : Hid (∀ (w2 w3 : World) (v' : Value), Below wk.heap.size wk w2 → Box w2 wk.heap.size [.int .u8 kind, .int .u8 op, .int .i64 dst, .slice ya args.length yc, .int .u64 bits, .int .i64 ref] → Below w2.heap.size w2 w3 → OwnI w3 w2.heap.size v' args → (((w3.setCell ⟨wk.heap.size, 3, none⟩ v').alloc (.cells #[.int .u8 kind, .int .u8 op, .int .i64 dst, v', .int .u64 bits, .int .i64 ref] 55)).ownsRow w.heap.size 55 6 (.slice sa m sc) m (insCells ((L.take k).filter (keepN need)) avs) ∧ Box w3 wk.heap.size [.int .u8 kind, .int .u8 op, .int .i64 dst, .slice ya args.length yc, .int .u64 bits, .int .i64 ref] ∧ Box (w3.setCell ⟨wk.heap.size, 3, none⟩ v') wk.heap.size [.int .u8 kind, .int .u8 op, .int .i64 dst, v', .int .u64 bits, .int .i64 ref] ∧ w.heap.size ≤ w3.heap.size ∧ v'.oneCell' = true ∧ ∃ a c, v' = .slice a args.length c)) := fun w2 w3 v' h2 hx h3 ho => by
    have hb3 : Below wk.heap.size wk (w3.setCell ⟨wk.heap.size, 3, none⟩ v') := (below_trans h2 h3).setCell (p := ⟨wk.heap.size, 3, none⟩) (Nat.le_refl _) _
    have hr := HR.out.2.row
    rw [← HML.out] at hr
    have h1 : (w3.setCell ⟨wk.heap.size, 3, none⟩ v').ownsRow w.heap.size 55 6 (.slice sa m sc) m (insCells ((L.take k).filter (keepN need)) avs) := owns_below hr hb3
    obtain ⟨a, c, e, _⟩ := own_blk (Nat.le_refl _) ho
    exact ⟨owns_below h1 (below_alloc (Below.refl _ _) _), hx.below h3, (hx.below h3).set (j := 3) (by simp) v', by have := HR.out.1.size; have := h2.size; have := h3.size; omega, by rw [e]; rfl, a, c, e⟩
   have hsw : w.heap.size ≤ wk.heap.size := HR.out.1.size
   have HVF : Hid (∀ (W : World) (b : Nat) (v' : Value), OwnI W b v' args → ∃ a c, v' = .slice a args.length c) := fun W b v' ho => by
    obtain ⟨a, c, e, _⟩ := own_blk (Nat.le_refl _) ho
    exact ⟨a, c, e⟩
   cases hsk : staysK kind with
   | true =>
    rw [hsk] at HAC HKP
    have HKT : Hid (keepN need ⟨kind, op, dst, args, bits, ref⟩ = true) := by show _ = _; rw [HKP.out]; rfl
    clear hsk HKP hdk HD HA HNX HND
    generalize hyn : args.length = yl at *
    go_wp2_with (first
     | (go_at_call 113; go_loud (refine Calls.mono (by exact HAC.out _) ?_; rintro e w2 ⟨rfl, hb⟩; have HB2 : Hid (Below wk.heap.size wk w2) := below_trans HBX.out.1 hb; have HX2 : Hid _ := HBX.out.2.below hb; obtain ⟨e0, e1, e2, e3, e4, e5⟩ := box6 HX2.out; clear hb))
     | (go_at_call 156; go_loud (refine Calls.mono (by exact HCO.out _ (below_trans HR.out.1 HB2.out)) ?_; rintro e w3 ⟨v', rfl, ho3, hb3⟩; obtain ⟨va, vc, rfl⟩ := HVF.out _ _ _ ho3; obtain ⟨hrow, hx3, hx4, hs3, hv1, _⟩ := HOW.out w2 w3 _ HB2.out HX2.out hb3 ho3; have HRO : Hid _ := hrow; have HO3 : Hid _ := ho3; have HB3 : Hid _ := hb3; have hB3f := hx3.fz 3; have hB3l := hx3.lt; have hB3c := hx3.cell 3 _ rfl; obtain ⟨k0, k1, k2, k3, k4, k5⟩ := box6 hx4; clear ho3 hb3 hrow hx3 hx4))
     | (at_builtin; go_loud (refine wpList_append_own_at _ rfl _ _ 56 rfl w.heap.size 55 i0 (.agg #[.int .u8 0, .int .u8 0, .int .i64 0, .slice none 0 0, .int .u64 0, .int .i64 0]) 6 56 Tryz.underlying56 hi0 hz0 hz1 hz2 rfl (by decide) _ m (insCells ((L.take k).filter (keepN need)) avs) rfl HRO.out ⟨_, 0, none⟩ 1 1 (inCells ⟨kind, op, dst, args, bits, ref⟩ (.slice va yl vc)) rfl rfl ?c1 ?c2 ?c3 ?c4 ?c5 ?_)))
    case c1 =>
     have h9 := (Box.new (w3.setCell ⟨wk.heap.size, 3, none⟩ (.slice va yl vc)) (inCells ⟨kind, op, dst, args, bits, ref⟩ (.slice va yl vc)) 55).cell
     intro j u hj
     have h8 := h9 j u hj
     rw [show (w3.setCell ⟨wk.heap.size, 3, none⟩ (.slice va yl vc)).heap.size = w3.heap.size from by simp [World.setCell]] at h8
     rw [Addr.add_lit, Nat.zero_add]
     exact h8
    case c2 => exact in_cells_one hv1
    case c3 => unfold maxLen; omega
    case c4 => omega
    case c5 => simp; omega
    intro v2 w8 ho hg8 _ hat
    obtain ⟨g9, c9, rfl, _, _, _, _⟩ := own_form ho
    have HF : Hid _ := HAPP.out w2 w3 _ _ w8 HB2.out HX2.out HO3.out HB3.out hg8 ho (by simpa using hat) HKT.out
    clear ho hg8 hat HAPP HOW
    go_wp2
    go_roundw
    case rel => exact ⟨k + 1, _, _, by first | rfl | (congr 1; omega), rfl, by omega, HF.out.1, HF.out.2⟩
    case measure => simp [intOf]; omega
   | false =>
    rw [hsk] at HAC HKP
    obtain ⟨hd0, hd1⟩ := hdk hsk
    obtain ⟨d, rfl⟩ : ∃ d : Nat, dst = (d : Int) := ⟨dst.toNat, by omega⟩
    have hdl : d < nl := by omega
    obtain ⟨gN, oN, rfl, hgN, hcN⟩ := HND.out d hdl
    have HCN : Hid (∀ W, Below w.heap.size w W → W.cell? ⟨gN, oN + d, none⟩ = some (.bool (need.getD d false))) := fun W hW => (hW.cell (p := ⟨gN, oN + d, none⟩) hgN).trans hcN
    have HKE : Hid (keepN need ⟨kind, op, (d : Int), args, bits, ref⟩ = need.getD d false) := by
     show _ = _
     rw [HKP.out]
     unfold atB
     rw [Int.toNat_natCast]
     rfl
    clear hsk HKP hdk HD HA HNX HND hcN
    generalize hyn : args.length = yl at *
    cases hnb : need.getD d false with
    | false =>
     rw [hnb] at HCN HKE
     have HF : Hid (((L.take (k + 1)).filter (keepN need)) = ((L.take k).filter (keepN need))) := by show _ = _; rw [HNK.out, HKE.out]; simp
     clear HAPP HOW HCO hnb
     go_wp2_with (go_at_call 113; go_loud (refine Calls.mono (by exact HAC.out _) ?_; rintro e w2 ⟨rfl, hb⟩; have HB2 : Hid (Below wk.heap.size wk w2) := below_trans HBX.out.1 hb; have HX2 : Hid _ := HBX.out.2.below hb; obtain ⟨e0, e1, e2, e3, e4, e5⟩ := box6 HX2.out; have hcn := HCN.out w2 (below_trans HR.out.1 HB2.out); clear hb))
     go_roundw
     case rel => exact ⟨k + 1, avs, _, by first | rfl | (congr 1; omega), rfl, by omega, below_trans HR.out.1 HB2.out, by rw [HF.out]; exact HR.out.2.below HB2.out⟩
     case measure => simp [intOf]; omega
    | true =>
     rw [hnb] at HCN HKE
     clear hnb
     go_wp2_with (first
      | (go_at_call 113; go_loud (refine Calls.mono (by exact HAC.out _) ?_; rintro e w2 ⟨rfl, hb⟩; have HB2 : Hid (Below wk.heap.size wk w2) := below_trans HBX.out.1 hb; have HX2 : Hid _ := HBX.out.2.below hb; obtain ⟨e0, e1, e2, e3, e4, e5⟩ := box6 HX2.out; have hcn := HCN.out w2 (below_trans HR.out.1 HB2.out); clear hb))
      | (go_at_call 156; go_loud (refine Calls.mono (by exact HCO.out _ (below_trans HR.out.1 HB2.out)) ?_; rintro e w3 ⟨v', rfl, ho3, hb3⟩; obtain ⟨va, vc, rfl⟩ := HVF.out _ _ _ ho3; obtain ⟨hrow, hx3, hx4, hs3, hv1, _⟩ := HOW.out w2 w3 _ HB2.out HX2.out hb3 ho3; have HRO : Hid _ := hrow; have HO3 : Hid _ := ho3; have HB3 : Hid _ := hb3; have hB3f := hx3.fz 3; have hB3l := hx3.lt; have hB3c := hx3.cell 3 _ rfl; obtain ⟨k0, k1, k2, k3, k4, k5⟩ := box6 hx4; clear ho3 hb3 hrow hx3 hx4))
      | (at_builtin; go_loud (refine wpList_append_own_at _ rfl _ _ 56 rfl w.heap.size 55 i0 (.agg #[.int .u8 0, .int .u8 0, .int .i64 0, .slice none 0 0, .int .u64 0, .int .i64 0]) 6 56 Tryz.underlying56 hi0 hz0 hz1 hz2 rfl (by decide) _ m (insCells ((L.take k).filter (keepN need)) avs) rfl HRO.out ⟨_, 0, none⟩ 1 1 (inCells ⟨kind, op, (d : Int), args, bits, ref⟩ (.slice va yl vc)) rfl rfl ?c1 ?c2 ?c3 ?c4 ?c5 ?_)))
     case c1 =>
      have h9 := (Box.new (w3.setCell ⟨wk.heap.size, 3, none⟩ (.slice va yl vc)) (inCells ⟨kind, op, (d : Int), args, bits, ref⟩ (.slice va yl vc)) 55).cell
      intro j u hj
      have h8 := h9 j u hj
      rw [show (w3.setCell ⟨wk.heap.size, 3, none⟩ (.slice va yl vc)).heap.size = w3.heap.size from by simp [World.setCell]] at h8
      rw [Addr.add_lit, Nat.zero_add]
      exact h8
     case c2 => exact in_cells_one hv1
     case c3 => unfold maxLen; omega
     case c4 => omega
     case c5 => simp; omega
     intro v2 w8 ho hg8 _ hat
     obtain ⟨g9, c9, rfl, _, _, _, _⟩ := own_form ho
     have HF : Hid _ := HAPP.out w2 w3 _ _ w8 HB2.out HX2.out HO3.out HB3.out hg8 ho (by simpa using hat) HKE.out
     clear ho hg8 hat HAPP HOW
     go_wp2
     go_roundw
     case rel => exact ⟨k + 1, _, _, by first | rfl | (congr 1; omega), rfl, by omega, HF.out.1, HF.out.2⟩
     case measure => simp [intOf]; omega
  ·obtain rfl : k = n := by omega
   have HF : Hid (CI wk w.heap.size vs (L.filter (keepN need)) avs) := by have h9 := HR.out.2; rw [HEND.out] at h9; exact h9
   clear HNX HFL HEND HG HND HD HA
   go_wp2
   go_ret
   exact ⟨_, avs, rfl, HR.out.1, HF.out⟩
end Go.Proofs.YtajaijilfclhpaaGreatDoor
/- Blocks that are put one by one into a row that was made for them. -/
namespace Go.Proofs.YtajaijilfclhpaaGreatDoor
open Go.RowKit

def zBl : Bl := ⟨[], ⟨0, 0, 0, 0, 0⟩⟩
theorem blsCells_at {l : List Bl} {avs : List Value} : ∀ {i : Nat} {x : Bl} {a : Value}, l[i]? = some x → avs[i]? = some a → ∀ (j : Nat) (u : Value), (blCells x a)[j]? = some u → (blsCells l avs)[i * 6 + j]? = some u := by
 induction l generalizing avs with
 | nil => intro i x a h; simp at h
 | cons y l ih =>
  intro i x a hx ha j u hj
  cases avs with
  | nil => simp at ha
  | cons b avs =>
   rw [blsCells_cons]
   have h6 : (blCells y b).length = 6 := rfl
   cases i with
   | zero =>
    simp at hx ha
    subst hx; subst ha
    rw [Nat.zero_mul, Nat.zero_add, List.getElem?_append_left (List.getElem?_eq_some_iff.1 hj).1]
    exact hj
   | succ i =>
    rw [List.getElem?_append_right (by rw [h6, Nat.add_mul]; omega), h6, show (i + 1) * 6 + j - 6 = i * 6 + j by rw [Nat.add_mul]; omega]
    exact ih (by simpa using hx) (by simpa using ha) j u hj
theorem made6 (n : Nat) : (madeCells #[.slice none 0 0, .int .u8 0, .int .i64 0, .int .i64 0, .int .i64 0, .int .u8 0] (n * 6)).toList = blsCells (List.replicate n zBl) (List.replicate n (.slice none 0 0)) := by
 have hl : (blsCells (List.replicate n zBl) (List.replicate n (.slice none 0 0))).length = n * 6 := by rw [blsCells_len (by simp)]; simp
 refine List.ext_getElem (by rw [hl]; simp [size_madeCells]) fun k h1 h2 => ?_
 have h3 : k < n * 6 := by rw [hl] at h2; exact h2
 have hq : k / 6 < n := by omega
 have hk : k % 6 = 0 ∨ k % 6 = 1 ∨ k % 6 = 2 ∨ k % 6 = 3 ∨ k % 6 = 4 ∨ k % 6 = 5 := by omega
 have hd : k / 6 * 6 + k % 6 = k := by omega
 have hx : (List.replicate n zBl)[k / 6]? = some zBl := by rw [List.getElem?_replicate, if_pos hq]
 have ha : (List.replicate n (Value.slice none 0 0))[k / 6]? = some (.slice none 0 0) := by rw [List.getElem?_replicate, if_pos hq]
 have key : ∀ u, (blCells zBl (.slice none 0 0))[k % 6]? = some u → (blsCells (List.replicate n zBl) (List.replicate n (.slice none 0 0)))[k] = u := fun u hu => by
  have h9 := blsCells_at hx ha (k % 6) u hu
  rw [hd, List.getElem?_eq_getElem h2] at h9
  exact Option.some.inj h9
 simp only [madeCells, Array.getElem_toList, Array.getElem_map, Array.getElem_range]
 rcases hk with e | e | e | e | e | e <;> (rw [key _ (by rw [e]; rfl)]; simp [e, zBl, bytV, intV])
theorem blsCells_put : ∀ {l : List Bl} {avs : List Value} {i : Nat} {x : Bl} {a : Value} (y : Bl) (b : Value), l[i]? = some x → avs[i]? = some a → (((((((blsCells l avs).set (i * 6) b).set (i * 6 + 1) (bytV y.tm.kind)).set (i * 6 + 2) (intV y.tm.arg)).set (i * 6 + 3) (intV y.tm.t0)).set (i * 6 + 4) (intV y.tm.t1)).set (i * 6 + 5) (bytV y.tm.trap)) = blsCells (l.set i y) (avs.set i b)
 | z :: l, c :: avs, 0, x, a, y, b, hx, ha => by
  simp [blsCells, blCells]
 | z :: l, c :: avs, i + 1, x, a, y, b, hx, ha => by
  have := blsCells_put (l := l) (avs := avs) (i := i) y b (by simpa using hx) (by simpa using ha)
  rw [List.set_cons_succ, List.set_cons_succ, blsCells_cons, blsCells_cons, ← this]
  have h6 : (blCells z c).length = 6 := rfl
  rw [set_six0 h6, set_six h6, set_six h6, set_six h6, set_six h6, set_six h6]
 | [], _, _, _, _, _, _, hx, _ => by simp at hx
 | _ :: _, [], _, _, _, _, _, _, ha => by simp at ha
theorem CI.none (w : World) (base : Nat) : CI w base (.slice none 0 0) zBl.ins [] := CI.nil w base
theorem CB.zero {w : World} {base g n c : Nat} (h : w.ownsRow base 63 6 (.slice (some ⟨g, 0, none⟩) n c) n (blsCells (List.replicate n zBl) (List.replicate n (.slice none 0 0)))) : CB w base (.slice (some ⟨g, 0, none⟩) n c) (List.replicate n zBl) (List.replicate n (.slice none 0 0)) (List.replicate n []) := by
 have r1 : ∀ {α : Type} {x y : α} {i : Nat}, (List.replicate n x)[i]? = some y → y = x := fun h => by
  rw [List.getElem?_replicate] at h
  split at h
  ·cases h; rfl
  ·cases h
 have kb : ∀ g, ¬ KB (.slice none 0 0) [] g := fun g hg => by
  rcases hg with hg | ⟨i, a, ha, _⟩
  ·simp [Value.ownBlock] at hg
  ·simp at ha
 refine ⟨by rw [List.length_replicate]; exact h, by simp, by simp, fun i b iv avs h1 h2 h3 => ?_, fun i iv avs g' h1 h2 hg => ?_, fun i j iv iv' avs' g' _ h1 h2 h3 hg => ?_⟩
 ·rw [r1 h1, r1 h2, r1 h3]; exact CI.none w base
 ·rw [r1 h1, r1 h2] at hg; exact absurd hg (kb _)
 ·rw [r1 h1] at hg; simp [Value.ownBlock] at hg
/-- A block is put into its place. -/
theorem CB.put {w w1 w2 : World} {base : Nat} {v : Value} {bs : List Bl} {ivs : List Value} {avss : List (List Value)} (h : CB w base v bs ivs avss) {i : Nat} {b : Bl} {iv : Value} {avs : List Value} (hi : i < bs.length) (hb : Below w.heap.size w w1) (hk : CI w1 w.heap.size iv b.ins avs) (hsz : base ≤ w.heap.size)
  (ho : w2.ownsRow base 63 6 v bs.length (blsCells (bs.set i b) (ivs.set i iv))) (hs : ∀ g, v.ownBlock ≠ some g → w2.heap[g]? = w1.heap[g]?) : CB w2 base v (bs.set i b) (ivs.set i iv) (avss.set i avs) := by
 have hvb : ∀ g, v.ownBlock = some g → g < w.heap.size := fun g hg => (h.row.lt g hg).2
 have hnew : ∀ g, KB iv avs g → v.ownBlock ≠ some g := fun g hg e => by have := hvb g e; have := (hk.lt hg).1; omega
 have hold : ∀ (j : Nat) (iv' : Value) (avs' : List Value), ivs[j]? = some iv' → avss[j]? = some avs' → ∀ g, KB iv' avs' g → g < w.heap.size := fun j iv' avs' h1 h2 g hg => (h.iv_kb h1 h2 hg).2
 refine ⟨by rw [List.length_set]; exact ho, by simp [h.al], by simp [h.vl], fun j b' iv' avs' h1 h2 h3 => ?_, fun j iv' avs' g h1 h2 hg => ?_, fun j k iv1 iv2 avs2 g hjk h1 h2 h3 hg hk2 => ?_⟩
 ·rw [List.getElem?_set] at h1 h2 h3
  by_cases e : i = j
  ·subst e
   rw [if_pos rfl, if_pos hi] at h1
   rw [if_pos rfl, if_pos (by rw [h.al]; exact hi)] at h2
   rw [if_pos rfl, if_pos (by rw [h.vl]; exact hi)] at h3
   cases h1; cases h2; cases h3
   exact (hk.same fun g hg => hs g (hnew g hg)).low hsz
  ·rw [if_neg e] at h1 h2 h3
   exact ((h.kid j b' iv' avs' h1 h2 h3).below hb).same fun g hg => hs g (h.ap j iv' avs' g h2 h3 hg)
 ·rw [List.getElem?_set] at h1 h2
  by_cases e : i = j
  ·subst e
   rw [if_pos rfl, if_pos (by rw [h.al]; exact hi)] at h1
   rw [if_pos rfl, if_pos (by rw [h.vl]; exact hi)] at h2
   cases h1; cases h2
   exact hnew g hg
  ·rw [if_neg e] at h1 h2
   exact h.ap j iv' avs' g h1 h2 hg
 ·rw [List.getElem?_set] at h1 h2 h3
  by_cases e : i = j
  ·subst e
   rw [if_pos rfl, if_pos (by rw [h.al]; exact hi)] at h1
   cases h1
   rw [if_neg hjk] at h2 h3
   have := hold k iv2 avs2 h2 h3 g hk2
   have := (hk.lt (.inl hg)).1
   omega
  ·rw [if_neg e] at h1
   by_cases e2 : i = k
   ·subst e2
    rw [if_pos rfl, if_pos (by rw [h.al]; exact hi)] at h2
    rw [if_pos rfl, if_pos (by rw [h.vl]; exact hi)] at h3
    cases h2; cases h3
    have hj : j < avss.length := by rw [h.vl, ← h.al]; exact (List.getElem?_eq_some_iff.1 h1).1
    have := hold j iv1 avss[j] h1 (List.getElem?_eq_getElem hj) g (.inl hg)
    have := (hk.lt hk2).1
    omega
   ·rw [if_neg e2] at h2 h3
    exact h.pw j k iv1 iv2 avs2 g hjk h1 h2 h3 hg hk2
def dBl (need : List Bool) (b : Bl) : Bl := ⟨b.ins.filter (keepN need), b.tm⟩
def blsTo (need : List Bool) (bs : List Bl) (i : Nat) : List Bl := (bs.take i).map (dBl need) ++ List.replicate (bs.length - i) zBl
theorem blsTo_zero (need : List Bool) (bs : List Bl) : blsTo need bs 0 = List.replicate bs.length zBl := by simp [blsTo]
theorem blsTo_all (need : List Bool) (bs : List Bl) : blsTo need bs bs.length = bs.map (dBl need) := by simp [blsTo]
theorem blsTo_len (need : List Bool) {bs : List Bl} {i : Nat} (h : i ≤ bs.length) : (blsTo need bs i).length = bs.length := by simp [blsTo]; omega
theorem blsTo_at (need : List Bool) {bs : List Bl} {i : Nat} (h : i < bs.length) : (blsTo need bs i)[i]? = some zBl := by
 unfold blsTo
 have e : ((bs.take i).map (dBl need)).length = i := by simp; omega
 rw [List.getElem?_append_right (by omega), e, Nat.sub_self, List.getElem?_replicate, if_pos (by omega)]
theorem blsTo_next (need : List Bool) {bs : List Bl} {i : Nat} {b : Bl} (h : bs[i]? = some b) : blsTo need bs (i + 1) = (blsTo need bs i).set i (dBl need b) := by
 have hi : i < bs.length := (List.getElem?_eq_some_iff.1 h).1
 unfold blsTo
 have e : ((bs.take i).map (dBl need)).length = i := by simp; omega
 rw [List.set_append_right _ _ (by omega), e, Nat.sub_self, List.take_add_one, h]
 rw [show bs.length - i = (bs.length - (i + 1)) + 1 by omega, List.replicate_succ, List.set_cons_zero]
 simp
end Go.Proofs.YtajaijilfclhpaaGreatDoor
