/- The document's order of a graph's blocks. -/
import Derived.Test.YtobnpllppohofaaGreatDoorGRW2
import Derived.Test.YtobnpllppohofaaGreatDoorGQ0M
import Derived.Test.YtobnpllppohofaaGreatDoorGLstM
import Derived.Shelf.Small.Wraps
import Derived.Shelf.SlSortCmp.Whole1
import Derived.Shelf.SlSortCmp.NoneTotal
import Derived.Test.YtobnpllppohofaaGreatDoorProg
namespace Go.Proofs.YtobnpllppohofaaGreatDoor
open Go.RowKit

theorem make_boolsR (n : Nat) (hn : n ≤ 1000000) (W : World) : (Instr.makeSlice 70 (.int .i64 (n : Int)) (.int .i64 (n : Int))).run Tryz.prog W = .ok (.slice (some ⟨W.heap.size, 0, none⟩) n n) (W.alloc (.cells (madeCells #[.bool false] n) 4)) := by
 obtain ⟨i, hi, hz, hs, hb⟩ := info_parts infoB
 have hr := run_make (P := Tryz.prog) W 70 4 i _ Tryz.underlying70 hi hz .i64 .i64 n n (by omega) (Int.le_refl _) (by rw [hb]; omega) (by omega)
 simp only [Int.toNat_natCast, hs, Nat.mul_one] at hr
 exact hr
theorem rev_take {l : List Int} {j : Nat} (hj : j < l.length) : l.reverse.take (j + 1) = l.reverse.take j ++ [l.getD (l.length - 1 - j) 0] := by
 rw [List.take_add_one, List.getElem?_eq_getElem (by simpa using hj), List.getElem_reverse, List.getD_eq_getElem?_getD, List.getElem?_eq_getElem (show l.length - 1 - j < l.length by omega)]
 rfl
set_option maxRecDepth 100000 in
set_option maxHeartbeats 4000000 in
theorem rorder_any (G : Gr) (pv vv av bv : Value) (w : World) (h : GrAt w pv vv av bv G) (hn : G.blocks.length ≤ 2000) :
  Calls Tryz.prog 23 #[.agg #[.string G.name, pv, .int .u8 G.result, vv, av, bv]] w fun e w' => ∃ v, e = .returned v ∧ OwnI w' w.heap.size v (orderT (tms G.blocks)) ∧ Below w.heap.size w w' := by
 have HGA : Hid (∀ W, Below w.heap.size w W → GrAt W pv vv av bv G) := fun W hb => h.below hb
 obtain ⟨pa, pc, va, vc, aa, ac, ba, bc, rfl, rfl, rfl, rfl, _, _, _, _⟩ := h.openF
 clear h
 by_cases h0 : G.blocks.length = 0
 ·have hO : orderT (tms G.blocks) = [] := by unfold orderT; rw [if_pos (by simpa [tms] using h0)]
  rw [hO]
  have HB : Hid (∀ o : Obj, Below w.heap.size w (w.alloc o)) := fun o => below_alloc (Below.refl _ _) _
  rw [h0] at *
  generalize G.params.length = pl at *
  generalize G.vars.length = vl at *
  generalize G.arrs.length = al at *
  clear HGA
  go_enter Tryz.func23, Tryz.ntmps23
  go_wp2
  go_ret
  exact ⟨_, rfl, World.ownsRow_nil _ _ _ _, HB.out _⟩
 ·have HOT : Hid (orderT (tms G.blocks) = (dfs (tms G.blocks) G.blocks.length 0 ((List.replicate G.blocks.length false).set 0 true) []).2.reverse) := by
   show _ = _
   unfold orderT
   have e : (tms G.blocks).length = G.blocks.length := by simp [tms]
   rw [e, if_neg h0]
  have HDW : Hid (∀ w0 : World, Below w.heap.size w w0 → ∀ gm, DoesRW w0 G (.slice pa G.params.length pc) (.slice va G.vars.length vc) (.slice aa G.arrs.length ac) (.slice ba G.blocks.length bc) gm G.blocks.length G.blocks.length) := fun w0 hb gm => rwalk_all (HGA.out w0 hb) rfl _
  have hcn : cntF (List.replicate G.blocks.length false) ≤ G.blocks.length := by unfold cntF; exact Nat.le_trans List.count_le_length (by simp)
  have hcs : cntF ((List.replicate G.blocks.length false).set 0 true) ≤ G.blocks.length := by unfold cntF; exact Nat.le_trans List.count_le_length (by simp)
  obtain ⟨nm, ps, r, vs, ars, bs⟩ := G
  dsimp only at *
  have hDL : (dfs (tms bs) bs.length 0 ((List.replicate bs.length false).set 0 true) []).2.length ≤ 4000 := by
   have hl9 : (orderT (tms bs)).length ≤ (tms bs).length := order_len (order_ok (tms bs))
   rw [HOT.out, List.length_reverse] at hl9
   have e : (tms bs).length = bs.length := by simp [tms]
   omega
  generalize hbn : bs.length = n at *
  clear hbn
  generalize ps.length = pl at *
  generalize vs.length = vl at *
  generalize ars.length = al at *
  have hn0 : ¬ (n : Int) = 0 := by omega
  have hne : ((n : Int) == 0) = false := beq_false_of_ne hn0
  have hmk := make_boolsR n (by omega)
  have HB0 : Hid (Box (w.alloc (.cells #[.string nm, .slice pa pl pc, .int .u8 r, .slice va vl vc, .slice aa al ac, .slice ba n bc] 28)).drew w.heap.size [.string nm, .slice pa pl pc, .int .u8 r, .slice va vl vc, .slice aa al ac, .slice ba n bc] ∧ Below w.heap.size w (w.alloc (.cells #[.string nm, .slice pa pl pc, .int .u8 r, .slice va vl vc, .slice aa al ac, .slice ba n bc] 28)).drew) := ⟨(Box.new w [.string nm, .slice pa pl pc, .int .u8 r, .slice va vl vc, .slice aa al ac, .slice ba n bc] 28).below (below_drew (Below.refl _ _)), below_drew (below_alloc (Below.refl _ _) _)⟩
  go_enter Tryz.func23, Tryz.ntmps23
  go_wp2
  refine wp_region_late (fun W => W.cell? ⟨w.heap.size, 0, none⟩ = some (.string nm) ∧ W.cell? ⟨w.heap.size, 1, none⟩ = some (.slice pa pl pc) ∧ W.cell? ⟨w.heap.size, 2, none⟩ = some (.int .u8 r) ∧ W.cell? ⟨w.heap.size, 3, none⟩ = some (.slice va vl vc) ∧ W.cell? ⟨w.heap.size, 4, none⟩ = some (.slice aa al ac) ∧ W.cell? ⟨w.heap.size, 5, none⟩ = some (.slice ba n bc)) (fun _ => false) (by kernel_rfl) (box6 HB0.out.1) (fun hHeld => ?_)
  generalize (w.alloc (.cells #[.string nm, .slice pa pl pc, .int .u8 r, .slice va vl vc, .slice aa al ac, .slice ba n bc] 28)).drew = W0 at *
  refine wpAnyL_take 0 (v := ?_) rfl (by kernel_rfl) (by kernel_rfl) (by kernel_rfl) (by kernel_rfl) (fun _ _ _ h => h) hHeld (Or.inl ⟨by rfl, ?_⟩) ?_
  rotate_left 1
  ·(intro w hSw; (try dsimp only at hSw); (try obtain ⟨s0, s1, s2, s3, s4, s5⟩ := hSw); first | (go_simp; done) | (go_simp; with_reducible rfl))
  simp only [Act.put, List.setIfInBounds_toArray]
  refine wpAnyL_take 1 (v := ?_) rfl (by kernel_rfl) (by kernel_rfl) (by kernel_rfl) (by kernel_rfl) (fun _ _ _ h => h) hHeld (Or.inl ⟨by rfl, ?_⟩) ?_
  rotate_left 1
  ·(intro w hSw; (try dsimp only at hSw); (try obtain ⟨s0, s1, s2, s3, s4, s5⟩ := hSw); first | (go_simp; done) | (go_simp; with_reducible rfl))
  simp only [Act.put]
  refine wpAnyL_take 2 (v := ?_) rfl (by kernel_rfl) (by kernel_rfl) (by kernel_rfl) (by kernel_rfl) (fun _ _ _ h => h) hHeld (Or.inl ⟨by rfl, ?_⟩) ?_
  rotate_left 1
  ·(intro w hSw; (try dsimp only at hSw); (try obtain ⟨s0, s1, s2, s3, s4, s5⟩ := hSw); first | (go_simp; done) | (go_simp; with_reducible rfl))
  simp only [Act.put]
  refine wpAnyL_take 3 (v := ?_) rfl (by kernel_rfl) (by kernel_rfl) (by kernel_rfl) (by kernel_rfl) (fun _ _ _ h => h) hHeld (Or.inl ⟨by rfl, ?_⟩) ?_
  rotate_left 1
  ·(intro w hSw; (try dsimp only at hSw); (try obtain ⟨s0, s1, s2, s3, s4, s5⟩ := hSw); first | (go_simp; done) | (go_simp; with_reducible rfl))
  simp only [Act.put]
  clear hHeld
  refine wpAnyL_one 4 (by kernel_rfl) rfl (fun K hK0 => ?_)
  have hK : Shut _ := hK0
  clear hK0
  go_simp
  have HBM : Hid (Box (W0.alloc (.cells (madeCells #[.bool false] n) 4)) w.heap.size [.string nm, .slice pa pl pc, .int .u8 r, .slice va vl vc, .slice aa al ac, .slice ba n bc] ∧ Below w.heap.size w (W0.alloc (.cells (madeCells #[.bool false] n) 4))) := ⟨HB0.out.1.below (below_alloc (Below.refl _ _) _), below_alloc HB0.out.2 _⟩
  have hHeld := box6 HBM.out.1
  refine hK.out _ _ (fun _ => hHeld) ?_
  clear hK K
  clear hHeld
  have HW0 : Hid (WR W0 (W0.alloc (.cells (madeCells #[.bool false] n) 4)) W0.heap.size n (.slice none 0 0) (List.replicate n false) []) := by
   refine ⟨below_alloc (Below.refl _ _) _, ?_, World.ownsRow_nil _ _ _ _, fun e => by cases e⟩
   have h9 := World.ownsRow_lit (base := W0.heap.size) (e := 4) (size := 1) W0 (madeCells #[.bool false] n) n (Nat.le_refl _) (by unfold maxLen; omega) (by simp [size_madeCells])
   rw [made_bools] at h9
   exact h9
  have HCW : Hid _ := HDW.out W0 HB0.out.2 W0.heap.size 0 (List.replicate n false) [] (.slice none 0 0) _ HW0.out (by omega) hcs (by simp; omega)
  refine wpAnyL_one 5 (by kernel_rfl) rfl (fun K hK0 => ?_)
  have hK : Shut _ := hK0
  clear hK0
  go_simp
  refine Calls.mono (by exact HCW.out) ?_
  rintro e w5 ⟨lv5, rfl, hw5, ht5⟩
  obtain ⟨xa, xc, rfl⟩ : ∃ xa xc, lv5 = .slice xa (dfs (tms bs) n 0 ((List.replicate n false).set 0 true) []).2.length xc := by obtain ⟨u, v, hv, _⟩ := own_blk (Nat.le_refl _) hw5.lrow; exact ⟨u, v, hv⟩
  have HL5 : Hid (OwnI w5 W0.heap.size (.slice xa (dfs (tms bs) n 0 ((List.replicate n false).set 0 true) []).2.length xc) (dfs (tms bs) n 0 ((List.replicate n false).set 0 true) []).2) := hw5.lrow
  have H5 : Hid (Below w.heap.size w w5) := below_trans HB0.out.2 hw5.bel
  have HX5 : Hid (Box w5 w.heap.size [.string nm, .slice pa pl pc, .int .u8 r, .slice va vl vc, .slice aa al ac, .slice ba n bc]) := HB0.out.1.below hw5.bel
  have hHeld := box6 HX5.out
  clear hw5 ht5
  dsimp only
  refine hK.out _ _ (fun _ => hHeld) ?_
  clear hK K
  clear hHeld
  refine wpAnyL_one 6 (by kernel_rfl) rfl (fun K hK0 => ?_)
  have hK : Shut _ := hK0
  clear hK0
  go_simp
  have hHeld := box6 HX5.out
  refine hK.out _ _ (fun _ => hHeld) ?_
  clear hK K
  clear hHeld HCW HW0 HBM HDW HX5
  refine ⟨by kernel_rfl, ?_⟩
  go_simp
  have HI5 : Hid (IntsAt w5 (.slice xa (dfs (tms bs) n 0 ((List.replicate n false).set 0 true) []).2.length xc) (dfs (tms bs) n 0 ((List.replicate n false).set 0 true) []).2) := OwnI.at' HL5.out (by omega)
  have H5S : Hid (w.heap.size ≤ w5.heap.size) := H5.out.size
  clear HL5
  generalize (dfs (tms bs) n 0 ((List.replicate n false).set 0 true) []).2 = L at *
  have HLG : Hid (∀ q, q < L.length → _) := fun q hq => HI5.out.get (i := q) hq
  have HRT : Hid (∀ q, q < L.length → L.reverse.take (L.length - 1 - q + 1) = L.reverse.take (L.length - 1 - q) ++ [L.getD q 0]) := fun q hq => by
   have h9 := rev_take (l := L) (j := L.length - 1 - q) (by omega)
   rw [show L.length - 1 - (L.length - 1 - q) = q by omega] at h9
   exact h9
  have HRF : Hid (L.reverse.take L.length = L.reverse) := by show _ = _; rw [List.take_of_length_le (by simp)]
  obtain ⟨i0, hi0, hz0, hz1, hz2⟩ := info_parts infoI
  clear HI5
  generalize hLK : L.length = K9 at *
  have HLK : Hid (L.length = K9) := hLK
  clear hLK
  have hK' : (K9 : Int) ≤ 4000 := by omega
  go_wp2
  go_loopw [4, 5] (fun v4 v5 wr => ∃ (i : Int) (l : List Int) (oa : Option Addr) (oc : Nat), v4 = .slice oa l.length oc ∧ v5 = .int .i64 i ∧ -1 ≤ i ∧ i < (K9 : Int) ∧ Hid (Below w5.heap.size w5 wr ∧ OwnI wr w5.heap.size (.slice oa l.length oc) l ∧ l = L.reverse.take ((K9 : Int) - 1 - i).toNat)) (fun _ v5 _ => (intOf v5 + 1).toNat)
  case atStart => exact ⟨(K9 : Int) - 1, [], none, 0, rfl, by first | rfl | (congr 1; omega), by omega, by omega, Below.refl _ _, World.ownsRow_nil _ _ _ _, by simp⟩
  case round =>
   obtain ⟨i, l, oa, oc, rfl, rfl, hi1, hi2, hr⟩ := hrel
   generalize wr = wo at *
   have HRR : Hid _ := hr.out
   have hll : l.length ≤ 4000 := by rw [hr.out.2.2]; exact Nat.le_trans (List.length_take_le _ _) (by omega)
   clear hr
   by_cases hi : 0 ≤ i
   ·obtain ⟨q, rfl⟩ := Int.eq_ofNat_of_zero_le hi
    have hqn : q < K9 := by omega
    have hqn' : (q : Int) < K9 := by omega
    obtain ⟨gl, ol, rfl, hgl, cl⟩ := HLG.out q hqn
    have cl' : wo.cell? ⟨gl, ol + q, none⟩ = _ := (HRR.out.1.cell (p := ⟨gl, ol + q, none⟩) hgl).trans cl
    have HN : Hid (L.reverse.take ((K9 : Int) - 1 - ((q : Int) - 1)).toNat = l ++ [L.getD q 0]) := by
     show _ = _
     rw [HRR.out.2.2, show ((K9 : Int) - 1 - ((q : Int) - 1)).toNat = K9 - 1 - q + 1 by omega, HRT.out q hqn, show ((K9 : Int) - 1 - (q : Int)).toNat = K9 - 1 - q by omega]
    clear HLG HRT cl hi
    generalize L.getD q 0 = z at *
    generalize hq : l.length = x at *
    have HQ : Hid (l.length = x) := hq
    clear hq
    have HOW : Hid (wo.ownsRow w5.heap.size 3 1 (.slice oa x oc) x (l.map intV)) := by have h9 := HRR.out.2.1; unfold OwnI at h9; rw [HQ.out] at h9; exact h9
    have hws : w5.heap.size ≤ wo.heap.size := HRR.out.1.size
    go_wp2_with (at_builtin; go_loud (refine wpList_append_own_at _ rfl _ _ 22 rfl w5.heap.size 3 i0 (.int .i64 0) 1 8 Tryz.underlying22 hi0 hz0 hz1 hz2 rfl (by decide) _ x (l.map intV) rfl (HOW.out.alloc _) ⟨wo.heap.size, 0, none⟩ 1 1 [intV z] rfl rfl ?c1 ?c2 ?c3 ?c4 ?c5 ?_))
    case c1 => exact cell_one_new wo (intV z) 3
    case c2 => intro u hu; simp at hu; subst hu; rfl
    case c3 => unfold maxLen; omega
    case c4 => omega
    case c5 => simp; omega
    intro v2 w2 ho hg2' _ hat
    obtain ⟨g3, cc3, rfl, _, _, _, _⟩ := own_form ho
    have HF : Hid (Below w5.heap.size w5 w2) := below_grown (below_alloc HRR.out.1 _) hg2' (fun q hq => (HOW.out.lt q hq).1)
    have HO : Hid (OwnI w2 w5.heap.size (.slice (some ⟨g3, 0, none⟩) (l ++ [z]).length cc3) (l ++ [z])) := by
     show World.ownsRow _ _ _ _ _ _ _
     rw [List.map_append, List.length_append, HQ.out]
     exact ho
    clear ho hg2' hat
    go_wp2
    go_roundw
    case rel => exact ⟨(q : Int) - 1, l ++ [z], _, _, by rw [List.length_append, HQ.out]; rfl, by first | rfl | (congr 1; omega), by omega, by omega, HF.out, HO.out, HN.out.symm⟩
    case measure => simp [intOf]
   ·obtain rfl : i = -1 := by omega
    have HE : Hid (l = L.reverse) := by
     show _ = _
     rw [HRR.out.2.2, show ((K9 : Int) - 1 - (-1)).toNat = K9 by omega, HRF.out]
    clear HLG HRT hi
    go_wp2
    go_ret
    refine ⟨_, rfl, ?_, below_trans H5.out HRR.out.1⟩
    rw [HOT.out, ← HE.out]
    exact own_mono HRR.out.2.1 H5S.out
end Go.Proofs.YtobnpllppohofaaGreatDoor
/- Which blocks ahead stay: their order, plain. -/
namespace Go.Proofs.YtobnpllppohofaaGreatDoor

/-- where what stands ahead is now -/
def keyS (O ah : List Int) (i : Nat) : Int := placeOf O (ah.getD i 0)
def staysB (O ah : List Int) (i : Nat) : Bool := decide (ah.getD i 0 ∈ O)
def staysN (O ah : List Int) (m : Nat) : List Nat := (List.range m).filter (staysB O ah)
theorem stays_snoc (O ah : List Int) (m : Nat) : staysN O ah (m + 1) = staysN O ah m ++ (if staysB O ah m = true then [m] else []) := by
 unfold staysN
 rw [List.range_succ, List.filter_append]
 congr 1
 by_cases h : staysB O ah m = true
 ·simp [h]
 ·simp [h]
theorem stays_len (O ah : List Int) (m : Nat) : (staysN O ah m).length ≤ m := by
 have := List.length_filter_le (staysB O ah) (List.range m)
 simpa [staysN] using this
theorem stays_lt {O ah : List Int} {m i : Nat} (h : i ∈ staysN O ah m) : i < m ∧ ah.getD i 0 ∈ O := by
 obtain ⟨h1, h2⟩ := List.mem_filter.1 h
 exact ⟨List.mem_range.1 h1, by simpa [staysB] using h2⟩
theorem order_keys {O : List Int} (hn : O.Nodup) : O.Pairwise fun a b => placeOf O a < placeOf O b := by
 rw [List.pairwise_iff_getElem]
 intro i j hi hj hij
 rw [place_at hn (List.getElem?_eq_getElem hi), place_at hn (List.getElem?_eq_getElem hj)]
 omega
theorem getD_idx {l : List Int} {x : Int} (h : x ∈ l) : l.getD (l.idxOf x) 0 = x := by
 rw [List.getD_eq_getElem?_getD, (place_in h).2.2]; rfl
/-- sorted by where they stand now they are what stays -/
theorem stay_unique {O ah : List Int} (hO : O.Nodup) (hA : ah.Nodup) {R : List Nat} (hp : R.Perm (staysN O ah ah.length)) (hs : R.Pairwise fun a b => keyS O ah a ≤ keyS O ah b) : R.map (fun i => ((i : Nat) : Int)) = stayP O ah := by
 have hT : stayP O ah = ((O.filter (· ∈ ah)).map ah.idxOf).map fun i => ((i : Nat) : Int) := by
  unfold stayP
  rw [List.map_map]
  apply List.map_congr_left
  intro x hx
  have : x ∈ ah := by have := (List.mem_filter.1 hx).2; simpa using this
  exact (place_in this).1
 rw [hT]
 congr 1
 have hfa : ∀ x ∈ O.filter (· ∈ ah), x ∈ ah ∧ x ∈ O := fun x hx => ⟨by have := (List.mem_filter.1 hx).2; simpa using this, (List.mem_filter.1 hx).1⟩
 have s2 : ((O.filter (· ∈ ah)).map ah.idxOf).Pairwise fun a b => keyS O ah a < keyS O ah b := by
  rw [List.pairwise_map]
  refine ((order_keys hO).filter _).imp_of_mem ?_
  intro a b ha hb h
  unfold keyS
  rw [getD_idx (hfa a ha).1, getD_idx (hfa b hb).1]
  exact h
 have n2 : ((O.filter (· ∈ ah)).map ah.idxOf).Nodup := s2.imp fun h e => by rw [e] at h; omega
 have n1 : (staysN O ah ah.length).Nodup := List.nodup_range.filter _
 have hperm : R.Perm ((O.filter (· ∈ ah)).map ah.idxOf) := by
  refine hp.trans ((List.perm_ext_iff_of_nodup n1 n2).2 fun i => ?_)
  constructor
  ·intro hi
   obtain ⟨h1, h2⟩ := stays_lt hi
   have hs : ah[i]? = some (ah.getD i 0) := by rw [List.getD_eq_getElem?_getD, List.getElem?_eq_getElem h1]; rfl
   refine List.mem_map.2 ⟨ah.getD i 0, List.mem_filter.2 ⟨h2, by simpa using List.mem_of_getElem? hs⟩, ?_⟩
   have h9 := place_at hA hs
   rw [(place_in (List.mem_of_getElem? hs)).1] at h9
   omega
  ·intro hi
   obtain ⟨x, hx, rfl⟩ := List.mem_map.1 hi
   obtain ⟨h1, h2⟩ := hfa x hx
   refine List.mem_filter.2 ⟨List.mem_range.2 (place_in h1).2.1, ?_⟩
   unfold staysB
   rw [getD_idx h1]
   simpa using h2
 refine List.Perm.eq_of_pairwise (le := fun a b => keyS O ah a ≤ keyS O ah b) ?_ hs (s2.imp fun h => by omega) hperm
 intro a b ha hb h1 h2
 have ha' := stays_lt (hp.mem_iff.1 ha)
 have hb' := stays_lt (hp.mem_iff.1 (hperm.mem_iff.2 hb))
 unfold keyS at h1 h2
 have he := place_inj ha'.2 hb'.2 (by omega)
 have e1 := place_at hA (i := a) (x := ah.getD a 0) (by rw [List.getD_eq_getElem?_getD, List.getElem?_eq_getElem ha'.1]; rfl)
 have e2 := place_at hA (i := b) (x := ah.getD b 0) (by rw [List.getD_eq_getElem?_getD, List.getElem?_eq_getElem hb'.1]; rfl)
 rw [he, e2] at e1
 omega
end Go.Proofs.YtobnpllppohofaaGreatDoor
/- Contracts of the library at this program, laid by the shelf: a row sorted by a function, numbers compared. -/
namespace Go.Proofs
open Go.Shelf Go.RowKit Go.Lib Go.Sort
def Tryz.lays122_ren : Go.Shelf.Ren := ⟨fun | 122 => 61 | 215 => 75 | n => n, fun | 3 => 3 | 4 => 4 | n => n, fun | n => n⟩
theorem Tryz.lays122 : Go.Proofs.Lays.n122 Tryz.prog Tryz.lays122_ren := {
  mixed := by kernel_rfl
  f122 := Tryz.func61.trans (congrArg some (by kernel_rfl))
  f215 := Tryz.func75.trans (congrArg some (by kernel_rfl))
  t3 := Tryz.underlying3
  a3 := Tryz.isAgg3
  z3 := Tryz.sizeOf3
  v3 := Tryz.zeroValue3
  t4 := Tryz.underlying4
  a4 := Tryz.isAgg4
  z4 := Tryz.sizeOf4
  v4 := Tryz.zeroValue4 }
open Go.RowKit in
theorem Tryz.cmp_Compare_int (x y : Int) (w : World) :
    Calls Tryz.prog 61 #[.int .i64 x, .int .i64 y] w fun e w' => e = .returned (.int .i64 (Lib.compareInt x y)) ∧ w' = w := Any.cmp_Compare_int Tryz.lays122 x y w
def Tryz.laysSlF6_f59_ren : Go.Shelf.Ren := ⟨fun | 6 => 59 | 15 => 70 | 14 => 74 | 28 => 99 | 29 => 100 | 20 => 104 | 21 => 105 | 22 => 106 | 23 => 107 | 24 => 108 | 25 => 109 | 26 => 110 | 27 => 111 | 46 => 128 | 47 => 123 | 48 => 124 | 49 => 129 | 50 => 130 | 57 => 137 | n => n, fun | 22 => 22 | 24 => 3 | 25 => 85 | 3 => 3 | 39 => 96 | 0 => 0 | 53 => 118 | 55 => 39 | 4 => 4 | 46 => 111 | 45 => 110 | 50 => 115 | 5 => 5 | 9 => 9 | 66 => 133 | 70 => 137 | 76 => 145 | 77 => 146 | n => n, fun | n => n⟩
theorem Tryz.laysSlF6_f59 : Go.Proofs.SlLaysF.n6 Tryz.prog Tryz.laysSlF6_f59_ren := {
  mixed := by kernel_rfl
  f6 := ⟨Tryz.f59.name, by decide, Tryz.func59.trans (congrArg some (by kernel_rfl))⟩
  f14 := ⟨Tryz.f74.name, by decide, Tryz.func74.trans (congrArg some (by kernel_rfl))⟩
  f15 := Tryz.func70.trans (congrArg some (by kernel_rfl))
  f20 := ⟨Tryz.f104.name, by decide, Tryz.func104.trans (congrArg some (by kernel_rfl))⟩
  f21 := ⟨Tryz.f105.name, by decide, Tryz.func105.trans (congrArg some (by kernel_rfl))⟩
  f22 := ⟨Tryz.f106.name, by decide, Tryz.func106.trans (congrArg some (by kernel_rfl))⟩
  f23 := ⟨Tryz.f107.name, by decide, Tryz.func107.trans (congrArg some (by kernel_rfl))⟩
  f24 := ⟨Tryz.f108.name, by decide, Tryz.func108.trans (congrArg some (by kernel_rfl))⟩
  f25 := ⟨Tryz.f109.name, by decide, Tryz.func109.trans (congrArg some (by kernel_rfl))⟩
  f26 := ⟨Tryz.f110.name, by decide, Tryz.func110.trans (congrArg some (by kernel_rfl))⟩
  f27 := ⟨Tryz.f111.name, by decide, Tryz.func111.trans (congrArg some (by kernel_rfl))⟩
  f28 := Tryz.func99.trans (congrArg some (by kernel_rfl))
  f29 := Tryz.func100.trans (congrArg some (by kernel_rfl))
  f46 := ⟨Tryz.f128.name, by decide, Tryz.func128.trans (congrArg some (by kernel_rfl))⟩
  f47 := Tryz.func123.trans (congrArg some (by kernel_rfl))
  f48 := Tryz.func124.trans (congrArg some (by kernel_rfl))
  f49 := ⟨Tryz.f129.name, by decide, Tryz.func129.trans (congrArg some (by kernel_rfl))⟩
  f50 := ⟨Tryz.f130.name, by decide, Tryz.func130.trans (congrArg some (by kernel_rfl))⟩
  f57 := ⟨Tryz.f137.name, by decide, Tryz.func137.trans (congrArg some (by kernel_rfl))⟩
  t0 := Tryz.underlying0
  a0 := Tryz.isAgg0
  z0 := Tryz.sizeOf0
  v0 := Tryz.zeroValue0
  t3 := Tryz.underlying3
  a3 := Tryz.isAgg3
  z3 := Tryz.sizeOf3
  v3 := Tryz.zeroValue3
  t4 := Tryz.underlying4
  a4 := Tryz.isAgg4
  z4 := Tryz.sizeOf4
  v4 := Tryz.zeroValue4
  t5 := Tryz.underlying5
  a5 := Tryz.isAgg5
  z5 := Tryz.sizeOf5
  v5 := Tryz.zeroValue5
  t9 := Tryz.underlying9
  a9 := Tryz.isAgg9
  z9 := Tryz.sizeOf9
  v9 := Tryz.zeroValue9
  t22 := Tryz.underlying22
  a22 := Tryz.isAgg22
  z22 := Tryz.sizeOf22
  v22 := Tryz.zeroValue22
  a24 := Tryz.isAgg3
  z24 := Tryz.sizeOf3
  t25 := Tryz.underlying85
  a25 := Tryz.isAgg85
  z25 := Tryz.sizeOf85
  v25 := Tryz.zeroValue85
  t39 := Tryz.underlying96
  a39 := Tryz.isAgg96
  z39 := Tryz.sizeOf96
  v39 := Tryz.zeroValue96
  t45 := Tryz.underlying110
  a45 := Tryz.isAgg110
  z45 := Tryz.sizeOf110
  v45 := Tryz.zeroValue110
  t46 := Tryz.underlying111
  a46 := Tryz.isAgg111
  z46 := Tryz.sizeOf111
  v46 := Tryz.zeroValue111
  t50 := Tryz.underlying115
  a50 := Tryz.isAgg115
  z50 := Tryz.sizeOf115
  v50 := Tryz.zeroValue115
  t53 := Tryz.underlying118
  a53 := Tryz.isAgg118
  z53 := Tryz.sizeOf118
  v53 := Tryz.zeroValue118
  t55 := Tryz.underlying39
  a55 := Tryz.isAgg39
  z55 := Tryz.sizeOf39
  v55 := Tryz.zeroValue39
  t66 := Tryz.underlying133
  a66 := Tryz.isAgg133
  z66 := Tryz.sizeOf133
  v66 := Tryz.zeroValue133
  t70 := Tryz.underlying137
  a70 := Tryz.isAgg137
  z70 := Tryz.sizeOf137
  v70 := Tryz.zeroValue137
  t76 := Tryz.underlying145
  a76 := Tryz.isAgg145
  z76 := Tryz.sizeOf145
  v76 := Tryz.zeroValue145
  t77 := Tryz.underlying146
  a77 := Tryz.isAgg146
  z77 := Tryz.sizeOf146
  v77 := Tryz.zeroValue146 }
open Go.RowKit Go.Lib Go.Sort in
theorem Tryz.slices_SortFunc {α : Type} [Inhabited α] (enc : α → Value) (h1 : OneCell enc) (cf : α → α → Int) (hO : SWO (ltOf cf)) (g : Nat) (cb : Array Value) (blk off cap : Nat) (d : Array α) (w : World) (eg : ∀ args w, (callFunc g args).run Tryz.prog w = .ok (.enter g args) w) (hcmp : CmpLays1 Tryz.prog g cb enc cf blk off d.size w) (hH : Holds enc w blk off d) (hblk : blk < w.heap.size) (hsz : d.size < 4611686018427387904) :
    Calls Tryz.prog 59 #[.slice (some ⟨blk, off, none⟩) d.size cap, .func (.func g) #[] cb] w fun e w' =>
      e = .returned (.tuple #[]) ∧ ∃ d' n os, PermIn 0 d.size d d' ∧ SortedIn (ltOf cf) 0 d.size d' ∧ w' = sortWorld enc w blk off n d' os := Any.slices_SortFunc Tryz.laysSlF6_f59 enc h1 cf hO g cb blk off cap d w eg hcmp hH hblk hsz
def Tryz.laysSlF06_f59_ren : Go.Shelf.Ren := ⟨fun | 6 => 59 | 15 => 70 | 14 => 74 | 28 => 99 | 29 => 100 | 20 => 104 | 21 => 105 | 22 => 106 | 23 => 107 | 24 => 108 | 25 => 109 | 26 => 110 | 27 => 111 | 46 => 128 | 47 => 123 | 48 => 124 | 49 => 129 | 50 => 130 | 57 => 137 | n => n, fun | 22 => 22 | 24 => 3 | 25 => 85 | 3 => 3 | 39 => 96 | 0 => 0 | 53 => 118 | 55 => 39 | 4 => 4 | 46 => 111 | 45 => 110 | 50 => 115 | 5 => 5 | 9 => 9 | 66 => 133 | 70 => 137 | 76 => 145 | 77 => 146 | n => n, fun | n => n⟩
theorem Tryz.laysSlF06_f59 : Go.Proofs.SlLaysF0.n6 Tryz.prog Tryz.laysSlF06_f59_ren := {
  mixed := by kernel_rfl
  f6 := ⟨Tryz.f59.name, by decide, Tryz.func59.trans (congrArg some (by kernel_rfl))⟩
  f14 := ⟨Tryz.f74.name, by decide, Tryz.func74.trans (congrArg some (by kernel_rfl))⟩
  f15 := Tryz.func70.trans (congrArg some (by kernel_rfl))
  f20 := ⟨Tryz.f104.name, by decide, Tryz.func104.trans (congrArg some (by kernel_rfl))⟩
  f21 := ⟨Tryz.f105.name, by decide, Tryz.func105.trans (congrArg some (by kernel_rfl))⟩
  f22 := ⟨Tryz.f106.name, by decide, Tryz.func106.trans (congrArg some (by kernel_rfl))⟩
  f23 := ⟨Tryz.f107.name, by decide, Tryz.func107.trans (congrArg some (by kernel_rfl))⟩
  f24 := ⟨Tryz.f108.name, by decide, Tryz.func108.trans (congrArg some (by kernel_rfl))⟩
  f25 := ⟨Tryz.f109.name, by decide, Tryz.func109.trans (congrArg some (by kernel_rfl))⟩
  f26 := ⟨Tryz.f110.name, by decide, Tryz.func110.trans (congrArg some (by kernel_rfl))⟩
  f27 := ⟨Tryz.f111.name, by decide, Tryz.func111.trans (congrArg some (by kernel_rfl))⟩
  f28 := Tryz.func99.trans (congrArg some (by kernel_rfl))
  f29 := Tryz.func100.trans (congrArg some (by kernel_rfl))
  f46 := ⟨Tryz.f128.name, by decide, Tryz.func128.trans (congrArg some (by kernel_rfl))⟩
  f47 := Tryz.func123.trans (congrArg some (by kernel_rfl))
  f48 := Tryz.func124.trans (congrArg some (by kernel_rfl))
  f49 := ⟨Tryz.f129.name, by decide, Tryz.func129.trans (congrArg some (by kernel_rfl))⟩
  f50 := ⟨Tryz.f130.name, by decide, Tryz.func130.trans (congrArg some (by kernel_rfl))⟩
  f57 := ⟨Tryz.f137.name, by decide, Tryz.func137.trans (congrArg some (by kernel_rfl))⟩
  t0 := Tryz.underlying0
  a0 := Tryz.isAgg0
  z0 := Tryz.sizeOf0
  v0 := Tryz.zeroValue0
  t3 := Tryz.underlying3
  a3 := Tryz.isAgg3
  z3 := Tryz.sizeOf3
  v3 := Tryz.zeroValue3
  t4 := Tryz.underlying4
  a4 := Tryz.isAgg4
  z4 := Tryz.sizeOf4
  v4 := Tryz.zeroValue4
  t5 := Tryz.underlying5
  a5 := Tryz.isAgg5
  z5 := Tryz.sizeOf5
  v5 := Tryz.zeroValue5
  t9 := Tryz.underlying9
  a9 := Tryz.isAgg9
  z9 := Tryz.sizeOf9
  v9 := Tryz.zeroValue9
  t22 := Tryz.underlying22
  a22 := Tryz.isAgg22
  z22 := Tryz.sizeOf22
  v22 := Tryz.zeroValue22
  t25 := Tryz.underlying85
  a25 := Tryz.isAgg85
  z25 := Tryz.sizeOf85
  v25 := Tryz.zeroValue85
  t39 := Tryz.underlying96
  a39 := Tryz.isAgg96
  z39 := Tryz.sizeOf96
  v39 := Tryz.zeroValue96
  t45 := Tryz.underlying110
  a45 := Tryz.isAgg110
  z45 := Tryz.sizeOf110
  v45 := Tryz.zeroValue110
  t46 := Tryz.underlying111
  a46 := Tryz.isAgg111
  z46 := Tryz.sizeOf111
  v46 := Tryz.zeroValue111
  t50 := Tryz.underlying115
  a50 := Tryz.isAgg115
  z50 := Tryz.sizeOf115
  v50 := Tryz.zeroValue115
  t53 := Tryz.underlying118
  a53 := Tryz.isAgg118
  z53 := Tryz.sizeOf118
  v53 := Tryz.zeroValue118
  t55 := Tryz.underlying39
  a55 := Tryz.isAgg39
  z55 := Tryz.sizeOf39
  v55 := Tryz.zeroValue39
  t66 := Tryz.underlying133
  a66 := Tryz.isAgg133
  z66 := Tryz.sizeOf133
  v66 := Tryz.zeroValue133
  t70 := Tryz.underlying137
  a70 := Tryz.isAgg137
  z70 := Tryz.sizeOf137
  v70 := Tryz.zeroValue137
  t76 := Tryz.underlying145
  a76 := Tryz.isAgg145
  z76 := Tryz.sizeOf145
  v76 := Tryz.zeroValue145
  t77 := Tryz.underlying146
  a77 := Tryz.isAgg146
  z77 := Tryz.sizeOf146
  v77 := Tryz.zeroValue146 }
open Go.RowKit Go.Lib Go.Sort in
theorem Tryz.slices_SortFunc_none {α : Type} [Inhabited α] (p : Option Addr) (cap : Nat) (fv : Value) (w : World) :
    Calls Tryz.prog 59 #[.slice p 0 cap, fv] w fun e w' => e = .returned (.tuple #[]) ∧ w' = w := AnyF.slices_SortFunc_none Tryz.laysSlF06_f59 p cap fv w
end Go.Proofs
/- Which blocks ahead stay, in memory: how two of them are held against each other; sorted. -/
namespace Go.Proofs.YtobnpllppohofaaGreatDoor
open Go.RowKit

theorem putRow_as {α : Type} [Inhabited α] (f : α → Int) (w : World) (blk off : Nat) (d : Array α) : Sort.putRow (fun x => Value.int .i64 (f x)) w blk off d = Sort.putRow (Value.int .i64) w blk off (d.map f) := by
 unfold Sort.putRow
 congr 1
 funext c
 unfold Sort.putCells
 congr 1
 funext k x
 rw [Array.size_map]
 by_cases h : off ≤ k ∧ k < off + d.size
 ·rw [if_pos h, if_pos h]
  have hk : k - off < d.size := by omega
  rw [getElem!_pos d _ hk, getElem!_pos (d.map f) _ (by simpa using hk)]
  simp
 ·rw [if_neg h, if_neg h]
set_option maxRecDepth 100000 in
set_option maxHeartbeats 2000000 in
theorem stayc_any {w0 W : World} {O ah : List Int} {n bp ba : Nat} {pa aa : Option Addr} {pc ac : Nat} (hp : IntsAt w0 (.slice pa n pc) (placesL O n)) (ha : IntsAt w0 (.slice aa ah.length ac) ah) (cp : w0.cell? ⟨bp, 0, none⟩ = some (.slice pa n pc)) (ca : w0.cell? ⟨ba, 0, none⟩ = some (.slice aa ah.length ac)) (lp : bp < w0.heap.size) (la : ba < w0.heap.size)
  (hin : ∀ x ∈ ah, ∃ k : Nat, x = (k : Int) ∧ k < n) (hb : Below w0.heap.size w0 W) (x y : Nat) (hx : x < ah.length) (hy : y < ah.length) :
  Calls Tryz.prog 60 #[.int .i64 (x : Int), .int .i64 (y : Int), ptr bp, ptr ba] W fun e w' => e = .returned (.int .i64 (Lib.compareInt (keyS O ah x) (keyS O ah y))) ∧ ∃ q, w' = W.drewN q := by
 have hget : ∀ i, i < ah.length → ∃ k : Nat, ah.getD i 0 = (k : Int) ∧ k < n := fun i hi => hin _ (by rw [List.getD_eq_getElem?_getD, List.getElem?_eq_getElem hi]; exact List.getElem_mem hi)
 obtain ⟨k1, e1, l1⟩ := hget x hx
 obtain ⟨k2, e2, l2⟩ := hget y hy
 obtain ⟨ga, oa, rfl, hga, c1⟩ := ha.get hx
 obtain ⟨ga', oa', hh, _, c2⟩ := ha.get hy
 injection hh with hh
 injection hh with y1 y2
 subst y1 y2
 have hl : (placesL O n).length = n := places_len O n
 obtain ⟨gp, op, rfl, hgp, d1⟩ := hp.get (i := k1) (by rw [hl]; exact l1)
 obtain ⟨gp', op', hh, _, d2⟩ := hp.get (i := k2) (by rw [hl]; exact l2)
 injection hh with hh
 injection hh with y1 y2
 subst y1 y2
 rw [places_get l1] at d1
 rw [places_get l2] at d2
 have q1 : keyS O ah x = placeOf O (k1 : Int) := by unfold keyS; rw [e1]
 have q2 : keyS O ah y = placeOf O (k2 : Int) := by unfold keyS; rw [e2]
 rw [q1, q2]
 rw [e1] at c1
 rw [e2] at c2
 have cp' := (hb.cell (p := ⟨bp, 0, none⟩) lp).trans cp
 have ca' := (hb.cell (p := ⟨ba, 0, none⟩) la).trans ca
 have c1' := (hb.cell (p := ⟨ga, oa + x, none⟩) hga).trans c1
 have c2' := (hb.cell (p := ⟨ga, oa + y, none⟩) hga).trans c2
 have d1' := (hb.cell (p := ⟨gp, op + k1, none⟩) hgp).trans d1
 have d2' := (hb.cell (p := ⟨gp, op + k2, none⟩) hgp).trans d2
 have HCP : Hid (∀ a b W, Calls Tryz.prog 61 #[.int .i64 a, .int .i64 b] W fun e w' => e = .returned (.int .i64 (Lib.compareInt a b)) ∧ w' = W) := fun a b W => Tryz.cmp_Compare_int a b W
 generalize placeOf O (k1 : Int) = v1 at *
 generalize placeOf O (k2 : Int) = v2 at *
 have hx' : (x : Int) < (ah.length : Int) := by omega
 have hy' : (y : Int) < (ah.length : Int) := by omega
 have l1' : (k1 : Int) < (n : Int) := by omega
 have l2' : (k2 : Int) < (n : Int) := by omega
 clear hp ha cp ca hin hget e1 e2 c1 c2 d1 d2 q1 q2 hl
 generalize ah.length = m at *
 go_enter Tryz.func60, Tryz.ntmps60
 go_wp2
 go_quiet ((go_at_call 61; exact Calls.quiet_of_same (HCP.out _ _ _)))
 go_wp2
 go_ret
 exact ⟨rfl, _, rfl⟩
end Go.Proofs.YtobnpllppohofaaGreatDoor
/- Which blocks ahead stay, in memory. -/
namespace Go.Proofs.YtobnpllppohofaaGreatDoor
open Go.RowKit

theorem holds_as {α : Type} [Inhabited α] (f : α → Int) {w : World} {blk off : Nat} {d : Array α} (h : Sort.Holds (Value.int .i64) w blk off (d.map f)) : Sort.Holds (fun x => Value.int .i64 (f x)) w blk off d := fun j hj => by
 have h9 := h j (by simpa using hj)
 rw [getElem!_pos (d.map f) _ (by simpa using hj), Array.getElem_map] at h9
 rw [getElem!_pos d _ hj]
 exact h9
def cmpS (O ah : List Int) (m : Nat) (x y : Fin m) : Int := Lib.compareInt (keyS O ah x.val) (keyS O ah y.val)
theorem ltS {O ah : List Int} {m : Nat} (x y : Fin m) : ltOf (cmpS O ah m) x y = decide (keyS O ah x.val < keyS O ah y.val) := by
 unfold ltOf cmpS Lib.compareInt
 generalize keyS O ah x.val = a
 generalize keyS O ah y.val = b
 by_cases h1 : a < b
 ·simp [h1]
 ·by_cases h2 : b < a <;> simp [h1, h2]
theorem swoS (O ah : List Int) (m : Nat) : Sort.SWO (ltOf (cmpS O ah m)) where
 irrefl x := by rw [ltS]; simp
 trans x y z h1 h2 := by rw [ltS] at *; simp at *; omega
 ntrans x y z h1 h2 := by rw [ltS] at *; simp at *; omega
theorem sort_stay {w0 w : World} {O ah : List Int} {n bp ba base : Nat} {v : Value} {pa aa : Option Addr} {pc ac : Nat} (hO : O.Nodup) (hA : ah.Nodup) (hp : IntsAt w0 (.slice pa n pc) (placesL O n)) (ha : IntsAt w0 (.slice aa ah.length ac) ah) (cp : w0.cell? ⟨bp, 0, none⟩ = some (.slice pa n pc)) (ca : w0.cell? ⟨ba, 0, none⟩ = some (.slice aa ah.length ac)) (lp : bp < w0.heap.size) (la : ba < w0.heap.size)
  (hin : ∀ x ∈ ah, ∃ k : Nat, x = (k : Int) ∧ k < n) (hb : Below w0.heap.size w0 w) (hbase : w0.heap.size ≤ base) (hl : ah.length ≤ 1000000) (h : OwnI w base v ((staysN O ah ah.length).map fun i => ((i : Nat) : Int))) :
  Calls Tryz.prog 59 #[v, .func (.func 60) #[] #[ptr bp, ptr ba]] w fun e w' => e = .returned (.tuple #[]) ∧ OwnI w' base v (stayP O ah) ∧ w.grownBy w' v.ownBlock := by
 rcases h.2 with ⟨rfl, h0⟩ | ⟨g, cap, cur, rfl, h1, hh, h2, h3, h4, h5⟩
 ·have hn : staysN O ah ah.length = [] := List.eq_nil_of_length_eq_zero (by simpa using h0)
  have he : ([] : List Int) = stayP O ah := stay_unique hO hA (R := []) (by rw [hn]) List.Pairwise.nil
  rw [hn] at h
  refine (Tryz.slices_SortFunc_none (α := Nat) none 0 _ w).mono ?_
  rintro e w' ⟨rfl, rfl⟩
  refine ⟨rfl, ?_, grownBy_refl _ _⟩
  rw [← he]
  exact h
 ·by_cases hm0 : ah.length = 0
  ·have hn : staysN O ah ah.length = [] := by rw [hm0]; rfl
   have he : ([] : List Int) = stayP O ah := stay_unique hO hA (R := []) (by rw [hn]) List.Pairwise.nil
   rw [hn] at h
   rw [hn]
   refine (Tryz.slices_SortFunc_none (α := Nat) _ cap _ w).mono ?_
   rintro e w' ⟨rfl, rfl⟩
   refine ⟨rfl, ?_, grownBy_refl _ _⟩
   rw [← he]
   exact h
  ·haveI : Inhabited (Fin ah.length) := ⟨⟨0, by omega⟩⟩
   obtain ⟨D, hD⟩ : ∃ D : List (Fin ah.length), D.map Fin.val = staysN O ah ah.length := by
    refine ⟨(staysN O ah ah.length).attach.map fun i => ⟨i.val, (stays_lt i.property).1⟩, ?_⟩
    rw [List.map_map]
    exact List.attach_map_subtype_val _
   have hDl : D.length = (staysN O ah ah.length).length := by rw [← hD]; simp
   have hDm : (D.toArray.map fun i => ((i.val : Nat) : Int)) = ((staysN O ah ah.length).map fun i => ((i : Nat) : Int)).toArray := by
    rw [← hD, List.map_map]
    simp
   have hH0 := holds_of_blockI (ss := (staysN O ah ah.length).map fun i => ((i : Nat) : Int)) hh (by simpa using h5)
   rw [← hDm] at hH0
   have hH := holds_as (fun i : Fin ah.length => ((i.val : Nat) : Int)) hH0
   have eg : ∀ args w, (callFunc 60 args).run Tryz.prog w = .ok (.enter 60 args) w := enters_of Tryz.func60 (by kernel_rfl) rfl
   have hgb : ∀ (mm : Nat) (os : Array Obj) (dk : Array (Fin ah.length)), w.grownBy (sortWorld (fun i : Fin ah.length => Value.int .i64 ((i.val : Nat) : Int)) w g 0 mm dk os) (some g) := fun mm os dk => by
    unfold sortWorld
    rw [putRow_as (fun i : Fin ah.length => ((i.val : Nat) : Int))]
    exact grownBy_sortedI _
   have hcmp : CmpReads Tryz.prog 60 #[ptr bp, ptr ba] (fun i : Fin ah.length => Value.int .i64 ((i.val : Nat) : Int)) (cmpS O ah ah.length) g 0 D.toArray.size w := fun mm os dk _ x y =>
    stayc_any hp ha cp ca lp la hin (below_grown hb (hgb mm os dk) (fun q hq => by cases hq; omega)) x.val y.val x.isLt y.isLt
   have hcon := Tryz.slices_SortFunc (fun i : Fin ah.length => Value.int .i64 ((i.val : Nat) : Int)) (fun _ => rfl) (cmpS O ah ah.length) (swoS O ah ah.length) 60 #[ptr bp, ptr ba] g 0 cap D.toArray w eg hcmp.lays hH (Array.getElem?_eq_some_iff.1 hh).1 (by have := stays_len O ah ah.length; simp; omega)
   have hsz : D.toArray.size = ((staysN O ah ah.length).map fun i => ((i : Nat) : Int)).length := by simp [hDl]
   rw [hsz] at hcon
   refine hcon.mono ?_
   rintro e w' ⟨rfl, d', nn, os, hperm, hsort, rfl⟩
   obtain ⟨s1, _, s3⟩ := hperm
   have hds : d'.size = D.length := by rw [s1]; simp
   have hR : (d'.toList.map Fin.val).Perm (staysN O ah ah.length) := by
    rw [← hD]
    refine List.Perm.map _ ?_
    have x1 : (d'.extract 0 D.toArray.size).toList = d'.toList := by rw [List.size_toArray, ← hds, Array.extract_size]
    have x2 : (D.toArray.extract 0 D.toArray.size).toList = D := by rw [Array.extract_size]
    rw [← hsz] at s3
    rw [x1, x2] at s3
    exact s3
   have hS : (d'.toList.map Fin.val).Pairwise fun a b => keyS O ah a ≤ keyS O ah b := by
    rw [List.pairwise_map, List.pairwise_iff_getElem]
    intro i j hi hj hij
    have hi' : i < d'.size := by simpa using hi
    have hj' : j < d'.size := by simpa using hj
    have h9 := hsort i j (Nat.zero_le _) hij (by rw [← hsz, List.size_toArray]; omega)
    rw [ltS, getElem!_pos d' _ hj', getElem!_pos d' _ hi'] at h9
    have h8 := of_decide_eq_false h9
    simp only [Array.getElem_toList]
    omega
   have hE := stay_unique hO hA hR hS
   have hts : (d'.map fun i : Fin ah.length => ((i.val : Nat) : Int)) = (stayP O ah).toArray := by
    rw [← hE, List.map_map]
    apply Array.ext'
    simp
   refine ⟨rfl, ?_, hgb _ _ _⟩
   unfold sortWorld
   rw [putRow_as (fun i : Fin ah.length => ((i.val : Nat) : Int)), hts]
   have hln : (stayP O ah).length = ((staysN O ah ah.length).map fun i => ((i : Nat) : Int)).length := by rw [← hE, List.length_map, List.length_map, List.length_map]; have := hR.length_eq; simpa using this
   have h9 := ownsRow_sortedI (ts := stayP O ah) (n := nn) (os := os) hln h1 hh h2 h3 h4
   show World.ownsRow _ _ _ _ _ _ _
   rw [hln]
   exact h9
end Go.Proofs.YtobnpllppohofaaGreatDoor
