/- The blocks that are reached, in reverse postorder. -/
import Derived.Test.YtobnpllppohofaaGreatDoorLSameM
import Derived.Deep.OwnRows
import Derived.Test.YtobnpllppohofaaGreatDoorGBoxM
import Derived.Test.YtobnpllppohofaaGreatDoorGCheck
import Derived.Test.YtobnpllppohofaaGreatDoorGBnPM
import Derived.Test.YtobnpllppohofaaGreatDoorGCp1M
namespace Go.Proofs.YtobnpllppohofaaGreatDoor
open Go.RowKit

theorem walk_all {w0 : World} {gcs : List Value} {bv : Value} {bs : List Bl} (hB : BlsAt w0 bv bs) (h5 : gcs[5]? = some bv) (hn : bs.length ≤ 4000) : ∀ f, DoesWalk w0 bs.length gcs (tms bs) f
 | 0 => walk_step hB h5 hn (fun f' he => by omega)
 | f + 1 => walk_step hB h5 hn (fun f' he => by cases he; exact walk_all hB h5 hn f)
abbrev nilV : Value := .slice none 0 0
theorem infoB : (Tryz.prog.info? 4).map (fun i => (i.zero, i.size, i.bytes)) = some (some (.bool false), 1, 1) := by kernel_rfl
theorem made_bools (n : Nat) : (madeCells #[.bool false] n).toList = (List.replicate n false).map Value.bool := by
 rw [toList_madeCells_one]
 simp
theorem ws_init (w : World) (gcs : List Value) (n : Nat) (hn : n ≤ 4000) (ta tb tc td te tf : TypeId) :
  WS w n gcs (((((((w.alloc (.cells gcs.toArray ta)).alloc (.cells (madeCells #[.bool false] n) 4)).alloc (.cells #[metV w.heap.size n] tb)).alloc (.cells #[nilV] tc)).alloc (.cells #[nilV] td)).alloc (.cells #[meetV w.heap.size] te)).alloc (.cells #[walkV w.heap.size] tf)) nilV nilV (List.replicate n false) [] [] := by
 have e1 : ∀ (W : World) (o : Obj), (W.alloc o).heap.size = W.heap.size + 1 := fun W o => by simp
 have b0 := Box.new w gcs ta
 have r1 := World.ownsRow_lit (base := w.heap.size) (e := 4) (size := 1) (w.alloc (.cells gcs.toArray ta)) (madeCells #[.bool false] n) n (by rw [e1]; omega) (by unfold maxLen; omega) (by simp [size_madeCells])
 have b2 := Box.new ((w.alloc (.cells gcs.toArray ta)).alloc (.cells (madeCells #[.bool false] n) 4)) [metV w.heap.size n] tb
 generalize hW2 : (w.alloc (.cells gcs.toArray ta)).alloc (.cells (madeCells #[.bool false] n) 4) = W2 at *
 have l1 : Below (w.alloc (.cells gcs.toArray ta)).heap.size (w.alloc (.cells gcs.toArray ta)) W2 := by rw [← hW2]; exact below_alloc (Below.refl _ _) _
 have s2 : W2.heap.size = w.heap.size + 2 := by rw [← hW2, e1, e1]
 have b0' := b0.below l1
 have bw : Below w.heap.size w W2 := below_trans (below_alloc (Below.refl _ _) _) l1
 rw [e1] at r1
 rw [s2] at b2
 have b3 := Box.new (W2.alloc (.cells #[metV w.heap.size n] tb)) [nilV] tc
 have b4 := Box.new ((W2.alloc (.cells #[metV w.heap.size n] tb)).alloc (.cells #[nilV] tc)) [nilV] td
 have b5 := Box.new (((W2.alloc (.cells #[metV w.heap.size n] tb)).alloc (.cells #[nilV] tc)).alloc (.cells #[nilV] td)) [meetV w.heap.size] te
 have b6 := Box.new ((((W2.alloc (.cells #[metV w.heap.size n] tb)).alloc (.cells #[nilV] tc)).alloc (.cells #[nilV] td)).alloc (.cells #[meetV w.heap.size] te)) [walkV w.heap.size] tf
 simp only [e1, s2] at b3 b4 b5 b6
 have al : ∀ (W : World) (o : Obj), Below W.heap.size W (W.alloc o) := fun W o => below_alloc (Below.refl _ _) o
 refine ⟨?_, ?_, World.ownsRow_nil _ _ _ _, World.ownsRow_nil _ _ _ _, ?_, ?_, ?_, ?_, ?_, b6, by simp [Value.ownBlock]⟩
 ·exact below_alloc (below_alloc (below_alloc (below_alloc (below_alloc bw _) _) _) _) _
 ·rw [made_bools] at r1
  exact ((((r1.alloc _).alloc _).alloc _).alloc _).alloc _
 ·exact ((((b0'.below (al _ _)).below (al _ _)).below (al _ _)).below (al _ _)).below (al _ _)
 ·exact (((b2.below (al _ _)).below (al _ _)).below (al _ _)).below (al _ _)
 ·exact ((b3.below (al _ _)).below (al _ _)).below (al _ _)
 ·exact (b4.below (al _ _)).below (al _ _)
 ·exact b5.below (al _ _)
theorem store_func (a : Addr) (fn : Fn) (f c : Array Value) (m : Mode) (w : World) : (store a (.func fn f c) m).run Tryz.prog w = stored Tryz.prog w a (.func fn f c) m := run_store Tryz.prog w a _ m rfl
def pathLen (B : Nat) (w : World) : Nat := match w.cell? ⟨B + 3, 0, none⟩ with
 | some (.slice _ m _) => m
 | _ => 0
set_option maxRecDepth 100000 in
set_option maxHeartbeats 2000000 in
theorem order_any (G : Gr) (pv vv av bv : Value) (w : World) (h : GrAt w pv vv av bv G) (hn : G.blocks.length ≤ 4000) :
  Calls Tryz.prog 12 #[.agg #[.string G.name, pv, .int .u8 G.result, vv, av, bv]] w fun e w' => ∃ v, e = .returned v ∧ OwnI w' w.heap.size v (orderT (tms G.blocks)) ∧ Below w.heap.size w w' := by
 obtain ⟨nm, ps, r, vs, ars, bs⟩ := G
 have hB := h.bs
 dsimp only at hB hn ⊢
 clear h
 obtain ⟨a, c, rfl, _⟩ := hB.form
 by_cases h0 : bs.length = 0
 ·have hb0 : bs = [] := List.eq_nil_of_length_eq_zero h0
  subst hb0
  clear hB
  go_enter Tryz.func12, Tryz.ntmps12
  go_wp2
  go_ret
  exact ⟨_, rfl, World.ownsRow_nil _ _ _ _, below_alloc (Below.refl _ _) _⟩
 ·have HW : Hid _ := walk_all (gcs := [.string nm, pv, .int .u8 r, vv, av, .slice a bs.length c]) hB rfl hn bs.length
  have hne : (((bs.length : Nat) : Int) == 0) = false := beq_false_of_ne (by omega)
  generalize hbn : bs.length = n at *
  have HBN : Hid _ := hbn
  have hmk := run_make_row' (P := Tryz.prog) 70 4 (.bool false) 1 Tryz.underlying70 infoB rfl .i64 .i64 n (by omega) (by omega)
  have HWS : Hid _ := ws_init w [.string nm, pv, .int .u8 r, vv, av, .slice a n c] n hn 28 70 22 22 71 72
  have HME : Hid _ := meet_any HWS.out 0 (by omega) (by simp)
  have hn0 : 0 < n := by omega
  have hsf := store_func
  clear hbn hB
  go_enter Tryz.func12, Tryz.ntmps12
  go_wp2_with (go_at_call 34; go_loud (refine Calls.mono (by exact HME.out) ?_; rintro e w2 ⟨rfl, p2, hS2, hM2⟩; have HS2 : Hid _ := hS2; clear hS2 hM2))
  have HTS : Hid ((tms bs).length = n) := by show _ = _; rw [← HBN.out]; simp [tms]
  have HOR : Hid (orderT (tms bs) = (dfs (tms bs) n 0 ((List.replicate n false).set 0 true) []).2.reverse) := by
   show _ = _
   unfold orderT
   rw [HTS.out, if_neg (by omega)]
  have HWK : Hid (∀ (W : World) (p' l' : Value), WS w n [.string nm, pv, .int .u8 r, vv, av, .slice a n c] W p' l' ((List.replicate n false).set 0 true) [(0 : Int)] [] → Calls Tryz.prog 35 #[.int .i64 0, ptr (w.heap.size + 3), ptr w.heap.size, ptr (w.heap.size + 2), ptr (w.heap.size + 5), ptr (w.heap.size + 6), ptr (w.heap.size + 4)] W fun e w' => e = .returned (.bool true) ∧ ∃ pv' lv', WS w n [.string nm, pv, .int .u8 r, vv, av, .slice a n c] w' pv' lv' (dfs (tms bs) n 0 ((List.replicate n false).set 0 true) []).1 [] (dfs (tms bs) n 0 ((List.replicate n false).set 0 true) []).2 ∧ WM w.heap.size W p' l' w' pv' lv') := fun W p' l' hw => by
   have hc : cntF ((List.replicate n false).set 0 true) ≤ n := by
    unfold cntF
    refine Nat.le_trans List.count_le_length ?_
    simp
   have := HW.out W p' l' ((List.replicate n false).set 0 true) [] [] 0 0 hw hn0 (by rw [getD_set (by simpa using hn0)]; simp) hc (by omega) (by simp; omega)
   exact this
  have HCL : Hid ((dfs (tms bs) n 0 ((List.replicate n false).set 0 true) []).2.length ≤ 10000) := by
   show _ ≤ _
   have hc : cntF ((List.replicate n false).set 0 true) ≤ n := by
    unfold cntF
    refine Nat.le_trans List.count_le_length ?_
    simp
   have := cnt_all (tms bs) n 0 ((List.replicate n false).set 0 true) [] (by rw [HTS.out]; simp) (by rw [HTS.out]; exact hn0) (by rw [getD_set (by simpa using hn0)]; simp) hc
   simp only [List.length_nil] at this
   omega
  generalize dfs (tms bs) n 0 ((List.replicate n false).set 0 true) [] = D at *
  generalize (List.replicate n false).set 0 true = met0 at *
  clear HW HTS HBN hmk HWS HME hsf
  go_loopw [] (fun wr => Hid (∃ p' l' m pth l, WS w n [.string nm, pv, .int .u8 r, vv, av, .slice a n c] wr p' l' m pth l ∧ ((pth = [(0 : Int)] ∧ l = [] ∧ m = met0) ∨ (pth = [] ∧ m = D.1 ∧ l = D.2)))) (fun wr => pathLen w.heap.size wr)
  case atStart => exact ⟨_, _, _, _, _, HS2.out, .inl ⟨rfl, rfl, rfl⟩⟩
  case round =>
   clear HS2
   obtain ⟨p', l', m, pth, l, hS, hC⟩ := hrel.out
   clear hrel
   rcases hC with ⟨rfl, rfl, rfl⟩ | ⟨rfl, rfl, rfl⟩
   ·obtain ⟨g', c', rfl, _, _, _, _⟩ := own_form (own_snoc (l := []) hS.prow)
    have e3 : wr.cell? ⟨w.heap.size + 1 + 1 + 1, 0, none⟩ = some (.slice (some ⟨g', 0, none⟩) (([] : List Int).length + 1) c') := hS.bp.cell 0 _ rfl
    have e6 : wr.cell? ⟨w.heap.size + 1 + 1 + 1 + 1 + 1 + 1, 0, none⟩ = some (walkV w.heap.size) := hS.bk.cell 0 _ rfl
    unfold walkV at e6
    have HS : Hid _ := hS
    have HPL : Hid (pathLen w.heap.size wr = 1) := by
     show _ = _
     unfold pathLen
     rw [show w.heap.size + 3 = w.heap.size + 1 + 1 + 1 from rfl, e3]
     rfl
    clear hS
    go_wp2_with (go_at_call 35; go_loud (refine Calls.mono (by exact HWK.out _ _ _ HS.out) ?_; rintro e w3 ⟨rfl, p3, l3, hS3, hM3⟩; have HS3 : Hid _ := hS3; clear hS3 hM3))
    go_roundw
    case rel => exact ⟨_, _, _, _, _, HS3.out, .inr ⟨rfl, rfl, rfl⟩⟩
    case measure =>
     rw [HPL.out]
     obtain ⟨pa, pc, rfl, _⟩ := (OwnI.at' HS3.out.prow (by simp)).form
     have := HS3.out.bp.cell 0 _ rfl
     unfold pathLen
     rw [this]
     simp
   ·obtain ⟨pa, pc, rfl, _⟩ := (OwnI.at' hS.prow (by simp)).form
    have e3 : wr.cell? ⟨w.heap.size + 1 + 1 + 1, 0, none⟩ = some (.slice pa ([] : List Int).length pc) := hS.bp.cell 0 _ rfl
    have e4 : wr.cell? ⟨w.heap.size + 1 + 1 + 1 + 1, 0, none⟩ = some l' := hS.bl.cell 0 _ rfl
    have HRV : Hid _ := reverse_own hS.lrow (by have := HCL.out; omega)
    have HS : Hid _ := hS
    clear hS
    go_wp2_with (go_at_call 38; go_loud (refine Calls.mono (by exact HRV.out) ?_; rintro e w3 ⟨rfl, ho3, hg3⟩; have e5 : w3.cell? ⟨w.heap.size + 1 + 1 + 1 + 1, 0, none⟩ = some l' := (World.cell?_of_block (w := wr) (a := ⟨w.heap.size + 1 + 1 + 1 + 1, 0, none⟩) (hg3.block _ HS.out.bl.lt (fun hc => own_lt7 HS.out.lrow (b := w.heap.size + 4) (by omega) hc.symm))).trans e4; have HO3 : Hid _ := ho3; have HG3 : Hid _ := hg3; clear ho3 hg3))
    go_ret
    refine ⟨l', rfl, ?_, ?_⟩
    ·rw [HOR.out]
     exact own_mono HO3.out (by omega)
    ·exact below_grown HS.out.bel HG3.out (fun q hq => by have := (HS.out.lrow.lt q hq).1; omega)
end Go.Proofs.YtobnpllppohofaaGreatDoor
/- How many instructions there are, and blocks. -/
namespace Go.Proofs.YtobnpllppohofaaGreatDoor
open Go.RowKit

def sumIns (bs : List Bl) : Nat := (bs.map fun b => b.ins.length).sum
theorem sumIns_take {bs : List Bl} {i : Nat} (h : i < bs.length) : sumIns (bs.take (i + 1)) = sumIns (bs.take i) + (bs.getD i default).ins.length := by
 unfold sumIns
 rw [List.take_add_one, List.map_append, List.sum_append, List.getElem?_eq_getElem h]
 congr 1
 simp [List.getD, List.getElem?_eq_getElem h]
theorem sumIns_le (bs : List Bl) (i : Nat) : sumIns (bs.take i) ≤ sumIns bs := by
 have : sumIns bs = sumIns (bs.take i) + sumIns (bs.drop i) := by
  unfold sumIns
  rw [← List.sum_append, ← List.map_append, List.take_append_drop]
 omega
set_option maxRecDepth 100000 in
set_option maxHeartbeats 1000000 in
theorem count_any (G : Gr) (pv vv av bv : Value) (w : World) (h : GrAt w pv vv av bv G) (hs : countG G.blocks ≤ 1000000000) :
  Calls Tryz.prog 24 #[.agg #[.string G.name, pv, .int .u8 G.result, vv, av, bv]] w fun e w' => e = .returned (.int .i64 (countG G.blocks : Nat)) ∧ Below w.heap.size w w' := by
 obtain ⟨nm, ps, r, vs, ars, bs⟩ := G
 have hB := h.bs
 obtain ⟨a, c, rfl, hlen⟩ := hB.form
 have HI : Hid (∀ i, i < bs.length → _) := fun i hi => hB.get hi
 change countG bs ≤ _ at hs
 have hc : countG bs = bs.length + sumIns bs := rfl
 have HC : Hid (countG bs = bs.length + sumIns bs) := hc
 have hbl : bs.length ≤ 1000000000 := by omega
 have hsm : Hid (bs.length + sumIns bs ≤ 1000000000) := by rw [← hc]; exact hs
 clear h hB hlen hc hs
 dsimp only at HI ⊢
 obtain ⟨R, hR⟩ : ∃ R, R = countG bs := ⟨_, rfl⟩
 rw [← hR]
 have HR : Hid (R = bs.length + sumIns bs) := hR.trans HC.out
 clear hR HC
 obtain ⟨n, hn⟩ : ∃ n, n = bs.length := ⟨_, rfl⟩
 rw [← hn] at hbl ⊢
 have HN : Hid (n = bs.length) := hn
 clear hn
 go_enter Tryz.func24, Tryz.ntmps24
 go_wp2
 go_loopw [3, 12] (fun vm vi wr => ∃ i : Nat, vi = .int .i64 i ∧ i ≤ n ∧ vm = .int .i64 ((n + sumIns (bs.take i) : Nat) : Int) ∧ Hid (Below w.heap.size w wr)) (fun _ vi _ => n - (intOf vi).toNat)
 case atStart => exact ⟨0, rfl, by omega, by simp [sumIns], below_alloc (Below.refl _ _) _⟩
 case round =>
  obtain ⟨i, rfl, hi, rfl, hr⟩ := hrel
  by_cases hin : i < n
  ·obtain ⟨g, o, iv, rfl, hg, c0, c1, c2, c3, c4, c5, hins⟩ := HI.out i (by rw [← HN.out]; exact hin)
   obtain ⟨ia, ic, rfl, hil⟩ := hins.form
   have hin' : (i : Int) < n := by omega
   have hcl : ∀ j, wr.cell? ⟨g, j, none⟩ = w.cell? ⟨g, j, none⟩ := fun j => hr.out.cell (p := ⟨g, j, none⟩) hg
   rw [← hcl] at c0 c1 c2 c3 c4 c5
   have HT : Hid (sumIns (bs.take (i + 1)) = sumIns (bs.take i) + (bs.getD i default).ins.length) := sumIns_take (by rw [← HN.out]; exact hin)
   have hle : n + sumIns (bs.take (i + 1)) ≤ 1000000000 := by
    have := sumIns_le bs (i + 1)
    have := hsm.out
    rw [← HN.out] at this
    omega
   have hle2 : n + (sumIns (bs.take i) + (bs.getD i default).ins.length) ≤ 1000000000 := by rw [← HT.out]; exact hle
   clear HI hcl hins hle hil
   generalize sumIns (bs.take i) = S at *
   generalize (bs.getD i default).ins.length = L at *
   generalize (bs.getD i default).tm.kind = t0 at *
   generalize (bs.getD i default).tm.arg = t1 at *
   generalize (bs.getD i default).tm.t0 = t2 at *
   generalize (bs.getD i default).tm.t1 = t3 at *
   generalize (bs.getD i default).tm.trap = t4 at *
   go_wp2
   go_roundw
   case rel => exact ⟨i + 1, by first | rfl | (congr 1; omega), by omega, by rw [HT.out]; first | rfl | (congr 1; omega), below_alloc hr.out _⟩
   case measure => simp [intOf]; omega
  ·obtain rfl : i = n := by omega
   clear HI
   go_wp2
   go_ret
   exact ⟨ret_int (by rw [HR.out, HN.out, List.take_length]), hr.out⟩
end Go.Proofs.YtobnpllppohofaaGreatDoor
/- The law is awake. -/
namespace Go.Proofs.YtobnpllppohofaaGreatDoor
open Go.RowKit

abbrev gCells (a b c : Nat) : List Value := [.string ⟨#[103]⟩, sl a 1, .int .u8 4, sl b 3, .slice none 0 0, sl c 5]
theorem heap_new (w : World) (cs : List Value) (t : TypeId) : (w.alloc (.cells cs.toArray t)).heap[w.heap.size]? = some (.cells cs.toArray t) := heap_alloc_new w _
theorem grs_two (w : World) (m1 m2 : Bool) (a b c d e f : Nat) (h1 : GrAt w (sl a 1) (sl b 3) (.slice none 0 0) (sl c 5) (smallG m1)) (h2 : GrAt w (sl d 1) (sl e 3) (.slice none 0 0) (sl f 5) (smallG m2)) :
  GrsAt (w.alloc (.cells #[.string ⟨#[103]⟩, sl a 1, .int .u8 4, sl b 3, .slice none 0 0, sl c 5, .string ⟨#[103]⟩, sl d 1, .int .u8 4, sl e 3, .slice none 0 0, sl f 5] 28)) (sl w.heap.size 2) [smallG m1, smallG m2] := by
 refine ⟨[(sl a 1, sl b 3, .slice none 0 0, sl c 5), (sl d 1, sl e 3, .slice none 0 0, sl f 5)], rfl, row_lit (t := 28) 2 (heap_new w (gCells a b c ++ gCells d e f) 28) (by omega), fun i x q hx hq => ?_⟩
 have hb := below_alloc (Below.refl w.heap.size w) (.cells #[.string ⟨#[103]⟩, sl a 1, .int .u8 4, sl b 3, .slice none 0 0, sl c 5, .string ⟨#[103]⟩, sl d 1, .int .u8 4, sl e 3, .slice none 0 0, sl f 5] 28)
 rcases i with _ | _ | i
 ·cases hx; cases hq; exact h1.below hb
 ·cases hx; cases hq; exact h2.below hb
 ·simp at hx
theorem grs_one (w : World) (m1 : Bool) (a b c : Nat) (h1 : GrAt w (sl a 1) (sl b 3) (.slice none 0 0) (sl c 5) (smallG m1)) :
  GrsAt (w.alloc (.cells #[.string ⟨#[103]⟩, sl a 1, .int .u8 4, sl b 3, .slice none 0 0, sl c 5] 28)) (sl w.heap.size 1) [smallG m1] := by
 refine ⟨[(sl a 1, sl b 3, .slice none 0 0, sl c 5)], rfl, row_lit (t := 28) 1 (heap_new w (gCells a b c) 28) (by omega), fun i x q hx hq => ?_⟩
 have hb := below_alloc (Below.refl w.heap.size w) (.cells #[.string ⟨#[103]⟩, sl a 1, .int .u8 4, sl b 3, .slice none 0 0, sl c 5] 28)
 rcases i with _ | i
 ·cases hx; cases hq; exact h1.below hb
 ·simp at hx
theorem ints_new (w : World) (l : List Int) (hl : l.length ≤ 1000) : IntsAt (w.alloc (.cells (l.map intV).toArray 3)) (sl w.heap.size l.length) l := row_lit (t := 3) l.length (heap_new w (l.map intV) 3) hl
theorem grs_nil (w : World) : GrsAt w (.slice none 0 0) [] := ⟨[], rfl, row_nil _ _, fun i x q hx _ => by simp at hx⟩
theorem chk_two : checkT [smallG true, smallG false] = (4, 1) := by decide +kernel
theorem chk_one : checkT [smallG true] = (0, 0) := by decide +kernel
theorem typ_one : typeI [] (smallG true) ⟨4, 13, 1, [0, 2], 0, 0⟩ = 1 ∧ standsB [] (smallG true) ⟨4, 13, 1, [0, 2], 0, 0⟩ = true := by decide +kernel
theorem ord_one : orderT (tms (smallG false).blocks) = [0, 1, 2, 3] := by decide +kernel
theorem cnt_one : countG (smallG false).blocks = 9 := by decide +kernel
def SmP (m : Bool) (W : World) (e : Ending) (w' : World) : Prop := ∃ a b c : Nat, e = .returned (.agg #[.string ⟨#[103]⟩, sl a 1, .int .u8 4, sl b 3, .slice none 0 0, sl c 5]) ∧ GrAt w' (sl a 1) (sl b 3) (.slice none 0 0) (sl c 5) (smallG m) ∧ Below W.heap.size W w'
theorem awk_small (m : Bool) (W : World) : Calls Tryz.prog 7 #[.bool m] W fun e w' => ∃ a b c : Nat, e = .returned (.agg #[.string ⟨#[103]⟩, sl a 1, .int .u8 4, sl b 3, .slice none 0 0, sl c 5]) ∧ GrAt w' (sl a 1) (sl b 3) (.slice none 0 0) (sl c 5) (smallG m) ∧ Below W.heap.size W w' := by
 cases m with
 | true => exact Calls.mono (small_t W) fun e w' ⟨h1, h2, h3⟩ => ⟨_, _, _, h1, h2, h3⟩
 | false => exact Calls.mono (small_f W) fun e w' ⟨h1, h2, h3⟩ => ⟨_, _, _, h1, h2, h3⟩
theorem awk_check2 (W : World) (v : Value) (h : GrsAt W v [smallG true, smallG false]) (hP : PartsAt W) : Calls Tryz.prog 5 #[v] W fun e w' => e = .returned (.tuple #[.int .i64 4, .int .i64 1]) ∧ Below W.heap.size W w' := by
 have := check_any _ v W h hP (fun _ => by decide +kernel)
 rwa [chk_two] at this
theorem awk_check1 (W : World) (v : Value) (h : GrsAt W v [smallG true]) (hP : PartsAt W) : Calls Tryz.prog 5 #[v] W fun e w' => e = .returned (.tuple #[.int .i64 0, .int .i64 0]) ∧ Below W.heap.size W w' := by
 have := check_any _ v W h hP (fun _ => by decide +kernel)
 rwa [chk_one] at this
theorem awk_type (W : World) (a b c : Nat) (xv : Value) (h : GrAt W (sl a 1) (sl b 3) (.slice none 0 0) (sl c 5) (smallG true)) (hx : IntsAt W xv [0, 2]) (hP : PartsAt W) : Calls Tryz.prog 39 #[.slice none 0 0, .agg #[.string ⟨#[103]⟩, sl a 1, .int .u8 4, sl b 3, .slice none 0 0, sl c 5], .agg #[.int .u8 4, .int .u8 13, .int .i64 1, xv, .int .u64 0, .int .i64 0]] W fun e w' => e = .returned (.tuple #[.int .u8 1, .bool true]) ∧ Below W.heap.size W w' := by
 have := type_any [] (.slice none 0 0) (smallG true) _ _ _ _ ⟨4, 13, 1, [0, 2], 0, 0⟩ xv W (grs_nil W) h hx (by decide) hP
 rwa [typ_one.1, typ_one.2] at this
theorem awk_order (W : World) (a b c : Nat) (h : GrAt W (sl a 1) (sl b 3) (.slice none 0 0) (sl c 5) (smallG false)) : Calls Tryz.prog 12 #[.agg #[.string ⟨#[103]⟩, sl a 1, .int .u8 4, sl b 3, .slice none 0 0, sl c 5]] W fun e w' => ∃ g k, e = .returned (.slice g 4 k) ∧ IntsAt w' (.slice g 4 k) [0, 1, 2, 3] ∧ Below W.heap.size W w' := by
 refine Calls.mono (order_any (smallG false) _ _ _ _ W h (by decide +kernel)) ?_
 rintro e w' ⟨v, he, ho, hb⟩
 rw [ord_one] at ho
 have h1 := OwnI.at' ho (by decide)
 obtain ⟨g, k, rfl, _⟩ := h1.form
 exact ⟨g, k, he, h1, hb⟩
theorem awk_count (W : World) (a b c : Nat) (h : GrAt W (sl a 1) (sl b 3) (.slice none 0 0) (sl c 5) (smallG false)) : Calls Tryz.prog 24 #[.agg #[.string ⟨#[103]⟩, sl a 1, .int .u8 4, sl b 3, .slice none 0 0, sl c 5]] W fun e w' => e = .returned (.int .i64 9) ∧ Below W.heap.size W w' := by
 have := count_any (smallG false) _ _ _ _ W h (by rw [cnt_one]; decide)
 rw [cnt_one] at this
 exact this
end Go.Proofs.YtobnpllppohofaaGreatDoor
/- The law is awake: its run. -/
namespace Go.Proofs.YtobnpllppohofaaGreatDoor
open Go.RowKit

set_option maxRecDepth 100000 in
set_option maxHeartbeats 4000000 in
theorem awake_any (w : World) (hP : PartsAt w) : Calls Tryz.prog 14 #[] w fun e w' => e = .returned (.bool true) ∧ Below w.heap.size w w' := by
 have HP : Hid (∀ W, Below w.heap.size w W → PartsAt W) := fun W hb => hP.below hb
 have T0 : Hid (Below w.heap.size w w) := Below.refl _ _
 have HSA : Hid (∀ W (l1 l2 : List Int) (v1 v2 : Value), IntsAt W v1 l1 → IntsAt W v2 l2 → _) := fun W l1 l2 v1 v2 h1 h2 => same_any l1 l2 v1 v2 W h1 h2
 have S1 : True := trivial
 have S2 : True := trivial
 have S3 : True := trivial
 have S4 : True := trivial
 have S5 : True := trivial
 have S6 : True := trivial
 have K1 : True := trivial
 have K2 : True := trivial
 clear hP
 go_enter Tryz.func14, Tryz.ntmps14
 go_wp2_with (first
 | (go_at_call 7; clear S1; refine Calls.mono (by exact awk_small _ _) ?_; rintro e w1 ⟨a1, b1, c1, rfl, hG, hb⟩; have G1 : Hid _ := hG; have B1 : Hid _ := hb; have T1 : Hid (Below w.heap.size w w1) := below_trans T0.out hb; clear hG hb)
 | (go_at_call 7; clear S2; refine Calls.mono (by exact awk_small _ _) ?_; rintro e w2 ⟨a2, b2, c2, rfl, hG, hb⟩; have G2 : Hid _ := hG; have B2 : Hid _ := hb; have T2 : Hid (Below w.heap.size w w2) := below_trans T1.out hb; clear hG hb)
 | (go_at_call 5; clear K1; go_loud (refine Calls.mono (by exact awk_check2 _ _ (grs_two w2 true false a1 b1 c1 a2 b2 c2 (G1.out.below B2.out) G2.out) (HP.out _ (below_alloc T2.out _))) ?_; rintro e w3 ⟨rfl, hb⟩; have T3 : Hid (Below w.heap.size w w3) := below_trans (below_alloc T2.out _) hb; clear hb))
 | (go_at_call 7; clear S3; refine Calls.mono (by exact awk_small _ _) ?_; rintro e w4 ⟨a3, b3, c3, rfl, hG, hb⟩; have G3 : Hid _ := hG; have B3 : Hid _ := hb; have T4 : Hid (Below w.heap.size w w4) := below_trans T3.out hb; clear hG hb)
 | (go_at_call 5; clear K2; go_loud (refine Calls.mono (by exact awk_check1 _ _ (grs_one w4 true a3 b3 c3 G3.out) (HP.out _ (below_alloc T4.out _))) ?_; rintro e w5 ⟨rfl, hb⟩; have T5 : Hid (Below w.heap.size w w5) := below_trans (below_alloc T4.out _) hb; clear hb))
 | (go_at_call 7; clear S4; refine Calls.mono (by exact awk_small _ _) ?_; rintro e w6 ⟨a4, b4, c4, rfl, hG, hb⟩; have G4 : Hid _ := hG; have B4 : Hid _ := hb; have T6 : Hid (Below w.heap.size w w6) := below_trans T5.out hb; clear hG hb)
 | (go_at_call 39; go_loud (refine Calls.mono (by exact awk_type _ a4 b4 c4 _ (G4.out.below (below_alloc (Below.refl _ _) _)) (ints_new w6 [0, 2] (by decide)) (HP.out _ (below_alloc T6.out _))) ?_; rintro e w7 ⟨rfl, hb⟩; have T7 : Hid (Below w.heap.size w w7) := below_trans (below_alloc T6.out _) hb; clear hb))
 | (go_at_call 7; clear S5; refine Calls.mono (by exact awk_small _ _) ?_; rintro e w8 ⟨a5, b5, c5, rfl, hG, hb⟩; have G5 : Hid _ := hG; have B5 : Hid _ := hb; have T8 : Hid (Below w.heap.size w w8) := below_trans T7.out hb; clear hG hb)
 | (go_at_call 12; go_loud (refine Calls.mono (by exact awk_order _ a5 b5 c5 G5.out) ?_; rintro e w9 ⟨og, ok, rfl, hi, hb⟩; have HI9 : Hid _ := hi; have T9 : Hid (Below w.heap.size w w9) := below_trans T8.out hb; clear hi hb))
 | (go_at_call 10; go_loud (refine Calls.mono (by exact HSA.out _ [0, 1, 2, 3] [0, 1, 2, 3] _ _ (HI9.out.below (below_alloc (Below.refl _ _) _)) (ints_new w9 [0, 1, 2, 3] (by decide))) ?_; rintro e w10 ⟨rfl, hb⟩; have T10 : Hid (Below w.heap.size w w10) := below_trans (below_alloc T9.out _) hb; clear hb))
 | (go_at_call 7; clear S6; refine Calls.mono (by exact awk_small _ _) ?_; rintro e w11 ⟨a6, b6, c6, rfl, hG, hb⟩; have G6 : Hid _ := hG; have B6 : Hid _ := hb; have T11 : Hid (Below w.heap.size w w11) := below_trans T10.out hb; clear hG hb)
 | (go_at_call 24; go_loud (refine Calls.mono (by exact awk_count _ a6 b6 c6 G6.out) ?_; rintro e w12 ⟨rfl, hb⟩; have T12 : Hid (Below w.heap.size w w12) := below_trans T11.out hb; clear hb)))
 go_ret
 exact ⟨ret_bool (by first | rfl | simp), T12.out⟩
end Go.Proofs.YtobnpllppohofaaGreatDoor
/- Programs in memory of one's own: graphs told one behind another, one put in the place of another. -/
namespace Go.Proofs.YtobnpllppohofaaGreatDoor
open Go.RowKit

/-- a graph that lies in what has been made since -/
def GN (w w' : World) (pv vv av bv : Value) (G : Gr) : Prop := ∀ W : World, (∀ k, w.heap.size ≤ k → k < w'.heap.size → W.heap[k]? = w'.heap[k]?) → GrAt W pv vv av bv G
abbrev GV := Value × Value × Value × Value
def KG (w : World) (v : Value) (q : GV) (G : Gr) : Prop := ∃ lo hi, hi ≤ w.heap.size ∧ (∀ g, v.ownBlock = some g → g < lo ∨ hi ≤ g) ∧ ∀ W : World, (∀ k, lo ≤ k → k < hi → W.heap[k]? = w.heap[k]?) → GrAt W q.1 q.2.1 q.2.2.1 q.2.2.2 G
structure QG (w : World) (base : Nat) (v : Value) (l : List Gr) (qs : List GV) : Prop where
 row : w.ownsRow base 28 6 v l.length (grsCells l qs)
 ql : qs.length = l.length
 kid : ∀ (i : Nat) (G : Gr) (q : GV), l[i]? = some G → qs[i]? = some q → KG w v q G
theorem QG.nil (w : World) (base : Nat) : QG w base (.slice none 0 0) [] [] := ⟨World.ownsRow_nil _ _ _ _, rfl, fun i G q h => by simp at h⟩
theorem KG.same {w w' : World} {v v' : Value} {q : GV} {G : Gr} (h : KG w v q G) (hs : w.heap.size ≤ w'.heap.size) (hk : ∀ k, k < w.heap.size → v.ownBlock ≠ some k → w'.heap[k]? = w.heap[k]?) (hv : ∀ g, v'.ownBlock = some g → v.ownBlock = some g ∨ w.heap.size ≤ g) : KG w' v' q G := by
 obtain ⟨lo, hi, h1, h2, h3⟩ := h
 refine ⟨lo, hi, Nat.le_trans h1 hs, fun g hg => ?_, fun W hW => h3 W fun k k1 k2 => (hW k k1 k2).trans (hk k (by omega) fun e => ?_)⟩
 ·rcases hv g hg with e | e
  ·exact h2 g e
  ·exact .inr (by omega)
 ·rcases h2 k e with e | e <;> omega
theorem QG.below {w w' : World} {base : Nat} {v : Value} {l : List Gr} {qs : List GV} (h : QG w base v l qs) (hb : Below w.heap.size w w') : QG w' base v l qs :=
 ⟨owns_below h.row hb, h.ql, fun i G q h1 h2 => (h.kid i G q h1 h2).same hb.size (fun k hk _ => hb.block k hk) fun _ hg => .inl hg⟩
theorem grsCells_snoc : ∀ {l : List Gr} {qs : List GV} (x : Gr) (q : GV), qs.length = l.length → grsCells (l ++ [x]) (qs ++ [q]) = grsCells l qs ++ grL x q.1 q.2.1 q.2.2.1 q.2.2.2
 | [], [], x, a, _ => by simp [grsCells]
 | y :: l, b :: avs, x, a, h => by
  have := grsCells_snoc (l := l) (qs := avs) x a (by simpa using h)
  rw [List.cons_append, List.cons_append]
  show grL y b.1 b.2.1 b.2.2.1 b.2.2.2 ++ grsCells (l ++ [x]) (avs ++ [a]) = grL y b.1 b.2.1 b.2.2.1 b.2.2.2 ++ grsCells l avs ++ grL x a.1 a.2.1 a.2.2.1 a.2.2.2
  rw [this, List.append_assoc]
 | [], b :: avs, _, _, h => by simp at h
 | y :: l, [], _, _, h => by simp at h
theorem QG.push {w w1 w2 : World} {base : Nat} {v v2 : Value} {l : List Gr} {qs : List GV} {x : Gr} {q : GV} (h : QG w base v l qs) (hb : Below w.heap.size w w1) (hq : ∀ W : World, (∀ k, w.heap.size ≤ k → k < w1.heap.size → W.heap[k]? = w1.heap[k]?) → GrAt W q.1 q.2.1 q.2.2.1 q.2.2.2 x)
  (ho : w2.ownsRow base 28 6 v2 (l.length + 1) (grsCells l qs ++ grL x q.1 q.2.1 q.2.2.1 q.2.2.2)) (hg : w1.grownBy w2 v.ownBlock) (hat : v2.ownBlock = v.ownBlock ∨ v2.ownBlock = some w1.heap.size) : QG w2 base v2 (l ++ [x]) (qs ++ [q]) := by
 have hvb : ∀ g, v.ownBlock = some g → g < w.heap.size := fun g hg => (h.row.lt g hg).2
 have hkeep : ∀ k, k < w1.heap.size → v.ownBlock ≠ some k → w2.heap[k]? = w1.heap[k]? := fun k hk hn => hg.block k hk (fun e => hn e.symm)
 refine ⟨?_, by simp [h.ql], fun i G qq h1 h2 => ?_⟩
 ·rw [grsCells_snoc x q h.ql, List.length_append]; exact ho
 ·rcases app_cases h1 with ⟨hi, h1⟩ | ⟨hi, rfl⟩
  ·rcases app_cases h2 with ⟨_, h2⟩ | ⟨hi2, _⟩
   ·refine (((QG.below h hb).kid i G qq h1 h2)).same hg.size hkeep fun g hg' => ?_
    rcases hat with e | e
    ·exact .inl (e ▸ hg')
    ·rw [e] at hg'; cases hg'; exact .inr (Nat.le_refl _)
   ·rw [h.ql] at hi2; omega
  ·rcases app_cases h2 with ⟨hi2, _⟩ | ⟨_, rfl⟩
   ·rw [h.ql] at hi2; omega
   ·refine ⟨w.heap.size, w1.heap.size, hg.size, fun g hg' => ?_, fun W hW => hq W fun k k1 k2 => (hW k k1 k2).trans (hkeep k k2 fun e => ?_)⟩
    ·rcases hat with e | e
     ·rw [e] at hg'; exact .inl (hvb g hg')
     ·rw [e] at hg'; cases hg'; exact .inr (Nat.le_refl _)
    ·have := hvb k e; omega
theorem grsCells_set : ∀ {l : List Gr} {qs : List GV} {i : Nat} {x y : Gr} {a b : GV}, l[i]? = some x → qs[i]? = some a → (((((((grsCells l qs).set (i * 6) (.string y.name)).set (i * 6 + 1) b.1).set (i * 6 + 2) (bytV y.result)).set (i * 6 + 3) b.2.1).set (i * 6 + 4) b.2.2.1).set (i * 6 + 5) b.2.2.2) = grsCells (l.set i y) (qs.set i b)
 | z :: l, c :: qs, 0, x, y, a, b, hx, ha => by
  simp [grsCells, grL]
 | z :: l, c :: qs, i + 1, x, y, a, b, hx, ha => by
  have := grsCells_set (l := l) (qs := qs) (i := i) (y := y) (b := b) (by simpa using hx) (by simpa using ha)
  rw [List.set_cons_succ, List.set_cons_succ]
  show ((((((grL z c.1 c.2.1 c.2.2.1 c.2.2.2 ++ grsCells l qs).set ((i + 1) * 6) (.string y.name)).set ((i + 1) * 6 + 1) b.1).set ((i + 1) * 6 + 2) (bytV y.result)).set ((i + 1) * 6 + 3) b.2.1).set ((i + 1) * 6 + 4) b.2.2.1).set ((i + 1) * 6 + 5) b.2.2.2 = grL z c.1 c.2.1 c.2.2.1 c.2.2.2 ++ grsCells (l.set i y) (qs.set i b)
  rw [← this]
  have h6 : (grL z c.1 c.2.1 c.2.2.1 c.2.2.2).length = 6 := rfl
  rw [set_six0 h6, set_six h6, set_six h6, set_six h6, set_six h6, set_six h6]
 | [], _, _, _, _, _, _, hx, _ => by simp at hx
 | _ :: _, [], _, _, _, _, _, _, ha => by simp at ha
/-- six cells of an element are told -/
abbrev putG (W : World) (g i : Nat) (u0 u1 u2 u3 u4 u5 : Value) : World := (((((W.setCell ⟨g, i * 6, none⟩ u0).setCell ⟨g, i * 6 + 1, none⟩ u1).setCell ⟨g, i * 6 + 2, none⟩ u2).setCell ⟨g, i * 6 + 3, none⟩ u3).setCell ⟨g, i * 6 + 4, none⟩ u4).setCell ⟨g, i * 6 + 5, none⟩ u5
theorem putG_keep (W : World) (g i : Nat) (u0 u1 u2 u3 u4 u5 : Value) {q : Nat} (hq : q ≠ g) : (putG W g i u0 u1 u2 u3 u4 u5).heap[q]? = W.heap[q]? := by
 have st : ∀ (V : World) (j : Nat) (u : Value), (V.setCell ⟨g, j, none⟩ u).heap[q]? = V.heap[q]? := fun V j u => Below.heap_setCell V ⟨g, j, none⟩ u q (by show q ≠ g; exact hq)
 unfold putG
 rw [st, st, st, st, st, st]
theorem putG_size (W : World) (g i : Nat) (u0 u1 u2 u3 u4 u5 : Value) : (putG W g i u0 u1 u2 u3 u4 u5).heap.size = W.heap.size := by simp [World.setCell]
theorem QG.put {w w1 : World} {base g n c : Nat} {l : List Gr} {qs : List GV} {i : Nat} {y : Gr} {q : GV} (h : QG w base (.slice (some ⟨g, 0, none⟩) n c) l qs) (hn : n = l.length) (hi : i < l.length) (hb : Below w.heap.size w w1) (hq : ∀ W : World, (∀ k, w.heap.size ≤ k → k < w1.heap.size → W.heap[k]? = w1.heap[k]?) → GrAt W q.1 q.2.1 q.2.2.1 q.2.2.2 y) :
  QG (putG w1 g i (.string y.name) q.1 (bytV y.result) q.2.1 q.2.2.1 q.2.2.2) base (.slice (some ⟨g, 0, none⟩) n c) (l.set i y) (qs.set i q) := by
 have h1 := h.below hb
 have hgl : g < w.heap.size := (h.row.lt g rfl).2
 have hxs : l[i]? = some l[i] := List.getElem?_eq_getElem hi
 have hqs : qs[i]? = some (qs[i]'(by rw [h.ql]; exact hi)) := List.getElem?_eq_getElem _
 refine ⟨?_, by simp [h.ql], fun j G qq e1 e2 => ?_⟩
 ·rw [List.length_set, ← grsCells_set hxs hqs]
  subst hn
  exact own_six h1.row _ _ _ _ _ _
 ·by_cases hj : i = j
  ·subst hj
   rw [List.getElem?_set] at e1 e2
   simp only [if_true] at e1 e2
   rw [if_pos hi] at e1
   rw [if_pos (by rw [h.ql]; exact hi)] at e2
   cases e1
   cases e2
   refine ⟨w.heap.size, w1.heap.size, by rw [putG_size]; exact Nat.le_refl _, fun g' hg' => ?_, fun W hW => hq W fun k k1 k2 => (hW k k1 k2).trans (putG_keep _ _ _ _ _ _ _ _ _ (by omega))⟩
   ·cases hg'; exact .inl hgl
  ·rw [List.getElem?_set_ne hj] at e1 e2
   exact (h1.kid j G qq e1 e2).same (by rw [putG_size]; exact Nat.le_refl _) (fun k _ hne => putG_keep _ _ _ _ _ _ _ _ _ (fun e => hne (by rw [e]; rfl))) fun g' hg' => .inl hg'
theorem QG.at' {w : World} {base : Nat} {v : Value} {l : List Gr} {qs : List GV} (h : QG w base v l qs) (hn : l.length ≤ 1000000) : GrsAt w v l := by
 refine ⟨qs, h.ql, row_own h.row hn, fun i x q hx hq => ?_⟩
 obtain ⟨lo, hi, _, _, h3⟩ := h.kid i x q hx hq
 exact h3 w fun _ _ _ => rfl
theorem CG.new {w w' : World} {G : Gr} {B : Nat} {pv vv av bv : Value} {ivs : List Value} {avss : List (List Value)} (h : CG w w' G B pv vv av bv ivs avss) (hpl : G.params.length ≤ 1000000) (hml : G.vars.length ≤ 1000000) (hal : G.arrs.length ≤ 1000000) (hl : G.blocks.length ≤ 1000000) (hli : ∀ b ∈ G.blocks, b.ins.length ≤ 1000000) (hla : ∀ b ∈ G.blocks, ∀ x ∈ b.ins, x.args.length ≤ 1000000) (hw : ∀ b ∈ G.blocks, ∀ x ∈ b.ins, 0 ≤ x.bits ∧ x.bits < 18446744073709551616) : GN w w' pv vv av bv G := fun _ hW =>
 ⟨row_own (owns_same h.ps fun g hg => hW g (h.ps.lt g hg).1 (h.ps.lt g hg).2) hpl, row_own (owns_same h.vs fun g hg => hW g (h.vs.lt g hg).1 (h.vs.lt g hg).2) hml, row_own (owns_same h.ars fun g hg => hW g (h.ars.lt g hg).1 (h.ars.lt g hg).2) hal,
  CB.at' ⟨owns_same h.bs.row fun g hg => hW g (Nat.le_trans h.lo (h.bs.row.lt g hg).1) (h.bs.row.lt g hg).2, h.bs.al, h.bs.vl, fun i b iv avs h1 h2 h3 => (h.bs.kid i b iv avs h1 h2 h3).same fun g hg => hW g (Nat.le_trans h.lo ((h.bs.kid i b iv avs h1 h2 h3).lt hg).1) ((h.bs.kid i b iv avs h1 h2 h3).lt hg).2, h.bs.ap, h.bs.pw⟩ hl hli hla hw⟩
end Go.Proofs.YtobnpllppohofaaGreatDoor
