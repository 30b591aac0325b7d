/- The law's own: is a program too great? -/
import Derived.Test.YtajaijilfclhpaaGreatDoorGBoxM
import Derived.Test.YtajaijilfclhpaaGreatDoorGChk3M
import Derived.Test.YtajaijilfclhpaaGreatDoorKGaM
import Derived.Test.YtajaijilfclhpaaGreatDoorNEvM
import Derived.Test.YtajaijilfclhpaaGreatDoorNSmM
namespace Go.Proofs.YtajaijilfclhpaaGreatDoor
open Go.RowKit

def OkG17 (G : Gr) : Prop := G.blocks.length ≤ 100 ∧ G.vars.length ≤ 1500 ∧ ∀ b ∈ G.blocks, b.ins.length ≤ 1500
def OkP17 (p : List Gr) : Prop := (p.length ≤ 8 ∨ 64 < p.length) ∧ ∀ G ∈ p, OkG17 G
set_option maxRecDepth 100000 in
set_option maxHeartbeats 2000000 in
theorem great17_any (p : List Gr) (ppv : Value) (w : World) (hp : GrsAt w ppv p) :
  Calls Tryz.prog 7 #[ppv] w fun e w' => ∃ b, e = .returned (.bool b) ∧ Hid (b = false → OkP17 p) ∧ w' = w := by
 obtain ⟨qa, qc, rfl, hql⟩ := hp.form
 have HG : Hid (∀ i, i < p.length → _) := fun i hi => hp.get (i := i) hi
 obtain ⟨C, hCt, hCf, hCn⟩ : ∃ C : Bool → Prop, C true ∧ (OkP17 p → C false) ∧ (∀ b, C b → Hid (b = false → OkP17 p)) := ⟨fun b => b = false → OkP17 p, (fun h => nomatch h), (fun h _ => h), (fun b h => h)⟩
 have HCT : Hid (C true) := hCt
 have HCF : Hid ((p.length ≤ 8 ∨ 64 < p.length) → (∀ j, j < p.length → OkG17 (p.getD j default)) → C false) := fun h1 h2 => hCf ⟨h1, fun G hG => by
  obtain ⟨j, hj, e⟩ := List.mem_iff_getElem.1 hG
  have h3 := h2 j hj
  rw [List.getD, List.getElem?_eq_getElem hj] at h3
  rw [← e]
  exact h3⟩
 refine Calls.mono (R := fun e w' => ∃ b, e = .returned (.bool b) ∧ C b ∧ w' = w) ?_ (fun e w' ⟨b, he, hc, hb⟩ => ⟨b, he, hCn b hc, hb⟩)
 clear hCt hCf hCn hp
 generalize p.length = n at *
 go_enter Tryz.func7, Tryz.ntmps7
 go_wp2
 go_loopw [3, 4] (fun vn vi wr => ∃ (x i : Nat), vn = .int .i64 (x : Int) ∧ vi = .int .i64 (i : Int) ∧ i ≤ n ∧ x ≤ 1500 ∧ Hid (∀ j, j < i → OkG17 (p.getD j default)) ∧ wr = w) (fun _ vi _ => n - (intOf vi).toNat)
 case atStart => exact ⟨0, 0, rfl, rfl, by omega, by omega, (fun j h => by omega), rfl⟩
 case round =>
  obtain ⟨x, i, rfl, rfl, hi, hx, hr, hw⟩ := hrel
  have HR : Hid (∀ j, j < i → OkG17 (p.getD j default)) := hr.out
  clear hr
  subst hw
  by_cases hin : i < n
  ·obtain ⟨g, o, pv, vv, av, bv, rfl, hg, c0, c1, c2, c3, c4, c5, hG⟩ := HG.out i hin
   have hin' : (i : Int) < n := by omega
   obtain ⟨pa, pc, va, vc, aa, ac, ba, bc, rfl, rfl, rfl, rfl, _, hml, _, hbl⟩ := hG.openF
   have HBB : Hid (∀ j, j < (p.getD i default).blocks.length → _) := fun j hj => hG.bs.get (i := j) hj
   have HOK : Hid ((p.getD i default).blocks.length ≤ 100 → (p.getD i default).vars.length ≤ 1500 → (∀ j, j < (p.getD i default).blocks.length → ((p.getD i default).blocks.getD j default).ins.length ≤ 1500) → ∀ j, j < i + 1 → OkG17 (p.getD j default)) := fun h1 h2 h3 j hj => by
    by_cases e : j = i
    ·subst e
     refine ⟨h1, h2, fun b hb => ?_⟩
     obtain ⟨q, hq, e⟩ := List.mem_iff_getElem.1 hb
     have h4 := h3 q hq
     rw [List.getD, List.getElem?_eq_getElem hq] at h4
     rw [← e]
     exact h4
    ·exact HR.out j (by omega)
   clear hG HG HCF HR c0 c1 c2 c4
   generalize (p.getD i default).blocks = bs at *
   generalize (p.getD i default).vars.length = m at *
   generalize (p.getD i default).params.length = pl at *
   generalize (p.getD i default).arrs.length = al at *
   generalize bs.length = nb at *
   by_cases h1 : 100 < nb
   ·have h1' : (100 : Int) < nb := by omega
    clear HBB HOK
    go_wp2
    go_ret
    first | exact ⟨true, rfl, HCT.out, rfl⟩ | exact Or.inr ⟨rfl, HCT.out, rfl⟩ | exact Or.inr HCT.out
   have h1' : ¬ (100 : Int) < nb := by omega
   by_cases h2 : 1500 < m
   ·have h2' : (1500 : Int) < m := by omega
    clear HBB HOK
    go_wp2
    go_ret
    first | exact ⟨true, rfl, HCT.out, rfl⟩ | exact Or.inr ⟨rfl, HCT.out, rfl⟩ | exact Or.inr HCT.out
   have h2' : ¬ (1500 : Int) < m := by omega
   go_wp2
   go_loopw [3, 5] (fun vn vb wq => ∃ (y j : Nat), vn = .int .i64 (y : Int) ∧ vb = .int .i64 (j : Int) ∧ j ≤ nb ∧ y ≤ 1500 ∧ Hid (∀ q, q < j → (bs.getD q default).ins.length ≤ 1500) ∧ wq = wr) (fun _ vb _ => nb - (intOf vb).toNat)
   case atStart => exact ⟨x, 0, rfl, rfl, by omega, hx, (fun q h => by omega), rfl⟩
   case round =>
    obtain ⟨y, j, rfl, rfl, hj, hy, hq, hw⟩ := hrel
    have HQ : Hid (∀ q, q < j → (bs.getD q default).ins.length ≤ 1500) := hq.out
    clear hq
    subst hw
    by_cases hjn : j < nb
    ·obtain ⟨g2, o2, iv, rfl, hg2, k0, k1, k2, k3, k4, k5, hins⟩ := HBB.out j hjn
     obtain ⟨ia, ic, rfl, hil⟩ := hins.form
     have hjn' : (j : Int) < nb := by omega
     have HQ2 : Hid ((bs.getD j default).ins.length ≤ 1500 → ∀ q, q < j + 1 → (bs.getD q default).ins.length ≤ 1500) := fun h q hq => by
      by_cases e : q = j
      ·subst e; exact h
      ·exact HQ.out q (by omega)
     clear hins HBB HOK HQ k1 k2 k3 k4 k5
     generalize (bs.getD j default).ins.length = L at *
     by_cases h3 : 1500 < y + L
     ·have h3' : (1500 : Int) < y + L := by omega
      go_wp2
      go_ret
      first | exact ⟨true, rfl, HCT.out, rfl⟩ | exact Or.inr ⟨rfl, HCT.out, rfl⟩ | exact Or.inr HCT.out
     ·have h3' : ¬ (1500 : Int) < y + L := by omega
      go_wp2
      go_roundw
      case rel => exact ⟨y + L, j + 1, by first | rfl | (congr 1; omega), by first | rfl | (congr 1; omega), by omega, by omega, HQ2.out (by omega), by first | rfl | trivial⟩
      case measure => simp [intOf]; omega
    ·obtain rfl : j = nb := by omega
     have HX : Hid _ := HOK.out (by omega) (by omega) HQ.out
     clear HBB HOK HQ
     go_wp2
     go_roundw
     case rel => exact ⟨y, i + 1, rfl, by first | rfl | (congr 1; omega), by omega, hy, HX.out, by first | rfl | trivial⟩
     case measure => simp [intOf]; omega
  ·obtain rfl : i = n := by omega
   have HE := HCF.out
   clear HG HCF
   by_cases h1 : i ≤ 8
   ·have h1' : ¬ (8 : Int) < i := by omega
    have HF : Hid (C false) := HE (Or.inl h1) HR.out
    clear HE HR
    go_wp2
    go_ret
    first | exact ⟨false, rfl, HF.out, rfl⟩ | exact Or.inl ⟨rfl, HF.out, rfl⟩ | exact Or.inl HF.out
   have h1' : (8 : Int) < i := by omega
   by_cases h2 : i ≤ 64
   ·have h2' : (i : Int) ≤ 64 := by omega
    clear HE HR
    go_wp2
    go_ret
    first | exact ⟨true, rfl, HCT.out, rfl⟩ | exact Or.inr ⟨rfl, HCT.out, rfl⟩ | exact Or.inr HCT.out
   ·have h2' : ¬ (i : Int) ≤ 64 := by omega
    have HF : Hid (C false) := HE (Or.inr (by omega)) HR.out
    clear HE HR
    go_wp2
    go_ret
    first | exact ⟨false, rfl, HF.out, rfl⟩ | exact Or.inl ⟨rfl, HF.out, rfl⟩ | exact Or.inl HF.out
end Go.Proofs.YtajaijilfclhpaaGreatDoor
/- Marks that are structs. -/
namespace Go.Proofs.YtajaijilfclhpaaGreatDoor
open Go.RowKit

set_option maxRecDepth 100000 in
set_option maxHeartbeats 2000000 in
theorem markA_any (k i : Int) (h1 : 0 ≤ k) (h2 : k ≤ 2000000) (h3 : 0 ≤ i) (h4 : i ≤ 1000000000) (w : World) : Calls Tryz.prog 50 #[.int .i64 k, .int .i64 i] w fun e w' => e = .returned (.agg (mkA k i).toArray) ∧ Below w.heap.size w w' := by
 have HM : Hid (∀ W : World, _) := fun W => mark_any k i h1 h2 h3 h4 W
 go_enter Tryz.func50, Tryz.ntmps50
 go_wp2_with (go_at_call 49; go_loud (refine Calls.mono (by exact HM.out _) ?_; rintro e w2 ⟨rfl, rfl⟩))
 exact bodyPost_ret (results_cell_row rfl _ _ w.heap.size 50 (mkA k i).toArray _ _ rfl (heap_alloc_new w _) Tryz.underlying50 rfl (by rfl)) rfl ⟨rfl, below_alloc (Below.refl _ _) _⟩
set_option maxRecDepth 100000 in
set_option maxHeartbeats 2000000 in
theorem markN_any (k i : Int) (h1 : 0 ≤ k) (h2 : k ≤ 2000000) (h3 : 0 ≤ i) (h4 : i ≤ 1000000000) (w : World) : Calls Tryz.prog 139 #[.int .i64 k, .int .i64 i] w fun e w' => e = .returned (.agg (mkN k i).toArray) ∧ Below w.heap.size w w' := by
 have HM : Hid (∀ W : World, _) := fun W => mark_any k i h1 h2 h3 h4 W
 go_enter Tryz.func139, Tryz.ntmps139
 go_wp2_with (go_at_call 49; go_loud (refine Calls.mono (by exact HM.out _) ?_; rintro e w2 ⟨rfl, rfl⟩))
 exact bodyPost_ret (results_cell_row rfl _ _ w.heap.size 55 (mkN k i).toArray _ _ rfl (heap_alloc_new w _) Tryz.underlying55 rfl (by rfl)) rfl ⟨rfl, below_alloc (Below.refl _ _) _⟩
set_option maxRecDepth 100000 in
set_option maxHeartbeats 2000000 in
theorem markB_any (k i : Int) (h1 : 0 ≤ k) (h2 : k ≤ 2000000) (h3 : 0 ≤ i) (h4 : i ≤ 1000000000) (w : World) : Calls Tryz.prog 52 #[.int .i64 k, .int .i64 i] w fun e w' => e = .returned (.agg (mkB k i).toArray) ∧ Below w.heap.size w w' := by
 have HM : Hid (∀ W : World, _) := fun W => mark_any k i h1 h2 h3 h4 W
 go_enter Tryz.func52, Tryz.ntmps52
 go_wp2_with (go_at_call 49; go_loud (refine Calls.mono (by exact HM.out _) ?_; rintro e w2 ⟨rfl, rfl⟩))
 exact bodyPost_ret (results_cell_row rfl _ _ w.heap.size 63 (mkB k i).toArray _ _ rfl (heap_alloc_new w _) Tryz.underlying63 rfl (by rfl)) rfl ⟨rfl, below_alloc (Below.refl _ _) _⟩
end Go.Proofs.YtajaijilfclhpaaGreatDoor
/- Lists of numbers, of types, of arrays, lent. -/
namespace Go.Proofs.YtajaijilfclhpaaGreatDoor
open Go.RowKit

set_option maxRecDepth 100000 in
set_option maxHeartbeats 2000000 in
theorem lentI_any (l : List Int) (v : Value) (w : World) (h : IntsAt w v l) (hl : l.length ≤ 1100000) : Calls Tryz.prog 22 #[v] w fun e w' => ∃ v', e = .returned v' ∧ LentI w' w.heap.size w'.heap.size v' l ∧ Below w.heap.size w w' := by
 obtain ⟨i0, hi0, hz0, hz1, hz2⟩ := info_parts infoKI
 obtain ⟨O, hmk, hO⟩ := roomKI l.length (by omega)
 obtain ⟨a, c, rfl, _⟩ := row_form h
 have HO : Hid _ := hO w
 have HB : Hid (Below w.heap.size w (w.alloc O)) := below_alloc (Below.refl _ _) _
 have HI : Hid (RowAt (w.alloc O) (.slice a l.length c) l.length (l.map intV)) := RowAt.below h HB.out
 have HM : Hid (∀ (i : Nat) (W : World), i < 12 → _) := fun i W hi => mark_any 1 (i : Int) (by omega) (by omega) (by omega) (by omega) W
 have HL : Hid ((l.map intV).length = l.length * 1) := (by show _ = _; simp)
 have H1 : Hid (∀ u ∈ (l.map intV), u.oneCell' = true) := ints_one l
 have HR : Hid (∀ (w' : World) (v' : Value) (g cap : Nat), RowL w' w.heap.size w'.heap.size 3 1 (mkI 1) v' l.length (l.map intV) g cap → LentI w' w.heap.size w'.heap.size v' l) := fun w' v' g cap h => ⟨g, cap, h⟩
 generalize (l.map intV) = cs at *
 generalize l.length = n at *
 clear h hO
 go_enter Tryz.func22, Tryz.ntmps22
 go_wp2_with (at_builtin; clear hmk; go_loud (refine wpList_appendC _ rfl _ _ 22 rfl rfl w.heap.size 3 i0 (.int .i64 0) 1 8 Tryz.underlying22 hi0 hz0 hz1 hz2 rfl (by decide) _ 0 [] rfl HO.out a n c cs rfl HI.out HL.out H1.out ?c0 ?c1 ?c2 ?_))
 try (case c0 => unfold maxLen; omega)
 try (case c1 => omega)
 try (case c2 => simp)
 intro v1 w1 ho hg
 have HB1 : Hid (Below w.heap.size w w1) := below_grown HB.out hg (fun q hq => by cases hq; exact Nat.le_refl _)
 have HO1 : Hid (w1.ownsRow w.heap.size 3 1 v1 (n + 0) (cs ++ mksL (mkI 1) 0)) := by
  show World.ownsRow _ _ _ _ _ _ _
  simpa [mksL] using ho
 clear ho hg HO HB HI H1
 go_wp2
 go_loopw [3, 4] (fun vo vi wr => ∃ i : Nat, vi = .int .i64 i ∧ i ≤ 12 ∧ Hid (Below w.heap.size w wr ∧ wr.ownsRow w.heap.size 3 1 vo (n + i) (cs ++ mksL (mkI 1) i))) (fun _ vi _ => 12 - (intOf vi).toNat)
 case atStart => exact ⟨0, rfl, by omega, HB1.out, HO1.out⟩
 case round =>
  obtain ⟨i, rfl, hi, hr⟩ := hrel
  clear HB1 HO1
  by_cases hin : i < 12
  ·have hin' : (i : Int) < 12 := by omega
   have HOW : Hid (wr.ownsRow w.heap.size 3 1 _ (n + i) (cs ++ mksL (mkI 1) i)) := hr.out.2
   go_wp2_with (first
    | (go_at_call 49; go_loud (refine Calls.mono (by exact HM.out i _ hin) ?_; rintro e w2 ⟨rfl, rfl⟩))
    | (at_builtin; go_loud (refine wpList_append_own_at _ rfl _ _ 22 rfl w.heap.size 3 i0 (.int .i64 0) 1 8 Tryz.underlying22 hi0 hz0 hz1 hz2 rfl (by decide) _ (n + i) (cs ++ mksL (mkI 1) i) rfl (World.ownsRow.alloc HOW.out _) ⟨wr.heap.size, 0, none⟩ 1 1 (mkI 1 i) rfl rfl ?d1 ?d2 ?d3 ?d4 ?d5 ?_)))
   case d1 => exact cell_one_new _ (intV (markI 1 i)) 3
   case d2 => intro u hu; simp at hu; subst hu; rfl
   case d3 => unfold maxLen; omega
   case d4 => omega
   case d5 => have := hr.out.1.size; simp; omega
   intro v2 w2 ho hg2 _ hat
   have HF : Hid (Below w.heap.size w w2) := below_grown (below_alloc hr.out.1 (.cells #[intV (markI 1 i)] 3)) hg2 (fun q hqq => (World.ownsRow.lt HOW.out q hqq).1)
   have HO : Hid (w2.ownsRow w.heap.size 3 1 v2 (n + (i + 1)) (cs ++ mksL (mkI 1) (i + 1))) := by
    show World.ownsRow _ _ _ _ _ _ _
    rw [mksL_succ, ← Nat.add_assoc]
    exact ho
   clear ho hg2 hat
   go_wp2
   go_roundw
   case rel => exact ⟨i + 1, by first | rfl | (congr 1; omega), by omega, HF.out, HO.out⟩
   case measure => simp [intOf]; omega
  ·obtain rfl : i = 12 := by omega
   have HOW := hr.out.2
   obtain ⟨g, cap, rfl, q1, q2, q3, q4⟩ := own_form (n := n + 11) HOW
   have hsl := cutKI (g := g) (m := n + 11 + 1) (c := cap) (f := n) (by omega)
   have HW : Hid (RowL wr w.heap.size wr.heap.size 3 1 (mkI 1) (.slice (some ⟨g, 0, none⟩) n cap) n cs g cap) := ⟨rfl, HOW, HL.out, q2⟩
   clear HOW
   go_wp2
   go_ret
   exact ⟨_, rfl, HR.out _ _ _ _ HW.out, hr.out.1⟩
set_option maxRecDepth 100000 in
set_option maxHeartbeats 2000000 in
theorem lentT_any (l : List Int) (v : Value) (w : World) (h : TysAt w v l) (hl : l.length ≤ 1100000) : Calls Tryz.prog 23 #[v] w fun e w' => ∃ v', e = .returned v' ∧ LentT w' w.heap.size w'.heap.size v' l ∧ Below w.heap.size w w' := by
 obtain ⟨i0, hi0, hz0, hz1, hz2⟩ := info_parts infoKT
 obtain ⟨O, hmk, hO⟩ := roomKT l.length (by omega)
 obtain ⟨a, c, rfl, _⟩ := row_form h
 have HO : Hid _ := hO w
 have HB : Hid (Below w.heap.size w (w.alloc O)) := below_alloc (Below.refl _ _) _
 have HI : Hid (RowAt (w.alloc O) (.slice a l.length c) l.length (l.map bytV)) := RowAt.below h HB.out
 have HM : Hid (∀ (i : Nat) (W : World), i < 12 → _) := fun i W hi => mark_any 1 (i : Int) (by omega) (by omega) (by omega) (by omega) W
 have HL : Hid ((l.map bytV).length = l.length * 1) := (by show _ = _; simp)
 have H1 : Hid (∀ u ∈ (l.map bytV), u.oneCell' = true) := tys_oneK l
 have HR : Hid (∀ (w' : World) (v' : Value) (g cap : Nat), RowL w' w.heap.size w'.heap.size 23 1 (mkT 1) v' l.length (l.map bytV) g cap → LentT w' w.heap.size w'.heap.size v' l) := fun w' v' g cap h => ⟨g, cap, h⟩
 generalize (l.map bytV) = cs at *
 generalize l.length = n at *
 clear h hO
 go_enter Tryz.func23, Tryz.ntmps23
 go_wp2_with (at_builtin; clear hmk; go_loud (refine wpList_appendC _ rfl _ _ 24 rfl rfl w.heap.size 23 i0 (.int .u8 0) 1 1 Tryz.underlying24 hi0 hz0 hz1 hz2 rfl (by decide) _ 0 [] rfl HO.out a n c cs rfl HI.out HL.out H1.out ?c0 ?c1 ?c2 ?_))
 try (case c0 => unfold maxLen; omega)
 try (case c1 => omega)
 try (case c2 => simp)
 intro v1 w1 ho hg
 have HB1 : Hid (Below w.heap.size w w1) := below_grown HB.out hg (fun q hq => by cases hq; exact Nat.le_refl _)
 have HO1 : Hid (w1.ownsRow w.heap.size 23 1 v1 (n + 0) (cs ++ mksL (mkT 1) 0)) := by
  show World.ownsRow _ _ _ _ _ _ _
  simpa [mksL] using ho
 clear ho hg HO HB HI H1
 go_wp2
 go_loopw [3, 4] (fun vo vi wr => ∃ i : Nat, vi = .int .i64 i ∧ i ≤ 12 ∧ Hid (Below w.heap.size w wr ∧ wr.ownsRow w.heap.size 23 1 vo (n + i) (cs ++ mksL (mkT 1) i))) (fun _ vi _ => 12 - (intOf vi).toNat)
 case atStart => exact ⟨0, rfl, by omega, HB1.out, HO1.out⟩
 case round =>
  obtain ⟨i, rfl, hi, hr⟩ := hrel
  clear HB1 HO1
  by_cases hin : i < 12
  ·have hin' : (i : Int) < 12 := by omega
   have HOW : Hid (wr.ownsRow w.heap.size 23 1 _ (n + i) (cs ++ mksL (mkT 1) i)) := hr.out.2
   go_wp2_with (first
    | (go_at_call 49; go_loud (refine Calls.mono (by exact HM.out i _ hin) ?_; rintro e w2 ⟨rfl, rfl⟩))
    | (at_builtin; go_loud (refine wpList_append_own_at _ rfl _ _ 24 rfl w.heap.size 23 i0 (.int .u8 0) 1 1 Tryz.underlying24 hi0 hz0 hz1 hz2 rfl (by decide) _ (n + i) (cs ++ mksL (mkT 1) i) rfl (World.ownsRow.alloc HOW.out _) ⟨wr.heap.size, 0, none⟩ 1 1 (mkT 1 i) rfl rfl ?d1 ?d2 ?d3 ?d4 ?d5 ?_)))
   case d1 => exact cell_one_new _ (bytV (markI 1 i % 256)) 23
   case d2 => intro u hu; simp at hu; subst hu; rfl
   case d3 => unfold maxLen; omega
   case d4 => omega
   case d5 => have := hr.out.1.size; simp; omega
   intro v2 w2 ho hg2 _ hat
   have HF : Hid (Below w.heap.size w w2) := below_grown (below_alloc hr.out.1 (.cells #[bytV (markI 1 i % 256)] 23)) hg2 (fun q hqq => (World.ownsRow.lt HOW.out q hqq).1)
   have HO : Hid (w2.ownsRow w.heap.size 23 1 v2 (n + (i + 1)) (cs ++ mksL (mkT 1) (i + 1))) := by
    show World.ownsRow _ _ _ _ _ _ _
    rw [mksL_succ, ← Nat.add_assoc]
    exact ho
   clear ho hg2 hat
   go_wp2
   go_roundw
   case rel => exact ⟨i + 1, by first | rfl | (congr 1; omega), by omega, HF.out, HO.out⟩
   case measure => simp [intOf]; omega
  ·obtain rfl : i = 12 := by omega
   have HOW := hr.out.2
   obtain ⟨g, cap, rfl, q1, q2, q3, q4⟩ := own_form (n := n + 11) HOW
   have hsl := cutKT (g := g) (m := n + 11 + 1) (c := cap) (f := n) (by omega)
   have HW : Hid (RowL wr w.heap.size wr.heap.size 23 1 (mkT 1) (.slice (some ⟨g, 0, none⟩) n cap) n cs g cap) := ⟨rfl, HOW, HL.out, q2⟩
   clear HOW
   go_wp2
   go_ret
   exact ⟨_, rfl, HR.out _ _ _ _ HW.out, hr.out.1⟩
set_option maxRecDepth 100000 in
set_option maxHeartbeats 2000000 in
theorem lentA_any (l : List (Int × Int)) (v : Value) (w : World) (h : ArrsAt w v l) (hl : l.length ≤ 1100000) : Calls Tryz.prog 24 #[v] w fun e w' => ∃ v', e = .returned v' ∧ LentA w' w.heap.size w'.heap.size v' l ∧ Below w.heap.size w w' := by
 obtain ⟨i0, hi0, hz0, hz1, hz2⟩ := info_parts infoKA
 obtain ⟨O, hmk, hO⟩ := roomKA l.length (by omega)
 obtain ⟨a, c, rfl, _⟩ := row_form h
 have HO : Hid _ := hO w
 have HB : Hid (Below w.heap.size w (w.alloc O)) := below_alloc (Below.refl _ _) _
 have HI : Hid (RowAt (w.alloc O) (.slice a l.length c) l.length (arrCells l)) := RowAt.below h HB.out
 have HM : Hid (∀ (i : Nat) (W : World), i < 12 → _) := fun i W hi => markA_any 1 (i : Int) (by omega) (by omega) (by omega) (by omega) W
 have HL : Hid ((arrCells l).length = l.length * 2) := (arrs_lenK l)
 have H1 : Hid (∀ u ∈ (arrCells l), u.oneCell' = true) := arrs_oneK l
 have HR : Hid (∀ (w' : World) (v' : Value) (g cap : Nat), RowL w' w.heap.size w'.heap.size 50 2 (mkA 1) v' l.length (arrCells l) g cap → LentA w' w.heap.size w'.heap.size v' l) := fun w' v' g cap h => ⟨g, cap, h⟩
 generalize (arrCells l) = cs at *
 generalize l.length = n at *
 clear h hO
 go_enter Tryz.func24, Tryz.ntmps24
 go_wp2_with (at_builtin; clear hmk; go_loud (refine wpList_appendC _ rfl _ _ 25 rfl rfl w.heap.size 50 i0 (.agg #[.int .u8 0, .int .i64 0]) 2 16 Tryz.underlying25 hi0 hz0 hz1 hz2 rfl (by decide) _ 0 [] rfl HO.out a n c cs rfl HI.out HL.out H1.out ?c0 ?c1 ?c2 ?_))
 try (case c0 => unfold maxLen; omega)
 try (case c1 => omega)
 try (case c2 => simp)
 intro v1 w1 ho hg
 have HB1 : Hid (Below w.heap.size w w1) := below_grown HB.out hg (fun q hq => by cases hq; exact Nat.le_refl _)
 have HO1 : Hid (w1.ownsRow w.heap.size 50 2 v1 (n + 0) (cs ++ mksL (mkA 1) 0)) := by
  show World.ownsRow _ _ _ _ _ _ _
  simpa [mksL] using ho
 clear ho hg HO HB HI H1
 go_wp2
 go_loopw [3, 4] (fun vo vi wr => ∃ i : Nat, vi = .int .i64 i ∧ i ≤ 12 ∧ Hid (Below w.heap.size w wr ∧ wr.ownsRow w.heap.size 50 2 vo (n + i) (cs ++ mksL (mkA 1) i))) (fun _ vi _ => 12 - (intOf vi).toNat)
 case atStart => exact ⟨0, rfl, by omega, HB1.out, HO1.out⟩
 case round =>
  obtain ⟨i, rfl, hi, hr⟩ := hrel
  clear HB1 HO1
  by_cases hin : i < 12
  ·have hin' : (i : Int) < 12 := by omega
   have HOW : Hid (wr.ownsRow w.heap.size 50 2 _ (n + i) (cs ++ mksL (mkA 1) i)) := hr.out.2
   go_wp2_with (first
    | (go_at_call 50; go_loud (refine Calls.mono (by exact HM.out i _ hin) ?_; rintro e w2 ⟨rfl, hb2⟩; have HB2 : Hid _ := hb2; clear hb2))
    | (at_builtin; go_loud (refine wpList_append_own_at _ rfl _ _ 25 rfl w.heap.size 50 i0 (.agg #[.int .u8 0, .int .i64 0]) 2 16 Tryz.underlying25 hi0 hz0 hz1 hz2 rfl (by decide) _ (n + i) (cs ++ mksL (mkA 1) i) rfl (World.ownsRow.alloc (owns_below HOW.out HB2.out) _) ⟨w2.heap.size, 0, none⟩ 1 1 (mkA 1 i) rfl rfl ?d1 ?d2 ?d3 ?d4 ?d5 ?_)))
   case d1 => intro j u hj; rw [Addr.add_lit, Nat.zero_add]; exact (Box.new w2 (mkA 1 i) 50).cell j u hj
   case d2 => intro u hu; simp at hu; rcases hu with rfl | rfl <;> rfl
   case d3 => unfold maxLen; omega
   case d4 => omega
   case d5 => have := hr.out.1.size; have := HB2.out.size; simp; omega
   intro v2 w2 ho hg2 _ hat
   have HF : Hid (Below w.heap.size w w2) := below_grown (below_alloc (below_trans hr.out.1 HB2.out) (.cells #[bytV 0, intV (markI 1 i)] 50)) hg2 (fun q hqq => (World.ownsRow.lt HOW.out q hqq).1)
   have HO : Hid (w2.ownsRow w.heap.size 50 2 v2 (n + (i + 1)) (cs ++ mksL (mkA 1) (i + 1))) := by
    show World.ownsRow _ _ _ _ _ _ _
    rw [mksL_succ, ← Nat.add_assoc]
    exact ho
   clear ho hg2 hat
   go_wp2
   go_roundw
   case rel => exact ⟨i + 1, by first | rfl | (congr 1; omega), by omega, HF.out, HO.out⟩
   case measure => simp [intOf]; omega
  ·obtain rfl : i = 12 := by omega
   have HOW := hr.out.2
   obtain ⟨g, cap, rfl, q1, q2, q3, q4⟩ := own_form (n := n + 11) HOW
   have hsl := cutKA (g := g) (m := n + 11 + 1) (c := cap) (f := n) (by omega)
   have HW : Hid (RowL wr w.heap.size wr.heap.size 50 2 (mkA 1) (.slice (some ⟨g, 0, none⟩) n cap) n cs g cap) := ⟨rfl, HOW, HL.out, q2⟩
   clear HOW
   go_wp2
   go_ret
   exact ⟨_, rfl, HR.out _ _ _ _ HW.out, hr.out.1⟩
end Go.Proofs.YtajaijilfclhpaaGreatDoor
