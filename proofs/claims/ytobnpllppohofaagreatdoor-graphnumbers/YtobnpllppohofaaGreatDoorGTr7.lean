/- Which blocks ahead stay: the function. -/
import Derived.Test.YtobnpllppohofaaGreatDoorGTr6M
namespace Go.Proofs.YtobnpllppohofaaGreatDoor
open Go.RowKit

set_option maxRecDepth 100000 in
set_option maxHeartbeats 4000000 in
theorem staying_any (O ah : List Int) (n : Nat) (av pv : Value) (w : World) (hO : O.Nodup) (hA : ah.Nodup) (hp : IntsAt w pv (placesL O n)) (ha : IntsAt w av ah) (hin : ∀ x ∈ ah, ∃ k : Nat, x = (k : Int) ∧ k < n) (hl : ah.length ≤ 1000000) :
  Calls Tryz.prog 30 #[av, pv] w fun e w' => ∃ v', e = .returned v' ∧ OwnI w' w.heap.size v' (stayP O ah) ∧ Below w.heap.size w w' := by
 obtain ⟨aa, ac, rfl, _⟩ := ha.form
 obtain ⟨pa, pc, rfl, _⟩ := hp.form
 rw [places_len] at *
 have HA : Hid (∀ i, i < ah.length → ∃ (g o k : Nat), aa = some ⟨g, o, none⟩ ∧ g < w.heap.size ∧ w.cell? ⟨g, o + i, none⟩ = some (.int .i64 (k : Int)) ∧ k < n ∧ ah.getD i 0 = (k : Int)) := fun i hi => by
  obtain ⟨g, o, e1, e2, e3⟩ := ha.get hi
  obtain ⟨k, hk, hkn⟩ := hin _ (by rw [List.getD_eq_getElem?_getD, List.getElem?_eq_getElem hi]; exact List.getElem_mem hi : ah.getD i 0 ∈ ah)
  rw [hk] at e3
  exact ⟨g, o, k, e1, e2, e3, hkn, hk⟩
 have HP : Hid (∀ k, k < n → ∃ g o, pa = some ⟨g, o, none⟩ ∧ g < w.heap.size ∧ w.cell? ⟨g, o + k, none⟩ = some (.int .i64 (placeOf O (k : Int)))) := fun k hk => by
  obtain ⟨g, o, e1, e2, e3⟩ := hp.get (i := k) (by rw [places_len]; exact hk)
  rw [places_get hk] at e3
  exact ⟨g, o, e1, e2, e3⟩
 have HST : Hid (∀ i, staysN O ah (i + 1) = staysN O ah i ++ (if staysB O ah i = true then [i] else [])) := fun i => stays_snoc O ah i
 have HSL : Hid (∀ i, (staysN O ah i).length ≤ i) := fun i => stays_len O ah i
 have HSB : Hid (∀ i (k : Nat), ah.getD i 0 = (k : Int) → (staysB O ah i = true ↔ placeOf O (k : Int) ≠ -1)) := fun i k hk => by unfold staysB; rw [hk, decide_eq_true_iff, place_ne]
 have HB1 : Hid (Below w.heap.size w ((w.alloc (.cells #[.slice aa ah.length ac] 22)).alloc (.cells #[.slice pa n pc] 22))) := below_alloc (below_alloc (Below.refl _ _) _) _
 have HS1 : Hid (((w.alloc (.cells #[.slice aa ah.length ac] 22)).alloc (.cells #[.slice pa n pc] 22)).heap.size = w.heap.size + 2) := by show _ = _; simp
 have HX0 : Hid (((w.alloc (.cells #[.slice aa ah.length ac] 22)).alloc (.cells #[.slice pa n pc] 22)).cell? ⟨w.heap.size, 0, none⟩ = some (.slice aa ah.length ac) ∧ ((w.alloc (.cells #[.slice aa ah.length ac] 22)).alloc (.cells #[.slice pa n pc] 22)).cell? ⟨w.heap.size + 1, 0, none⟩ = some (.slice pa n pc)) := by
  have b1 := (Box.new w [.slice aa ah.length ac] 22).below (below_alloc (Below.refl _ _) (.cells #[.slice pa n pc] 22))
  have b2 := Box.new (w.alloc (.cells #[.slice aa ah.length ac] 22)) [.slice pa n pc] 22
  rw [show (w.alloc (.cells #[.slice aa ah.length ac] 22)).heap.size = w.heap.size + 1 by simp] at b2
  exact ⟨b1.cell 0 _ rfl, b2.cell 0 _ rfl⟩
 have HSO : Hid (∀ (W : World) (v : Value), Below (w.heap.size + 2) ((w.alloc (.cells #[.slice aa ah.length ac] 22)).alloc (.cells #[.slice pa n pc] 22)) W → OwnI W (w.heap.size + 2) v ((staysN O ah ah.length).map fun i => ((i : Nat) : Int)) → Calls Tryz.prog 59 #[v, .func (.func 60) #[] #[ptr (w.heap.size + 1), ptr w.heap.size]] W fun e w' => e = .returned (.tuple #[]) ∧ OwnI w' (w.heap.size + 2) v (stayP O ah) ∧ W.grownBy w' v.ownBlock) := fun W v hb ho =>
  sort_stay (w0 := (w.alloc (.cells #[.slice aa ah.length ac] 22)).alloc (.cells #[.slice pa n pc] 22)) hO hA (hp.below HB1.out) (ha.below HB1.out) HX0.out.2 HX0.out.1 (by rw [HS1.out]; omega) (by rw [HS1.out]; omega) hin (by rw [HS1.out]; exact hb) (by rw [HS1.out]; exact Nat.le_refl _) hl ho
 obtain ⟨i0, hi0, hz0, hz1, hz2⟩ := info_parts infoI
 clear ha hp hin hO hA
 generalize hm : ah.length = m at *
 clear hm
 have hl' : (m : Int) ≤ 1000000 := by omega
 obtain ⟨w1, hw1⟩ : ∃ w1, w1 = (w.alloc (.cells #[.slice aa m ac] 22)).alloc (.cells #[.slice pa n pc] 22) := ⟨_, rfl⟩
 rw [← hw1] at HB1 HS1 HX0 HSO
 have HW1 : Hid _ := hw1
 clear hw1
 go_enter Tryz.func30, Tryz.ntmps30
 go_wp2
 go_loopw [5, 10] (fun vl vi wr => ∃ (i : Nat) (l : List Int) (oa : Option Addr) (oc : Nat), vi = .int .i64 i ∧ vl = .slice oa l.length oc ∧ i ≤ m ∧ Hid (Below (w.heap.size + 2) w1 wr ∧ OwnI wr (w.heap.size + 2) (.slice oa l.length oc) l ∧ l = (staysN O ah i).map fun j => ((j : Nat) : Int))) (fun _ vi _ => m - (intOf vi).toNat)
 case atStart => exact ⟨0, [], none, 0, rfl, rfl, by omega, by rw [← HW1.out]; exact Below.refl _ _, World.ownsRow_nil _ _ _ _, rfl⟩
 case round =>
  obtain ⟨i, l, oa, oc, rfl, rfl, hi, hr⟩ := hrel
  generalize wr = wo at *
  have HRR : Hid _ := hr.out
  have hll : l.length ≤ i := by rw [hr.out.2.2, List.length_map]; exact HSL.out i
  have HBW : Hid (Below w.heap.size w wo) := below_trans HB1.out (by rw [HS1.out]; exact hr.out.1)
  have x1 := (hr.out.1.cell (p := ⟨w.heap.size, 0, none⟩) (by show w.heap.size < w.heap.size + 2; omega)).trans HX0.out.1
  have x2 := (hr.out.1.cell (p := ⟨w.heap.size + 1, 0, none⟩) (by show w.heap.size + 1 < w.heap.size + 2; omega)).trans HX0.out.2
  have hsz : w.heap.size + 2 ≤ wo.heap.size := by have := hr.out.1.size; rw [HS1.out] at this; exact this
  clear hr
  by_cases hin : i < m
  ·obtain ⟨g, o, k, rfl, hg, c0, hkn, hk⟩ := HA.out i hin
   obtain ⟨g2, o2, rfl, hg2, d0⟩ := HP.out k hkn
   have c0' : wo.cell? ⟨g, o + i, none⟩ = _ := (HBW.out.cell (p := ⟨g, o + i, none⟩) hg).trans c0
   have d0' : wo.cell? ⟨g2, o2 + k, none⟩ = _ := (HBW.out.cell (p := ⟨g2, o2 + k, none⟩) hg2).trans d0
   have hin' : (i : Int) < m := by omega
   have hkn' : (k : Int) < n := by omega
   have HSI : Hid _ := HST.out i
   have HBI : Hid _ := HSB.out i k hk
   clear HA HP c0 d0 hk HST HSB
   generalize placeOf O (k : Int) = z at *
   by_cases hz : z = -1
   ·have hzn : (z != -1) = false := by rw [hz]; rfl
    have HN : Hid ((staysN O ah (i + 1)).map (fun j => ((j : Nat) : Int)) = l) := by
     show _ = _
     rw [HSI.out, if_neg (fun hc => HBI.out.1 hc hz), List.append_nil]
     exact HRR.out.2.2.symm
    clear HSI HBI hz
    go_wp2
    go_roundw
    case rel => exact ⟨i + 1, l, _, _, by first | rfl | (congr 1; omega), rfl, by omega, HRR.out.1, HRR.out.2.1, HN.out.symm⟩
    case measure => simp [intOf]; omega
   ·have hzn : (z != -1) = true := bne_iff_ne.2 hz
    have HN : Hid ((staysN O ah (i + 1)).map (fun j => ((j : Nat) : Int)) = l ++ [(i : Int)]) := by
     show _ = _
     rw [HSI.out, if_pos (HBI.out.2 hz), List.map_append]
     have h9 := HRR.out.2.2
     rw [← h9]
     rfl
    clear HSI HBI hz
    generalize hq : l.length = q at *
    have HQ : Hid (l.length = q) := hq
    clear hq
    have HOW : Hid (wo.ownsRow (w.heap.size + 2) 3 1 (.slice oa q oc) q (l.map intV)) := by have h9 := HRR.out.2.1; unfold OwnI at h9; rw [HQ.out] at h9; exact h9
    go_wp2_with (at_builtin; go_loud (refine wpList_append_own_at _ rfl _ _ 22 rfl (w.heap.size + 2) 3 i0 (.int .i64 0) 1 8 Tryz.underlying22 hi0 hz0 hz1 hz2 rfl (by decide) _ q (l.map intV) rfl (HOW.out.alloc _) ⟨wo.heap.size, 0, none⟩ 1 1 [intV (i : Int)] rfl rfl ?c1 ?c2 ?c3 ?c4 ?c5 ?_))
    case c1 => exact cell_one_new wo (intV (i : Int)) 3
    case c2 => intro u hu; simp at hu; subst hu; rfl
    case c3 => unfold maxLen; omega
    case c4 => omega
    case c5 => simp; omega
    intro v2 w2 ho hg2' _ hat
    obtain ⟨g3, cc3, rfl, _, _, _, _⟩ := own_form ho
    have HF : Hid (Below (w.heap.size + 2) w1 w2) := by
     have h9 : Below w1.heap.size w1 w2 := below_grown (below_alloc (by rw [HS1.out]; exact HRR.out.1) _) hg2' (fun q hq => by rw [HS1.out]; exact (HOW.out.lt q hq).1)
     rw [HS1.out] at h9
     exact h9
    have HO : Hid (OwnI w2 (w.heap.size + 2) (.slice (some ⟨g3, 0, none⟩) (l ++ [(i : Int)]).length cc3) (l ++ [(i : Int)])) := by
     show World.ownsRow _ _ _ _ _ _ _
     rw [List.map_append, List.length_append, HQ.out]
     exact ho
    clear ho hg2' hat
    go_wp2
    go_roundw
    case rel => exact ⟨i + 1, l ++ [(i : Int)], _, _, by first | rfl | (congr 1; omega), by rw [List.length_append, HQ.out]; rfl, by omega, HF.out, HO.out, HN.out.symm⟩
    case measure => simp [intOf]; omega
  ·obtain rfl : i = m := by omega
   have HSC : Hid _ := HSO.out wo (.slice oa l.length oc) HRR.out.1 (by rw [← HRR.out.2.2]; exact HRR.out.2.1)
   have HOL : Hid (∀ q, (Value.slice oa l.length oc).ownBlock = some q → w.heap.size + 2 ≤ q) := fun q hq => (HRR.out.2.1.lt q hq).1
   clear HA HP HST HSB HSL HSO HRR hll
   generalize l.length = q at *
   go_wp2_with (go_at_call 59; go_loud (refine Calls.mono (by exact HSC.out) ?_; rintro e w2 ⟨rfl, ho2, hg2⟩; have HZ : Hid (OwnI w2 w.heap.size (.slice oa q oc) (stayP O ah) ∧ Below w.heap.size w w2) := ⟨own_mono ho2 (by omega), below_grown HBW.out hg2 (fun q hq => by have := HOL.out q hq; omega)⟩; clear ho2 hg2))
   go_ret
   exact ⟨_, rfl, HZ.out.1, HZ.out.2⟩
end Go.Proofs.YtobnpllppohofaaGreatDoor
