/- The law is awake: its run. -/
import Derived.Test.YtkgjcjakadofpaaDoorGAwk
namespace Go.Proofs.YtkgjcjakadofpaaDoor
open Go.RowKit

set_option maxRecDepth 100000 in
set_option maxHeartbeats 4000000 in
theorem awake_any (w : World) (hP : PartsAt w) : Calls Tryd.prog 6 #[] w fun e w' => e = .returned (.bool true) ∧ Below w.heap.size w w' := by
  have HP : Hid (∀ W, Below w.heap.size w W → PartsAt W) := fun W hb => hP.below hb
  have T0 : Hid (Below w.heap.size w w) := Below.refl _ _
  have HSA : Hid (∀ W (l1 l2 : List Int) (v1 v2 : Value), IntsAt W v1 l1 → IntsAt W v2 l2 → _) := fun W l1 l2 v1 v2 h1 h2 => same_any l1 l2 v1 v2 W h1 h2
  have S1 : True := trivial
  have S2 : True := trivial
  have S3 : True := trivial
  have S4 : True := trivial
  have S5 : True := trivial
  have S6 : True := trivial
  have K1 : True := trivial
  have K2 : True := trivial
  clear hP
  go_enter Tryd.func6, Tryd.ntmps6
  go_wp2_with (first
  | (go_at_call 14; clear S1; refine Calls.mono (by exact awk_small _ _) ?_; rintro e w1 ⟨a1, b1, c1, rfl, hG, hb⟩; have G1 : Hid _ := hG; have B1 : Hid _ := hb; have T1 : Hid (Below w.heap.size w w1) := below_trans T0.out hb; clear hG hb)
  | (go_at_call 14; clear S2; refine Calls.mono (by exact awk_small _ _) ?_; rintro e w2 ⟨a2, b2, c2, rfl, hG, hb⟩; have G2 : Hid _ := hG; have B2 : Hid _ := hb; have T2 : Hid (Below w.heap.size w w2) := below_trans T1.out hb; clear hG hb)
  | (go_at_call 7; clear K1; go_loud (refine Calls.mono (by exact awk_check2 _ _ (grs_two w2 true false a1 b1 c1 a2 b2 c2 (G1.out.below B2.out) G2.out) (HP.out _ (below_alloc T2.out _))) ?_; rintro e w3 ⟨rfl, hb⟩; have T3 : Hid (Below w.heap.size w w3) := below_trans (below_alloc T2.out _) hb; clear hb))
  | (go_at_call 14; clear S3; refine Calls.mono (by exact awk_small _ _) ?_; rintro e w4 ⟨a3, b3, c3, rfl, hG, hb⟩; have G3 : Hid _ := hG; have B3 : Hid _ := hb; have T4 : Hid (Below w.heap.size w w4) := below_trans T3.out hb; clear hG hb)
  | (go_at_call 7; clear K2; go_loud (refine Calls.mono (by exact awk_check1 _ _ (grs_one w4 true a3 b3 c3 G3.out) (HP.out _ (below_alloc T4.out _))) ?_; rintro e w5 ⟨rfl, hb⟩; have T5 : Hid (Below w.heap.size w w5) := below_trans (below_alloc T4.out _) hb; clear hb))
  | (go_at_call 14; clear S4; refine Calls.mono (by exact awk_small _ _) ?_; rintro e w6 ⟨a4, b4, c4, rfl, hG, hb⟩; have G4 : Hid _ := hG; have B4 : Hid _ := hb; have T6 : Hid (Below w.heap.size w w6) := below_trans T5.out hb; clear hG hb)
  | (go_at_call 15; go_loud (refine Calls.mono (by exact awk_type _ a4 b4 c4 _ (G4.out.below (below_alloc (Below.refl _ _) _)) (ints_new w6 [0, 2] (by decide)) (HP.out _ (below_alloc T6.out _))) ?_; rintro e w7 ⟨rfl, hb⟩; have T7 : Hid (Below w.heap.size w w7) := below_trans (below_alloc T6.out _) hb; clear hb))
  | (go_at_call 14; clear S5; refine Calls.mono (by exact awk_small _ _) ?_; rintro e w8 ⟨a5, b5, c5, rfl, hG, hb⟩; have G5 : Hid _ := hG; have B5 : Hid _ := hb; have T8 : Hid (Below w.heap.size w w8) := below_trans T7.out hb; clear hG hb)
  | (go_at_call 11; go_loud (refine Calls.mono (by exact awk_order _ a5 b5 c5 G5.out) ?_; rintro e w9 ⟨og, ok, rfl, hi, hb⟩; have HI9 : Hid _ := hi; have T9 : Hid (Below w.heap.size w w9) := below_trans T8.out hb; clear hi hb))
  | (go_at_call 16; go_loud (refine Calls.mono (by exact HSA.out _ [0, 1, 2, 3] [0, 1, 2, 3] _ _ (HI9.out.below (below_alloc (Below.refl _ _) _)) (ints_new w9 [0, 1, 2, 3] (by decide))) ?_; rintro e w10 ⟨rfl, hb⟩; have T10 : Hid (Below w.heap.size w w10) := below_trans (below_alloc T9.out _) hb; clear hb))
  | (go_at_call 14; clear S6; refine Calls.mono (by exact awk_small _ _) ?_; rintro e w11 ⟨a6, b6, c6, rfl, hG, hb⟩; have G6 : Hid _ := hG; have B6 : Hid _ := hb; have T11 : Hid (Below w.heap.size w w11) := below_trans T10.out hb; clear hG hb)
  | (go_at_call 17; go_loud (refine Calls.mono (by exact awk_count _ a6 b6 c6 G6.out) ?_; rintro e w12 ⟨rfl, hb⟩; have T12 : Hid (Below w.heap.size w w12) := below_trans T11.out hb; clear hb)))
  go_ret
  exact ⟨ret_bool (by first | rfl | simp), T12.out⟩
end Go.Proofs.YtkgjcjakadofpaaDoor
