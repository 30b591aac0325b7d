/- The law LiveNumbers: its run. -/
import Derived.Test.YtcggbedjhglmmaaDoorLNm0
namespace Go.Proofs.YtcggbedjhglmmaaDoor
open Go.RowKit

set_option maxRecDepth 100000 in
set_option maxHeartbeats 16000000 in
theorem numbersL_any (w : World) (hT : Tabs w) : Calls Tryd.prog 3 #[] w fun e w' => e = .returned (.bool true) ∧ Below w.heap.size w w' := by
  have HT : Hid (∀ W, Below w.heap.size w W → Tabs W) := fun W hW => hT.below hW
  have HS : Hid _ := small_any
  have HONE : Hid _ := live_one w hT
  have HNO : Hid _ := live_none
  have HFEW : Hid _ := live_few
  have HCALL : Hid _ := live_call
  have HLOW : Hid _ := live_low
  have HAW : Hid _ := awakeL_any
  have HLA : Hid (∀ W : World, NetAt ((W.alloc (.cells #[.int .i64 0] 3)).alloc (.cells #[.slice (some ⟨W.heap.size, 0, none⟩) 1 1] 33)) (.slice (some ⟨W.heap.size + 1, 0, none⟩) 1 1) ([[0]] : List (List Int))) := lit_a
  have HLB : Hid (∀ W : World, NetAt (W.alloc (.cells #[.slice none 0 0] 33)) (.slice (some ⟨W.heap.size, 0, none⟩) 1 1) ([[]] : List (List Int))) := lit_b
  have HLC : Hid (∀ W : World, NetAt (((((W.alloc (.cells #[.int .i64 0] 3)).alloc (.cells #[.int .i64 0, .int .i64 1, .int .i64 2] 3)).alloc (.cells #[.int .i64 2] 3)).alloc (.cells #[.int .i64 2] 3)).alloc (.cells #[.slice (some ⟨W.heap.size, 0, none⟩) 1 1, .slice (some ⟨W.heap.size + 1, 0, none⟩) 3 3, .slice (some ⟨W.heap.size + 2, 0, none⟩) 1 1, .slice none 0 0, .slice (some ⟨W.heap.size + 3, 0, none⟩) 1 1] 33)) (.slice (some ⟨W.heap.size + 4, 0, none⟩) 5 5) ([[0], [0, 1, 2], [2], [], [2]] : List (List Int))) := lit_c
  have HL3 : Hid (∀ W : World, IntsAt (W.alloc (.cells #[.int .i64 0, .int .i64 1, .int .i64 2] 3)) (.slice (some ⟨W.heap.size, 0, none⟩) 3 3) [0, 1, 2]) := fun W => row_lit (t := 3) 3 (heap_alloc_new _ _) (by omega)
  have HSR : Hid _ := sameR_yes
  have HSI : Hid _ := sameI_yes
  have S1 : True := trivial
  have S2 : True := trivial
  have S3 : True := trivial
  have S4 : True := trivial
  have R1 : True := trivial
  have R2 : True := trivial
  have R3 : True := trivial
  have R4 : True := trivial
  clear hT
  go_enter Tryd.func3, Tryd.ntmps3
  go_wp2_with (first
    | (go_at_call 4; clear S1; go_loud (refine Calls.mono (by exact HONE.out) ?_; rintro e w1 ⟨⟨gA1, gB1, rfl, hi1, ho1⟩, hb1⟩; have HI1 : Hid _ := hi1; have HO1 : Hid _ := ho1; have HB1 : Hid (Below w.heap.size w w1) := hb1; clear hi1 ho1 hb1))
    | (go_at_call 4; clear S2; go_loud (refine Calls.mono (by exact HNO.out _ (HT.out _ HB1.out)) ?_; rintro e w2 ⟨rfl, hb2⟩; have HB12 : Hid _ := hb2; have HB2 : Hid (Below w.heap.size w w2) := below_trans HB1.out hb2; clear hb2))
    | (go_at_call 5; clear R1; go_loud (refine Calls.mono (by exact HS.out _) ?_; rintro e w3 ⟨rfl, hw3⟩; have HW3 : Hid _ := hw3; have hf := smf w2; rw [← hw3] at hf; have hs3 := hf.size; have HM3 : Hid (w2.heap.size + 10 + 1 = w3.heap.size + 1) := (by have h7 := hf.size; show _ = _; omega); have x1 := hf.l18; have x2 := hf.c83; have x3 := hf.f8; clear hw3 hf))
    | (go_at_call 4; clear S3; go_loud (refine Calls.mono (by exact HFEW.out w2 w3 (HT.out _ HB2.out) HW3.out (w2.heap.size + 10 + 1) HM3.out w2.heap.size rfl) ?_; rintro e w4 ⟨rfl, hb4⟩; have HB24 : Hid _ := hb4; have HB4 : Hid (Below w.heap.size w w4) := below_trans HB2.out hb4; clear hb4 hs3 x1 x2 x3))
    | (go_at_call 5; clear R2; go_loud (refine Calls.mono (by exact HS.out _) ?_; rintro e w5 ⟨rfl, hw5⟩; have HW5 : Hid _ := hw5; have hf := smf w4; rw [← hw5] at hf; have hs5 := hf.size; have HM5 : Hid (w4.heap.size + 10 + 1 = w5.heap.size + 1) := (by have h7 := hf.size; show _ = _; omega); have y1 := hf.l6; have y2 := hf.c60; have y3 := hf.c61; have y4 := hf.c62; have y5 := hf.c63; have y6 := hf.c64; have y7 := hf.c65; have y8 := hf.f6; clear hw5 hf))
    | (go_at_call 4; clear S4; go_loud (refine Calls.mono (by exact HCALL.out w4 w5 (HT.out _ HB4.out) HW5.out (w4.heap.size + 10 + 1) HM5.out) ?_; rintro e w6 ⟨⟨gA6, gB6, rfl, hi6, ra, rc, hl6, hl60, ho6⟩, hb6⟩; have HI6 : Hid _ := hi6; have HO6 : Hid (gB6 < w6.heap.size ∧ w6.cell? ⟨gB6, 0, none⟩ = some (.slice ra 3 rc) ∧ IntsAt w6 (.slice ra 3 rc) [0, 1, 2]) := ⟨hl6, hl60, ho6⟩; have HB46 : Hid _ := hb6; have HB6 : Hid (Below w.heap.size w w6) := below_trans HB4.out hb6; clear hi6 ho6 hb6 hl6 hl60 hs5 y1 y2 y3 y4 y5 y6 y7 y8))
    | (go_at_call 5; go_loud (refine Calls.mono (by exact HS.out _) ?_; rintro e w7 ⟨rfl, hw7⟩; have HW7 : Hid _ := hw7; have hf := smf w6; rw [← hw7] at hf; have hs7 := hf.size; have HM7 : Hid (w6.heap.size + 10 + 1 = w7.heap.size + 1) := (by have h7 := hf.size; show _ = _; omega); have y1 := hf.l6; have y2 := hf.c60; have y3 := hf.c61; have y4 := hf.c62; have y5 := hf.c63; have y6 := hf.c64; have y7 := hf.c65; have y8 := hf.f6; clear hw7 hf))
    | (go_at_call 4; go_loud (refine Calls.mono (by exact HLOW.out w6 w7 (HT.out _ HB6.out) HW7.out (w6.heap.size + 10 + 1) HM7.out) ?_; rintro e w8 ⟨rfl, hb8⟩; have HB68 : Hid _ := hb8; have HB8 : Hid (Below w.heap.size w w8) := below_trans HB6.out hb8; have HB28 : Hid (Below w1.heap.size w1 w8) := below_trans (below_trans (below_trans HB12.out HB24.out) HB46.out) hb8; clear hb8 hs7 y1 y2 y3 y4 y5 y6 y7 y8))
    | (go_at_call 6; clear R3; go_loud (refine Calls.mono (by exact HSR.out _ _ _ _ ((HI1.out.below HB28.out).below (below_alloc (below_alloc (Below.refl _ _) _) _)) (HLA.out w8)) ?_; rintro e w9 ⟨rfl, hd9⟩; have HB9 : Hid (Below w8.heap.size w8 w9) := below_trans (below_alloc (below_alloc (Below.refl _ _) _) _) (below_of_drew hd9); clear hd9))
    | (go_at_call 6; clear R4; go_loud (refine Calls.mono (by exact HSR.out _ _ _ _ (((HO1.out.below HB28.out).below HB9.out).below (below_alloc (Below.refl _ _) _)) (HLB.out w9)) ?_; rintro e wa ⟨rfl, hda⟩; have HBa : Hid (Below w8.heap.size w8 wa) := below_trans HB9.out (below_trans (below_alloc (Below.refl _ _) _) (below_of_drew hda)); clear hda))
    | (go_at_call 6; go_loud (refine Calls.mono (by exact HSR.out _ _ _ _ (((HI6.out.below HB68.out).below HBa.out).below (below_alloc (below_alloc (below_alloc (below_alloc (below_alloc (Below.refl _ _) _) _) _) _) _)) (HLC.out wa)) ?_; rintro e wb ⟨rfl, hdb⟩; have HBb : Hid (Below w8.heap.size w8 wb) := below_trans HBa.out (below_trans (below_alloc (below_alloc (below_alloc (below_alloc (below_alloc (Below.refl _ _) _) _) _) _) _) (below_of_drew hdb)); have hbq := below_trans HB68.out HBb.out; have hq3 : wb.cell? ⟨gB6, 0, none⟩ = some (.slice ra 3 rc) := (hbq.cell (p := ⟨gB6, 0, none⟩) HO6.out.1).trans HO6.out.2.1; have hq2 : gB6 < wb.heap.size := Nat.lt_of_lt_of_le HO6.out.1 hbq.size; have HQ4 : Hid (IntsAt wb (.slice ra 3 rc) [0, 1, 2]) := HO6.out.2.2.below hbq; clear hdb hbq))
    | (go_at_call 7; go_loud (refine Calls.mono (by have h9 := HSI.out [0, 1, 2] _ _ _ (HQ4.out.below (below_alloc (Below.refl _ _) _)) (HL3.out wb); exact h9) ?_; rintro e wc ⟨rfl, hdc⟩; have HBc : Hid (Below w8.heap.size w8 wc) := below_trans HBb.out (below_trans (below_alloc (Below.refl _ _) _) (below_of_drew hdc)); clear hdc))
    | (go_at_call 8; go_loud (refine Calls.mono (by exact HAW.out _ (HT.out _ (below_trans HB8.out HBc.out))) ?_; rintro e wd ⟨rfl, hbd⟩; have HBd : Hid _ := below_trans (below_trans HB8.out HBc.out) hbd; clear hbd)))
  go_ret
  exact ⟨rfl, HBd.out⟩
end Go.Proofs.YtcggbedjhglmmaaDoor
