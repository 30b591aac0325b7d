/- What is right of a node, but for its kids. -/
import Derived.Test.YtbejgachdhfakaaGreatDoorGQ
import Derived.Test.YtbejgachdhfakaaGreatDoorGC
namespace Go.Proofs.YtbejgachdhfakaaGreatDoor
open Go.RowKit

theorem shape_cells {w : World} (h : ShapesAt w) {k : Nat} (hk : k ≤ 21) : w.cell? ⟨0, k * 6, none⟩ = some (.bool (shapeOf k).1) ∧ w.cell? ⟨0, k * 6 + 1, none⟩ = some (.bool (shapeOf k).2.1) ∧ w.cell? ⟨0, k * 6 + 2, none⟩ = some (.int .u8 ((shapeOf k).2.2.1 : Int)) ∧ w.cell? ⟨0, k * 6 + 3, none⟩ = some (.int .u8 ((shapeOf k).2.2.2.1 : Int)) ∧ w.cell? ⟨0, k * 6 + 4, none⟩ = some (.int .i64 ((shapeOf k).2.2.2.2.1 : Int)) ∧ w.cell? ⟨0, k * 6 + 5, none⟩ = some (.int .i64 ((shapeOf k).2.2.2.2.2 : Int)) := by
  have hl : k < shapesL.length := by
    show k < 22
    omega
  have := h k (shapesL[k]'hl) (List.getElem?_eq_getElem hl)
  have e : shapeOf (k : Int) = shapesL[k]'hl := by
    unfold shapeOf
    rw [List.getD, Int.toNat_natCast, List.getElem?_eq_getElem hl]
    rfl
  rw [e, Nat.mul_comm k 6]
  exact this
theorem nm_nil {b : ByteArray} (h : b.toList = []) : b = ⟨#[]⟩ := by
  rw [Lib.toList_data] at h
  cases b with
  | mk d => exact congrArg _ (by simpa using h)
set_option maxRecDepth 100000 in
set_option maxHeartbeats 8000000 in
theorem rightFields_at (k : Nat) (p : Int) (nm : ByteArray) (t o b z : Int) (ka : Option Addr) (kn kc : Nat) (w : World) (hk : 1 ≤ k ∧ k ≤ 21) (hs : ShapesAt w) (h0 : 0 < w.heap.size) (hb : Hid (word b)) (hnm : nm.size ≤ maxLen) :
    Calls Tryz.prog 26 #[nV k p nm t o b z ka kn kc] w fun e w' => e = .returned (.bool ((if (shapeOf k).1 then nameB nm else nm.toList == []) && (if (shapeOf k).2.1 then typedB t else t == 0) && (opB k o && bitsB k t b && sizeB k z))) ∧ Below w.heap.size w w' := by
  obtain ⟨c0, c1, c2, c3, c4, c5⟩ := shape_cells hs hk.2
  have hK : kindB k = true := by unfold kindB; rw [decide_eq_true (by omega), decide_eq_true (by omega)]; rfl
  have HKD : Hid (∀ W, Calls Tryz.prog 49 #[.int .u8 (k : Int)] W fun e w' => e = .returned (.bool true) ∧ w' = W) := fun W => by have := rightKind_any k W; rwa [hK] at this
  have k1 : (k : Int) < 22 := by omega
  have k0 : (0 : Int) ≤ k := by omega
  have HN : Hid (∀ W, Calls Tryz.prog 50 #[.string nm] W fun e w' => e = .returned (.bool (nameB nm)) ∧ Below W.heap.size W w') := fun W => rightName_any nm W hnm
  clear hs hK hk
  generalize (shapeOf k).1 = sn at c0 ⊢
  generalize (shapeOf k).2.1 = st at c1 ⊢
  generalize ((shapeOf k).2.2.1 : Int) = s2 at c2
  generalize ((shapeOf k).2.2.2.1 : Int) = s3 at c3
  generalize ((shapeOf k).2.2.2.2.1 : Int) = s4 at c4
  generalize ((shapeOf k).2.2.2.2.2 : Int) = s5 at c5
  have HT : Hid (∀ W, Calls Tryz.prog 51 #[.int .u8 t] W fun e w' => e = .returned (.bool (typedB t)) ∧ w' = W) := fun W => rightType_any t W
  have HO : Hid (∀ W, Calls Tryz.prog 52 #[nV k p nm t o b z ka kn kc] W fun e w' => e = .returned (.bool (opB k o)) ∧ Below W.heap.size W w') := fun W => rightOp_any _ _ _ _ _ _ _ _ _ _ W
  have HBT : Hid (∀ W, Calls Tryz.prog 53 #[nV k p nm t o b z ka kn kc] W fun e w' => e = .returned (.bool (bitsB k t b)) ∧ Below W.heap.size W w') := fun W => rightBits_any _ _ _ _ _ _ _ _ _ _ W hb
  have HZ : Hid (∀ W, Calls Tryz.prog 54 #[nV k p nm t o b z ka kn kc] W fun e w' => e = .returned (.bool (sizeB k z)) ∧ Below W.heap.size W w') := fun W => rightSize_any _ _ _ _ _ _ _ _ _ _ W
  generalize opB k o = xo at HO ⊢
  generalize bitsB k t b = xb at HBT ⊢
  generalize sizeB k z = xz at HZ ⊢
  clear hb hnm
  cases sn with
  | true =>
    rw [if_pos rfl]
    cases hN2 : nameB nm with
    | false =>
      rw [hN2] at HN
      rw [Bool.false_and, Bool.false_and]
      clear HT HO HBT HZ
      cases st with
      | true =>
        have hA : Below w.heap.size w ((w.alloc (.cells (nArr k p nm t o b z ka kn kc) 46)).alloc (.cells #[.bool true, .bool true, .int .u8 s2, .int .u8 s3, .int .i64 s4, .int .i64 s5] 131)) := ((Below.refl _ _).alloc (Nat.le_refl _) _).alloc (by simp) _
        have B0 : Box ((w.alloc (.cells (nArr k p nm t o b z ka kn kc) 46)).alloc (.cells #[.bool true, .bool true, .int .u8 s2, .int .u8 s3, .int .i64 s4, .int .i64 s5] 131)) w.heap.size [.int .u8 (k : Int), .int .i64 p, .string nm, .int .u8 t, .int .u8 o, .int .u64 b, .int .i64 z, .slice ka kn kc] := (Box.new w [.int .u8 (k : Int), .int .i64 p, .string nm, .int .u8 t, .int .u8 o, .int .u64 b, .int .i64 z, .slice ka kn kc] 46).below (nBelow _ _ _)
        have S0 : Box ((w.alloc (.cells (nArr k p nm t o b z ka kn kc) 46)).alloc (.cells #[.bool true, .bool true, .int .u8 s2, .int .u8 s3, .int .i64 s4, .int .i64 s5] 131)) (w.heap.size + 1) [.bool true, .bool true, .int .u8 s2, .int .u8 s3, .int .i64 s4, .int .i64 s5] := by
          have := Box.new (w.alloc (.cells (nArr k p nm t o b z ka kn kc) 46)) [.bool true, .bool true, .int .u8 s2, .int .u8 s3, .int .i64 s4, .int .i64 s5] 131
          rwa [show (w.alloc (.cells (nArr k p nm t o b z ka kn kc) 46)).heap.size = w.heap.size + 1 by simp] at this
        have HA : Hid _ := hA
        have HB0 : Hid _ := B0
        have HS0 : Hid _ := S0
        clear hA B0 S0
        go_enter Tryz.func26, Tryz.ntmps26
        go_wp2_with (first | (go_at_call 49; refine Calls.mono (by exact HKD.out _) ?_; rintro e w' ⟨rfl, rfl⟩) | (go_at_call 50; refine Calls.mono (by exact HN.out _) ?_; rintro e w1 ⟨rfl, hb1⟩; have B1 := HB0.out.below hb1; have S1 := HS0.out.below hb1; have A1 := HA.out.trans (hb1.mono HA.out.size); obtain ⟨a0, a1, a2, a3, a4, a5, a6, a7⟩ := box8 B1; have q0 := S1.cell 0 _ rfl; have q1 := S1.cell 1 _ rfl; have HB1 : Hid _ := B1; have HA1 : Hid _ := A1; clear B1 S1 A1 hb1) | (go_at_call 51; refine Calls.mono (by exact HT.out _) ?_; rintro e w' ⟨rfl, rfl⟩) | (go_at_call 52; refine Calls.mono (by exact HO.out _) ?_; rintro e w2 ⟨rfl, hb2⟩; have B2 := HB1.out.below hb2; have A2 := HA1.out.trans (hb2.mono HA1.out.size); obtain ⟨d0, d1, d2, d3, d4, d5, d6, d7⟩ := box8 B2; have HB2 : Hid _ := B2; have HA2 : Hid _ := A2; clear B2 A2 hb2) | (go_at_call 53; refine Calls.mono (by exact HBT.out _) ?_; rintro e w3 ⟨rfl, hb3⟩; have B3 := HB2.out.below hb3; have A3 := HA2.out.trans (hb3.mono HA2.out.size); obtain ⟨e0, e1, e2, e3, e4, e5, e6, e7⟩ := box8 B3; have HA3 : Hid _ := A3; clear B3 A3 hb3) | (go_at_call 54; refine Calls.mono (by exact HZ.out _) ?_; rintro e w4 ⟨rfl, hb4⟩; have HA4 : Hid _ := HA3.out.trans (hb4.mono HA3.out.size); clear hb4))
        go_ret
        exact ⟨by first | rfl | simp_all, HA1.out⟩
      | false =>
        have hA : Below w.heap.size w ((w.alloc (.cells (nArr k p nm t o b z ka kn kc) 46)).alloc (.cells #[.bool true, .bool false, .int .u8 s2, .int .u8 s3, .int .i64 s4, .int .i64 s5] 131)) := ((Below.refl _ _).alloc (Nat.le_refl _) _).alloc (by simp) _
        have B0 : Box ((w.alloc (.cells (nArr k p nm t o b z ka kn kc) 46)).alloc (.cells #[.bool true, .bool false, .int .u8 s2, .int .u8 s3, .int .i64 s4, .int .i64 s5] 131)) w.heap.size [.int .u8 (k : Int), .int .i64 p, .string nm, .int .u8 t, .int .u8 o, .int .u64 b, .int .i64 z, .slice ka kn kc] := (Box.new w [.int .u8 (k : Int), .int .i64 p, .string nm, .int .u8 t, .int .u8 o, .int .u64 b, .int .i64 z, .slice ka kn kc] 46).below (nBelow _ _ _)
        have S0 : Box ((w.alloc (.cells (nArr k p nm t o b z ka kn kc) 46)).alloc (.cells #[.bool true, .bool false, .int .u8 s2, .int .u8 s3, .int .i64 s4, .int .i64 s5] 131)) (w.heap.size + 1) [.bool true, .bool false, .int .u8 s2, .int .u8 s3, .int .i64 s4, .int .i64 s5] := by
          have := Box.new (w.alloc (.cells (nArr k p nm t o b z ka kn kc) 46)) [.bool true, .bool false, .int .u8 s2, .int .u8 s3, .int .i64 s4, .int .i64 s5] 131
          rwa [show (w.alloc (.cells (nArr k p nm t o b z ka kn kc) 46)).heap.size = w.heap.size + 1 by simp] at this
        have HA : Hid _ := hA
        have HB0 : Hid _ := B0
        have HS0 : Hid _ := S0
        clear hA B0 S0
        go_enter Tryz.func26, Tryz.ntmps26
        go_wp2_with (first | (go_at_call 49; refine Calls.mono (by exact HKD.out _) ?_; rintro e w' ⟨rfl, rfl⟩) | (go_at_call 50; refine Calls.mono (by exact HN.out _) ?_; rintro e w1 ⟨rfl, hb1⟩; have B1 := HB0.out.below hb1; have S1 := HS0.out.below hb1; have A1 := HA.out.trans (hb1.mono HA.out.size); obtain ⟨a0, a1, a2, a3, a4, a5, a6, a7⟩ := box8 B1; have q0 := S1.cell 0 _ rfl; have q1 := S1.cell 1 _ rfl; have HB1 : Hid _ := B1; have HA1 : Hid _ := A1; clear B1 S1 A1 hb1) | (go_at_call 51; refine Calls.mono (by exact HT.out _) ?_; rintro e w' ⟨rfl, rfl⟩) | (go_at_call 52; refine Calls.mono (by exact HO.out _) ?_; rintro e w2 ⟨rfl, hb2⟩; have B2 := HB1.out.below hb2; have A2 := HA1.out.trans (hb2.mono HA1.out.size); obtain ⟨d0, d1, d2, d3, d4, d5, d6, d7⟩ := box8 B2; have HB2 : Hid _ := B2; have HA2 : Hid _ := A2; clear B2 A2 hb2) | (go_at_call 53; refine Calls.mono (by exact HBT.out _) ?_; rintro e w3 ⟨rfl, hb3⟩; have B3 := HB2.out.below hb3; have A3 := HA2.out.trans (hb3.mono HA2.out.size); obtain ⟨e0, e1, e2, e3, e4, e5, e6, e7⟩ := box8 B3; have HA3 : Hid _ := A3; clear B3 A3 hb3) | (go_at_call 54; refine Calls.mono (by exact HZ.out _) ?_; rintro e w4 ⟨rfl, hb4⟩; have HA4 : Hid _ := HA3.out.trans (hb4.mono HA3.out.size); clear hb4))
        go_ret
        exact ⟨by first | rfl | simp_all, HA1.out⟩
    | true =>
      rw [hN2] at HN
      rw [Bool.true_and]
      cases st with
      | true =>
        rw [if_pos rfl]
        cases hT2 : typedB t with
        | false =>
          rw [hT2] at HT
          rw [Bool.false_and]
          clear HO HBT HZ
          have hA : Below w.heap.size w ((w.alloc (.cells (nArr k p nm t o b z ka kn kc) 46)).alloc (.cells #[.bool true, .bool true, .int .u8 s2, .int .u8 s3, .int .i64 s4, .int .i64 s5] 131)) := ((Below.refl _ _).alloc (Nat.le_refl _) _).alloc (by simp) _
          have B0 : Box ((w.alloc (.cells (nArr k p nm t o b z ka kn kc) 46)).alloc (.cells #[.bool true, .bool true, .int .u8 s2, .int .u8 s3, .int .i64 s4, .int .i64 s5] 131)) w.heap.size [.int .u8 (k : Int), .int .i64 p, .string nm, .int .u8 t, .int .u8 o, .int .u64 b, .int .i64 z, .slice ka kn kc] := (Box.new w [.int .u8 (k : Int), .int .i64 p, .string nm, .int .u8 t, .int .u8 o, .int .u64 b, .int .i64 z, .slice ka kn kc] 46).below (nBelow _ _ _)
          have S0 : Box ((w.alloc (.cells (nArr k p nm t o b z ka kn kc) 46)).alloc (.cells #[.bool true, .bool true, .int .u8 s2, .int .u8 s3, .int .i64 s4, .int .i64 s5] 131)) (w.heap.size + 1) [.bool true, .bool true, .int .u8 s2, .int .u8 s3, .int .i64 s4, .int .i64 s5] := by
            have := Box.new (w.alloc (.cells (nArr k p nm t o b z ka kn kc) 46)) [.bool true, .bool true, .int .u8 s2, .int .u8 s3, .int .i64 s4, .int .i64 s5] 131
            rwa [show (w.alloc (.cells (nArr k p nm t o b z ka kn kc) 46)).heap.size = w.heap.size + 1 by simp] at this
          have HA : Hid _ := hA
          have HB0 : Hid _ := B0
          have HS0 : Hid _ := S0
          clear hA B0 S0
          go_enter Tryz.func26, Tryz.ntmps26
          go_wp2_with (first | (go_at_call 49; refine Calls.mono (by exact HKD.out _) ?_; rintro e w' ⟨rfl, rfl⟩) | (go_at_call 50; refine Calls.mono (by exact HN.out _) ?_; rintro e w1 ⟨rfl, hb1⟩; have B1 := HB0.out.below hb1; have S1 := HS0.out.below hb1; have A1 := HA.out.trans (hb1.mono HA.out.size); obtain ⟨a0, a1, a2, a3, a4, a5, a6, a7⟩ := box8 B1; have q0 := S1.cell 0 _ rfl; have q1 := S1.cell 1 _ rfl; have HB1 : Hid _ := B1; have HA1 : Hid _ := A1; clear B1 S1 A1 hb1) | (go_at_call 51; refine Calls.mono (by exact HT.out _) ?_; rintro e w' ⟨rfl, rfl⟩) | (go_at_call 52; refine Calls.mono (by exact HO.out _) ?_; rintro e w2 ⟨rfl, hb2⟩; have B2 := HB1.out.below hb2; have A2 := HA1.out.trans (hb2.mono HA1.out.size); obtain ⟨d0, d1, d2, d3, d4, d5, d6, d7⟩ := box8 B2; have HB2 : Hid _ := B2; have HA2 : Hid _ := A2; clear B2 A2 hb2) | (go_at_call 53; refine Calls.mono (by exact HBT.out _) ?_; rintro e w3 ⟨rfl, hb3⟩; have B3 := HB2.out.below hb3; have A3 := HA2.out.trans (hb3.mono HA2.out.size); obtain ⟨e0, e1, e2, e3, e4, e5, e6, e7⟩ := box8 B3; have HA3 : Hid _ := A3; clear B3 A3 hb3) | (go_at_call 54; refine Calls.mono (by exact HZ.out _) ?_; rintro e w4 ⟨rfl, hb4⟩; have HA4 : Hid _ := HA3.out.trans (hb4.mono HA3.out.size); clear hb4))
          go_ret
          exact ⟨by first | rfl | simp_all, HA1.out⟩
        | true =>
          rw [hT2] at HT
          rw [Bool.true_and]
          have hA : Below w.heap.size w ((w.alloc (.cells (nArr k p nm t o b z ka kn kc) 46)).alloc (.cells #[.bool true, .bool true, .int .u8 s2, .int .u8 s3, .int .i64 s4, .int .i64 s5] 131)) := ((Below.refl _ _).alloc (Nat.le_refl _) _).alloc (by simp) _
          have B0 : Box ((w.alloc (.cells (nArr k p nm t o b z ka kn kc) 46)).alloc (.cells #[.bool true, .bool true, .int .u8 s2, .int .u8 s3, .int .i64 s4, .int .i64 s5] 131)) w.heap.size [.int .u8 (k : Int), .int .i64 p, .string nm, .int .u8 t, .int .u8 o, .int .u64 b, .int .i64 z, .slice ka kn kc] := (Box.new w [.int .u8 (k : Int), .int .i64 p, .string nm, .int .u8 t, .int .u8 o, .int .u64 b, .int .i64 z, .slice ka kn kc] 46).below (nBelow _ _ _)
          have S0 : Box ((w.alloc (.cells (nArr k p nm t o b z ka kn kc) 46)).alloc (.cells #[.bool true, .bool true, .int .u8 s2, .int .u8 s3, .int .i64 s4, .int .i64 s5] 131)) (w.heap.size + 1) [.bool true, .bool true, .int .u8 s2, .int .u8 s3, .int .i64 s4, .int .i64 s5] := by
            have := Box.new (w.alloc (.cells (nArr k p nm t o b z ka kn kc) 46)) [.bool true, .bool true, .int .u8 s2, .int .u8 s3, .int .i64 s4, .int .i64 s5] 131
            rwa [show (w.alloc (.cells (nArr k p nm t o b z ka kn kc) 46)).heap.size = w.heap.size + 1 by simp] at this
          have HA : Hid _ := hA
          have HB0 : Hid _ := B0
          have HS0 : Hid _ := S0
          clear hA B0 S0
          cases xo with
          | false =>
            clear HBT HZ
            go_enter Tryz.func26, Tryz.ntmps26
            go_wp2_with (first | (go_at_call 49; refine Calls.mono (by exact HKD.out _) ?_; rintro e w' ⟨rfl, rfl⟩) | (go_at_call 50; refine Calls.mono (by exact HN.out _) ?_; rintro e w1 ⟨rfl, hb1⟩; have B1 := HB0.out.below hb1; have S1 := HS0.out.below hb1; have A1 := HA.out.trans (hb1.mono HA.out.size); obtain ⟨a0, a1, a2, a3, a4, a5, a6, a7⟩ := box8 B1; have q0 := S1.cell 0 _ rfl; have q1 := S1.cell 1 _ rfl; have HB1 : Hid _ := B1; have HA1 : Hid _ := A1; clear B1 S1 A1 hb1) | (go_at_call 51; refine Calls.mono (by exact HT.out _) ?_; rintro e w' ⟨rfl, rfl⟩) | (go_at_call 52; refine Calls.mono (by exact HO.out _) ?_; rintro e w2 ⟨rfl, hb2⟩; have B2 := HB1.out.below hb2; have A2 := HA1.out.trans (hb2.mono HA1.out.size); obtain ⟨d0, d1, d2, d3, d4, d5, d6, d7⟩ := box8 B2; have HB2 : Hid _ := B2; have HA2 : Hid _ := A2; clear B2 A2 hb2) | (go_at_call 53; refine Calls.mono (by exact HBT.out _) ?_; rintro e w3 ⟨rfl, hb3⟩; have B3 := HB2.out.below hb3; have A3 := HA2.out.trans (hb3.mono HA2.out.size); obtain ⟨e0, e1, e2, e3, e4, e5, e6, e7⟩ := box8 B3; have HA3 : Hid _ := A3; clear B3 A3 hb3) | (go_at_call 54; refine Calls.mono (by exact HZ.out _) ?_; rintro e w4 ⟨rfl, hb4⟩; have HA4 : Hid _ := HA3.out.trans (hb4.mono HA3.out.size); clear hb4))
            go_ret
            exact ⟨by first | rfl | simp_all, HA2.out⟩
          | true =>
            cases xb with
            | false =>
              clear HZ
              go_enter Tryz.func26, Tryz.ntmps26
              go_wp2_with (first | (go_at_call 49; refine Calls.mono (by exact HKD.out _) ?_; rintro e w' ⟨rfl, rfl⟩) | (go_at_call 50; refine Calls.mono (by exact HN.out _) ?_; rintro e w1 ⟨rfl, hb1⟩; have B1 := HB0.out.below hb1; have S1 := HS0.out.below hb1; have A1 := HA.out.trans (hb1.mono HA.out.size); obtain ⟨a0, a1, a2, a3, a4, a5, a6, a7⟩ := box8 B1; have q0 := S1.cell 0 _ rfl; have q1 := S1.cell 1 _ rfl; have HB1 : Hid _ := B1; have HA1 : Hid _ := A1; clear B1 S1 A1 hb1) | (go_at_call 51; refine Calls.mono (by exact HT.out _) ?_; rintro e w' ⟨rfl, rfl⟩) | (go_at_call 52; refine Calls.mono (by exact HO.out _) ?_; rintro e w2 ⟨rfl, hb2⟩; have B2 := HB1.out.below hb2; have A2 := HA1.out.trans (hb2.mono HA1.out.size); obtain ⟨d0, d1, d2, d3, d4, d5, d6, d7⟩ := box8 B2; have HB2 : Hid _ := B2; have HA2 : Hid _ := A2; clear B2 A2 hb2) | (go_at_call 53; refine Calls.mono (by exact HBT.out _) ?_; rintro e w3 ⟨rfl, hb3⟩; have B3 := HB2.out.below hb3; have A3 := HA2.out.trans (hb3.mono HA2.out.size); obtain ⟨e0, e1, e2, e3, e4, e5, e6, e7⟩ := box8 B3; have HA3 : Hid _ := A3; clear B3 A3 hb3) | (go_at_call 54; refine Calls.mono (by exact HZ.out _) ?_; rintro e w4 ⟨rfl, hb4⟩; have HA4 : Hid _ := HA3.out.trans (hb4.mono HA3.out.size); clear hb4))
              go_ret
              exact ⟨by first | rfl | simp_all, HA3.out⟩
            | true =>
              go_enter Tryz.func26, Tryz.ntmps26
              go_wp2_with (first | (go_at_call 49; refine Calls.mono (by exact HKD.out _) ?_; rintro e w' ⟨rfl, rfl⟩) | (go_at_call 50; refine Calls.mono (by exact HN.out _) ?_; rintro e w1 ⟨rfl, hb1⟩; have B1 := HB0.out.below hb1; have S1 := HS0.out.below hb1; have A1 := HA.out.trans (hb1.mono HA.out.size); obtain ⟨a0, a1, a2, a3, a4, a5, a6, a7⟩ := box8 B1; have q0 := S1.cell 0 _ rfl; have q1 := S1.cell 1 _ rfl; have HB1 : Hid _ := B1; have HA1 : Hid _ := A1; clear B1 S1 A1 hb1) | (go_at_call 51; refine Calls.mono (by exact HT.out _) ?_; rintro e w' ⟨rfl, rfl⟩) | (go_at_call 52; refine Calls.mono (by exact HO.out _) ?_; rintro e w2 ⟨rfl, hb2⟩; have B2 := HB1.out.below hb2; have A2 := HA1.out.trans (hb2.mono HA1.out.size); obtain ⟨d0, d1, d2, d3, d4, d5, d6, d7⟩ := box8 B2; have HB2 : Hid _ := B2; have HA2 : Hid _ := A2; clear B2 A2 hb2) | (go_at_call 53; refine Calls.mono (by exact HBT.out _) ?_; rintro e w3 ⟨rfl, hb3⟩; have B3 := HB2.out.below hb3; have A3 := HA2.out.trans (hb3.mono HA2.out.size); obtain ⟨e0, e1, e2, e3, e4, e5, e6, e7⟩ := box8 B3; have HA3 : Hid _ := A3; clear B3 A3 hb3) | (go_at_call 54; refine Calls.mono (by exact HZ.out _) ?_; rintro e w4 ⟨rfl, hb4⟩; have HA4 : Hid _ := HA3.out.trans (hb4.mono HA3.out.size); clear hb4))
              go_ret
              exact ⟨by first | rfl | simp_all, HA4.out⟩
      | false =>
        rw [if_neg (by simp)]
        clear HT
        cases hT2 : (t == 0) with
        | false =>
          have hT3 : ¬ t = 0 := by simpa using hT2
          rw [Bool.false_and]
          clear HO HBT HZ
          have hA : Below w.heap.size w ((w.alloc (.cells (nArr k p nm t o b z ka kn kc) 46)).alloc (.cells #[.bool true, .bool false, .int .u8 s2, .int .u8 s3, .int .i64 s4, .int .i64 s5] 131)) := ((Below.refl _ _).alloc (Nat.le_refl _) _).alloc (by simp) _
          have B0 : Box ((w.alloc (.cells (nArr k p nm t o b z ka kn kc) 46)).alloc (.cells #[.bool true, .bool false, .int .u8 s2, .int .u8 s3, .int .i64 s4, .int .i64 s5] 131)) w.heap.size [.int .u8 (k : Int), .int .i64 p, .string nm, .int .u8 t, .int .u8 o, .int .u64 b, .int .i64 z, .slice ka kn kc] := (Box.new w [.int .u8 (k : Int), .int .i64 p, .string nm, .int .u8 t, .int .u8 o, .int .u64 b, .int .i64 z, .slice ka kn kc] 46).below (nBelow _ _ _)
          have S0 : Box ((w.alloc (.cells (nArr k p nm t o b z ka kn kc) 46)).alloc (.cells #[.bool true, .bool false, .int .u8 s2, .int .u8 s3, .int .i64 s4, .int .i64 s5] 131)) (w.heap.size + 1) [.bool true, .bool false, .int .u8 s2, .int .u8 s3, .int .i64 s4, .int .i64 s5] := by
            have := Box.new (w.alloc (.cells (nArr k p nm t o b z ka kn kc) 46)) [.bool true, .bool false, .int .u8 s2, .int .u8 s3, .int .i64 s4, .int .i64 s5] 131
            rwa [show (w.alloc (.cells (nArr k p nm t o b z ka kn kc) 46)).heap.size = w.heap.size + 1 by simp] at this
          have HA : Hid _ := hA
          have HB0 : Hid _ := B0
          have HS0 : Hid _ := S0
          clear hA B0 S0
          go_enter Tryz.func26, Tryz.ntmps26
          go_wp2_with (first | (go_at_call 49; refine Calls.mono (by exact HKD.out _) ?_; rintro e w' ⟨rfl, rfl⟩) | (go_at_call 50; refine Calls.mono (by exact HN.out _) ?_; rintro e w1 ⟨rfl, hb1⟩; have B1 := HB0.out.below hb1; have S1 := HS0.out.below hb1; have A1 := HA.out.trans (hb1.mono HA.out.size); obtain ⟨a0, a1, a2, a3, a4, a5, a6, a7⟩ := box8 B1; have q0 := S1.cell 0 _ rfl; have q1 := S1.cell 1 _ rfl; have HB1 : Hid _ := B1; have HA1 : Hid _ := A1; clear B1 S1 A1 hb1) | (go_at_call 51; refine Calls.mono (by exact HT.out _) ?_; rintro e w' ⟨rfl, rfl⟩) | (go_at_call 52; refine Calls.mono (by exact HO.out _) ?_; rintro e w2 ⟨rfl, hb2⟩; have B2 := HB1.out.below hb2; have A2 := HA1.out.trans (hb2.mono HA1.out.size); obtain ⟨d0, d1, d2, d3, d4, d5, d6, d7⟩ := box8 B2; have HB2 : Hid _ := B2; have HA2 : Hid _ := A2; clear B2 A2 hb2) | (go_at_call 53; refine Calls.mono (by exact HBT.out _) ?_; rintro e w3 ⟨rfl, hb3⟩; have B3 := HB2.out.below hb3; have A3 := HA2.out.trans (hb3.mono HA2.out.size); obtain ⟨e0, e1, e2, e3, e4, e5, e6, e7⟩ := box8 B3; have HA3 : Hid _ := A3; clear B3 A3 hb3) | (go_at_call 54; refine Calls.mono (by exact HZ.out _) ?_; rintro e w4 ⟨rfl, hb4⟩; have HA4 : Hid _ := HA3.out.trans (hb4.mono HA3.out.size); clear hb4))
          go_ret
          exact ⟨by first | rfl | simp_all, HA1.out⟩
        | true =>
          obtain rfl : t = 0 := by simpa using hT2
          rw [Bool.true_and]
          have hA : Below w.heap.size w ((w.alloc (.cells (nArr k p nm 0 o b z ka kn kc) 46)).alloc (.cells #[.bool true, .bool false, .int .u8 s2, .int .u8 s3, .int .i64 s4, .int .i64 s5] 131)) := ((Below.refl _ _).alloc (Nat.le_refl _) _).alloc (by simp) _
          have B0 : Box ((w.alloc (.cells (nArr k p nm 0 o b z ka kn kc) 46)).alloc (.cells #[.bool true, .bool false, .int .u8 s2, .int .u8 s3, .int .i64 s4, .int .i64 s5] 131)) w.heap.size [.int .u8 (k : Int), .int .i64 p, .string nm, .int .u8 0, .int .u8 o, .int .u64 b, .int .i64 z, .slice ka kn kc] := (Box.new w [.int .u8 (k : Int), .int .i64 p, .string nm, .int .u8 0, .int .u8 o, .int .u64 b, .int .i64 z, .slice ka kn kc] 46).below (nBelow _ _ _)
          have S0 : Box ((w.alloc (.cells (nArr k p nm 0 o b z ka kn kc) 46)).alloc (.cells #[.bool true, .bool false, .int .u8 s2, .int .u8 s3, .int .i64 s4, .int .i64 s5] 131)) (w.heap.size + 1) [.bool true, .bool false, .int .u8 s2, .int .u8 s3, .int .i64 s4, .int .i64 s5] := by
            have := Box.new (w.alloc (.cells (nArr k p nm 0 o b z ka kn kc) 46)) [.bool true, .bool false, .int .u8 s2, .int .u8 s3, .int .i64 s4, .int .i64 s5] 131
            rwa [show (w.alloc (.cells (nArr k p nm 0 o b z ka kn kc) 46)).heap.size = w.heap.size + 1 by simp] at this
          have HA : Hid _ := hA
          have HB0 : Hid _ := B0
          have HS0 : Hid _ := S0
          clear hA B0 S0
          cases xo with
          | false =>
            clear HBT HZ
            go_enter Tryz.func26, Tryz.ntmps26
            go_wp2_with (first | (go_at_call 49; refine Calls.mono (by exact HKD.out _) ?_; rintro e w' ⟨rfl, rfl⟩) | (go_at_call 50; refine Calls.mono (by exact HN.out _) ?_; rintro e w1 ⟨rfl, hb1⟩; have B1 := HB0.out.below hb1; have S1 := HS0.out.below hb1; have A1 := HA.out.trans (hb1.mono HA.out.size); obtain ⟨a0, a1, a2, a3, a4, a5, a6, a7⟩ := box8 B1; have q0 := S1.cell 0 _ rfl; have q1 := S1.cell 1 _ rfl; have HB1 : Hid _ := B1; have HA1 : Hid _ := A1; clear B1 S1 A1 hb1) | (go_at_call 51; refine Calls.mono (by exact HT.out _) ?_; rintro e w' ⟨rfl, rfl⟩) | (go_at_call 52; refine Calls.mono (by exact HO.out _) ?_; rintro e w2 ⟨rfl, hb2⟩; have B2 := HB1.out.below hb2; have A2 := HA1.out.trans (hb2.mono HA1.out.size); obtain ⟨d0, d1, d2, d3, d4, d5, d6, d7⟩ := box8 B2; have HB2 : Hid _ := B2; have HA2 : Hid _ := A2; clear B2 A2 hb2) | (go_at_call 53; refine Calls.mono (by exact HBT.out _) ?_; rintro e w3 ⟨rfl, hb3⟩; have B3 := HB2.out.below hb3; have A3 := HA2.out.trans (hb3.mono HA2.out.size); obtain ⟨e0, e1, e2, e3, e4, e5, e6, e7⟩ := box8 B3; have HA3 : Hid _ := A3; clear B3 A3 hb3) | (go_at_call 54; refine Calls.mono (by exact HZ.out _) ?_; rintro e w4 ⟨rfl, hb4⟩; have HA4 : Hid _ := HA3.out.trans (hb4.mono HA3.out.size); clear hb4))
            go_ret
            exact ⟨by first | rfl | simp_all, HA2.out⟩
          | true =>
            cases xb with
            | false =>
              clear HZ
              go_enter Tryz.func26, Tryz.ntmps26
              go_wp2_with (first | (go_at_call 49; refine Calls.mono (by exact HKD.out _) ?_; rintro e w' ⟨rfl, rfl⟩) | (go_at_call 50; refine Calls.mono (by exact HN.out _) ?_; rintro e w1 ⟨rfl, hb1⟩; have B1 := HB0.out.below hb1; have S1 := HS0.out.below hb1; have A1 := HA.out.trans (hb1.mono HA.out.size); obtain ⟨a0, a1, a2, a3, a4, a5, a6, a7⟩ := box8 B1; have q0 := S1.cell 0 _ rfl; have q1 := S1.cell 1 _ rfl; have HB1 : Hid _ := B1; have HA1 : Hid _ := A1; clear B1 S1 A1 hb1) | (go_at_call 51; refine Calls.mono (by exact HT.out _) ?_; rintro e w' ⟨rfl, rfl⟩) | (go_at_call 52; refine Calls.mono (by exact HO.out _) ?_; rintro e w2 ⟨rfl, hb2⟩; have B2 := HB1.out.below hb2; have A2 := HA1.out.trans (hb2.mono HA1.out.size); obtain ⟨d0, d1, d2, d3, d4, d5, d6, d7⟩ := box8 B2; have HB2 : Hid _ := B2; have HA2 : Hid _ := A2; clear B2 A2 hb2) | (go_at_call 53; refine Calls.mono (by exact HBT.out _) ?_; rintro e w3 ⟨rfl, hb3⟩; have B3 := HB2.out.below hb3; have A3 := HA2.out.trans (hb3.mono HA2.out.size); obtain ⟨e0, e1, e2, e3, e4, e5, e6, e7⟩ := box8 B3; have HA3 : Hid _ := A3; clear B3 A3 hb3) | (go_at_call 54; refine Calls.mono (by exact HZ.out _) ?_; rintro e w4 ⟨rfl, hb4⟩; have HA4 : Hid _ := HA3.out.trans (hb4.mono HA3.out.size); clear hb4))
              go_ret
              exact ⟨by first | rfl | simp_all, HA3.out⟩
            | true =>
              go_enter Tryz.func26, Tryz.ntmps26
              go_wp2_with (first | (go_at_call 49; refine Calls.mono (by exact HKD.out _) ?_; rintro e w' ⟨rfl, rfl⟩) | (go_at_call 50; refine Calls.mono (by exact HN.out _) ?_; rintro e w1 ⟨rfl, hb1⟩; have B1 := HB0.out.below hb1; have S1 := HS0.out.below hb1; have A1 := HA.out.trans (hb1.mono HA.out.size); obtain ⟨a0, a1, a2, a3, a4, a5, a6, a7⟩ := box8 B1; have q0 := S1.cell 0 _ rfl; have q1 := S1.cell 1 _ rfl; have HB1 : Hid _ := B1; have HA1 : Hid _ := A1; clear B1 S1 A1 hb1) | (go_at_call 51; refine Calls.mono (by exact HT.out _) ?_; rintro e w' ⟨rfl, rfl⟩) | (go_at_call 52; refine Calls.mono (by exact HO.out _) ?_; rintro e w2 ⟨rfl, hb2⟩; have B2 := HB1.out.below hb2; have A2 := HA1.out.trans (hb2.mono HA1.out.size); obtain ⟨d0, d1, d2, d3, d4, d5, d6, d7⟩ := box8 B2; have HB2 : Hid _ := B2; have HA2 : Hid _ := A2; clear B2 A2 hb2) | (go_at_call 53; refine Calls.mono (by exact HBT.out _) ?_; rintro e w3 ⟨rfl, hb3⟩; have B3 := HB2.out.below hb3; have A3 := HA2.out.trans (hb3.mono HA2.out.size); obtain ⟨e0, e1, e2, e3, e4, e5, e6, e7⟩ := box8 B3; have HA3 : Hid _ := A3; clear B3 A3 hb3) | (go_at_call 54; refine Calls.mono (by exact HZ.out _) ?_; rintro e w4 ⟨rfl, hb4⟩; have HA4 : Hid _ := HA3.out.trans (hb4.mono HA3.out.size); clear hb4))
              go_ret
              exact ⟨by first | rfl | simp_all, HA4.out⟩
  | false =>
    rw [if_neg (by simp)]
    clear HN
    cases hN2 : (nm.toList == []) with
    | false =>
      have hN3 : nm.toList.isEmpty = false := by
        cases hl : nm.toList with
        | nil => rw [hl] at hN2; simp at hN2
        | cons => rfl
      rw [Bool.false_and, Bool.false_and]
      clear HT HO HBT HZ
      cases st with
      | true =>
        have hA : Below w.heap.size w ((w.alloc (.cells (nArr k p nm t o b z ka kn kc) 46)).alloc (.cells #[.bool false, .bool true, .int .u8 s2, .int .u8 s3, .int .i64 s4, .int .i64 s5] 131)) := ((Below.refl _ _).alloc (Nat.le_refl _) _).alloc (by simp) _
        have B0 : Box ((w.alloc (.cells (nArr k p nm t o b z ka kn kc) 46)).alloc (.cells #[.bool false, .bool true, .int .u8 s2, .int .u8 s3, .int .i64 s4, .int .i64 s5] 131)) w.heap.size [.int .u8 (k : Int), .int .i64 p, .string nm, .int .u8 t, .int .u8 o, .int .u64 b, .int .i64 z, .slice ka kn kc] := (Box.new w [.int .u8 (k : Int), .int .i64 p, .string nm, .int .u8 t, .int .u8 o, .int .u64 b, .int .i64 z, .slice ka kn kc] 46).below (nBelow _ _ _)
        have S0 : Box ((w.alloc (.cells (nArr k p nm t o b z ka kn kc) 46)).alloc (.cells #[.bool false, .bool true, .int .u8 s2, .int .u8 s3, .int .i64 s4, .int .i64 s5] 131)) (w.heap.size + 1) [.bool false, .bool true, .int .u8 s2, .int .u8 s3, .int .i64 s4, .int .i64 s5] := by
          have := Box.new (w.alloc (.cells (nArr k p nm t o b z ka kn kc) 46)) [.bool false, .bool true, .int .u8 s2, .int .u8 s3, .int .i64 s4, .int .i64 s5] 131
          rwa [show (w.alloc (.cells (nArr k p nm t o b z ka kn kc) 46)).heap.size = w.heap.size + 1 by simp] at this
        have HA : Hid _ := hA
        have HB0 : Hid _ := B0
        have HS0 : Hid _ := S0
        clear hA B0 S0
        go_enter Tryz.func26, Tryz.ntmps26
        go_wp2_with (first | (go_at_call 49; refine Calls.mono (by exact HKD.out _) ?_; rintro e w' ⟨rfl, rfl⟩) | (go_at_call 51; refine Calls.mono (by exact HT.out _) ?_; rintro e w' ⟨rfl, rfl⟩) | (go_at_call 52; refine Calls.mono (by exact HO.out _) ?_; rintro e w2 ⟨rfl, hb2⟩; have B2 := HB0.out.below hb2; have A2 := HA.out.trans (hb2.mono HA.out.size); obtain ⟨d0, d1, d2, d3, d4, d5, d6, d7⟩ := box8 B2; have HB2 : Hid _ := B2; have HA2 : Hid _ := A2; clear B2 A2 hb2) | (go_at_call 53; refine Calls.mono (by exact HBT.out _) ?_; rintro e w3 ⟨rfl, hb3⟩; have B3 := HB2.out.below hb3; have A3 := HA2.out.trans (hb3.mono HA2.out.size); obtain ⟨e0, e1, e2, e3, e4, e5, e6, e7⟩ := box8 B3; have HA3 : Hid _ := A3; clear B3 A3 hb3) | (go_at_call 54; refine Calls.mono (by exact HZ.out _) ?_; rintro e w4 ⟨rfl, hb4⟩; have HA4 : Hid _ := HA3.out.trans (hb4.mono HA3.out.size); clear hb4))
        go_ret
        exact ⟨by first | rfl | simp_all, HA.out⟩
      | false =>
        have hA : Below w.heap.size w ((w.alloc (.cells (nArr k p nm t o b z ka kn kc) 46)).alloc (.cells #[.bool false, .bool false, .int .u8 s2, .int .u8 s3, .int .i64 s4, .int .i64 s5] 131)) := ((Below.refl _ _).alloc (Nat.le_refl _) _).alloc (by simp) _
        have B0 : Box ((w.alloc (.cells (nArr k p nm t o b z ka kn kc) 46)).alloc (.cells #[.bool false, .bool false, .int .u8 s2, .int .u8 s3, .int .i64 s4, .int .i64 s5] 131)) w.heap.size [.int .u8 (k : Int), .int .i64 p, .string nm, .int .u8 t, .int .u8 o, .int .u64 b, .int .i64 z, .slice ka kn kc] := (Box.new w [.int .u8 (k : Int), .int .i64 p, .string nm, .int .u8 t, .int .u8 o, .int .u64 b, .int .i64 z, .slice ka kn kc] 46).below (nBelow _ _ _)
        have S0 : Box ((w.alloc (.cells (nArr k p nm t o b z ka kn kc) 46)).alloc (.cells #[.bool false, .bool false, .int .u8 s2, .int .u8 s3, .int .i64 s4, .int .i64 s5] 131)) (w.heap.size + 1) [.bool false, .bool false, .int .u8 s2, .int .u8 s3, .int .i64 s4, .int .i64 s5] := by
          have := Box.new (w.alloc (.cells (nArr k p nm t o b z ka kn kc) 46)) [.bool false, .bool false, .int .u8 s2, .int .u8 s3, .int .i64 s4, .int .i64 s5] 131
          rwa [show (w.alloc (.cells (nArr k p nm t o b z ka kn kc) 46)).heap.size = w.heap.size + 1 by simp] at this
        have HA : Hid _ := hA
        have HB0 : Hid _ := B0
        have HS0 : Hid _ := S0
        clear hA B0 S0
        go_enter Tryz.func26, Tryz.ntmps26
        go_wp2_with (first | (go_at_call 49; refine Calls.mono (by exact HKD.out _) ?_; rintro e w' ⟨rfl, rfl⟩) | (go_at_call 51; refine Calls.mono (by exact HT.out _) ?_; rintro e w' ⟨rfl, rfl⟩) | (go_at_call 52; refine Calls.mono (by exact HO.out _) ?_; rintro e w2 ⟨rfl, hb2⟩; have B2 := HB0.out.below hb2; have A2 := HA.out.trans (hb2.mono HA.out.size); obtain ⟨d0, d1, d2, d3, d4, d5, d6, d7⟩ := box8 B2; have HB2 : Hid _ := B2; have HA2 : Hid _ := A2; clear B2 A2 hb2) | (go_at_call 53; refine Calls.mono (by exact HBT.out _) ?_; rintro e w3 ⟨rfl, hb3⟩; have B3 := HB2.out.below hb3; have A3 := HA2.out.trans (hb3.mono HA2.out.size); obtain ⟨e0, e1, e2, e3, e4, e5, e6, e7⟩ := box8 B3; have HA3 : Hid _ := A3; clear B3 A3 hb3) | (go_at_call 54; refine Calls.mono (by exact HZ.out _) ?_; rintro e w4 ⟨rfl, hb4⟩; have HA4 : Hid _ := HA3.out.trans (hb4.mono HA3.out.size); clear hb4))
        go_ret
        exact ⟨by first | rfl | simp_all, HA.out⟩
    | true =>
      obtain rfl : nm = ⟨#[]⟩ := nm_nil (eq_of_beq hN2)
      rw [Bool.true_and]
      clear hN2
      cases st with
      | true =>
        rw [if_pos rfl]
        cases hT2 : typedB t with
        | false =>
          rw [hT2] at HT
          rw [Bool.false_and]
          clear HO HBT HZ
          have hA : Below w.heap.size w ((w.alloc (.cells (nArr k p ⟨#[]⟩ t o b z ka kn kc) 46)).alloc (.cells #[.bool false, .bool true, .int .u8 s2, .int .u8 s3, .int .i64 s4, .int .i64 s5] 131)) := ((Below.refl _ _).alloc (Nat.le_refl _) _).alloc (by simp) _
          have B0 : Box ((w.alloc (.cells (nArr k p ⟨#[]⟩ t o b z ka kn kc) 46)).alloc (.cells #[.bool false, .bool true, .int .u8 s2, .int .u8 s3, .int .i64 s4, .int .i64 s5] 131)) w.heap.size [.int .u8 (k : Int), .int .i64 p, .string ⟨#[]⟩, .int .u8 t, .int .u8 o, .int .u64 b, .int .i64 z, .slice ka kn kc] := (Box.new w [.int .u8 (k : Int), .int .i64 p, .string ⟨#[]⟩, .int .u8 t, .int .u8 o, .int .u64 b, .int .i64 z, .slice ka kn kc] 46).below (nBelow _ _ _)
          have S0 : Box ((w.alloc (.cells (nArr k p ⟨#[]⟩ t o b z ka kn kc) 46)).alloc (.cells #[.bool false, .bool true, .int .u8 s2, .int .u8 s3, .int .i64 s4, .int .i64 s5] 131)) (w.heap.size + 1) [.bool false, .bool true, .int .u8 s2, .int .u8 s3, .int .i64 s4, .int .i64 s5] := by
            have := Box.new (w.alloc (.cells (nArr k p ⟨#[]⟩ t o b z ka kn kc) 46)) [.bool false, .bool true, .int .u8 s2, .int .u8 s3, .int .i64 s4, .int .i64 s5] 131
            rwa [show (w.alloc (.cells (nArr k p ⟨#[]⟩ t o b z ka kn kc) 46)).heap.size = w.heap.size + 1 by simp] at this
          have HA : Hid _ := hA
          have HB0 : Hid _ := B0
          have HS0 : Hid _ := S0
          clear hA B0 S0
          go_enter Tryz.func26, Tryz.ntmps26
          go_wp2_with (first | (go_at_call 49; refine Calls.mono (by exact HKD.out _) ?_; rintro e w' ⟨rfl, rfl⟩) | (go_at_call 51; refine Calls.mono (by exact HT.out _) ?_; rintro e w' ⟨rfl, rfl⟩) | (go_at_call 52; refine Calls.mono (by exact HO.out _) ?_; rintro e w2 ⟨rfl, hb2⟩; have B2 := HB0.out.below hb2; have A2 := HA.out.trans (hb2.mono HA.out.size); obtain ⟨d0, d1, d2, d3, d4, d5, d6, d7⟩ := box8 B2; have HB2 : Hid _ := B2; have HA2 : Hid _ := A2; clear B2 A2 hb2) | (go_at_call 53; refine Calls.mono (by exact HBT.out _) ?_; rintro e w3 ⟨rfl, hb3⟩; have B3 := HB2.out.below hb3; have A3 := HA2.out.trans (hb3.mono HA2.out.size); obtain ⟨e0, e1, e2, e3, e4, e5, e6, e7⟩ := box8 B3; have HA3 : Hid _ := A3; clear B3 A3 hb3) | (go_at_call 54; refine Calls.mono (by exact HZ.out _) ?_; rintro e w4 ⟨rfl, hb4⟩; have HA4 : Hid _ := HA3.out.trans (hb4.mono HA3.out.size); clear hb4))
          go_ret
          exact ⟨by first | rfl | simp_all, HA.out⟩
        | true =>
          rw [hT2] at HT
          rw [Bool.true_and]
          have hA : Below w.heap.size w ((w.alloc (.cells (nArr k p ⟨#[]⟩ t o b z ka kn kc) 46)).alloc (.cells #[.bool false, .bool true, .int .u8 s2, .int .u8 s3, .int .i64 s4, .int .i64 s5] 131)) := ((Below.refl _ _).alloc (Nat.le_refl _) _).alloc (by simp) _
          have B0 : Box ((w.alloc (.cells (nArr k p ⟨#[]⟩ t o b z ka kn kc) 46)).alloc (.cells #[.bool false, .bool true, .int .u8 s2, .int .u8 s3, .int .i64 s4, .int .i64 s5] 131)) w.heap.size [.int .u8 (k : Int), .int .i64 p, .string ⟨#[]⟩, .int .u8 t, .int .u8 o, .int .u64 b, .int .i64 z, .slice ka kn kc] := (Box.new w [.int .u8 (k : Int), .int .i64 p, .string ⟨#[]⟩, .int .u8 t, .int .u8 o, .int .u64 b, .int .i64 z, .slice ka kn kc] 46).below (nBelow _ _ _)
          have S0 : Box ((w.alloc (.cells (nArr k p ⟨#[]⟩ t o b z ka kn kc) 46)).alloc (.cells #[.bool false, .bool true, .int .u8 s2, .int .u8 s3, .int .i64 s4, .int .i64 s5] 131)) (w.heap.size + 1) [.bool false, .bool true, .int .u8 s2, .int .u8 s3, .int .i64 s4, .int .i64 s5] := by
            have := Box.new (w.alloc (.cells (nArr k p ⟨#[]⟩ t o b z ka kn kc) 46)) [.bool false, .bool true, .int .u8 s2, .int .u8 s3, .int .i64 s4, .int .i64 s5] 131
            rwa [show (w.alloc (.cells (nArr k p ⟨#[]⟩ t o b z ka kn kc) 46)).heap.size = w.heap.size + 1 by simp] at this
          have HA : Hid _ := hA
          have HB0 : Hid _ := B0
          have HS0 : Hid _ := S0
          clear hA B0 S0
          cases xo with
          | false =>
            clear HBT HZ
            go_enter Tryz.func26, Tryz.ntmps26
            go_wp2_with (first | (go_at_call 49; refine Calls.mono (by exact HKD.out _) ?_; rintro e w' ⟨rfl, rfl⟩) | (go_at_call 51; refine Calls.mono (by exact HT.out _) ?_; rintro e w' ⟨rfl, rfl⟩) | (go_at_call 52; refine Calls.mono (by exact HO.out _) ?_; rintro e w2 ⟨rfl, hb2⟩; have B2 := HB0.out.below hb2; have A2 := HA.out.trans (hb2.mono HA.out.size); obtain ⟨d0, d1, d2, d3, d4, d5, d6, d7⟩ := box8 B2; have HB2 : Hid _ := B2; have HA2 : Hid _ := A2; clear B2 A2 hb2) | (go_at_call 53; refine Calls.mono (by exact HBT.out _) ?_; rintro e w3 ⟨rfl, hb3⟩; have B3 := HB2.out.below hb3; have A3 := HA2.out.trans (hb3.mono HA2.out.size); obtain ⟨e0, e1, e2, e3, e4, e5, e6, e7⟩ := box8 B3; have HA3 : Hid _ := A3; clear B3 A3 hb3) | (go_at_call 54; refine Calls.mono (by exact HZ.out _) ?_; rintro e w4 ⟨rfl, hb4⟩; have HA4 : Hid _ := HA3.out.trans (hb4.mono HA3.out.size); clear hb4))
            go_ret
            exact ⟨by first | rfl | simp_all, HA2.out⟩
          | true =>
            cases xb with
            | false =>
              clear HZ
              go_enter Tryz.func26, Tryz.ntmps26
              go_wp2_with (first | (go_at_call 49; refine Calls.mono (by exact HKD.out _) ?_; rintro e w' ⟨rfl, rfl⟩) | (go_at_call 51; refine Calls.mono (by exact HT.out _) ?_; rintro e w' ⟨rfl, rfl⟩) | (go_at_call 52; refine Calls.mono (by exact HO.out _) ?_; rintro e w2 ⟨rfl, hb2⟩; have B2 := HB0.out.below hb2; have A2 := HA.out.trans (hb2.mono HA.out.size); obtain ⟨d0, d1, d2, d3, d4, d5, d6, d7⟩ := box8 B2; have HB2 : Hid _ := B2; have HA2 : Hid _ := A2; clear B2 A2 hb2) | (go_at_call 53; refine Calls.mono (by exact HBT.out _) ?_; rintro e w3 ⟨rfl, hb3⟩; have B3 := HB2.out.below hb3; have A3 := HA2.out.trans (hb3.mono HA2.out.size); obtain ⟨e0, e1, e2, e3, e4, e5, e6, e7⟩ := box8 B3; have HA3 : Hid _ := A3; clear B3 A3 hb3) | (go_at_call 54; refine Calls.mono (by exact HZ.out _) ?_; rintro e w4 ⟨rfl, hb4⟩; have HA4 : Hid _ := HA3.out.trans (hb4.mono HA3.out.size); clear hb4))
              go_ret
              exact ⟨by first | rfl | simp_all, HA3.out⟩
            | true =>
              go_enter Tryz.func26, Tryz.ntmps26
              go_wp2_with (first | (go_at_call 49; refine Calls.mono (by exact HKD.out _) ?_; rintro e w' ⟨rfl, rfl⟩) | (go_at_call 51; refine Calls.mono (by exact HT.out _) ?_; rintro e w' ⟨rfl, rfl⟩) | (go_at_call 52; refine Calls.mono (by exact HO.out _) ?_; rintro e w2 ⟨rfl, hb2⟩; have B2 := HB0.out.below hb2; have A2 := HA.out.trans (hb2.mono HA.out.size); obtain ⟨d0, d1, d2, d3, d4, d5, d6, d7⟩ := box8 B2; have HB2 : Hid _ := B2; have HA2 : Hid _ := A2; clear B2 A2 hb2) | (go_at_call 53; refine Calls.mono (by exact HBT.out _) ?_; rintro e w3 ⟨rfl, hb3⟩; have B3 := HB2.out.below hb3; have A3 := HA2.out.trans (hb3.mono HA2.out.size); obtain ⟨e0, e1, e2, e3, e4, e5, e6, e7⟩ := box8 B3; have HA3 : Hid _ := A3; clear B3 A3 hb3) | (go_at_call 54; refine Calls.mono (by exact HZ.out _) ?_; rintro e w4 ⟨rfl, hb4⟩; have HA4 : Hid _ := HA3.out.trans (hb4.mono HA3.out.size); clear hb4))
              go_ret
              exact ⟨by first | rfl | simp_all, HA4.out⟩
      | false =>
        rw [if_neg (by simp)]
        clear HT
        cases hT2 : (t == 0) with
        | false =>
          have hT3 : ¬ t = 0 := by simpa using hT2
          rw [Bool.false_and]
          clear HO HBT HZ
          have hA : Below w.heap.size w ((w.alloc (.cells (nArr k p ⟨#[]⟩ t o b z ka kn kc) 46)).alloc (.cells #[.bool false, .bool false, .int .u8 s2, .int .u8 s3, .int .i64 s4, .int .i64 s5] 131)) := ((Below.refl _ _).alloc (Nat.le_refl _) _).alloc (by simp) _
          have B0 : Box ((w.alloc (.cells (nArr k p ⟨#[]⟩ t o b z ka kn kc) 46)).alloc (.cells #[.bool false, .bool false, .int .u8 s2, .int .u8 s3, .int .i64 s4, .int .i64 s5] 131)) w.heap.size [.int .u8 (k : Int), .int .i64 p, .string ⟨#[]⟩, .int .u8 t, .int .u8 o, .int .u64 b, .int .i64 z, .slice ka kn kc] := (Box.new w [.int .u8 (k : Int), .int .i64 p, .string ⟨#[]⟩, .int .u8 t, .int .u8 o, .int .u64 b, .int .i64 z, .slice ka kn kc] 46).below (nBelow _ _ _)
          have S0 : Box ((w.alloc (.cells (nArr k p ⟨#[]⟩ t o b z ka kn kc) 46)).alloc (.cells #[.bool false, .bool false, .int .u8 s2, .int .u8 s3, .int .i64 s4, .int .i64 s5] 131)) (w.heap.size + 1) [.bool false, .bool false, .int .u8 s2, .int .u8 s3, .int .i64 s4, .int .i64 s5] := by
            have := Box.new (w.alloc (.cells (nArr k p ⟨#[]⟩ t o b z ka kn kc) 46)) [.bool false, .bool false, .int .u8 s2, .int .u8 s3, .int .i64 s4, .int .i64 s5] 131
            rwa [show (w.alloc (.cells (nArr k p ⟨#[]⟩ t o b z ka kn kc) 46)).heap.size = w.heap.size + 1 by simp] at this
          have HA : Hid _ := hA
          have HB0 : Hid _ := B0
          have HS0 : Hid _ := S0
          clear hA B0 S0
          go_enter Tryz.func26, Tryz.ntmps26
          go_wp2_with (first | (go_at_call 49; refine Calls.mono (by exact HKD.out _) ?_; rintro e w' ⟨rfl, rfl⟩) | (go_at_call 51; refine Calls.mono (by exact HT.out _) ?_; rintro e w' ⟨rfl, rfl⟩) | (go_at_call 52; refine Calls.mono (by exact HO.out _) ?_; rintro e w2 ⟨rfl, hb2⟩; have B2 := HB0.out.below hb2; have A2 := HA.out.trans (hb2.mono HA.out.size); obtain ⟨d0, d1, d2, d3, d4, d5, d6, d7⟩ := box8 B2; have HB2 : Hid _ := B2; have HA2 : Hid _ := A2; clear B2 A2 hb2) | (go_at_call 53; refine Calls.mono (by exact HBT.out _) ?_; rintro e w3 ⟨rfl, hb3⟩; have B3 := HB2.out.below hb3; have A3 := HA2.out.trans (hb3.mono HA2.out.size); obtain ⟨e0, e1, e2, e3, e4, e5, e6, e7⟩ := box8 B3; have HA3 : Hid _ := A3; clear B3 A3 hb3) | (go_at_call 54; refine Calls.mono (by exact HZ.out _) ?_; rintro e w4 ⟨rfl, hb4⟩; have HA4 : Hid _ := HA3.out.trans (hb4.mono HA3.out.size); clear hb4))
          go_ret
          exact ⟨by first | rfl | simp_all, HA.out⟩
        | true =>
          obtain rfl : t = 0 := by simpa using hT2
          rw [Bool.true_and]
          have hA : Below w.heap.size w ((w.alloc (.cells (nArr k p ⟨#[]⟩ 0 o b z ka kn kc) 46)).alloc (.cells #[.bool false, .bool false, .int .u8 s2, .int .u8 s3, .int .i64 s4, .int .i64 s5] 131)) := ((Below.refl _ _).alloc (Nat.le_refl _) _).alloc (by simp) _
          have B0 : Box ((w.alloc (.cells (nArr k p ⟨#[]⟩ 0 o b z ka kn kc) 46)).alloc (.cells #[.bool false, .bool false, .int .u8 s2, .int .u8 s3, .int .i64 s4, .int .i64 s5] 131)) w.heap.size [.int .u8 (k : Int), .int .i64 p, .string ⟨#[]⟩, .int .u8 0, .int .u8 o, .int .u64 b, .int .i64 z, .slice ka kn kc] := (Box.new w [.int .u8 (k : Int), .int .i64 p, .string ⟨#[]⟩, .int .u8 0, .int .u8 o, .int .u64 b, .int .i64 z, .slice ka kn kc] 46).below (nBelow _ _ _)
          have S0 : Box ((w.alloc (.cells (nArr k p ⟨#[]⟩ 0 o b z ka kn kc) 46)).alloc (.cells #[.bool false, .bool false, .int .u8 s2, .int .u8 s3, .int .i64 s4, .int .i64 s5] 131)) (w.heap.size + 1) [.bool false, .bool false, .int .u8 s2, .int .u8 s3, .int .i64 s4, .int .i64 s5] := by
            have := Box.new (w.alloc (.cells (nArr k p ⟨#[]⟩ 0 o b z ka kn kc) 46)) [.bool false, .bool false, .int .u8 s2, .int .u8 s3, .int .i64 s4, .int .i64 s5] 131
            rwa [show (w.alloc (.cells (nArr k p ⟨#[]⟩ 0 o b z ka kn kc) 46)).heap.size = w.heap.size + 1 by simp] at this
          have HA : Hid _ := hA
          have HB0 : Hid _ := B0
          have HS0 : Hid _ := S0
          clear hA B0 S0
          cases xo with
          | false =>
            clear HBT HZ
            go_enter Tryz.func26, Tryz.ntmps26
            go_wp2_with (first | (go_at_call 49; refine Calls.mono (by exact HKD.out _) ?_; rintro e w' ⟨rfl, rfl⟩) | (go_at_call 51; refine Calls.mono (by exact HT.out _) ?_; rintro e w' ⟨rfl, rfl⟩) | (go_at_call 52; refine Calls.mono (by exact HO.out _) ?_; rintro e w2 ⟨rfl, hb2⟩; have B2 := HB0.out.below hb2; have A2 := HA.out.trans (hb2.mono HA.out.size); obtain ⟨d0, d1, d2, d3, d4, d5, d6, d7⟩ := box8 B2; have HB2 : Hid _ := B2; have HA2 : Hid _ := A2; clear B2 A2 hb2) | (go_at_call 53; refine Calls.mono (by exact HBT.out _) ?_; rintro e w3 ⟨rfl, hb3⟩; have B3 := HB2.out.below hb3; have A3 := HA2.out.trans (hb3.mono HA2.out.size); obtain ⟨e0, e1, e2, e3, e4, e5, e6, e7⟩ := box8 B3; have HA3 : Hid _ := A3; clear B3 A3 hb3) | (go_at_call 54; refine Calls.mono (by exact HZ.out _) ?_; rintro e w4 ⟨rfl, hb4⟩; have HA4 : Hid _ := HA3.out.trans (hb4.mono HA3.out.size); clear hb4))
            go_ret
            exact ⟨by first | rfl | simp_all, HA2.out⟩
          | true =>
            cases xb with
            | false =>
              clear HZ
              go_enter Tryz.func26, Tryz.ntmps26
              go_wp2_with (first | (go_at_call 49; refine Calls.mono (by exact HKD.out _) ?_; rintro e w' ⟨rfl, rfl⟩) | (go_at_call 51; refine Calls.mono (by exact HT.out _) ?_; rintro e w' ⟨rfl, rfl⟩) | (go_at_call 52; refine Calls.mono (by exact HO.out _) ?_; rintro e w2 ⟨rfl, hb2⟩; have B2 := HB0.out.below hb2; have A2 := HA.out.trans (hb2.mono HA.out.size); obtain ⟨d0, d1, d2, d3, d4, d5, d6, d7⟩ := box8 B2; have HB2 : Hid _ := B2; have HA2 : Hid _ := A2; clear B2 A2 hb2) | (go_at_call 53; refine Calls.mono (by exact HBT.out _) ?_; rintro e w3 ⟨rfl, hb3⟩; have B3 := HB2.out.below hb3; have A3 := HA2.out.trans (hb3.mono HA2.out.size); obtain ⟨e0, e1, e2, e3, e4, e5, e6, e7⟩ := box8 B3; have HA3 : Hid _ := A3; clear B3 A3 hb3) | (go_at_call 54; refine Calls.mono (by exact HZ.out _) ?_; rintro e w4 ⟨rfl, hb4⟩; have HA4 : Hid _ := HA3.out.trans (hb4.mono HA3.out.size); clear hb4))
              go_ret
              exact ⟨by first | rfl | simp_all, HA3.out⟩
            | true =>
              go_enter Tryz.func26, Tryz.ntmps26
              go_wp2_with (first | (go_at_call 49; refine Calls.mono (by exact HKD.out _) ?_; rintro e w' ⟨rfl, rfl⟩) | (go_at_call 51; refine Calls.mono (by exact HT.out _) ?_; rintro e w' ⟨rfl, rfl⟩) | (go_at_call 52; refine Calls.mono (by exact HO.out _) ?_; rintro e w2 ⟨rfl, hb2⟩; have B2 := HB0.out.below hb2; have A2 := HA.out.trans (hb2.mono HA.out.size); obtain ⟨d0, d1, d2, d3, d4, d5, d6, d7⟩ := box8 B2; have HB2 : Hid _ := B2; have HA2 : Hid _ := A2; clear B2 A2 hb2) | (go_at_call 53; refine Calls.mono (by exact HBT.out _) ?_; rintro e w3 ⟨rfl, hb3⟩; have B3 := HB2.out.below hb3; have A3 := HA2.out.trans (hb3.mono HA2.out.size); obtain ⟨e0, e1, e2, e3, e4, e5, e6, e7⟩ := box8 B3; have HA3 : Hid _ := A3; clear B3 A3 hb3) | (go_at_call 54; refine Calls.mono (by exact HZ.out _) ?_; rintro e w4 ⟨rfl, hb4⟩; have HA4 : Hid _ := HA3.out.trans (hb4.mono HA3.out.size); clear hb4))
              go_ret
              exact ⟨by first | rfl | simp_all, HA4.out⟩
end Go.Proofs.YtbejgachdhfakaaGreatDoor
