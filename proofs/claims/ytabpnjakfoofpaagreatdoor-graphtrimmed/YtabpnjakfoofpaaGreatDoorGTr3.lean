/- An end that leads to the same blocks where they stand now. -/
import Derived.Test.YtabpnjakfoofpaaGreatDoorGClnM
import Derived.Test.YtabpnjakfoofpaaGreatDoorGChk4
namespace Go.Proofs.YtabpnjakfoofpaaGreatDoor
open Go.RowKit

/-- five cells of a block are told -/
abbrev setFive (W : World) (r : Nat) (u0 u1 u2 u3 u4 : Value) : World := ((((W.setCell ⟨r, 0, none⟩ u0).setCell ⟨r, 1, none⟩ u1).setCell ⟨r, 2, none⟩ u2).setCell ⟨r, 3, none⟩ u3).setCell ⟨r, 4, none⟩ u4
theorem five_end {w W : World} {r : Nat} {t : TypeId} {z0 z1 z2 z3 z4 : Value} (hb : Below w.heap.size w W) (hr : w.heap.size ≤ r) (ho : W.heap[r]? = some (.cells #[z0, z1, z2, z3, z4] t (0, 0))) (u0 u1 u2 u3 u4 : Value) :
    Below w.heap.size w (setFive W r u0 u1 u2 u3 u4) ∧ (setFive W r u0 u1 u2 u3 u4).heap[r]? = some (.cells #[u0, u1, u2, u3, u4] t (0, 0)) := by
  refine ⟨(((((hb.setCell (p := ⟨r, 0, none⟩) hr _).setCell (p := ⟨r, 1, none⟩) hr _).setCell (p := ⟨r, 2, none⟩) hr _).setCell (p := ⟨r, 3, none⟩) hr _).setCell (p := ⟨r, 4, none⟩) hr _), ?_⟩
  exact hsc (i := 4) (hsc (i := 3) (hsc (i := 2) (hsc (i := 1) (hsc (i := 0) ho u0) u1) u2) u3) u4
def ledY (O : List Int) (n : Nat) (y : Int) : Int := if inB y n = true then placeOf O y else y
/-- an end of which the first names are told -/
def ledK (O : List Int) (n i : Nat) (t : Tm) : Tm := { t with t0 := if 0 < i then ledY O n t.t0 else t.t0, t1 := if 1 < i then ledY O n t.t1 else t.t1 }
theorem ledK_end (O : List Int) (n : Nat) (t : Tm) : ledK O n (namedT t).length t = ledT O n t := by
  unfold ledK ledT namedT ledY
  by_cases k1 : t.kind = 1
  · simp [k1]
  · by_cases k2 : t.kind = 2
    · simp [k2]
    · simp [k1, k2]
theorem named_two (t : Tm) : (namedT t).length ≤ 2 := by unfold namedT; split <;> (try split) <;> simp
theorem named_0 {t : Tm} (h : 0 < (namedT t).length) : (namedT t).getD 0 0 = t.t0 := by
  unfold namedT at *
  split <;> (try split) <;> simp_all
theorem named_1 {t : Tm} (h : 1 < (namedT t).length) : (namedT t).getD 1 0 = t.t1 := by
  unfold namedT at *
  split <;> (try split) <;> simp_all
abbrev tmL (t : Tm) : List Value := [.int .u8 t.kind, .int .i64 t.arg, .int .i64 t.t0, .int .i64 t.t1, .int .u8 t.trap]
/-- the end at hand and the end that is told -/
structure LK (w wr : World) (t : Tm) : Prop where
  bel : Below w.heap.size w wr
  bx : Box wr w.heap.size (tmL t)
  ob : wr.heap[w.heap.size + 1]? = some (.cells #[.int .u8 0, .int .i64 0, .int .i64 0, .int .i64 0, .int .u8 0] 38 (0, 0))
  bo : Box wr (w.heap.size + 1) [.int .u8 0, .int .i64 0, .int .i64 0, .int .i64 0, .int .u8 0]
theorem LK.below {w wr w' : World} {t : Tm} (h : LK w wr t) (hb : Below wr.heap.size wr w') : LK w w' t := ⟨below_trans h.bel hb, h.bx.below hb, by
  rw [hb.block _ (by
    rcases Nat.lt_or_ge (w.heap.size + 1) wr.heap.size with h1 | h1
    · exact h1
    · have := h.ob; rw [Array.getElem?_eq_none h1] at this; cases this)]; exact h.ob, h.bo.below hb⟩
theorem LK.set0 {w wr : World} {t : Tm} (h : LK w wr t) (y : Int) : LK w (wr.setCell ⟨w.heap.size, 2, none⟩ (.int .i64 y)) { t with t0 := y } :=
  ⟨h.bel.setCell (p := ⟨w.heap.size, 2, none⟩) (Nat.le_refl _) _, h.bx.set (j := 2) (by simp) _, (Below.heap_setCell wr ⟨w.heap.size, 2, none⟩ _ (w.heap.size + 1) (by show w.heap.size + 1 ≠ w.heap.size; omega)).trans h.ob, h.bo.other (by show w.heap.size + 1 ≠ w.heap.size; omega) _⟩
theorem LK.set1 {w wr : World} {t : Tm} (h : LK w wr t) (y : Int) : LK w (wr.setCell ⟨w.heap.size, 3, none⟩ (.int .i64 y)) { t with t1 := y } :=
  ⟨h.bel.setCell (p := ⟨w.heap.size, 3, none⟩) (Nat.le_refl _) _, h.bx.set (j := 3) (by simp) _, (Below.heap_setCell wr ⟨w.heap.size, 3, none⟩ _ (w.heap.size + 1) (by show w.heap.size + 1 ≠ w.heap.size; omega)).trans h.ob, h.bo.other (by show w.heap.size + 1 ≠ w.heap.size; omega) _⟩
set_option maxRecDepth 100000 in
set_option maxHeartbeats 4000000 in
theorem led_any (t : Tm) (O : List Int) (n : Nat) (pv : Value) (w : World) (h : IntsAt w pv (placesL O n)) :
    Calls Tryz.prog 53 #[tmV t, pv] w fun e w' => e = .returned (tmV (ledT O n t)) ∧ Below w.heap.size w w' := by
  obtain ⟨pa, pc, rfl, _⟩ := h.form
  rw [places_len] at *
  have HP : Hid (∀ k, k < n → _) := fun k hk => h.get (i := k) (by rw [places_len]; exact hk)
  have HPG : Hid (∀ k, k < n → (placesL O n).getD k 0 = placeOf O (k : Int)) := fun k hk => places_get hk
  have HNM : Hid (∀ W, Calls Tryz.prog 25 #[tmV t] W fun e w' => ∃ v, e = .returned v ∧ OwnI w' W.heap.size v (namedT t) ∧ Below W.heap.size W w') := fun W => named_any t W
  have HPL : Hid (∀ y W, Calls Tryz.prog 28 #[.int .i64 y, .int .i64 (n : Int)] W fun e w' => e = .returned (.bool (inB y n)) ∧ w' = W) := fun y W => isPlace_any y n W
  have HE : Hid (ledK O n (namedT t).length t = ledT O n t) := ledK_end O n t
  have hm2 := named_two t
  have HN0 : Hid (0 < (namedT t).length → _) := fun hh => named_0 (t := t) hh
  have HN1 : Hid (1 < (namedT t).length → _) := fun hh => named_1 (t := t) hh
  have HL0 : Hid (LK w ((w.alloc (.cells #[.int .u8 t.kind, .int .i64 t.arg, .int .i64 t.t0, .int .i64 t.t1, .int .u8 t.trap] 38)).alloc (.cells #[.int .u8 0, .int .i64 0, .int .i64 0, .int .i64 0, .int .u8 0] 38)) (ledK O n 0 t)) := by
    refine ⟨below_alloc (below_alloc (Below.refl _ _) _) _, ?_, ?_, ?_⟩
    · exact (Box.new w (tmL t) 38).below (below_alloc (Below.refl _ _) _)
    · have e : (w.alloc (.cells #[.int .u8 t.kind, .int .i64 t.arg, .int .i64 t.t0, .int .i64 t.t1, .int .u8 t.trap] 38)).heap.size = w.heap.size + 1 := by simp
      have h9 := heap_alloc_new (w.alloc (.cells #[.int .u8 t.kind, .int .i64 t.arg, .int .i64 t.t0, .int .i64 t.t1, .int .u8 t.trap] 38)) (.cells #[.int .u8 0, .int .i64 0, .int .i64 0, .int .i64 0, .int .u8 0] 38)
      rw [e] at h9
      exact h9
    · have e : (w.alloc (.cells #[.int .u8 t.kind, .int .i64 t.arg, .int .i64 t.t0, .int .i64 t.t1, .int .u8 t.trap] 38)).heap.size = w.heap.size + 1 := by simp
      have h9 := Box.new (w.alloc (.cells #[.int .u8 t.kind, .int .i64 t.arg, .int .i64 t.t0, .int .i64 t.t1, .int .u8 t.trap] 38)) [.int .u8 0, .int .i64 0, .int .i64 0, .int .i64 0, .int .u8 0] 38
      rw [e] at h9
      exact h9
  clear h
  generalize hmm : (namedT t).length = m at *
  have HMM : Hid ((namedT t).length = m) := hmm
  clear hmm
  go_enter Tryz.func53, Tryz.ntmps53
  have HSZ : Hid (∀ o o' : Obj, ((w.alloc o).alloc o').heap.size = w.heap.size + 2) := fun o o' => by simp
  go_wp2_with (go_at_call 25; go_loud (refine Calls.mono (by exact HNM.out _) ?_; rintro e w1 ⟨v1, rfl, ho1, hb1⟩; obtain ⟨va, vc, rfl, _⟩ := (OwnI.at' ho1 (by rw [HMM.out]; omega)).form; have HI1 : Hid (∀ i, i < m → ∃ g o, va = some ⟨g, o, none⟩ ∧ w.heap.size ≠ g ∧ w1.cell? ⟨g, o + i, none⟩ = some (.int .i64 ((namedT t).getD i 0))) := (fun i hi => by obtain ⟨g, o, e1, e2, e3⟩ := (OwnI.at' ho1 (by rw [HMM.out]; omega)).get (i := i) (by rw [HMM.out]; exact hi); subst e1; have h8 := (ho1.lt g rfl).1; rw [HSZ.out] at h8; exact ⟨g, o, rfl, by omega, e3⟩); rw [HMM.out] at *; have HL1 : Hid (LK w w1 (ledK O n 0 t)) := HL0.out.below hb1; clear ho1 hb1))
  clear HL0
  go_loopw [10] (fun vi wr => ∃ (i : Nat), vi = .int .i64 i ∧ i ≤ m ∧ Hid (LK w wr (ledK O n i t) ∧ ∀ q, w.heap.size ≠ q → wr.heap[q]? = w1.heap[q]?)) (fun vi _ => m - (intOf vi).toNat)
  case atStart => exact ⟨0, rfl, by omega, HL1.out, fun _ _ => rfl⟩
  case round =>
    obtain ⟨i, rfl, hi, hr⟩ := hrel
    clear HL1
    generalize wr = wo at *
    have HRR : Hid _ := hr.out
    clear hr
    obtain ⟨b0, b1, b2, b3, b4⟩ := box5 HRR.out.1.bx
    have hblt := HRR.out.1.bx.lt
    by_cases hin : i < m
    · obtain ⟨g, o, rfl, hgw, c0⟩ := HI1.out i hin
      have c0' : wo.cell? ⟨g, o + i, none⟩ = _ := (World.cell?_of_block (w := w1) (a := ⟨g, o + i, none⟩) (HRR.out.2 g hgw)).trans c0
      have hin' : (i : Int) < m := by omega
      clear c0
      have fz2 := HRR.out.1.bx.fz 2
      have fz3 := HRR.out.1.bx.fz 3
      obtain rfl | rfl : i = 0 ∨ i = 1 := by omega
      · have hy := HN0.out hin
        rw [hy, Nat.add_zero] at c0'
        have HX : Hid (ledK O n (0 + 1) t = { ledK O n 0 t with t0 := ledY O n t.t0 }) := by show _ = _; unfold ledK; simp
        cases hb : inB t.t0 n with
        | true =>
          obtain ⟨k, hk⟩ := Int.eq_ofNat_of_zero_le (inB_iff.1 hb).1
          have hkn : k < n := by have := (inB_iff.1 hb).2; omega
          have hkn' : (k : Int) < n := by omega
          obtain ⟨g2, o2, rfl, hg2, d0⟩ := HP.out k hkn
          rw [HPG.out k hkn] at d0
          have d0' : wo.cell? ⟨g2, o2 + k, none⟩ = _ := (HRR.out.1.bel.cell (p := ⟨g2, o2 + k, none⟩) hg2).trans d0
          have HY : Hid (ledY O n t.t0 = placeOf O (k : Int)) := by show _ = _; unfold ledY; rw [if_pos hb, hk]
          have HPY : Hid (∀ W, Calls Tryz.prog 28 #[.int .i64 (k : Int), .int .i64 (n : Int)] W fun e w' => e = .returned (.bool true) ∧ w' = W) := fun W => by have h9 := HPL.out (k : Int) W; rw [← hk, hb] at h9; rw [← hk]; exact h9
          rw [hk] at c0'
          clear d0 HP HPG HPL hb hy hk
          go_wp2_with (go_at_call 28; refine Calls.mono (HPY.out _) ?_; rintro e wx ⟨rfl, hwx⟩; subst wx)
          go_roundw
          case rel => exact ⟨0 + 1, by first | rfl | (congr 1; omega), by omega, by rw [HX.out, HY.out]; exact HRR.out.1.set0 _, fun q hq => (Below.heap_setCell wo ⟨w.heap.size, 2, none⟩ _ q (by exact fun e => hq e.symm)).trans (HRR.out.2 q hq)⟩
          case measure => simp [intOf]; omega
        | false =>
          have HY : Hid (ledY O n t.t0 = t.t0) := by show _ = _; unfold ledY; rw [if_neg (by rw [hb]; decide)]
          have HPY : Hid (∀ W, Calls Tryz.prog 28 #[.int .i64 t.t0, .int .i64 (n : Int)] W fun e w' => e = .returned (.bool false) ∧ w' = W) := fun W => by have h9 := HPL.out t.t0 W; rw [hb] at h9; exact h9
          clear HP HPG HPL hb hy
          go_wp2_with (go_at_call 28; refine Calls.mono (HPY.out _) ?_; rintro e wx ⟨rfl, hwx⟩; subst wx)
          go_roundw
          case rel => exact ⟨0 + 1, by first | rfl | (congr 1; omega), by omega, by rw [HX.out, HY.out]; exact HRR.out.1, HRR.out.2⟩
          case measure => simp [intOf]; omega
      · have hy := HN1.out hin
        rw [hy] at c0'
        have HX : Hid (ledK O n (1 + 1) t = { ledK O n 1 t with t1 := ledY O n t.t1 }) := by show _ = _; unfold ledK; simp
        cases hb : inB t.t1 n with
        | true =>
          obtain ⟨k, hk⟩ := Int.eq_ofNat_of_zero_le (inB_iff.1 hb).1
          have hkn : k < n := by have := (inB_iff.1 hb).2; omega
          have hkn' : (k : Int) < n := by omega
          obtain ⟨g2, o2, rfl, hg2, d0⟩ := HP.out k hkn
          rw [HPG.out k hkn] at d0
          have d0' : wo.cell? ⟨g2, o2 + k, none⟩ = _ := (HRR.out.1.bel.cell (p := ⟨g2, o2 + k, none⟩) hg2).trans d0
          have HY : Hid (ledY O n t.t1 = placeOf O (k : Int)) := by show _ = _; unfold ledY; rw [if_pos hb, hk]
          have HPY : Hid (∀ W, Calls Tryz.prog 28 #[.int .i64 (k : Int), .int .i64 (n : Int)] W fun e w' => e = .returned (.bool true) ∧ w' = W) := fun W => by have h9 := HPL.out (k : Int) W; rw [← hk, hb] at h9; rw [← hk]; exact h9
          rw [hk] at c0'
          clear d0 HP HPG HPL hb hy hk
          go_wp2_with (go_at_call 28; refine Calls.mono (HPY.out _) ?_; rintro e wx ⟨rfl, hwx⟩; subst wx)
          go_roundw
          case rel => exact ⟨1 + 1, by first | rfl | (congr 1; omega), by omega, by rw [HX.out, HY.out]; exact HRR.out.1.set1 _, fun q hq => (Below.heap_setCell wo ⟨w.heap.size, 3, none⟩ _ q (by exact fun e => hq e.symm)).trans (HRR.out.2 q hq)⟩
          case measure => simp [intOf]; omega
        | false =>
          have HY : Hid (ledY O n t.t1 = t.t1) := by show _ = _; unfold ledY; rw [if_neg (by rw [hb]; decide)]
          have HPY : Hid (∀ W, Calls Tryz.prog 28 #[.int .i64 t.t1, .int .i64 (n : Int)] W fun e w' => e = .returned (.bool false) ∧ w' = W) := fun W => by have h9 := HPL.out t.t1 W; rw [hb] at h9; exact h9
          clear HP HPG HPL hb hy
          go_wp2_with (go_at_call 28; refine Calls.mono (HPY.out _) ?_; rintro e wx ⟨rfl, hwx⟩; subst wx)
          go_roundw
          case rel => exact ⟨1 + 1, by first | rfl | (congr 1; omega), by omega, by rw [HX.out, HY.out]; exact HRR.out.1, HRR.out.2⟩
          case measure => simp [intOf]; omega
    · obtain rfl : i = m := by omega
      have HRL : Hid (LK w wo (ledK O n i t)) := HRR.out.1
      have HEQ : Hid (ledK O n i t = ledT O n t) := HE.out
      clear HRR HE HP HPG HPL HI1 HN0 HN1 HNM HMM
      generalize ledK O n i t = T at *
      obtain ⟨tk, ta, t0, t1, tt⟩ := T
      dsimp only at *
      obtain ⟨z0, z1, z2, z3, z4⟩ := box5 HRL.out.bo
      have zf := HRL.out.bo.fz
      go_wp2
      obtain ⟨q1, q2⟩ := five_end (r := w.heap.size + 1) HRL.out.bel (by omega) HRL.out.ob (.int .u8 tk) (.int .i64 ta) (.int .i64 t0) (.int .i64 t1) (.int .u8 tt)
      refine bodyPost_ret (results_cell_row rfl _ _ (w.heap.size + 1) 38 #[.int .u8 tk, .int .i64 ta, .int .i64 t0, .int .i64 t1, .int .u8 tt] _ _ rfl q2 Tryz.underlying38 rfl (by rfl)) rfl ⟨?_, q1⟩
      rw [← HEQ.out]
end Go.Proofs.YtabpnjakfoofpaaGreatDoor
