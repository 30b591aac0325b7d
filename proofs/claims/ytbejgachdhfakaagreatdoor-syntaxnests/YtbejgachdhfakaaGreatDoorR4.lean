/- The rank of a node's operator; whether an operand wants parentheses; two rows of ints, compared. -/
import Derived.Test.YtbejgachdhfakaaGreatDoorGQ
import Derived.Test.YtbejgachdhfakaaGreatDoorGC
import Derived.BigQuiet
import Derived.Deep.RegionWith
import Derived.RegionTactic
namespace Go.Proofs.YtbejgachdhfakaaGreatDoor
open Go.RowKit

/-- None of the operators ahead of i is this one. -/
def NoR (k o : Int) (i : Nat) : Prop := ∀ j e, j < i → opsL[j]? = some e → (((e.2.2.1 : Int) == k) && ((e.2.2.2 : Int) == o)) = false
theorem nor_all {k o : Int} (h : NoR k o 18) : rankI k o = if k = 6 then 6 else 7 := by
  unfold rankI
  rw [find_none]
  intro e he
  obtain ⟨j, hj, hx⟩ := List.mem_iff_getElem.1 he
  exact h j e (by simpa [opsL] using hj) (by rw [List.getElem?_eq_getElem hj, hx])
theorem nor_here {k o : Int} {i : Nat} (h : NoR k o i) (hi : i < 18) (h1 : (((opAtN i).2.2.1 : Int) == k) = true) (h2 : (((opAtN i).2.2.2 : Int) == o) = true) : rankI k o = ((opAtN i).2.1 : Int) := by
  unfold rankI
  rw [find_at (opN_at hi) (by rw [h1, h2]; rfl) (fun j y hj hy => h j y hj hy)]
theorem nor_next {k o : Int} {i : Nat} (h : NoR k o i) (hi : i < 18) (hn : ((((opAtN i).2.2.1 : Int) == k) && (((opAtN i).2.2.2 : Int) == o)) = false) : NoR k o (i + 1) := by
  intro j e hj he
  by_cases hh : j = i
  · subst hh
    rw [opN_at hi] at he
    cases he
    exact hn
  · exact h j e (by omega) he
set_option maxRecDepth 100000 in
set_option maxHeartbeats 1000000 in
theorem rank_any (k p : Int) (nm : ByteArray) (t o b z : Int) (ka : Option Addr) (kn kc : Nat) (w : World) (h : OpsAt w 1) (h1 : 1 < w.heap.size) :
    Calls Tryz.prog 103 #[nV k p nm t o b z ka kn kc] w fun e w' => e = .returned (.int .i64 (rankI k o)) ∧ Below w.heap.size w w' := by
  have hW : Below w.heap.size w (w.alloc (.cells (nArr k p nm t o b z ka kn kc) 46)) := nBelow _ _ _
  have HOPS : OpsAt (w.alloc (.cells (nArr k p nm t o b z ka kn kc) 46)) 1 := fun i e he => by
    have hx : ∀ j, (w.alloc (.cells (nArr k p nm t o b z ka kn kc) 46)).cell? ⟨1, j, none⟩ = w.cell? ⟨1, j, none⟩ := fun j => hW.cell (p := ⟨1, j, none⟩) h1
    rw [hx, hx, hx, hx]
    exact h i e he
  have HO : Hid _ := HOPS
  have B0 : Box (w.alloc (.cells (nArr k p nm t o b z ka kn kc) 46)) w.heap.size [.int .u8 k, .int .i64 p, .string nm, .int .u8 t, .int .u8 o, .int .u64 b, .int .i64 z, .slice ka kn kc] := Box.new w _ 46
  have H0 : Hid (Below w.heap.size w (w.alloc (.cells (nArr k p nm t o b z ka kn kc) 46)) ∧ Box (w.alloc (.cells (nArr k p nm t o b z ka kn kc) 46)) w.heap.size [.int .u8 k, .int .i64 p, .string nm, .int .u8 t, .int .u8 o, .int .u64 b, .int .i64 z, .slice ka kn kc]) := ⟨hW, B0⟩
  obtain ⟨R, hR⟩ : ∃ R, R = rankI k o := ⟨_, rfl⟩
  rw [← hR]
  have HRK : Hid (R = rankI k o) := hR
  clear h HOPS hW B0 hR
  go_enter Tryz.func103, Tryz.ntmps103
  go_wp2_with (refine ops_step HO.out rfl rfl (by simp [Act.eval]) ?_)
  go_loopw [6] (fun vi wr => ∃ i : Nat, vi = .int .i64 i ∧ i ≤ 18 ∧ Hid (NoR k o i ∧ Below w.heap.size w wr ∧ Box wr w.heap.size [.int .u8 k, .int .i64 p, .string nm, .int .u8 t, .int .u8 o, .int .u64 b, .int .i64 z, .slice ka kn kc])) (fun vi _ => 18 - (intOf vi).toNat)
  case atStart => exact ⟨0, rfl, by omega, fun j e hj _ => by omega, H0.out.1, H0.out.2⟩
  case round =>
    obtain ⟨i, rfl, hi, hr⟩ := hrel
    clear H0 HO
    have b0 := hr.out.2.2.cell 0 _ rfl
    have b4 := hr.out.2.2.cell 4 _ rfl
    have hlt := hr.out.2.2.lt
    by_cases hi18 : i < 18
    · have hix := ops_index hi18
      have hi' : (i : Int) < 18 := by omega
      have HN := nor_next hr.out.1 hi18
      have HH := nor_here hr.out.1 hi18
      generalize hk2 : ((opAtN i).2.2.1 : Int) = x2 at hix HN HH
      generalize hk3 : ((opAtN i).2.2.2 : Int) = x3 at hix HN HH
      generalize ((opAtN i).2.1 : Int) = x1 at hix HH
      generalize (⟨(opAtN i).1.toArray⟩ : ByteArray) = x0 at hix
      have HN' : Hid _ := HN
      have HH' : Hid _ := HH
      clear HN HH hk2 hk3
      have hbn := nBelow wr #[.string x0, .int .i64 x1, .int .u8 x2, .int .u8 x3] 267
      have HBN : Hid _ := hbn
      clear hbn
      by_cases h2 : x2 = k
      · by_cases h3 : x3 = o
        · subst h2
          subst h3
          have HX : Hid (x1 = R) := (HH'.out (by simp) (by simp)).symm.trans HRK.out.symm
          clear HN' HH'
          go_wp2
          go_ret
          exact ⟨ret_int HX.out, hr.out.2.1.trans (HBN.out.mono hr.out.2.1.size)⟩
        · subst h2
          have h3' : (x3 == o) = false := by simpa using h3
          have HR := HN'.out (by simp [h3])
          have HR' : Hid _ := HR
          clear HR HN' HH'
          go_wp2
          go_roundw
          case rel => exact ⟨i + 1, by first | rfl | (congr 1; omega), by omega, HR'.out, hr.out.2.1.trans (HBN.out.mono hr.out.2.1.size), hr.out.2.2.below HBN.out⟩
          case measure => simp [intOf]; omega
      · have h2' : (x2 == k) = false := by simpa using h2
        have HR := HN'.out (by simp [h2])
        have HR' : Hid _ := HR
        clear HR HN' HH'
        go_wp2
        go_roundw
        case rel => exact ⟨i + 1, by first | rfl | (congr 1; omega), by omega, HR'.out, hr.out.2.1.trans (HBN.out.mono hr.out.2.1.size), hr.out.2.2.below HBN.out⟩
        case measure => simp [intOf]; omega
    · obtain rfl : i = 18 := by omega
      have HX : Hid (R = if k = 6 then 6 else 7) := HRK.out.trans (nor_all hr.out.1)
      by_cases h6 : k = 6
      · subst h6
        go_wp2
        go_ret
        exact ⟨ret_int (HX.out.trans (by simp)).symm, hr.out.2.1⟩
      · go_wp2
        go_ret
        exact ⟨ret_int (HX.out.trans (if_neg h6)).symm, hr.out.2.1⟩
set_option maxRecDepth 100000 in
set_option maxHeartbeats 1000000 in
theorem paren_any (k p : Int) (nm : ByteArray) (t o b z : Int) (ka : Option Addr) (kn kc : Nat) (k' p' : Int) (nm' : ByteArray) (t' o' b' z' : Int) (ka' : Option Addr) (kn' kc' : Nat) (i : Int) (w : World) (h : OpsAt w 1) (h1 : 1 < w.heap.size) :
    Calls Tryz.prog 56 #[nV k p nm t o b z ka kn kc, nV k' p' nm' t' o' b' z' ka' kn' kc', .int .i64 i] w fun e w' => e = .returned (.bool (parenB (rankI k o) (rankI k' o') i)) ∧ Below w.heap.size w w' := by
  have HX : ∀ (W : World) (k p : Int) (nm : ByteArray) (t o b z : Int) (ka : Option Addr) (kn kc : Nat), Below w.heap.size w W → Calls Tryz.prog 103 #[nV k p nm t o b z ka kn kc] W fun e w' => e = .returned (.int .i64 (rankI k o)) ∧ Below W.heap.size W w' := fun W k p nm t o b z ka kn kc hb =>
    rank_any k p nm t o b z ka kn kc W (fun i e he => by
      have hx : ∀ j, W.cell? ⟨1, j, none⟩ = w.cell? ⟨1, j, none⟩ := fun j => hb.cell (p := ⟨1, j, none⟩) h1
      rw [hx, hx, hx, hx]
      exact h i e he) (Nat.lt_of_lt_of_le h1 hb.size)
  obtain ⟨A, hA⟩ : ∃ A, A = rankI k o := ⟨_, rfl⟩
  obtain ⟨B, hB⟩ : ∃ B, B = rankI k' o' := ⟨_, rfl⟩
  have HR1 : Hid (∀ (W : World) (k2 p2 : Int) (nm2 : ByteArray) (t2 o2 b2 z2 : Int) (ka2 : Option Addr) (kn2 kc2 : Nat), (k2 = k ∧ p2 = p ∧ o2 = o) → Below w.heap.size w W → Calls Tryz.prog 103 #[nV k2 p2 nm2 t2 o2 b2 z2 ka2 kn2 kc2] W fun e w' => e = .returned (.int .i64 A) ∧ Below W.heap.size W w') := fun W k2 p2 nm2 t2 o2 b2 z2 ka2 kn2 kc2 hh hb => by
    obtain ⟨rfl, _, rfl⟩ := hh
    rw [hA]
    exact HX _ _ _ _ _ _ _ _ _ _ _ hb
  have HR2 : Hid (∀ (W : World) (k2 p2 : Int) (nm2 : ByteArray) (t2 o2 b2 z2 : Int) (ka2 : Option Addr) (kn2 kc2 : Nat), (k2 = k' ∧ p2 = p' ∧ o2 = o') → Below w.heap.size w W → Calls Tryz.prog 103 #[nV k2 p2 nm2 t2 o2 b2 z2 ka2 kn2 kc2] W fun e w' => e = .returned (.int .i64 B) ∧ Below W.heap.size W w') := fun W k2 p2 nm2 t2 o2 b2 z2 ka2 kn2 kc2 hh hb => by
    obtain ⟨rfl, _, rfl⟩ := hh
    rw [hB]
    exact HX _ _ _ _ _ _ _ _ _ _ _ hb
  rw [← hA, ← hB]
  clear hA hB HX
  have hb0 : Below w.heap.size w ((w.alloc (.cells (nArr k p nm t o b z ka kn kc) 46)).alloc (.cells (nArr k' p' nm' t' o' b' z' ka' kn' kc') 46)) := (nBelow _ _ _).trans ((nBelow _ _ _).mono (by simp))
  have B1 : Box ((w.alloc (.cells (nArr k p nm t o b z ka kn kc) 46)).alloc (.cells (nArr k' p' nm' t' o' b' z' ka' kn' kc') 46)) w.heap.size [.int .u8 k, .int .i64 p, .string nm, .int .u8 t, .int .u8 o, .int .u64 b, .int .i64 z, .slice ka kn kc] := (Box.new w [.int .u8 k, .int .i64 p, .string nm, .int .u8 t, .int .u8 o, .int .u64 b, .int .i64 z, .slice ka kn kc] 46).below (nBelow _ _ _)
  have B2 : Box ((w.alloc (.cells (nArr k p nm t o b z ka kn kc) 46)).alloc (.cells (nArr k' p' nm' t' o' b' z' ka' kn' kc') 46)) (w.heap.size + 1) [.int .u8 k', .int .i64 p', .string nm', .int .u8 t', .int .u8 o', .int .u64 b', .int .i64 z', .slice ka' kn' kc'] := by
    have := Box.new (w.alloc (.cells (nArr k p nm t o b z ka kn kc) 46)) [.int .u8 k', .int .i64 p', .string nm', .int .u8 t', .int .u8 o', .int .u64 b', .int .i64 z', .slice ka' kn' kc'] 46
    rwa [show (w.alloc (.cells (nArr k p nm t o b z ka kn kc) 46)).heap.size = w.heap.size + 1 by simp] at this
  have dr : Below ((w.alloc (.cells (nArr k p nm t o b z ka kn kc) 46)).alloc (.cells (nArr k' p' nm' t' o' b' z' ka' kn' kc') 46)).heap.size ((w.alloc (.cells (nArr k p nm t o b z ka kn kc) 46)).alloc (.cells (nArr k' p' nm' t' o' b' z' ka' kn' kc') 46)) ((w.alloc (.cells (nArr k p nm t o b z ka kn kc) 46)).alloc (.cells (nArr k' p' nm' t' o' b' z' ka' kn' kc') 46)).drew := ⟨rfl, rfl, rfl, Nat.le_refl _, fun _ _ => rfl⟩
  have HB0 : Hid _ := hb0.trans (dr.mono hb0.size)
  have HB1 : Hid _ := B1.below dr
  have HB2 : Hid _ := B2.below dr
  clear hb0 B1 B2 h h1 dr
  go_enter Tryz.func56, Tryz.ntmps56
  go_wp2
  go_region_with (
    go_at_call 103
    first
    | (refine Calls.mono (by first | exact HR1.out _ _ _ _ _ _ _ _ _ _ _ ⟨rfl, rfl, rfl⟩ HBN.out | exact HR2.out _ _ _ _ _ _ _ _ _ _ _ ⟨rfl, rfl, rfl⟩ HBN.out) ?_; rintro e wn ⟨rfl, hbn⟩; have HBM : Hid _ := HBN.out.trans (hbn.mono HBN.out.size); clear hbn)
    | (refine Calls.mono (by first | exact HR1.out _ _ _ _ _ _ _ _ _ _ _ ⟨rfl, rfl, rfl⟩ HB0.out | exact HR2.out _ _ _ _ _ _ _ _ _ _ _ ⟨rfl, rfl, rfl⟩ HB0.out) ?_; rintro e wn ⟨rfl, hbn⟩; have HBN : Hid _ := HB0.out.trans (hbn.mono HB0.out.size); obtain ⟨a0, a1, a2, a3, a4, a5, a6, a7⟩ := box8 (HB1.out.below hbn); obtain ⟨d0, d1, d2, d3, d4, d5, d6, d7⟩ := box8 (HB2.out.below hbn); clear hbn))
  all_goals
    clear HR1 HR2 HB0 HB1 HB2
    by_cases c7 : A = 7
    · subst c7
      go_wp2
      go_ret
      exact ⟨ret_bool (by simp [parenB]), HBM.out⟩
    by_cases c1 : B < A
    · go_wp2
      go_ret
      exact ⟨ret_bool (by simp [parenB, c7, c1]), HBM.out⟩
    by_cases c2 : B = A
    · subst c2
      go_wp2
      go_ret
      exact ⟨ret_bool (by simp [parenB, c7]), HBM.out⟩
    · go_wp2
      go_ret
      exact ⟨ret_bool (by simp [parenB, c7, c1, c2]), HBM.out⟩
end Go.Proofs.YtbejgachdhfakaaGreatDoor
