/- The chapter's graph bent in one place: where something is put behind. -/
import Derived.Test.YtobnpllppohofaaGreatDoorGBn0M
import Derived.Test.YtobnpllppohofaaGreatDoorGCp1M
namespace Go.Proofs.YtobnpllppohofaaGreatDoor
open Go.RowKit

theorem infoTy : (Tryz.prog.info? 23).map (fun i => (i.zero, i.size, i.bytes)) = some (some (.int .u8 0), 1, 1) := by kernel_rfl
def objsC6 (w : World) : List Obj := [
  .cells #[.string ⟨#[]⟩, .slice none 0 0, bytV 0, .slice none 0 0, .slice none 0 0, .slice none 0 0] 28,
  .cells #[.string ⟨#[103]⟩, sl (w.heap.size + 2) 1, bytV 4, sl (w.heap.size + 3) 3, .slice none 0 0, sl (w.heap.size + 10) 5] 28,
  .cells #[intV 0] 3,
  .cells #[bytV 4, bytV 1, bytV 4] 23,
  .cells #[intV 0, intV 2] 3,
  .cells #[bytV 2, bytV 0, intV 2, .slice none 0 0, u64V 5, intV 0, bytV 4, bytV 13, intV 1, sl (w.heap.size + 4) 2, u64V 0, intV 0] 41,
  .cells #[intV 0] 3,
  .cells #[bytV 10, bytV 0, intV 0, sl (w.heap.size + 6) 1, u64V 0, intV 0] 41,
  .cells #[intV 0, intV 2] 3,
  .cells #[bytV 1, bytV 0, intV 2, sl (w.heap.size + 12) 3, u64V 0, intV 0] 41,
  .cells #[sl (w.heap.size + 5) 2, bytV 2, intV 1, intV 2, intV 1, bytV 0, sl (w.heap.size + 7) 1, bytV 1, intV 0, intV 3, intV 0, bytV 0, .slice none 0 0, bytV 1, intV 0, intV 3, intV 0, bytV 0, sl (w.heap.size + 9) 1, bytV 3, intV 2, intV 0, intV 0, bytV 0, .slice none 0 0, bytV 1, intV 0, intV 3, intV 0, bytV 0] 49,
  .cells #[.string ⟨#[103]⟩, sl (w.heap.size + 2) 1, bytV 4, sl (w.heap.size + 3) 3, .slice none 0 0, sl (w.heap.size + 10) 5] 28,
  .cells #[intV 0, intV 2, intV 2] 3,
  .cells #[.string ⟨#[103]⟩, sl (w.heap.size + 2) 1, bytV 4, sl (w.heap.size + 3) 3, .slice none 0 0, sl (w.heap.size + 10) 5] 28,
  .cells #[intV 0] 3,
  .cells #[bytV 1, bytV 0, intV 2, sl (w.heap.size + 14) 1, u64V 0, intV 0] 41]
set_option maxRecDepth 100000 in
set_option maxHeartbeats 4000000 in
theorem bent_6 (w : World) : Calls Tryz.prog 4 #[.int .i64 6] w fun e w' => ∃ pv vv av bv, e = .returned (.agg #[.string bentG6.name, pv, .int .u8 bentG6.result, vv, av, bv]) ∧ GrAt w' pv vv av bv bentG6 ∧ Below w.heap.size w w' := by
  obtain ⟨i0, hi0, hz0, hz1, hz2⟩ := info_parts (P := Tryz.prog) infoIn
  have HG : Hid (∀ k o, (objsC6 w)[k]? = some o → (allocs w (objsC6 w)).heap[w.heap.size + k]? = some o) := fun k o h => allocs_get (objsC6 w) w k o h
  have HS : Hid ((allocs w (objsC6 w)).heap.size = w.heap.size + 16) := by show _ = _; simp [allocs, objsC6]
  have HOW : Hid ((allocs w (objsC6 w)).ownsRow w.heap.size 41 6 (sl (w.heap.size + 7) 1) 1 [bytV 10, bytV 0, intV 0, sl (w.heap.size + 6) 1, u64V 0, intV 0]) := own_heap (HG.out 7 _ rfl) (by omega) rfl (by decide)
  have HB : Hid (Below w.heap.size w (allocs w (objsC6 w))) := allocs_below _ _
  go_enter Tryz.func4, Tryz.ntmps4
  go_wp2_with (first
    | (go_at_call 7; refine Calls.mono (small_y w) ?_; rintro e w1 ⟨rfl, rfl⟩)
    | (at_builtin; go_loud (refine wpList_append_own_at _ rfl _ _ 42 rfl w.heap.size 41 i0 (.agg #[.int .u8 0, .int .u8 0, .int .i64 0, .slice none 0 0, .int .u64 0, .int .i64 0]) 6 56 Tryz.underlying42 hi0 hz0 hz1 hz2 rfl (by decide) _ 1 [bytV 10, bytV 0, intV 0, sl (w.heap.size + 6) 1, u64V 0, intV 0] rfl (by exact HOW.out) ⟨w.heap.size + 15, 0, none⟩ 1 1 [bytV 1, bytV 0, intV 2, sl (w.heap.size + 14) 1, u64V 0, intV 0] rfl rfl ?c1 ?c2 ?c3 ?c4 ?c5 ?_)))
  case c1 => intro j u hj; rw [Addr.add_lit, Nat.zero_add]; exact (Box.of (W := allocs w (objsC6 w)) (HG.out 15 _ rfl)).cell j u hj
  case c2 => intro u hu; simp only [List.mem_cons, List.not_mem_nil, or_false] at hu; rcases hu with rfl | rfl | rfl | rfl | rfl | rfl <;> rfl
  case c3 => first | (unfold maxLen; omega) | omega | decide
  case c4 => omega
  case c5 => have h9 := HS.out; first | (show w.heap.size ≤ (allocs w (objsC6 w)).heap.size; omega) | (simp; omega)
  intro v2 w2 ho hg _ hat
  obtain ⟨g2, c2, rfl, _, _, _, _⟩ := own_form ho
  have HGR : Hid ((allocs w (objsC6 w)).grownBy w2 (some (w.heap.size + 7))) := hg
  have HO2 : Hid (w2.ownsRow w.heap.size 41 6 (.slice (some ⟨g2, 0, none⟩) 2 c2) 2 [bytV 10, bytV 0, intV 0, sl (w.heap.size + 6) 1, u64V 0, intV 0, bytV 1, bytV 0, intV 2, sl (w.heap.size + 14) 1, u64V 0, intV 0]) := ho
  have HAT : Hid (g2 = w.heap.size + 7 ∨ g2 = w.heap.size + 16) := by
    rcases hat with e | e
    · exact .inl (by injection e)
    · right
      have e2 : some g2 = some (w.heap.size + 16) := e
      injection e2
  clear ho hg hat HOW
  have HK : Hid (∀ k o, (objsC6 w)[k]? = some o → k ≠ 7 → w2.heap[w.heap.size + k]? = some o) := fun k o h hk => by
    have hl : k < (objsC6 w).length := (List.getElem?_eq_some_iff.1 h).1
    have hl2 : k < 16 := hl
    exact (HGR.out.block _ (by rw [HS.out]; omega) (fun e => by injection e; omega)).trans (HG.out k o h)
  have HB2 : Hid (Below w.heap.size w w2) := below_grown HB.out HGR.out (fun q hq => by injection hq; omega)
  have BX : Hid (Box w2 (w.heap.size + 10) [sl (w.heap.size + 5) 2, bytV 2, intV 1, intV 2, intV 1, bytV 0, sl (w.heap.size + 7) 1, bytV 1, intV 0, intV 3, intV 0, bytV 0, .slice none 0 0, bytV 1, intV 0, intV 3, intV 0, bytV 0, sl (w.heap.size + 9) 1, bytV 3, intV 2, intV 0, intV 0, bytV 0, .slice none 0 0, bytV 1, intV 0, intV 3, intV 0, bytV 0]) := Box.of (HK.out 10 _ rfl (by decide))
  have cX := BX.out.cell 6 _ rfl
  have fX := BX.out.fz
  have lX := BX.out.lt
  have B13 : Hid (Box (w2.setCell ⟨w.heap.size + 10, 6, none⟩ (.slice (some ⟨g2, 0, none⟩) 2 c2)) (w.heap.size + 13) [.string ⟨#[103]⟩, sl (w.heap.size + 2) 1, bytV 4, sl (w.heap.size + 3) 3, .slice none 0 0, sl (w.heap.size + 10) 5]) := (Box.of (HK.out 13 _ rfl (by decide))).other (by show w.heap.size + 13 ≠ w.heap.size + 10; omega) _
  obtain ⟨p0, p1, p2, p3, p4, p5⟩ := box6 B13.out
  have B0 : Hid (Box (w2.setCell ⟨w.heap.size + 10, 6, none⟩ (.slice (some ⟨g2, 0, none⟩) 2 c2)) w.heap.size [.string ⟨#[]⟩, .slice none 0 0, bytV 0, .slice none 0 0, .slice none 0 0, .slice none 0 0]) := (Box.of (HK.out 0 _ rfl (by decide))).other (by show w.heap.size ≠ w.heap.size + 10; omega) _
  obtain ⟨z0, z1, z2, z3, z4, z5⟩ := box6 B0.out
  have zf := B0.out.fz
  have zl := B0.out.lt
  have HE : Hid ((w2.setCell ⟨w.heap.size + 10, 6, none⟩ (.slice (some ⟨g2, 0, none⟩) 2 c2)).heap[w.heap.size]? = some (.cells #[.string ⟨#[]⟩, .slice none 0 0, bytV 0, .slice none 0 0, .slice none 0 0, .slice none 0 0] 28 (0, 0))) := (Below.heap_setCell w2 ⟨w.heap.size + 10, 6, none⟩ _ _ (by show w.heap.size ≠ w.heap.size + 10; omega)).trans (HK.out 0 _ rfl (by decide))
  have HB3 : Hid (Below w.heap.size w (w2.setCell ⟨w.heap.size + 10, 6, none⟩ (.slice (some ⟨g2, 0, none⟩) 2 c2))) := HB2.out.setCell (p := ⟨w.heap.size + 10, 6, none⟩) (by show w.heap.size ≤ w.heap.size + 10; omega) _
  have HFIN : Hid (∀ W9 : World, (∀ q, q ≠ w.heap.size → W9.heap[q]? = (w2.setCell ⟨w.heap.size + 10, 6, none⟩ (.slice (some ⟨g2, 0, none⟩) 2 c2)).heap[q]?) → GrAt W9 (sl (w.heap.size + 2) 1) (sl (w.heap.size + 3) 3) (.slice none 0 0) (sl (w.heap.size + 10) 5) bentG6) := by
   intro W9 q3
   have g : ∀ k o, (objsC6 w)[k]? = some o → k ≠ 7 → k ≠ 10 → k ≠ 0 → W9.heap[w.heap.size + k]? = some o := fun k o h h1 h2 h3 => (q3 _ (by omega)).trans ((Below.heap_setCell w2 ⟨w.heap.size + 10, 6, none⟩ _ _ (by show w.heap.size + k ≠ w.heap.size + 10; omega)).trans (HK.out k o h h1))
   have gX : W9.heap[w.heap.size + 10]? = some (.cells #[sl (w.heap.size + 5) 2, bytV 2, intV 1, intV 2, intV 1, bytV 0, .slice (some ⟨g2, 0, none⟩) 2 c2, bytV 1, intV 0, intV 3, intV 0, bytV 0, .slice none 0 0, bytV 1, intV 0, intV 3, intV 0, bytV 0, sl (w.heap.size + 9) 1, bytV 3, intV 2, intV 0, intV 0, bytV 0, .slice none 0 0, bytV 1, intV 0, intV 3, intV 0, bytV 0] 49) := (q3 _ (by omega)).trans (hsc (HK.out 10 _ rfl (by decide)) _)
   have hN : RowAt W9 (.slice (some ⟨g2, 0, none⟩) 2 c2) 2 [bytV 10, bytV 0, intV 0, sl (w.heap.size + 6) 1, u64V 0, intV 0, bytV 1, bytV 0, intV 2, sl (w.heap.size + 14) 1, u64V 0, intV 0] := row_own (owns_same HO2.out fun q hq => by
     have e : q = g2 := by injection hq with hq; exact hq.symm
     subst e
     rcases HAT.out with e | e
     · exact (q3 _ (by omega)).trans (Below.heap_setCell w2 ⟨w.heap.size + 10, 6, none⟩ _ _ (by show q ≠ w.heap.size + 10; omega))
     · exact (q3 _ (by omega)).trans (Below.heap_setCell w2 ⟨w.heap.size + 10, 6, none⟩ _ _ (by show q ≠ w.heap.size + 10; omega))) (by omega)
   have i0 : InsAt W9 (sl (w.heap.size + 5) 2) [⟨2, 0, 2, [], 5, 0⟩, ⟨4, 13, 1, [0, 2], 0, 0⟩] := by
     refine ⟨by decide, [.slice none 0 0, sl (w.heap.size + 4) 2], rfl, row_lit (t := 41) 2 (g 5 _ rfl (by decide) (by decide) (by decide)) (by omega), fun i x a hx ha => ?_⟩
     rcases i with _ | _ | i
     · cases hx; cases ha; exact row_nil _ _
     · cases hx; cases ha; exact row_lit (t := 3) 2 (g 4 _ rfl (by decide) (by decide) (by decide)) (by omega)
     · simp at hx
   have i1 : InsAt W9 (.slice (some ⟨g2, 0, none⟩) 2 c2) [⟨10, 0, 0, [0], 0, 0⟩, ⟨1, 0, 2, [0], 0, 0⟩] := by
     refine ⟨by decide, [sl (w.heap.size + 6) 1, sl (w.heap.size + 14) 1], rfl, hN, fun i x a hx ha => ?_⟩
     rcases i with _ | _ | i
     · cases hx; cases ha; exact row_lit (t := 3) 1 (g 6 _ rfl (by decide) (by decide) (by decide)) (by omega)
     · cases hx; cases ha; exact row_lit (t := 3) 1 (g 14 _ rfl (by decide) (by decide) (by decide)) (by omega)
     · simp at hx
   have i2 : InsAt W9 (.slice none 0 0) [] := by
     exact ⟨by simp, [], rfl, row_nil _ _, fun i x a hx ha => by simp at hx⟩
   have i3 : InsAt W9 (sl (w.heap.size + 9) 1) [⟨1, 0, 2, [0, 2, 2], 0, 0⟩] := by
     refine ⟨by decide, [sl (w.heap.size + 12) 3], rfl, row_lit (t := 41) 1 (g 9 _ rfl (by decide) (by decide) (by decide)) (by omega), fun i x a hx ha => ?_⟩
     rcases i with _ | i
     · cases hx; cases ha; exact row_lit (t := 3) 3 (g 12 _ rfl (by decide) (by decide) (by decide)) (by omega)
     · simp at hx
   have i4 : InsAt W9 (.slice none 0 0) [] := by
     exact ⟨by simp, [], rfl, row_nil _ _, fun i x a hx ha => by simp at hx⟩
   refine ⟨row_lit (t := 3) 1 (g 2 _ rfl (by decide) (by decide) (by decide)) (by omega), row_lit (t := 23) 3 (g 3 _ rfl (by decide) (by decide) (by decide)) (by omega), row_nil _ _, ⟨[sl (w.heap.size + 5) 2, .slice (some ⟨g2, 0, none⟩) 2 c2, .slice none 0 0, sl (w.heap.size + 9) 1, .slice none 0 0], rfl, row_lit (t := 49) 5 gX (by omega), fun i x a hx ha => ?_⟩⟩
   rcases i with _ | _ | _ | _ | _ | i
   · cases hx; cases ha; exact i0
   · cases hx; cases ha; exact i1
   · cases hx; cases ha; exact i2
   · cases hx; cases ha; exact i3
   · cases hx; cases ha; exact i4
   · simp [bentG6] at hx
  go_wp2
  obtain ⟨q1, q2, q3⟩ := six_end HB3.out (Nat.le_refl _) HE.out (.string ⟨#[103]⟩) (sl (w.heap.size + 2) 1) (bytV 4) (sl (w.heap.size + 3) 3) (.slice none 0 0) (sl (w.heap.size + 10) 5)
  exact bodyPost_ret (results_cell_row rfl _ _ w.heap.size 28 #[.string ⟨#[103]⟩, sl (w.heap.size + 2) 1, bytV 4, sl (w.heap.size + 3) 3, .slice none 0 0, sl (w.heap.size + 10) 5] _ _ rfl q2 Tryz.underlying28 rfl (by rfl)) rfl ⟨_, _, _, _, rfl, HFIN.out _ q3, q1⟩
def objsC7 (w : World) : List Obj := [
  .cells #[.string ⟨#[]⟩, .slice none 0 0, bytV 0, .slice none 0 0, .slice none 0 0, .slice none 0 0] 28,
  .cells #[.string ⟨#[103]⟩, sl (w.heap.size + 2) 1, bytV 4, sl (w.heap.size + 3) 3, .slice none 0 0, sl (w.heap.size + 10) 5] 28,
  .cells #[intV 0] 3,
  .cells #[bytV 4, bytV 1, bytV 4] 23,
  .cells #[intV 0, intV 2] 3,
  .cells #[bytV 2, bytV 0, intV 2, .slice none 0 0, u64V 5, intV 0, bytV 4, bytV 13, intV 1, sl (w.heap.size + 4) 2, u64V 0, intV 0] 41,
  .cells #[intV 0] 3,
  .cells #[bytV 10, bytV 0, intV 0, sl (w.heap.size + 6) 1, u64V 0, intV 0] 41,
  .cells #[intV 0, intV 2] 3,
  .cells #[bytV 1, bytV 0, intV 2, sl (w.heap.size + 12) 3, u64V 0, intV 0] 41,
  .cells #[sl (w.heap.size + 5) 2, bytV 2, intV 1, intV 2, intV 1, bytV 0, sl (w.heap.size + 7) 1, bytV 1, intV 0, intV 3, intV 0, bytV 0, .slice none 0 0, bytV 1, intV 0, intV 3, intV 0, bytV 0, sl (w.heap.size + 9) 1, bytV 3, intV 2, intV 0, intV 0, bytV 0, .slice none 0 0, bytV 1, intV 0, intV 3, intV 0, bytV 0] 49,
  .cells #[.string ⟨#[103]⟩, sl (w.heap.size + 2) 1, bytV 4, sl (w.heap.size + 3) 3, .slice none 0 0, sl (w.heap.size + 10) 5] 28,
  .cells #[intV 0, intV 2, intV 2] 3,
  .cells #[.string ⟨#[103]⟩, sl (w.heap.size + 2) 1, bytV 4, sl (w.heap.size + 3) 3, .slice none 0 0, sl (w.heap.size + 10) 5] 28,
  .cells #[intV 0, intV 0, intV 0] 3,
  .cells #[bytV 1, bytV 0, intV 2, sl (w.heap.size + 14) 3, u64V 0, intV 0] 41]
set_option maxRecDepth 100000 in
set_option maxHeartbeats 4000000 in
theorem bent_7 (w : World) : Calls Tryz.prog 4 #[.int .i64 7] w fun e w' => ∃ pv vv av bv, e = .returned (.agg #[.string bentG7.name, pv, .int .u8 bentG7.result, vv, av, bv]) ∧ GrAt w' pv vv av bv bentG7 ∧ Below w.heap.size w w' := by
  obtain ⟨i0, hi0, hz0, hz1, hz2⟩ := info_parts (P := Tryz.prog) infoIn
  have HG : Hid (∀ k o, (objsC7 w)[k]? = some o → (allocs w (objsC7 w)).heap[w.heap.size + k]? = some o) := fun k o h => allocs_get (objsC7 w) w k o h
  have HS : Hid ((allocs w (objsC7 w)).heap.size = w.heap.size + 16) := by show _ = _; simp [allocs, objsC7]
  have HOW : Hid ((allocs w (objsC7 w)).ownsRow w.heap.size 41 6 (sl (w.heap.size + 9) 1) 1 [bytV 1, bytV 0, intV 2, sl (w.heap.size + 12) 3, u64V 0, intV 0]) := own_heap (HG.out 9 _ rfl) (by omega) rfl (by decide)
  have HB : Hid (Below w.heap.size w (allocs w (objsC7 w))) := allocs_below _ _
  go_enter Tryz.func4, Tryz.ntmps4
  go_wp2_with (first
    | (go_at_call 7; refine Calls.mono (small_y w) ?_; rintro e w1 ⟨rfl, rfl⟩)
    | (at_builtin; go_loud (refine wpList_append_own_at _ rfl _ _ 42 rfl w.heap.size 41 i0 (.agg #[.int .u8 0, .int .u8 0, .int .i64 0, .slice none 0 0, .int .u64 0, .int .i64 0]) 6 56 Tryz.underlying42 hi0 hz0 hz1 hz2 rfl (by decide) _ 1 [bytV 1, bytV 0, intV 2, sl (w.heap.size + 12) 3, u64V 0, intV 0] rfl (by exact HOW.out) ⟨w.heap.size + 15, 0, none⟩ 1 1 [bytV 1, bytV 0, intV 2, sl (w.heap.size + 14) 3, u64V 0, intV 0] rfl rfl ?c1 ?c2 ?c3 ?c4 ?c5 ?_)))
  case c1 => intro j u hj; rw [Addr.add_lit, Nat.zero_add]; exact (Box.of (W := allocs w (objsC7 w)) (HG.out 15 _ rfl)).cell j u hj
  case c2 => intro u hu; simp only [List.mem_cons, List.not_mem_nil, or_false] at hu; rcases hu with rfl | rfl | rfl | rfl | rfl | rfl <;> rfl
  case c3 => first | (unfold maxLen; omega) | omega | decide
  case c4 => omega
  case c5 => have h9 := HS.out; first | (show w.heap.size ≤ (allocs w (objsC7 w)).heap.size; omega) | (simp; omega)
  intro v2 w2 ho hg _ hat
  obtain ⟨g2, c2, rfl, _, _, _, _⟩ := own_form ho
  have HGR : Hid ((allocs w (objsC7 w)).grownBy w2 (some (w.heap.size + 9))) := hg
  have HO2 : Hid (w2.ownsRow w.heap.size 41 6 (.slice (some ⟨g2, 0, none⟩) 2 c2) 2 [bytV 1, bytV 0, intV 2, sl (w.heap.size + 12) 3, u64V 0, intV 0, bytV 1, bytV 0, intV 2, sl (w.heap.size + 14) 3, u64V 0, intV 0]) := ho
  have HAT : Hid (g2 = w.heap.size + 9 ∨ g2 = w.heap.size + 16) := by
    rcases hat with e | e
    · exact .inl (by injection e)
    · right
      have e2 : some g2 = some (w.heap.size + 16) := e
      injection e2
  clear ho hg hat HOW
  have HK : Hid (∀ k o, (objsC7 w)[k]? = some o → k ≠ 9 → w2.heap[w.heap.size + k]? = some o) := fun k o h hk => by
    have hl : k < (objsC7 w).length := (List.getElem?_eq_some_iff.1 h).1
    have hl2 : k < 16 := hl
    exact (HGR.out.block _ (by rw [HS.out]; omega) (fun e => by injection e; omega)).trans (HG.out k o h)
  have HB2 : Hid (Below w.heap.size w w2) := below_grown HB.out HGR.out (fun q hq => by injection hq; omega)
  have BX : Hid (Box w2 (w.heap.size + 10) [sl (w.heap.size + 5) 2, bytV 2, intV 1, intV 2, intV 1, bytV 0, sl (w.heap.size + 7) 1, bytV 1, intV 0, intV 3, intV 0, bytV 0, .slice none 0 0, bytV 1, intV 0, intV 3, intV 0, bytV 0, sl (w.heap.size + 9) 1, bytV 3, intV 2, intV 0, intV 0, bytV 0, .slice none 0 0, bytV 1, intV 0, intV 3, intV 0, bytV 0]) := Box.of (HK.out 10 _ rfl (by decide))
  have cX := BX.out.cell 18 _ rfl
  have fX := BX.out.fz
  have lX := BX.out.lt
  have B13 : Hid (Box (w2.setCell ⟨w.heap.size + 10, 18, none⟩ (.slice (some ⟨g2, 0, none⟩) 2 c2)) (w.heap.size + 13) [.string ⟨#[103]⟩, sl (w.heap.size + 2) 1, bytV 4, sl (w.heap.size + 3) 3, .slice none 0 0, sl (w.heap.size + 10) 5]) := (Box.of (HK.out 13 _ rfl (by decide))).other (by show w.heap.size + 13 ≠ w.heap.size + 10; omega) _
  obtain ⟨p0, p1, p2, p3, p4, p5⟩ := box6 B13.out
  have B0 : Hid (Box (w2.setCell ⟨w.heap.size + 10, 18, none⟩ (.slice (some ⟨g2, 0, none⟩) 2 c2)) w.heap.size [.string ⟨#[]⟩, .slice none 0 0, bytV 0, .slice none 0 0, .slice none 0 0, .slice none 0 0]) := (Box.of (HK.out 0 _ rfl (by decide))).other (by show w.heap.size ≠ w.heap.size + 10; omega) _
  obtain ⟨z0, z1, z2, z3, z4, z5⟩ := box6 B0.out
  have zf := B0.out.fz
  have zl := B0.out.lt
  have HE : Hid ((w2.setCell ⟨w.heap.size + 10, 18, none⟩ (.slice (some ⟨g2, 0, none⟩) 2 c2)).heap[w.heap.size]? = some (.cells #[.string ⟨#[]⟩, .slice none 0 0, bytV 0, .slice none 0 0, .slice none 0 0, .slice none 0 0] 28 (0, 0))) := (Below.heap_setCell w2 ⟨w.heap.size + 10, 18, none⟩ _ _ (by show w.heap.size ≠ w.heap.size + 10; omega)).trans (HK.out 0 _ rfl (by decide))
  have HB3 : Hid (Below w.heap.size w (w2.setCell ⟨w.heap.size + 10, 18, none⟩ (.slice (some ⟨g2, 0, none⟩) 2 c2))) := HB2.out.setCell (p := ⟨w.heap.size + 10, 18, none⟩) (by show w.heap.size ≤ w.heap.size + 10; omega) _
  have HFIN : Hid (∀ W9 : World, (∀ q, q ≠ w.heap.size → W9.heap[q]? = (w2.setCell ⟨w.heap.size + 10, 18, none⟩ (.slice (some ⟨g2, 0, none⟩) 2 c2)).heap[q]?) → GrAt W9 (sl (w.heap.size + 2) 1) (sl (w.heap.size + 3) 3) (.slice none 0 0) (sl (w.heap.size + 10) 5) bentG7) := by
   intro W9 q3
   have g : ∀ k o, (objsC7 w)[k]? = some o → k ≠ 9 → k ≠ 10 → k ≠ 0 → W9.heap[w.heap.size + k]? = some o := fun k o h h1 h2 h3 => (q3 _ (by omega)).trans ((Below.heap_setCell w2 ⟨w.heap.size + 10, 18, none⟩ _ _ (by show w.heap.size + k ≠ w.heap.size + 10; omega)).trans (HK.out k o h h1))
   have gX : W9.heap[w.heap.size + 10]? = some (.cells #[sl (w.heap.size + 5) 2, bytV 2, intV 1, intV 2, intV 1, bytV 0, sl (w.heap.size + 7) 1, bytV 1, intV 0, intV 3, intV 0, bytV 0, .slice none 0 0, bytV 1, intV 0, intV 3, intV 0, bytV 0, .slice (some ⟨g2, 0, none⟩) 2 c2, bytV 3, intV 2, intV 0, intV 0, bytV 0, .slice none 0 0, bytV 1, intV 0, intV 3, intV 0, bytV 0] 49) := (q3 _ (by omega)).trans (hsc (HK.out 10 _ rfl (by decide)) _)
   have hN : RowAt W9 (.slice (some ⟨g2, 0, none⟩) 2 c2) 2 [bytV 1, bytV 0, intV 2, sl (w.heap.size + 12) 3, u64V 0, intV 0, bytV 1, bytV 0, intV 2, sl (w.heap.size + 14) 3, u64V 0, intV 0] := row_own (owns_same HO2.out fun q hq => by
     have e : q = g2 := by injection hq with hq; exact hq.symm
     subst e
     rcases HAT.out with e | e
     · exact (q3 _ (by omega)).trans (Below.heap_setCell w2 ⟨w.heap.size + 10, 18, none⟩ _ _ (by show q ≠ w.heap.size + 10; omega))
     · exact (q3 _ (by omega)).trans (Below.heap_setCell w2 ⟨w.heap.size + 10, 18, none⟩ _ _ (by show q ≠ w.heap.size + 10; omega))) (by omega)
   have i0 : InsAt W9 (sl (w.heap.size + 5) 2) [⟨2, 0, 2, [], 5, 0⟩, ⟨4, 13, 1, [0, 2], 0, 0⟩] := by
     refine ⟨by decide, [.slice none 0 0, sl (w.heap.size + 4) 2], rfl, row_lit (t := 41) 2 (g 5 _ rfl (by decide) (by decide) (by decide)) (by omega), fun i x a hx ha => ?_⟩
     rcases i with _ | _ | i
     · cases hx; cases ha; exact row_nil _ _
     · cases hx; cases ha; exact row_lit (t := 3) 2 (g 4 _ rfl (by decide) (by decide) (by decide)) (by omega)
     · simp at hx
   have i1 : InsAt W9 (sl (w.heap.size + 7) 1) [⟨10, 0, 0, [0], 0, 0⟩] := by
     refine ⟨by decide, [sl (w.heap.size + 6) 1], rfl, row_lit (t := 41) 1 (g 7 _ rfl (by decide) (by decide) (by decide)) (by omega), fun i x a hx ha => ?_⟩
     rcases i with _ | i
     · cases hx; cases ha; exact row_lit (t := 3) 1 (g 6 _ rfl (by decide) (by decide) (by decide)) (by omega)
     · simp at hx
   have i2 : InsAt W9 (.slice none 0 0) [] := by
     exact ⟨by simp, [], rfl, row_nil _ _, fun i x a hx ha => by simp at hx⟩
   have i3 : InsAt W9 (.slice (some ⟨g2, 0, none⟩) 2 c2) [⟨1, 0, 2, [0, 2, 2], 0, 0⟩, ⟨1, 0, 2, [0, 0, 0], 0, 0⟩] := by
     refine ⟨by decide, [sl (w.heap.size + 12) 3, sl (w.heap.size + 14) 3], rfl, hN, fun i x a hx ha => ?_⟩
     rcases i with _ | _ | i
     · cases hx; cases ha; exact row_lit (t := 3) 3 (g 12 _ rfl (by decide) (by decide) (by decide)) (by omega)
     · cases hx; cases ha; exact row_lit (t := 3) 3 (g 14 _ rfl (by decide) (by decide) (by decide)) (by omega)
     · simp at hx
   have i4 : InsAt W9 (.slice none 0 0) [] := by
     exact ⟨by simp, [], rfl, row_nil _ _, fun i x a hx ha => by simp at hx⟩
   refine ⟨row_lit (t := 3) 1 (g 2 _ rfl (by decide) (by decide) (by decide)) (by omega), row_lit (t := 23) 3 (g 3 _ rfl (by decide) (by decide) (by decide)) (by omega), row_nil _ _, ⟨[sl (w.heap.size + 5) 2, sl (w.heap.size + 7) 1, .slice none 0 0, .slice (some ⟨g2, 0, none⟩) 2 c2, .slice none 0 0], rfl, row_lit (t := 49) 5 gX (by omega), fun i x a hx ha => ?_⟩⟩
   rcases i with _ | _ | _ | _ | _ | i
   · cases hx; cases ha; exact i0
   · cases hx; cases ha; exact i1
   · cases hx; cases ha; exact i2
   · cases hx; cases ha; exact i3
   · cases hx; cases ha; exact i4
   · simp [bentG7] at hx
  go_wp2
  obtain ⟨q1, q2, q3⟩ := six_end HB3.out (Nat.le_refl _) HE.out (.string ⟨#[103]⟩) (sl (w.heap.size + 2) 1) (bytV 4) (sl (w.heap.size + 3) 3) (.slice none 0 0) (sl (w.heap.size + 10) 5)
  exact bodyPost_ret (results_cell_row rfl _ _ w.heap.size 28 #[.string ⟨#[103]⟩, sl (w.heap.size + 2) 1, bytV 4, sl (w.heap.size + 3) 3, .slice none 0 0, sl (w.heap.size + 10) 5] _ _ rfl q2 Tryz.underlying28 rfl (by rfl)) rfl ⟨_, _, _, _, rfl, HFIN.out _ q3, q1⟩
def objsC13 (w : World) : List Obj := [
  .cells #[.string ⟨#[]⟩, .slice none 0 0, bytV 0, .slice none 0 0, .slice none 0 0, .slice none 0 0] 28,
  .cells #[.string ⟨#[103]⟩, sl (w.heap.size + 2) 1, bytV 4, sl (w.heap.size + 3) 3, .slice none 0 0, sl (w.heap.size + 10) 5] 28,
  .cells #[intV 0] 3,
  .cells #[bytV 4, bytV 1, bytV 4] 23,
  .cells #[intV 0, intV 2] 3,
  .cells #[bytV 2, bytV 0, intV 2, .slice none 0 0, u64V 5, intV 0, bytV 4, bytV 13, intV 1, sl (w.heap.size + 4) 2, u64V 0, intV 0] 41,
  .cells #[intV 0] 3,
  .cells #[bytV 10, bytV 0, intV 0, sl (w.heap.size + 6) 1, u64V 0, intV 0] 41,
  .cells #[intV 0, intV 2] 3,
  .cells #[bytV 1, bytV 0, intV 2, sl (w.heap.size + 12) 3, u64V 0, intV 0] 41,
  .cells #[sl (w.heap.size + 5) 2, bytV 2, intV 1, intV 2, intV 1, bytV 0, sl (w.heap.size + 7) 1, bytV 1, intV 0, intV 3, intV 0, bytV 0, .slice none 0 0, bytV 1, intV 0, intV 3, intV 0, bytV 0, sl (w.heap.size + 9) 1, bytV 3, intV 2, intV 0, intV 0, bytV 0, .slice none 0 0, bytV 1, intV 0, intV 3, intV 0, bytV 0] 49,
  .cells #[.string ⟨#[103]⟩, sl (w.heap.size + 2) 1, bytV 4, sl (w.heap.size + 3) 3, .slice none 0 0, sl (w.heap.size + 10) 5] 28,
  .cells #[intV 0, intV 2, intV 2] 3,
  .cells #[.string ⟨#[103]⟩, sl (w.heap.size + 14) 9, bytV 4, sl (w.heap.size + 3) 3, .slice none 0 0, sl (w.heap.size + 10) 5] 28,
  .cells #[intV 0, intV 1, intV 2, intV 3, intV 4, intV 5, intV 6, intV 7, intV 8] 3,
  .cells #[bytV 4, bytV 4, bytV 4, bytV 4, bytV 4, bytV 4, bytV 4] 23]
set_option maxRecDepth 100000 in
set_option maxHeartbeats 4000000 in
theorem bent_13 (w : World) : Calls Tryz.prog 4 #[.int .i64 13] w fun e w' => ∃ pv vv av bv, e = .returned (.agg #[.string bentG13.name, pv, .int .u8 bentG13.result, vv, av, bv]) ∧ GrAt w' pv vv av bv bentG13 ∧ Below w.heap.size w w' := by
  obtain ⟨i0, hi0, hz0, hz1, hz2⟩ := info_parts (P := Tryz.prog) infoTy
  have HG : Hid (∀ k o, (objsC13 w)[k]? = some o → (allocs w (objsC13 w)).heap[w.heap.size + k]? = some o) := fun k o h => allocs_get (objsC13 w) w k o h
  have HS : Hid ((allocs w (objsC13 w)).heap.size = w.heap.size + 16) := by show _ = _; simp [allocs, objsC13]
  have HOW : Hid ((allocs w (objsC13 w)).ownsRow w.heap.size 23 1 (sl (w.heap.size + 3) 3) 3 [bytV 4, bytV 1, bytV 4]) := own_heap (HG.out 3 _ rfl) (by omega) rfl (by decide)
  have HB : Hid (Below w.heap.size w (allocs w (objsC13 w))) := allocs_below _ _
  go_enter Tryz.func4, Tryz.ntmps4
  go_wp2_with (first
    | (go_at_call 7; refine Calls.mono (small_y w) ?_; rintro e w1 ⟨rfl, rfl⟩)
    | (at_builtin; go_loud (refine wpList_append_own_at _ rfl _ _ 24 rfl w.heap.size 23 i0 (.int .u8 0) 1 1 Tryz.underlying24 hi0 hz0 hz1 hz2 rfl (by decide) _ 3 [bytV 4, bytV 1, bytV 4] rfl (by exact HOW.out) ⟨w.heap.size + 15, 0, none⟩ 7 7 [bytV 4, bytV 4, bytV 4, bytV 4, bytV 4, bytV 4, bytV 4] rfl rfl ?c1 ?c2 ?c3 ?c4 ?c5 ?_)))
  case c1 => intro j u hj; rw [Addr.add_lit, Nat.zero_add]; exact (Box.of (W := allocs w (objsC13 w)) (HG.out 15 _ rfl)).cell j u hj
  case c2 => intro u hu; simp only [List.mem_cons, List.not_mem_nil, or_false] at hu; rcases hu with rfl | rfl | rfl | rfl | rfl | rfl | rfl <;> rfl
  case c3 => first | (unfold maxLen; omega) | omega | decide
  case c4 => omega
  case c5 => have h9 := HS.out; first | (show w.heap.size ≤ (allocs w (objsC13 w)).heap.size; omega) | (simp; omega)
  intro v2 w2 ho hg _ hat
  obtain ⟨g2, c2, rfl, _, _, _, _⟩ := own_form ho
  have HGR : Hid ((allocs w (objsC13 w)).grownBy w2 (some (w.heap.size + 3))) := hg
  have HO2 : Hid (w2.ownsRow w.heap.size 23 1 (.slice (some ⟨g2, 0, none⟩) 10 c2) 10 [bytV 4, bytV 1, bytV 4, bytV 4, bytV 4, bytV 4, bytV 4, bytV 4, bytV 4, bytV 4]) := ho
  have HAT : Hid (g2 = w.heap.size + 3 ∨ g2 = w.heap.size + 16) := by
    rcases hat with e | e
    · exact .inl (by injection e)
    · right
      have e2 : some g2 = some (w.heap.size + 16) := e
      injection e2
  clear ho hg hat HOW
  have HK : Hid (∀ k o, (objsC13 w)[k]? = some o → k ≠ 3 → w2.heap[w.heap.size + k]? = some o) := fun k o h hk => by
    have hl : k < (objsC13 w).length := (List.getElem?_eq_some_iff.1 h).1
    have hl2 : k < 16 := hl
    exact (HGR.out.block _ (by rw [HS.out]; omega) (fun e => by injection e; omega)).trans (HG.out k o h)
  have HB2 : Hid (Below w.heap.size w w2) := below_grown HB.out HGR.out (fun q hq => by injection hq; omega)
  have BX : Hid (Box w2 (w.heap.size + 13) [.string ⟨#[103]⟩, sl (w.heap.size + 14) 9, bytV 4, sl (w.heap.size + 3) 3, .slice none 0 0, sl (w.heap.size + 10) 5]) := Box.of (HK.out 13 _ rfl (by decide))
  have cX := BX.out.cell 3 _ rfl
  have fX := BX.out.fz
  have lX := BX.out.lt
  have B13 : Hid (Box (w2.setCell ⟨w.heap.size + 13, 3, none⟩ (.slice (some ⟨g2, 0, none⟩) 10 c2)) (w.heap.size + 13) [.string ⟨#[103]⟩, sl (w.heap.size + 14) 9, bytV 4, .slice (some ⟨g2, 0, none⟩) 10 c2, .slice none 0 0, sl (w.heap.size + 10) 5]) := BX.out.set (j := 3) (by simp) _
  obtain ⟨p0, p1, p2, p3, p4, p5⟩ := box6 B13.out
  have B0 : Hid (Box (w2.setCell ⟨w.heap.size + 13, 3, none⟩ (.slice (some ⟨g2, 0, none⟩) 10 c2)) w.heap.size [.string ⟨#[]⟩, .slice none 0 0, bytV 0, .slice none 0 0, .slice none 0 0, .slice none 0 0]) := (Box.of (HK.out 0 _ rfl (by decide))).other (by show w.heap.size ≠ w.heap.size + 13; omega) _
  obtain ⟨z0, z1, z2, z3, z4, z5⟩ := box6 B0.out
  have zf := B0.out.fz
  have zl := B0.out.lt
  have HE : Hid ((w2.setCell ⟨w.heap.size + 13, 3, none⟩ (.slice (some ⟨g2, 0, none⟩) 10 c2)).heap[w.heap.size]? = some (.cells #[.string ⟨#[]⟩, .slice none 0 0, bytV 0, .slice none 0 0, .slice none 0 0, .slice none 0 0] 28 (0, 0))) := (Below.heap_setCell w2 ⟨w.heap.size + 13, 3, none⟩ _ _ (by show w.heap.size ≠ w.heap.size + 13; omega)).trans (HK.out 0 _ rfl (by decide))
  have HB3 : Hid (Below w.heap.size w (w2.setCell ⟨w.heap.size + 13, 3, none⟩ (.slice (some ⟨g2, 0, none⟩) 10 c2))) := HB2.out.setCell (p := ⟨w.heap.size + 13, 3, none⟩) (by show w.heap.size ≤ w.heap.size + 13; omega) _
  have HFIN : Hid (∀ W9 : World, (∀ q, q ≠ w.heap.size → W9.heap[q]? = (w2.setCell ⟨w.heap.size + 13, 3, none⟩ (.slice (some ⟨g2, 0, none⟩) 10 c2)).heap[q]?) → GrAt W9 (sl (w.heap.size + 14) 9) (.slice (some ⟨g2, 0, none⟩) 10 c2) (.slice none 0 0) (sl (w.heap.size + 10) 5) bentG13) := by
   intro W9 q3
   have g : ∀ k o, (objsC13 w)[k]? = some o → k ≠ 3 → k ≠ 13 → k ≠ 0 → W9.heap[w.heap.size + k]? = some o := fun k o h h1 h2 h3 => (q3 _ (by omega)).trans ((Below.heap_setCell w2 ⟨w.heap.size + 13, 3, none⟩ _ _ (by show w.heap.size + k ≠ w.heap.size + 13; omega)).trans (HK.out k o h h1))
   have gX : W9.heap[w.heap.size + 13]? = some (.cells #[.string ⟨#[103]⟩, sl (w.heap.size + 14) 9, bytV 4, .slice (some ⟨g2, 0, none⟩) 10 c2, .slice none 0 0, sl (w.heap.size + 10) 5] 28) := (q3 _ (by omega)).trans (hsc (HK.out 13 _ rfl (by decide)) _)
   have hN : RowAt W9 (.slice (some ⟨g2, 0, none⟩) 10 c2) 10 [bytV 4, bytV 1, bytV 4, bytV 4, bytV 4, bytV 4, bytV 4, bytV 4, bytV 4, bytV 4] := row_own (owns_same HO2.out fun q hq => by
     have e : q = g2 := by injection hq with hq; exact hq.symm
     subst e
     rcases HAT.out with e | e
     · exact (q3 _ (by omega)).trans (Below.heap_setCell w2 ⟨w.heap.size + 13, 3, none⟩ _ _ (by show q ≠ w.heap.size + 13; omega))
     · exact (q3 _ (by omega)).trans (Below.heap_setCell w2 ⟨w.heap.size + 13, 3, none⟩ _ _ (by show q ≠ w.heap.size + 13; omega))) (by omega)
   have i0 : InsAt W9 (sl (w.heap.size + 5) 2) [⟨2, 0, 2, [], 5, 0⟩, ⟨4, 13, 1, [0, 2], 0, 0⟩] := by
     refine ⟨by decide, [.slice none 0 0, sl (w.heap.size + 4) 2], rfl, row_lit (t := 41) 2 (g 5 _ rfl (by decide) (by decide) (by decide)) (by omega), fun i x a hx ha => ?_⟩
     rcases i with _ | _ | i
     · cases hx; cases ha; exact row_nil _ _
     · cases hx; cases ha; exact row_lit (t := 3) 2 (g 4 _ rfl (by decide) (by decide) (by decide)) (by omega)
     · simp at hx
   have i1 : InsAt W9 (sl (w.heap.size + 7) 1) [⟨10, 0, 0, [0], 0, 0⟩] := by
     refine ⟨by decide, [sl (w.heap.size + 6) 1], rfl, row_lit (t := 41) 1 (g 7 _ rfl (by decide) (by decide) (by decide)) (by omega), fun i x a hx ha => ?_⟩
     rcases i with _ | i
     · cases hx; cases ha; exact row_lit (t := 3) 1 (g 6 _ rfl (by decide) (by decide) (by decide)) (by omega)
     · simp at hx
   have i2 : InsAt W9 (.slice none 0 0) [] := by
     exact ⟨by simp, [], rfl, row_nil _ _, fun i x a hx ha => by simp at hx⟩
   have i3 : InsAt W9 (sl (w.heap.size + 9) 1) [⟨1, 0, 2, [0, 2, 2], 0, 0⟩] := by
     refine ⟨by decide, [sl (w.heap.size + 12) 3], rfl, row_lit (t := 41) 1 (g 9 _ rfl (by decide) (by decide) (by decide)) (by omega), fun i x a hx ha => ?_⟩
     rcases i with _ | i
     · cases hx; cases ha; exact row_lit (t := 3) 3 (g 12 _ rfl (by decide) (by decide) (by decide)) (by omega)
     · simp at hx
   have i4 : InsAt W9 (.slice none 0 0) [] := by
     exact ⟨by simp, [], rfl, row_nil _ _, fun i x a hx ha => by simp at hx⟩
   refine ⟨row_lit (t := 3) 9 (g 14 _ rfl (by decide) (by decide) (by decide)) (by omega), hN, row_nil _ _, ⟨[sl (w.heap.size + 5) 2, sl (w.heap.size + 7) 1, .slice none 0 0, sl (w.heap.size + 9) 1, .slice none 0 0], rfl, row_lit (t := 49) 5 (g 10 _ rfl (by decide) (by decide) (by decide)) (by omega), fun i x a hx ha => ?_⟩⟩
   rcases i with _ | _ | _ | _ | _ | i
   · cases hx; cases ha; exact i0
   · cases hx; cases ha; exact i1
   · cases hx; cases ha; exact i2
   · cases hx; cases ha; exact i3
   · cases hx; cases ha; exact i4
   · simp [bentG13] at hx
  go_wp2
  obtain ⟨q1, q2, q3⟩ := six_end HB3.out (Nat.le_refl _) HE.out (.string ⟨#[103]⟩) (sl (w.heap.size + 14) 9) (bytV 4) (.slice (some ⟨g2, 0, none⟩) 10 c2) (.slice none 0 0) (sl (w.heap.size + 10) 5)
  exact bodyPost_ret (results_cell_row rfl _ _ w.heap.size 28 #[.string ⟨#[103]⟩, sl (w.heap.size + 14) 9, bytV 4, .slice (some ⟨g2, 0, none⟩) 10 c2, .slice none 0 0, sl (w.heap.size + 10) 5] _ _ rfl q2 Tryz.underlying28 rfl (by rfl)) rfl ⟨_, _, _, _, rfl, HFIN.out _ q3, q1⟩
def objsC19 (w : World) : List Obj := [
  .cells #[.string ⟨#[]⟩, .slice none 0 0, bytV 0, .slice none 0 0, .slice none 0 0, .slice none 0 0] 28,
  .cells #[.string ⟨#[103]⟩, sl (w.heap.size + 2) 1, bytV 4, sl (w.heap.size + 3) 3, .slice none 0 0, sl (w.heap.size + 10) 5] 28,
  .cells #[intV 0] 3,
  .cells #[bytV 4, bytV 1, bytV 4] 23,
  .cells #[intV 0, intV 2] 3,
  .cells #[bytV 2, bytV 0, intV 2, .slice none 0 0, u64V 5, intV 0, bytV 4, bytV 13, intV 1, sl (w.heap.size + 4) 2, u64V 0, intV 0] 41,
  .cells #[intV 0] 3,
  .cells #[bytV 10, bytV 0, intV 0, sl (w.heap.size + 6) 1, u64V 0, intV 0] 41,
  .cells #[intV 0, intV 2] 3,
  .cells #[bytV 1, bytV 0, intV 2, sl (w.heap.size + 12) 3, u64V 0, intV 0] 41,
  .cells #[sl (w.heap.size + 5) 2, bytV 2, intV 1, intV 2, intV 1, bytV 0, sl (w.heap.size + 7) 1, bytV 1, intV 0, intV 3, intV 0, bytV 0, .slice none 0 0, bytV 1, intV 0, intV 3, intV 0, bytV 0, sl (w.heap.size + 9) 1, bytV 3, intV 2, intV 0, intV 0, bytV 0, .slice none 0 0, bytV 1, intV 0, intV 3, intV 0, bytV 0] 49,
  .cells #[.string ⟨#[103]⟩, sl (w.heap.size + 2) 1, bytV 4, sl (w.heap.size + 3) 3, .slice none 0 0, sl (w.heap.size + 10) 5] 28,
  .cells #[intV 0, intV 2, intV 2] 3,
  .cells #[.string ⟨#[103]⟩, sl (w.heap.size + 2) 1, bytV 4, sl (w.heap.size + 3) 3, .slice none 0 0, sl (w.heap.size + 10) 5] 28,
  .cells #[bytV 1, bytV 0, intV 2, .slice none 0 0, u64V 0, intV 0] 41]
set_option maxRecDepth 100000 in
set_option maxHeartbeats 4000000 in
theorem bent_19 (w : World) : Calls Tryz.prog 4 #[.int .i64 19] w fun e w' => ∃ pv vv av bv, e = .returned (.agg #[.string bentG19.name, pv, .int .u8 bentG19.result, vv, av, bv]) ∧ GrAt w' pv vv av bv bentG19 ∧ Below w.heap.size w w' := by
  obtain ⟨i0, hi0, hz0, hz1, hz2⟩ := info_parts (P := Tryz.prog) infoIn
  have HG : Hid (∀ k o, (objsC19 w)[k]? = some o → (allocs w (objsC19 w)).heap[w.heap.size + k]? = some o) := fun k o h => allocs_get (objsC19 w) w k o h
  have HS : Hid ((allocs w (objsC19 w)).heap.size = w.heap.size + 15) := by show _ = _; simp [allocs, objsC19]
  have HOW : Hid ((allocs w (objsC19 w)).ownsRow w.heap.size 41 6 (sl (w.heap.size + 14) 1) 1 [bytV 1, bytV 0, intV 2, .slice none 0 0, u64V 0, intV 0]) := own_heap (HG.out 14 _ rfl) (by omega) rfl (by decide)
  have HB : Hid (Below w.heap.size w (allocs w (objsC19 w))) := allocs_below _ _
  go_enter Tryz.func4, Tryz.ntmps4
  go_wp2_with (first
    | (go_at_call 7; refine Calls.mono (small_y w) ?_; rintro e w1 ⟨rfl, rfl⟩)
    | (at_builtin; go_loud (refine wpList_append_own_at _ rfl _ _ 42 rfl w.heap.size 41 i0 (.agg #[.int .u8 0, .int .u8 0, .int .i64 0, .slice none 0 0, .int .u64 0, .int .i64 0]) 6 56 Tryz.underlying42 hi0 hz0 hz1 hz2 rfl (by decide) _ 1 [bytV 1, bytV 0, intV 2, .slice none 0 0, u64V 0, intV 0] rfl (by exact HOW.out) ⟨w.heap.size + 5, 0, none⟩ 2 2 [bytV 2, bytV 0, intV 2, .slice none 0 0, u64V 5, intV 0, bytV 4, bytV 13, intV 1, sl (w.heap.size + 4) 2, u64V 0, intV 0] rfl rfl ?c1 ?c2 ?c3 ?c4 ?c5 ?_)))
  case c1 => intro j u hj; rw [Addr.add_lit, Nat.zero_add]; exact (Box.of (W := allocs w (objsC19 w)) (HG.out 5 _ rfl)).cell j u hj
  case c2 => intro u hu; simp only [List.mem_cons, List.not_mem_nil, or_false] at hu; rcases hu with rfl | rfl | rfl | rfl | rfl | rfl | rfl | rfl | rfl | rfl | rfl | rfl <;> rfl
  case c3 => first | (unfold maxLen; omega) | omega | decide
  case c4 => omega
  case c5 => have h9 := HS.out; first | (show w.heap.size ≤ (allocs w (objsC19 w)).heap.size; omega) | (simp; omega)
  intro v2 w2 ho hg _ hat
  obtain ⟨g2, c2, rfl, _, _, _, _⟩ := own_form ho
  have HGR : Hid ((allocs w (objsC19 w)).grownBy w2 (some (w.heap.size + 14))) := hg
  have HO2 : Hid (w2.ownsRow w.heap.size 41 6 (.slice (some ⟨g2, 0, none⟩) 3 c2) 3 [bytV 1, bytV 0, intV 2, .slice none 0 0, u64V 0, intV 0, bytV 2, bytV 0, intV 2, .slice none 0 0, u64V 5, intV 0, bytV 4, bytV 13, intV 1, sl (w.heap.size + 4) 2, u64V 0, intV 0]) := ho
  have HAT : Hid (g2 = w.heap.size + 14 ∨ g2 = w.heap.size + 15) := by
    rcases hat with e | e
    · exact .inl (by injection e)
    · right
      have e2 : some g2 = some (w.heap.size + 15) := e
      injection e2
  clear ho hg hat HOW
  have HK : Hid (∀ k o, (objsC19 w)[k]? = some o → k ≠ 14 → w2.heap[w.heap.size + k]? = some o) := fun k o h hk => by
    have hl : k < (objsC19 w).length := (List.getElem?_eq_some_iff.1 h).1
    have hl2 : k < 15 := hl
    exact (HGR.out.block _ (by rw [HS.out]; omega) (fun e => by injection e; omega)).trans (HG.out k o h)
  have HB2 : Hid (Below w.heap.size w w2) := below_grown HB.out HGR.out (fun q hq => by injection hq; omega)
  have BX : Hid (Box w2 (w.heap.size + 10) [sl (w.heap.size + 5) 2, bytV 2, intV 1, intV 2, intV 1, bytV 0, sl (w.heap.size + 7) 1, bytV 1, intV 0, intV 3, intV 0, bytV 0, .slice none 0 0, bytV 1, intV 0, intV 3, intV 0, bytV 0, sl (w.heap.size + 9) 1, bytV 3, intV 2, intV 0, intV 0, bytV 0, .slice none 0 0, bytV 1, intV 0, intV 3, intV 0, bytV 0]) := Box.of (HK.out 10 _ rfl (by decide))
  have cX := BX.out.cell 0 _ rfl
  have fX := BX.out.fz
  have lX := BX.out.lt
  have B13 : Hid (Box (w2.setCell ⟨w.heap.size + 10, 0, none⟩ (.slice (some ⟨g2, 0, none⟩) 3 c2)) (w.heap.size + 13) [.string ⟨#[103]⟩, sl (w.heap.size + 2) 1, bytV 4, sl (w.heap.size + 3) 3, .slice none 0 0, sl (w.heap.size + 10) 5]) := (Box.of (HK.out 13 _ rfl (by decide))).other (by show w.heap.size + 13 ≠ w.heap.size + 10; omega) _
  obtain ⟨p0, p1, p2, p3, p4, p5⟩ := box6 B13.out
  have B0 : Hid (Box (w2.setCell ⟨w.heap.size + 10, 0, none⟩ (.slice (some ⟨g2, 0, none⟩) 3 c2)) w.heap.size [.string ⟨#[]⟩, .slice none 0 0, bytV 0, .slice none 0 0, .slice none 0 0, .slice none 0 0]) := (Box.of (HK.out 0 _ rfl (by decide))).other (by show w.heap.size ≠ w.heap.size + 10; omega) _
  obtain ⟨z0, z1, z2, z3, z4, z5⟩ := box6 B0.out
  have zf := B0.out.fz
  have zl := B0.out.lt
  have HE : Hid ((w2.setCell ⟨w.heap.size + 10, 0, none⟩ (.slice (some ⟨g2, 0, none⟩) 3 c2)).heap[w.heap.size]? = some (.cells #[.string ⟨#[]⟩, .slice none 0 0, bytV 0, .slice none 0 0, .slice none 0 0, .slice none 0 0] 28 (0, 0))) := (Below.heap_setCell w2 ⟨w.heap.size + 10, 0, none⟩ _ _ (by show w.heap.size ≠ w.heap.size + 10; omega)).trans (HK.out 0 _ rfl (by decide))
  have HB3 : Hid (Below w.heap.size w (w2.setCell ⟨w.heap.size + 10, 0, none⟩ (.slice (some ⟨g2, 0, none⟩) 3 c2))) := HB2.out.setCell (p := ⟨w.heap.size + 10, 0, none⟩) (by show w.heap.size ≤ w.heap.size + 10; omega) _
  have HFIN : Hid (∀ W9 : World, (∀ q, q ≠ w.heap.size → W9.heap[q]? = (w2.setCell ⟨w.heap.size + 10, 0, none⟩ (.slice (some ⟨g2, 0, none⟩) 3 c2)).heap[q]?) → GrAt W9 (sl (w.heap.size + 2) 1) (sl (w.heap.size + 3) 3) (.slice none 0 0) (sl (w.heap.size + 10) 5) bentG19) := by
   intro W9 q3
   have g : ∀ k o, (objsC19 w)[k]? = some o → k ≠ 14 → k ≠ 10 → k ≠ 0 → W9.heap[w.heap.size + k]? = some o := fun k o h h1 h2 h3 => (q3 _ (by omega)).trans ((Below.heap_setCell w2 ⟨w.heap.size + 10, 0, none⟩ _ _ (by show w.heap.size + k ≠ w.heap.size + 10; omega)).trans (HK.out k o h h1))
   have gX : W9.heap[w.heap.size + 10]? = some (.cells #[.slice (some ⟨g2, 0, none⟩) 3 c2, bytV 2, intV 1, intV 2, intV 1, bytV 0, sl (w.heap.size + 7) 1, bytV 1, intV 0, intV 3, intV 0, bytV 0, .slice none 0 0, bytV 1, intV 0, intV 3, intV 0, bytV 0, sl (w.heap.size + 9) 1, bytV 3, intV 2, intV 0, intV 0, bytV 0, .slice none 0 0, bytV 1, intV 0, intV 3, intV 0, bytV 0] 49) := (q3 _ (by omega)).trans (hsc (HK.out 10 _ rfl (by decide)) _)
   have hN : RowAt W9 (.slice (some ⟨g2, 0, none⟩) 3 c2) 3 [bytV 1, bytV 0, intV 2, .slice none 0 0, u64V 0, intV 0, bytV 2, bytV 0, intV 2, .slice none 0 0, u64V 5, intV 0, bytV 4, bytV 13, intV 1, sl (w.heap.size + 4) 2, u64V 0, intV 0] := row_own (owns_same HO2.out fun q hq => by
     have e : q = g2 := by injection hq with hq; exact hq.symm
     subst e
     rcases HAT.out with e | e
     · exact (q3 _ (by omega)).trans (Below.heap_setCell w2 ⟨w.heap.size + 10, 0, none⟩ _ _ (by show q ≠ w.heap.size + 10; omega))
     · exact (q3 _ (by omega)).trans (Below.heap_setCell w2 ⟨w.heap.size + 10, 0, none⟩ _ _ (by show q ≠ w.heap.size + 10; omega))) (by omega)
   have i0 : InsAt W9 (.slice (some ⟨g2, 0, none⟩) 3 c2) [⟨1, 0, 2, [], 0, 0⟩, ⟨2, 0, 2, [], 5, 0⟩, ⟨4, 13, 1, [0, 2], 0, 0⟩] := by
     refine ⟨by decide, [.slice none 0 0, .slice none 0 0, sl (w.heap.size + 4) 2], rfl, hN, fun i x a hx ha => ?_⟩
     rcases i with _ | _ | _ | i
     · cases hx; cases ha; exact row_nil _ _
     · cases hx; cases ha; exact row_nil _ _
     · cases hx; cases ha; exact row_lit (t := 3) 2 (g 4 _ rfl (by decide) (by decide) (by decide)) (by omega)
     · simp at hx
   have i1 : InsAt W9 (sl (w.heap.size + 7) 1) [⟨10, 0, 0, [0], 0, 0⟩] := by
     refine ⟨by decide, [sl (w.heap.size + 6) 1], rfl, row_lit (t := 41) 1 (g 7 _ rfl (by decide) (by decide) (by decide)) (by omega), fun i x a hx ha => ?_⟩
     rcases i with _ | i
     · cases hx; cases ha; exact row_lit (t := 3) 1 (g 6 _ rfl (by decide) (by decide) (by decide)) (by omega)
     · simp at hx
   have i2 : InsAt W9 (.slice none 0 0) [] := by
     exact ⟨by simp, [], rfl, row_nil _ _, fun i x a hx ha => by simp at hx⟩
   have i3 : InsAt W9 (sl (w.heap.size + 9) 1) [⟨1, 0, 2, [0, 2, 2], 0, 0⟩] := by
     refine ⟨by decide, [sl (w.heap.size + 12) 3], rfl, row_lit (t := 41) 1 (g 9 _ rfl (by decide) (by decide) (by decide)) (by omega), fun i x a hx ha => ?_⟩
     rcases i with _ | i
     · cases hx; cases ha; exact row_lit (t := 3) 3 (g 12 _ rfl (by decide) (by decide) (by decide)) (by omega)
     · simp at hx
   have i4 : InsAt W9 (.slice none 0 0) [] := by
     exact ⟨by simp, [], rfl, row_nil _ _, fun i x a hx ha => by simp at hx⟩
   refine ⟨row_lit (t := 3) 1 (g 2 _ rfl (by decide) (by decide) (by decide)) (by omega), row_lit (t := 23) 3 (g 3 _ rfl (by decide) (by decide) (by decide)) (by omega), row_nil _ _, ⟨[.slice (some ⟨g2, 0, none⟩) 3 c2, sl (w.heap.size + 7) 1, .slice none 0 0, sl (w.heap.size + 9) 1, .slice none 0 0], rfl, row_lit (t := 49) 5 gX (by omega), fun i x a hx ha => ?_⟩⟩
   rcases i with _ | _ | _ | _ | _ | i
   · cases hx; cases ha; exact i0
   · cases hx; cases ha; exact i1
   · cases hx; cases ha; exact i2
   · cases hx; cases ha; exact i3
   · cases hx; cases ha; exact i4
   · simp [bentG19] at hx
  go_wp2
  obtain ⟨q1, q2, q3⟩ := six_end HB3.out (Nat.le_refl _) HE.out (.string ⟨#[103]⟩) (sl (w.heap.size + 2) 1) (bytV 4) (sl (w.heap.size + 3) 3) (.slice none 0 0) (sl (w.heap.size + 10) 5)
  exact bodyPost_ret (results_cell_row rfl _ _ w.heap.size 28 #[.string ⟨#[103]⟩, sl (w.heap.size + 2) 1, bytV 4, sl (w.heap.size + 3) 3, .slice none 0 0, sl (w.heap.size + 10) 5] _ _ rfl q2 Tryz.underlying28 rfl (by rfl)) rfl ⟨_, _, _, _, rfl, HFIN.out _ q3, q1⟩
end Go.Proofs.YtobnpllppohofaaGreatDoor
