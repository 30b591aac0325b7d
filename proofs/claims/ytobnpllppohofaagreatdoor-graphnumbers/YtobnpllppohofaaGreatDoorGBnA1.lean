/- The chapter's graph bent in one place: where something is stored. -/
import Derived.Test.YtobnpllppohofaaGreatDoorGBn0M
namespace Go.Proofs.YtobnpllppohofaaGreatDoor
open Go.RowKit

def objsB0 (w : World) : List Obj := [
 .cells #[.string ⟨#[103]⟩, sl (w.heap.size + 2) 1, bytV 4, sl (w.heap.size + 3) 3, .slice none 0 0, sl (w.heap.size + 10) 5] 28,
 .cells #[.string ⟨#[103]⟩, sl (w.heap.size + 2) 1, bytV 4, sl (w.heap.size + 3) 3, .slice none 0 0, sl (w.heap.size + 10) 5] 28,
 .cells #[intV 0] 3,
 .cells #[bytV 4, bytV 1, bytV 3] 23,
 .cells #[intV 0, intV 2] 3,
 .cells #[bytV 2, bytV 0, intV 2, .slice none 0 0, u64V 1099511627776, intV 0, bytV 4, bytV 13, intV 1, sl (w.heap.size + 4) 2, u64V 0, intV 0] 41,
 .cells #[intV 0] 3,
 .cells #[bytV 10, bytV 0, intV 0, sl (w.heap.size + 6) 1, u64V 0, intV 0] 41,
 .cells #[intV 0, intV 2] 3,
 .cells #[bytV 1, bytV 0, intV 2, sl (w.heap.size + 12) 3, u64V 0, intV 0] 41,
 .cells #[sl (w.heap.size + 5) 2, bytV 2, intV 1, intV 2, intV 1, bytV 0, sl (w.heap.size + 7) 1, bytV 1, intV 0, intV 3, intV 0, bytV 0, .slice none 0 0, bytV 1, intV 0, intV 3, intV 0, bytV 0, sl (w.heap.size + 9) 1, bytV 3, intV 2, intV 0, intV 0, bytV 0, .slice none 0 0, bytV 1, intV 0, intV 3, intV 0, bytV 0] 49,
 .cells #[.string ⟨#[103]⟩, sl (w.heap.size + 2) 1, bytV 4, sl (w.heap.size + 3) 3, .slice none 0 0, sl (w.heap.size + 10) 5] 28,
 .cells #[intV 0, intV 2, intV 2] 3,
 .cells #[.string ⟨#[103]⟩, sl (w.heap.size + 2) 1, bytV 4, sl (w.heap.size + 3) 3, .slice none 0 0, sl (w.heap.size + 10) 5] 28]
theorem bent_at0 (w : World) : GrAt (allocs w (objsB0 w)) (sl (w.heap.size + 2) 1) (sl (w.heap.size + 3) 3) (.slice none 0 0) (sl (w.heap.size + 10) 5) bentG0 := by
 have g := fun k o (h : (objsB0 w)[k]? = some o) => allocs_get (objsB0 w) w k o h
 have i0 : InsAt (allocs w (objsB0 w)) (sl (w.heap.size + 5) 2) [⟨2, 0, 2, [], 1099511627776, 0⟩, ⟨4, 13, 1, [0, 2], 0, 0⟩] := by
  refine ⟨by decide, [.slice none 0 0, sl (w.heap.size + 4) 2], rfl, row_lit (t := 41) 2 (g 5 _ rfl) (by omega), fun i x a hx ha => ?_⟩
  rcases i with _ | _ | i
  ·cases hx; cases ha; exact row_nil _ _
  ·cases hx; cases ha; exact row_lit (t := 3) 2 (g 4 _ rfl) (by omega)
  ·simp at hx
 have i1 : InsAt (allocs w (objsB0 w)) (sl (w.heap.size + 7) 1) [⟨10, 0, 0, [0], 0, 0⟩] := by
  refine ⟨by decide, [sl (w.heap.size + 6) 1], rfl, row_lit (t := 41) 1 (g 7 _ rfl) (by omega), fun i x a hx ha => ?_⟩
  rcases i with _ | i
  ·cases hx; cases ha; exact row_lit (t := 3) 1 (g 6 _ rfl) (by omega)
  ·simp at hx
 have i2 : InsAt (allocs w (objsB0 w)) (.slice none 0 0) [] := by
  exact ⟨by simp, [], rfl, row_nil _ _, fun i x a hx ha => by simp at hx⟩
 have i3 : InsAt (allocs w (objsB0 w)) (sl (w.heap.size + 9) 1) [⟨1, 0, 2, [0, 2, 2], 0, 0⟩] := by
  refine ⟨by decide, [sl (w.heap.size + 12) 3], rfl, row_lit (t := 41) 1 (g 9 _ rfl) (by omega), fun i x a hx ha => ?_⟩
  rcases i with _ | i
  ·cases hx; cases ha; exact row_lit (t := 3) 3 (g 12 _ rfl) (by omega)
  ·simp at hx
 have i4 : InsAt (allocs w (objsB0 w)) (.slice none 0 0) [] := by
  exact ⟨by simp, [], rfl, row_nil _ _, fun i x a hx ha => by simp at hx⟩
 refine ⟨row_lit (t := 3) 1 (g 2 _ rfl) (by omega), row_lit (t := 23) 3 (g 3 _ rfl) (by omega), row_nil _ _, ⟨[sl (w.heap.size + 5) 2, sl (w.heap.size + 7) 1, .slice none 0 0, sl (w.heap.size + 9) 1, .slice none 0 0], rfl, row_lit (t := 49) 5 (g 10 _ rfl) (by omega), fun i x a hx ha => ?_⟩⟩
 rcases i with _ | _ | _ | _ | _ | i
 ·cases hx; cases ha; exact i0
 ·cases hx; cases ha; exact i1
 ·cases hx; cases ha; exact i2
 ·cases hx; cases ha; exact i3
 ·cases hx; cases ha; exact i4
 ·simp [bentG0] at hx
set_option maxRecDepth 100000 in
set_option maxHeartbeats 4000000 in
theorem bent_0 (w : World) : Calls Tryz.prog 4 #[.int .i64 0] w fun e w' => ∃ pv vv av bv, e = .returned (.agg #[.string bentG0.name, pv, .int .u8 bentG0.result, vv, av, bv]) ∧ GrAt w' pv vv av bv bentG0 ∧ Below w.heap.size w w' := by
 go_enter Tryz.func4, Tryz.ntmps4
 go_wp2_with (go_at_call 7; refine Calls.mono (small_y w) ?_; rintro e w1 ⟨rfl, rfl⟩)
 change bodyPost _ _ _ _ _ (allocs w (objsB0 w))
 exact bodyPost_ret (results_cell_row rfl _ _ w.heap.size 28 #[.string ⟨#[103]⟩, sl (w.heap.size + 2) 1, bytV 4, sl (w.heap.size + 3) 3, .slice none 0 0, sl (w.heap.size + 10) 5] _ _ rfl (allocs_get (objsB0 w) w 0 _ rfl) Tryz.underlying28 rfl (by rfl)) rfl ⟨_, _, _, _, rfl, bent_at0 w, allocs_below _ _⟩
def objsB1 (w : World) : List Obj := [
 .cells #[.string ⟨#[103]⟩, sl (w.heap.size + 2) 1, bytV 4, sl (w.heap.size + 3) 3, .slice none 0 0, sl (w.heap.size + 10) 5] 28,
 .cells #[.string ⟨#[103]⟩, sl (w.heap.size + 2) 1, bytV 4, sl (w.heap.size + 3) 3, .slice none 0 0, sl (w.heap.size + 10) 5] 28,
 .cells #[intV 0] 3,
 .cells #[bytV 4, bytV 1, bytV 4] 23,
 .cells #[intV 0, intV 2] 3,
 .cells #[bytV 2, bytV 0, intV 2, .slice none 0 0, u64V 5, intV 0, bytV 4, bytV 13, intV 1, sl (w.heap.size + 4) 2, u64V 0, intV 0] 41,
 .cells #[intV 0] 3,
 .cells #[bytV 10, bytV 0, intV 0, sl (w.heap.size + 6) 1, u64V 0, intV 0] 41,
 .cells #[intV 0, intV 2] 3,
 .cells #[bytV 1, bytV 0, intV 2, sl (w.heap.size + 12) 3, u64V 0, intV 0] 41,
 .cells #[sl (w.heap.size + 5) 2, bytV 2, intV 1, intV 0, intV 1, bytV 0, sl (w.heap.size + 7) 1, bytV 1, intV 0, intV 3, intV 0, bytV 0, .slice none 0 0, bytV 1, intV 0, intV 3, intV 0, bytV 0, sl (w.heap.size + 9) 1, bytV 3, intV 2, intV 0, intV 0, bytV 0, .slice none 0 0, bytV 1, intV 0, intV 3, intV 0, bytV 0] 49,
 .cells #[.string ⟨#[103]⟩, sl (w.heap.size + 2) 1, bytV 4, sl (w.heap.size + 3) 3, .slice none 0 0, sl (w.heap.size + 10) 5] 28,
 .cells #[intV 0, intV 2, intV 2] 3,
 .cells #[.string ⟨#[103]⟩, sl (w.heap.size + 2) 1, bytV 4, sl (w.heap.size + 3) 3, .slice none 0 0, sl (w.heap.size + 10) 5] 28]
theorem bent_at1 (w : World) : GrAt (allocs w (objsB1 w)) (sl (w.heap.size + 2) 1) (sl (w.heap.size + 3) 3) (.slice none 0 0) (sl (w.heap.size + 10) 5) bentG1 := by
 have g := fun k o (h : (objsB1 w)[k]? = some o) => allocs_get (objsB1 w) w k o h
 have i0 : InsAt (allocs w (objsB1 w)) (sl (w.heap.size + 5) 2) [⟨2, 0, 2, [], 5, 0⟩, ⟨4, 13, 1, [0, 2], 0, 0⟩] := by
  refine ⟨by decide, [.slice none 0 0, sl (w.heap.size + 4) 2], rfl, row_lit (t := 41) 2 (g 5 _ rfl) (by omega), fun i x a hx ha => ?_⟩
  rcases i with _ | _ | i
  ·cases hx; cases ha; exact row_nil _ _
  ·cases hx; cases ha; exact row_lit (t := 3) 2 (g 4 _ rfl) (by omega)
  ·simp at hx
 have i1 : InsAt (allocs w (objsB1 w)) (sl (w.heap.size + 7) 1) [⟨10, 0, 0, [0], 0, 0⟩] := by
  refine ⟨by decide, [sl (w.heap.size + 6) 1], rfl, row_lit (t := 41) 1 (g 7 _ rfl) (by omega), fun i x a hx ha => ?_⟩
  rcases i with _ | i
  ·cases hx; cases ha; exact row_lit (t := 3) 1 (g 6 _ rfl) (by omega)
  ·simp at hx
 have i2 : InsAt (allocs w (objsB1 w)) (.slice none 0 0) [] := by
  exact ⟨by simp, [], rfl, row_nil _ _, fun i x a hx ha => by simp at hx⟩
 have i3 : InsAt (allocs w (objsB1 w)) (sl (w.heap.size + 9) 1) [⟨1, 0, 2, [0, 2, 2], 0, 0⟩] := by
  refine ⟨by decide, [sl (w.heap.size + 12) 3], rfl, row_lit (t := 41) 1 (g 9 _ rfl) (by omega), fun i x a hx ha => ?_⟩
  rcases i with _ | i
  ·cases hx; cases ha; exact row_lit (t := 3) 3 (g 12 _ rfl) (by omega)
  ·simp at hx
 have i4 : InsAt (allocs w (objsB1 w)) (.slice none 0 0) [] := by
  exact ⟨by simp, [], rfl, row_nil _ _, fun i x a hx ha => by simp at hx⟩
 refine ⟨row_lit (t := 3) 1 (g 2 _ rfl) (by omega), row_lit (t := 23) 3 (g 3 _ rfl) (by omega), row_nil _ _, ⟨[sl (w.heap.size + 5) 2, sl (w.heap.size + 7) 1, .slice none 0 0, sl (w.heap.size + 9) 1, .slice none 0 0], rfl, row_lit (t := 49) 5 (g 10 _ rfl) (by omega), fun i x a hx ha => ?_⟩⟩
 rcases i with _ | _ | _ | _ | _ | i
 ·cases hx; cases ha; exact i0
 ·cases hx; cases ha; exact i1
 ·cases hx; cases ha; exact i2
 ·cases hx; cases ha; exact i3
 ·cases hx; cases ha; exact i4
 ·simp [bentG1] at hx
set_option maxRecDepth 100000 in
set_option maxHeartbeats 4000000 in
theorem bent_1 (w : World) : Calls Tryz.prog 4 #[.int .i64 1] w fun e w' => ∃ pv vv av bv, e = .returned (.agg #[.string bentG1.name, pv, .int .u8 bentG1.result, vv, av, bv]) ∧ GrAt w' pv vv av bv bentG1 ∧ Below w.heap.size w w' := by
 go_enter Tryz.func4, Tryz.ntmps4
 go_wp2_with (go_at_call 7; refine Calls.mono (small_y w) ?_; rintro e w1 ⟨rfl, rfl⟩)
 change bodyPost _ _ _ _ _ (allocs w (objsB1 w))
 exact bodyPost_ret (results_cell_row rfl _ _ w.heap.size 28 #[.string ⟨#[103]⟩, sl (w.heap.size + 2) 1, bytV 4, sl (w.heap.size + 3) 3, .slice none 0 0, sl (w.heap.size + 10) 5] _ _ rfl (allocs_get (objsB1 w) w 0 _ rfl) Tryz.underlying28 rfl (by rfl)) rfl ⟨_, _, _, _, rfl, bent_at1 w, allocs_below _ _⟩
def objsB2 (w : World) : List Obj := [
 .cells #[.string ⟨#[103]⟩, sl (w.heap.size + 2) 1, bytV 4, sl (w.heap.size + 3) 3, .slice none 0 0, sl (w.heap.size + 10) 5] 28,
 .cells #[.string ⟨#[103]⟩, sl (w.heap.size + 2) 1, bytV 4, sl (w.heap.size + 3) 3, .slice none 0 0, sl (w.heap.size + 10) 5] 28,
 .cells #[intV 0] 3,
 .cells #[bytV 4, bytV 1, bytV 4] 23,
 .cells #[intV 0, intV 2] 3,
 .cells #[bytV 2, bytV 0, intV 2, .slice none 0 0, u64V 5, intV 0, bytV 4, bytV 13, intV 1, sl (w.heap.size + 4) 2, u64V 0, intV 0] 41,
 .cells #[intV 0] 3,
 .cells #[bytV 10, bytV 0, intV 0, sl (w.heap.size + 6) 1, u64V 0, intV 0] 41,
 .cells #[intV 0, intV 2] 3,
 .cells #[bytV 1, bytV 0, intV 2, sl (w.heap.size + 12) 3, u64V 0, intV 0] 41,
 .cells #[sl (w.heap.size + 5) 2, bytV 2, intV 1, intV 2, intV 1, bytV 1, sl (w.heap.size + 7) 1, bytV 1, intV 0, intV 3, intV 0, bytV 0, .slice none 0 0, bytV 1, intV 0, intV 3, intV 0, bytV 0, sl (w.heap.size + 9) 1, bytV 3, intV 2, intV 0, intV 0, bytV 0, .slice none 0 0, bytV 1, intV 0, intV 3, intV 0, bytV 0] 49,
 .cells #[.string ⟨#[103]⟩, sl (w.heap.size + 2) 1, bytV 4, sl (w.heap.size + 3) 3, .slice none 0 0, sl (w.heap.size + 10) 5] 28,
 .cells #[intV 0, intV 2, intV 2] 3,
 .cells #[.string ⟨#[103]⟩, sl (w.heap.size + 2) 1, bytV 4, sl (w.heap.size + 3) 3, .slice none 0 0, sl (w.heap.size + 10) 5] 28]
theorem bent_at2 (w : World) : GrAt (allocs w (objsB2 w)) (sl (w.heap.size + 2) 1) (sl (w.heap.size + 3) 3) (.slice none 0 0) (sl (w.heap.size + 10) 5) bentG2 := by
 have g := fun k o (h : (objsB2 w)[k]? = some o) => allocs_get (objsB2 w) w k o h
 have i0 : InsAt (allocs w (objsB2 w)) (sl (w.heap.size + 5) 2) [⟨2, 0, 2, [], 5, 0⟩, ⟨4, 13, 1, [0, 2], 0, 0⟩] := by
  refine ⟨by decide, [.slice none 0 0, sl (w.heap.size + 4) 2], rfl, row_lit (t := 41) 2 (g 5 _ rfl) (by omega), fun i x a hx ha => ?_⟩
  rcases i with _ | _ | i
  ·cases hx; cases ha; exact row_nil _ _
  ·cases hx; cases ha; exact row_lit (t := 3) 2 (g 4 _ rfl) (by omega)
  ·simp at hx
 have i1 : InsAt (allocs w (objsB2 w)) (sl (w.heap.size + 7) 1) [⟨10, 0, 0, [0], 0, 0⟩] := by
  refine ⟨by decide, [sl (w.heap.size + 6) 1], rfl, row_lit (t := 41) 1 (g 7 _ rfl) (by omega), fun i x a hx ha => ?_⟩
  rcases i with _ | i
  ·cases hx; cases ha; exact row_lit (t := 3) 1 (g 6 _ rfl) (by omega)
  ·simp at hx
 have i2 : InsAt (allocs w (objsB2 w)) (.slice none 0 0) [] := by
  exact ⟨by simp, [], rfl, row_nil _ _, fun i x a hx ha => by simp at hx⟩
 have i3 : InsAt (allocs w (objsB2 w)) (sl (w.heap.size + 9) 1) [⟨1, 0, 2, [0, 2, 2], 0, 0⟩] := by
  refine ⟨by decide, [sl (w.heap.size + 12) 3], rfl, row_lit (t := 41) 1 (g 9 _ rfl) (by omega), fun i x a hx ha => ?_⟩
  rcases i with _ | i
  ·cases hx; cases ha; exact row_lit (t := 3) 3 (g 12 _ rfl) (by omega)
  ·simp at hx
 have i4 : InsAt (allocs w (objsB2 w)) (.slice none 0 0) [] := by
  exact ⟨by simp, [], rfl, row_nil _ _, fun i x a hx ha => by simp at hx⟩
 refine ⟨row_lit (t := 3) 1 (g 2 _ rfl) (by omega), row_lit (t := 23) 3 (g 3 _ rfl) (by omega), row_nil _ _, ⟨[sl (w.heap.size + 5) 2, sl (w.heap.size + 7) 1, .slice none 0 0, sl (w.heap.size + 9) 1, .slice none 0 0], rfl, row_lit (t := 49) 5 (g 10 _ rfl) (by omega), fun i x a hx ha => ?_⟩⟩
 rcases i with _ | _ | _ | _ | _ | i
 ·cases hx; cases ha; exact i0
 ·cases hx; cases ha; exact i1
 ·cases hx; cases ha; exact i2
 ·cases hx; cases ha; exact i3
 ·cases hx; cases ha; exact i4
 ·simp [bentG2] at hx
set_option maxRecDepth 100000 in
set_option maxHeartbeats 4000000 in
theorem bent_2 (w : World) : Calls Tryz.prog 4 #[.int .i64 2] w fun e w' => ∃ pv vv av bv, e = .returned (.agg #[.string bentG2.name, pv, .int .u8 bentG2.result, vv, av, bv]) ∧ GrAt w' pv vv av bv bentG2 ∧ Below w.heap.size w w' := by
 go_enter Tryz.func4, Tryz.ntmps4
 go_wp2_with (go_at_call 7; refine Calls.mono (small_y w) ?_; rintro e w1 ⟨rfl, rfl⟩)
 change bodyPost _ _ _ _ _ (allocs w (objsB2 w))
 exact bodyPost_ret (results_cell_row rfl _ _ w.heap.size 28 #[.string ⟨#[103]⟩, sl (w.heap.size + 2) 1, bytV 4, sl (w.heap.size + 3) 3, .slice none 0 0, sl (w.heap.size + 10) 5] _ _ rfl (allocs_get (objsB2 w) w 0 _ rfl) Tryz.underlying28 rfl (by rfl)) rfl ⟨_, _, _, _, rfl, bent_at2 w, allocs_below _ _⟩
def objsB3 (w : World) : List Obj := [
 .cells #[.string ⟨#[103]⟩, sl (w.heap.size + 2) 1, bytV 4, sl (w.heap.size + 3) 3, .slice none 0 0, sl (w.heap.size + 10) 5] 28,
 .cells #[.string ⟨#[103]⟩, sl (w.heap.size + 2) 1, bytV 4, sl (w.heap.size + 3) 3, .slice none 0 0, sl (w.heap.size + 10) 5] 28,
 .cells #[intV 0] 3,
 .cells #[bytV 4, bytV 1, bytV 4] 23,
 .cells #[intV 0, intV 2] 3,
 .cells #[bytV 2, bytV 0, intV 2, .slice none 0 0, u64V 5, intV 0, bytV 4, bytV 13, intV 1, sl (w.heap.size + 4) 2, u64V 0, intV 0] 41,
 .cells #[intV 0] 3,
 .cells #[bytV 10, bytV 0, intV 0, sl (w.heap.size + 6) 1, u64V 0, intV 0] 41,
 .cells #[intV 0, intV 2] 3,
 .cells #[bytV 1, bytV 0, intV 2, sl (w.heap.size + 12) 3, u64V 0, intV 0] 41,
 .cells #[sl (w.heap.size + 5) 2, bytV 2, intV 1, intV 2, intV 1, bytV 0, sl (w.heap.size + 7) 1, bytV 1, intV 0, intV 3, intV 1, bytV 0, .slice none 0 0, bytV 1, intV 0, intV 3, intV 0, bytV 0, sl (w.heap.size + 9) 1, bytV 3, intV 2, intV 0, intV 0, bytV 0, .slice none 0 0, bytV 1, intV 0, intV 3, intV 0, bytV 0] 49,
 .cells #[.string ⟨#[103]⟩, sl (w.heap.size + 2) 1, bytV 4, sl (w.heap.size + 3) 3, .slice none 0 0, sl (w.heap.size + 10) 5] 28,
 .cells #[intV 0, intV 2, intV 2] 3,
 .cells #[.string ⟨#[103]⟩, sl (w.heap.size + 2) 1, bytV 4, sl (w.heap.size + 3) 3, .slice none 0 0, sl (w.heap.size + 10) 5] 28]
theorem bent_at3 (w : World) : GrAt (allocs w (objsB3 w)) (sl (w.heap.size + 2) 1) (sl (w.heap.size + 3) 3) (.slice none 0 0) (sl (w.heap.size + 10) 5) bentG3 := by
 have g := fun k o (h : (objsB3 w)[k]? = some o) => allocs_get (objsB3 w) w k o h
 have i0 : InsAt (allocs w (objsB3 w)) (sl (w.heap.size + 5) 2) [⟨2, 0, 2, [], 5, 0⟩, ⟨4, 13, 1, [0, 2], 0, 0⟩] := by
  refine ⟨by decide, [.slice none 0 0, sl (w.heap.size + 4) 2], rfl, row_lit (t := 41) 2 (g 5 _ rfl) (by omega), fun i x a hx ha => ?_⟩
  rcases i with _ | _ | i
  ·cases hx; cases ha; exact row_nil _ _
  ·cases hx; cases ha; exact row_lit (t := 3) 2 (g 4 _ rfl) (by omega)
  ·simp at hx
 have i1 : InsAt (allocs w (objsB3 w)) (sl (w.heap.size + 7) 1) [⟨10, 0, 0, [0], 0, 0⟩] := by
  refine ⟨by decide, [sl (w.heap.size + 6) 1], rfl, row_lit (t := 41) 1 (g 7 _ rfl) (by omega), fun i x a hx ha => ?_⟩
  rcases i with _ | i
  ·cases hx; cases ha; exact row_lit (t := 3) 1 (g 6 _ rfl) (by omega)
  ·simp at hx
 have i2 : InsAt (allocs w (objsB3 w)) (.slice none 0 0) [] := by
  exact ⟨by simp, [], rfl, row_nil _ _, fun i x a hx ha => by simp at hx⟩
 have i3 : InsAt (allocs w (objsB3 w)) (sl (w.heap.size + 9) 1) [⟨1, 0, 2, [0, 2, 2], 0, 0⟩] := by
  refine ⟨by decide, [sl (w.heap.size + 12) 3], rfl, row_lit (t := 41) 1 (g 9 _ rfl) (by omega), fun i x a hx ha => ?_⟩
  rcases i with _ | i
  ·cases hx; cases ha; exact row_lit (t := 3) 3 (g 12 _ rfl) (by omega)
  ·simp at hx
 have i4 : InsAt (allocs w (objsB3 w)) (.slice none 0 0) [] := by
  exact ⟨by simp, [], rfl, row_nil _ _, fun i x a hx ha => by simp at hx⟩
 refine ⟨row_lit (t := 3) 1 (g 2 _ rfl) (by omega), row_lit (t := 23) 3 (g 3 _ rfl) (by omega), row_nil _ _, ⟨[sl (w.heap.size + 5) 2, sl (w.heap.size + 7) 1, .slice none 0 0, sl (w.heap.size + 9) 1, .slice none 0 0], rfl, row_lit (t := 49) 5 (g 10 _ rfl) (by omega), fun i x a hx ha => ?_⟩⟩
 rcases i with _ | _ | _ | _ | _ | i
 ·cases hx; cases ha; exact i0
 ·cases hx; cases ha; exact i1
 ·cases hx; cases ha; exact i2
 ·cases hx; cases ha; exact i3
 ·cases hx; cases ha; exact i4
 ·simp [bentG3] at hx
set_option maxRecDepth 100000 in
set_option maxHeartbeats 4000000 in
theorem bent_3 (w : World) : Calls Tryz.prog 4 #[.int .i64 3] w fun e w' => ∃ pv vv av bv, e = .returned (.agg #[.string bentG3.name, pv, .int .u8 bentG3.result, vv, av, bv]) ∧ GrAt w' pv vv av bv bentG3 ∧ Below w.heap.size w w' := by
 go_enter Tryz.func4, Tryz.ntmps4
 go_wp2_with (go_at_call 7; refine Calls.mono (small_y w) ?_; rintro e w1 ⟨rfl, rfl⟩)
 change bodyPost _ _ _ _ _ (allocs w (objsB3 w))
 exact bodyPost_ret (results_cell_row rfl _ _ w.heap.size 28 #[.string ⟨#[103]⟩, sl (w.heap.size + 2) 1, bytV 4, sl (w.heap.size + 3) 3, .slice none 0 0, sl (w.heap.size + 10) 5] _ _ rfl (allocs_get (objsB3 w) w 0 _ rfl) Tryz.underlying28 rfl (by rfl)) rfl ⟨_, _, _, _, rfl, bent_at3 w, allocs_below _ _⟩
def objsB4 (w : World) : List Obj := [
 .cells #[.string ⟨#[103]⟩, sl (w.heap.size + 2) 1, bytV 4, sl (w.heap.size + 3) 3, .slice none 0 0, sl (w.heap.size + 10) 5] 28,
 .cells #[.string ⟨#[103]⟩, sl (w.heap.size + 2) 1, bytV 4, sl (w.heap.size + 3) 3, .slice none 0 0, sl (w.heap.size + 10) 5] 28,
 .cells #[intV 0] 3,
 .cells #[bytV 4, bytV 1, bytV 4] 23,
 .cells #[intV 0, intV 2] 3,
 .cells #[bytV 2, bytV 0, intV 2, .slice none 0 0, u64V 5, intV 0, bytV 4, bytV 13, intV 1, sl (w.heap.size + 4) 2, u64V 0, intV 0] 41,
 .cells #[intV 0] 3,
 .cells #[bytV 10, bytV 0, intV 0, sl (w.heap.size + 6) 1, u64V 0, intV 0] 41,
 .cells #[intV 0, intV 2] 3,
 .cells #[bytV 1, bytV 0, intV 2, sl (w.heap.size + 12) 3, u64V 0, intV 0] 41,
 .cells #[sl (w.heap.size + 5) 2, bytV 2, intV 1, intV 2, intV 1, bytV 0, sl (w.heap.size + 7) 1, bytV 1, intV 0, intV 3, intV 0, bytV 0, .slice none 0 0, bytV 1, intV 0, intV 3, intV 0, bytV 0, sl (w.heap.size + 9) 1, bytV 3, intV 1, intV 0, intV 0, bytV 0, .slice none 0 0, bytV 1, intV 0, intV 3, intV 0, bytV 0] 49,
 .cells #[.string ⟨#[103]⟩, sl (w.heap.size + 2) 1, bytV 4, sl (w.heap.size + 3) 3, .slice none 0 0, sl (w.heap.size + 10) 5] 28,
 .cells #[intV 0, intV 2, intV 2] 3,
 .cells #[.string ⟨#[103]⟩, sl (w.heap.size + 2) 1, bytV 4, sl (w.heap.size + 3) 3, .slice none 0 0, sl (w.heap.size + 10) 5] 28]
theorem bent_at4 (w : World) : GrAt (allocs w (objsB4 w)) (sl (w.heap.size + 2) 1) (sl (w.heap.size + 3) 3) (.slice none 0 0) (sl (w.heap.size + 10) 5) bentG4 := by
 have g := fun k o (h : (objsB4 w)[k]? = some o) => allocs_get (objsB4 w) w k o h
 have i0 : InsAt (allocs w (objsB4 w)) (sl (w.heap.size + 5) 2) [⟨2, 0, 2, [], 5, 0⟩, ⟨4, 13, 1, [0, 2], 0, 0⟩] := by
  refine ⟨by decide, [.slice none 0 0, sl (w.heap.size + 4) 2], rfl, row_lit (t := 41) 2 (g 5 _ rfl) (by omega), fun i x a hx ha => ?_⟩
  rcases i with _ | _ | i
  ·cases hx; cases ha; exact row_nil _ _
  ·cases hx; cases ha; exact row_lit (t := 3) 2 (g 4 _ rfl) (by omega)
  ·simp at hx
 have i1 : InsAt (allocs w (objsB4 w)) (sl (w.heap.size + 7) 1) [⟨10, 0, 0, [0], 0, 0⟩] := by
  refine ⟨by decide, [sl (w.heap.size + 6) 1], rfl, row_lit (t := 41) 1 (g 7 _ rfl) (by omega), fun i x a hx ha => ?_⟩
  rcases i with _ | i
  ·cases hx; cases ha; exact row_lit (t := 3) 1 (g 6 _ rfl) (by omega)
  ·simp at hx
 have i2 : InsAt (allocs w (objsB4 w)) (.slice none 0 0) [] := by
  exact ⟨by simp, [], rfl, row_nil _ _, fun i x a hx ha => by simp at hx⟩
 have i3 : InsAt (allocs w (objsB4 w)) (sl (w.heap.size + 9) 1) [⟨1, 0, 2, [0, 2, 2], 0, 0⟩] := by
  refine ⟨by decide, [sl (w.heap.size + 12) 3], rfl, row_lit (t := 41) 1 (g 9 _ rfl) (by omega), fun i x a hx ha => ?_⟩
  rcases i with _ | i
  ·cases hx; cases ha; exact row_lit (t := 3) 3 (g 12 _ rfl) (by omega)
  ·simp at hx
 have i4 : InsAt (allocs w (objsB4 w)) (.slice none 0 0) [] := by
  exact ⟨by simp, [], rfl, row_nil _ _, fun i x a hx ha => by simp at hx⟩
 refine ⟨row_lit (t := 3) 1 (g 2 _ rfl) (by omega), row_lit (t := 23) 3 (g 3 _ rfl) (by omega), row_nil _ _, ⟨[sl (w.heap.size + 5) 2, sl (w.heap.size + 7) 1, .slice none 0 0, sl (w.heap.size + 9) 1, .slice none 0 0], rfl, row_lit (t := 49) 5 (g 10 _ rfl) (by omega), fun i x a hx ha => ?_⟩⟩
 rcases i with _ | _ | _ | _ | _ | i
 ·cases hx; cases ha; exact i0
 ·cases hx; cases ha; exact i1
 ·cases hx; cases ha; exact i2
 ·cases hx; cases ha; exact i3
 ·cases hx; cases ha; exact i4
 ·simp [bentG4] at hx
set_option maxRecDepth 100000 in
set_option maxHeartbeats 4000000 in
theorem bent_4 (w : World) : Calls Tryz.prog 4 #[.int .i64 4] w fun e w' => ∃ pv vv av bv, e = .returned (.agg #[.string bentG4.name, pv, .int .u8 bentG4.result, vv, av, bv]) ∧ GrAt w' pv vv av bv bentG4 ∧ Below w.heap.size w w' := by
 go_enter Tryz.func4, Tryz.ntmps4
 go_wp2_with (go_at_call 7; refine Calls.mono (small_y w) ?_; rintro e w1 ⟨rfl, rfl⟩)
 change bodyPost _ _ _ _ _ (allocs w (objsB4 w))
 exact bodyPost_ret (results_cell_row rfl _ _ w.heap.size 28 #[.string ⟨#[103]⟩, sl (w.heap.size + 2) 1, bytV 4, sl (w.heap.size + 3) 3, .slice none 0 0, sl (w.heap.size + 10) 5] _ _ rfl (allocs_get (objsB4 w) w 0 _ rfl) Tryz.underlying28 rfl (by rfl)) rfl ⟨_, _, _, _, rfl, bent_at4 w, allocs_below _ _⟩
def objsB5 (w : World) : List Obj := [
 .cells #[.string ⟨#[103]⟩, sl (w.heap.size + 14) 2, bytV 4, sl (w.heap.size + 3) 3, .slice none 0 0, sl (w.heap.size + 10) 5] 28,
 .cells #[.string ⟨#[103]⟩, sl (w.heap.size + 2) 1, bytV 4, sl (w.heap.size + 3) 3, .slice none 0 0, sl (w.heap.size + 10) 5] 28,
 .cells #[intV 0] 3,
 .cells #[bytV 4, bytV 1, bytV 4] 23,
 .cells #[intV 0, intV 2] 3,
 .cells #[bytV 2, bytV 0, intV 2, .slice none 0 0, u64V 5, intV 0, bytV 4, bytV 13, intV 1, sl (w.heap.size + 4) 2, u64V 0, intV 0] 41,
 .cells #[intV 0] 3,
 .cells #[bytV 10, bytV 0, intV 0, sl (w.heap.size + 6) 1, u64V 0, intV 0] 41,
 .cells #[intV 0, intV 2] 3,
 .cells #[bytV 1, bytV 0, intV 2, sl (w.heap.size + 12) 3, u64V 0, intV 0] 41,
 .cells #[sl (w.heap.size + 5) 2, bytV 2, intV 1, intV 2, intV 1, bytV 0, sl (w.heap.size + 7) 1, bytV 1, intV 0, intV 3, intV 0, bytV 0, .slice none 0 0, bytV 1, intV 0, intV 3, intV 0, bytV 0, sl (w.heap.size + 9) 1, bytV 3, intV 2, intV 0, intV 0, bytV 0, .slice none 0 0, bytV 1, intV 0, intV 3, intV 0, bytV 0] 49,
 .cells #[.string ⟨#[103]⟩, sl (w.heap.size + 2) 1, bytV 4, sl (w.heap.size + 3) 3, .slice none 0 0, sl (w.heap.size + 10) 5] 28,
 .cells #[intV 0, intV 2, intV 2] 3,
 .cells #[.string ⟨#[103]⟩, sl (w.heap.size + 14) 2, bytV 4, sl (w.heap.size + 3) 3, .slice none 0 0, sl (w.heap.size + 10) 5] 28,
 .cells #[intV 0, intV 0] 3]
theorem bent_at5 (w : World) : GrAt (allocs w (objsB5 w)) (sl (w.heap.size + 14) 2) (sl (w.heap.size + 3) 3) (.slice none 0 0) (sl (w.heap.size + 10) 5) bentG5 := by
 have g := fun k o (h : (objsB5 w)[k]? = some o) => allocs_get (objsB5 w) w k o h
 have i0 : InsAt (allocs w (objsB5 w)) (sl (w.heap.size + 5) 2) [⟨2, 0, 2, [], 5, 0⟩, ⟨4, 13, 1, [0, 2], 0, 0⟩] := by
  refine ⟨by decide, [.slice none 0 0, sl (w.heap.size + 4) 2], rfl, row_lit (t := 41) 2 (g 5 _ rfl) (by omega), fun i x a hx ha => ?_⟩
  rcases i with _ | _ | i
  ·cases hx; cases ha; exact row_nil _ _
  ·cases hx; cases ha; exact row_lit (t := 3) 2 (g 4 _ rfl) (by omega)
  ·simp at hx
 have i1 : InsAt (allocs w (objsB5 w)) (sl (w.heap.size + 7) 1) [⟨10, 0, 0, [0], 0, 0⟩] := by
  refine ⟨by decide, [sl (w.heap.size + 6) 1], rfl, row_lit (t := 41) 1 (g 7 _ rfl) (by omega), fun i x a hx ha => ?_⟩
  rcases i with _ | i
  ·cases hx; cases ha; exact row_lit (t := 3) 1 (g 6 _ rfl) (by omega)
  ·simp at hx
 have i2 : InsAt (allocs w (objsB5 w)) (.slice none 0 0) [] := by
  exact ⟨by simp, [], rfl, row_nil _ _, fun i x a hx ha => by simp at hx⟩
 have i3 : InsAt (allocs w (objsB5 w)) (sl (w.heap.size + 9) 1) [⟨1, 0, 2, [0, 2, 2], 0, 0⟩] := by
  refine ⟨by decide, [sl (w.heap.size + 12) 3], rfl, row_lit (t := 41) 1 (g 9 _ rfl) (by omega), fun i x a hx ha => ?_⟩
  rcases i with _ | i
  ·cases hx; cases ha; exact row_lit (t := 3) 3 (g 12 _ rfl) (by omega)
  ·simp at hx
 have i4 : InsAt (allocs w (objsB5 w)) (.slice none 0 0) [] := by
  exact ⟨by simp, [], rfl, row_nil _ _, fun i x a hx ha => by simp at hx⟩
 refine ⟨row_lit (t := 3) 2 (g 14 _ rfl) (by omega), row_lit (t := 23) 3 (g 3 _ rfl) (by omega), row_nil _ _, ⟨[sl (w.heap.size + 5) 2, sl (w.heap.size + 7) 1, .slice none 0 0, sl (w.heap.size + 9) 1, .slice none 0 0], rfl, row_lit (t := 49) 5 (g 10 _ rfl) (by omega), fun i x a hx ha => ?_⟩⟩
 rcases i with _ | _ | _ | _ | _ | i
 ·cases hx; cases ha; exact i0
 ·cases hx; cases ha; exact i1
 ·cases hx; cases ha; exact i2
 ·cases hx; cases ha; exact i3
 ·cases hx; cases ha; exact i4
 ·simp [bentG5] at hx
set_option maxRecDepth 100000 in
set_option maxHeartbeats 4000000 in
theorem bent_5 (w : World) : Calls Tryz.prog 4 #[.int .i64 5] w fun e w' => ∃ pv vv av bv, e = .returned (.agg #[.string bentG5.name, pv, .int .u8 bentG5.result, vv, av, bv]) ∧ GrAt w' pv vv av bv bentG5 ∧ Below w.heap.size w w' := by
 go_enter Tryz.func4, Tryz.ntmps4
 go_wp2_with (go_at_call 7; refine Calls.mono (small_y w) ?_; rintro e w1 ⟨rfl, rfl⟩)
 change bodyPost _ _ _ _ _ (allocs w (objsB5 w))
 exact bodyPost_ret (results_cell_row rfl _ _ w.heap.size 28 #[.string ⟨#[103]⟩, sl (w.heap.size + 14) 2, bytV 4, sl (w.heap.size + 3) 3, .slice none 0 0, sl (w.heap.size + 10) 5] _ _ rfl (allocs_get (objsB5 w) w 0 _ rfl) Tryz.underlying28 rfl (by rfl)) rfl ⟨_, _, _, _, rfl, bent_at5 w, allocs_below _ _⟩
end Go.Proofs.YtobnpllppohofaaGreatDoor
