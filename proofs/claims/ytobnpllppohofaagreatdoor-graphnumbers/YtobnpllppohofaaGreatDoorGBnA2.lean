/- The chapter's graph bent in one place: where something is stored. -/
import Derived.Test.YtobnpllppohofaaGreatDoorGBn0M
namespace Go.Proofs.YtobnpllppohofaaGreatDoor
open Go.RowKit

def objsB8 (w : World) : List Obj := [
 .cells #[.string ⟨#[103]⟩, sl (w.heap.size + 2) 1, bytV 4, sl (w.heap.size + 3) 3, .slice none 0 0, sl (w.heap.size + 10) 5] 28,
 .cells #[.string ⟨#[103]⟩, sl (w.heap.size + 2) 1, bytV 4, sl (w.heap.size + 3) 3, .slice none 0 0, sl (w.heap.size + 10) 5] 28,
 .cells #[intV 0] 3,
 .cells #[bytV 4, bytV 1, bytV 4] 23,
 .cells #[intV 0, intV 2] 3,
 .cells #[bytV 2, bytV 0, intV 2, .slice none 0 0, u64V 5, intV 0, bytV 4, bytV 13, intV 1, sl (w.heap.size + 4) 2, u64V 0, intV 1] 41,
 .cells #[intV 0] 3,
 .cells #[bytV 10, bytV 0, intV 0, sl (w.heap.size + 6) 1, u64V 0, intV 0] 41,
 .cells #[intV 0, intV 2] 3,
 .cells #[bytV 1, bytV 0, intV 2, sl (w.heap.size + 12) 3, u64V 0, intV 0] 41,
 .cells #[sl (w.heap.size + 5) 2, bytV 2, intV 1, intV 2, intV 1, bytV 0, sl (w.heap.size + 7) 1, bytV 1, intV 0, intV 3, intV 0, bytV 0, .slice none 0 0, bytV 1, intV 0, intV 3, intV 0, bytV 0, sl (w.heap.size + 9) 1, bytV 3, intV 2, intV 0, intV 0, bytV 0, .slice none 0 0, bytV 1, intV 0, intV 3, intV 0, bytV 0] 49,
 .cells #[.string ⟨#[103]⟩, sl (w.heap.size + 2) 1, bytV 4, sl (w.heap.size + 3) 3, .slice none 0 0, sl (w.heap.size + 10) 5] 28,
 .cells #[intV 0, intV 2, intV 2] 3,
 .cells #[.string ⟨#[103]⟩, sl (w.heap.size + 2) 1, bytV 4, sl (w.heap.size + 3) 3, .slice none 0 0, sl (w.heap.size + 10) 5] 28]
theorem bent_at8 (w : World) : GrAt (allocs w (objsB8 w)) (sl (w.heap.size + 2) 1) (sl (w.heap.size + 3) 3) (.slice none 0 0) (sl (w.heap.size + 10) 5) bentG8 := by
 have g := fun k o (h : (objsB8 w)[k]? = some o) => allocs_get (objsB8 w) w k o h
 have i0 : InsAt (allocs w (objsB8 w)) (sl (w.heap.size + 5) 2) [⟨2, 0, 2, [], 5, 0⟩, ⟨4, 13, 1, [0, 2], 0, 1⟩] := by
  refine ⟨by decide, [.slice none 0 0, sl (w.heap.size + 4) 2], rfl, row_lit (t := 41) 2 (g 5 _ rfl) (by omega), fun i x a hx ha => ?_⟩
  rcases i with _ | _ | i
  ·cases hx; cases ha; exact row_nil _ _
  ·cases hx; cases ha; exact row_lit (t := 3) 2 (g 4 _ rfl) (by omega)
  ·simp at hx
 have i1 : InsAt (allocs w (objsB8 w)) (sl (w.heap.size + 7) 1) [⟨10, 0, 0, [0], 0, 0⟩] := by
  refine ⟨by decide, [sl (w.heap.size + 6) 1], rfl, row_lit (t := 41) 1 (g 7 _ rfl) (by omega), fun i x a hx ha => ?_⟩
  rcases i with _ | i
  ·cases hx; cases ha; exact row_lit (t := 3) 1 (g 6 _ rfl) (by omega)
  ·simp at hx
 have i2 : InsAt (allocs w (objsB8 w)) (.slice none 0 0) [] := by
  exact ⟨by simp, [], rfl, row_nil _ _, fun i x a hx ha => by simp at hx⟩
 have i3 : InsAt (allocs w (objsB8 w)) (sl (w.heap.size + 9) 1) [⟨1, 0, 2, [0, 2, 2], 0, 0⟩] := by
  refine ⟨by decide, [sl (w.heap.size + 12) 3], rfl, row_lit (t := 41) 1 (g 9 _ rfl) (by omega), fun i x a hx ha => ?_⟩
  rcases i with _ | i
  ·cases hx; cases ha; exact row_lit (t := 3) 3 (g 12 _ rfl) (by omega)
  ·simp at hx
 have i4 : InsAt (allocs w (objsB8 w)) (.slice none 0 0) [] := by
  exact ⟨by simp, [], rfl, row_nil _ _, fun i x a hx ha => by simp at hx⟩
 refine ⟨row_lit (t := 3) 1 (g 2 _ rfl) (by omega), row_lit (t := 23) 3 (g 3 _ rfl) (by omega), row_nil _ _, ⟨[sl (w.heap.size + 5) 2, sl (w.heap.size + 7) 1, .slice none 0 0, sl (w.heap.size + 9) 1, .slice none 0 0], rfl, row_lit (t := 49) 5 (g 10 _ rfl) (by omega), fun i x a hx ha => ?_⟩⟩
 rcases i with _ | _ | _ | _ | _ | i
 ·cases hx; cases ha; exact i0
 ·cases hx; cases ha; exact i1
 ·cases hx; cases ha; exact i2
 ·cases hx; cases ha; exact i3
 ·cases hx; cases ha; exact i4
 ·simp [bentG8] at hx
set_option maxRecDepth 100000 in
set_option maxHeartbeats 4000000 in
theorem bent_8 (w : World) : Calls Tryz.prog 4 #[.int .i64 8] w fun e w' => ∃ pv vv av bv, e = .returned (.agg #[.string bentG8.name, pv, .int .u8 bentG8.result, vv, av, bv]) ∧ GrAt w' pv vv av bv bentG8 ∧ Below w.heap.size w w' := by
 go_enter Tryz.func4, Tryz.ntmps4
 go_wp2_with (go_at_call 7; refine Calls.mono (small_y w) ?_; rintro e w1 ⟨rfl, rfl⟩)
 change bodyPost _ _ _ _ _ (allocs w (objsB8 w))
 exact bodyPost_ret (results_cell_row rfl _ _ w.heap.size 28 #[.string ⟨#[103]⟩, sl (w.heap.size + 2) 1, bytV 4, sl (w.heap.size + 3) 3, .slice none 0 0, sl (w.heap.size + 10) 5] _ _ rfl (allocs_get (objsB8 w) w 0 _ rfl) Tryz.underlying28 rfl (by rfl)) rfl ⟨_, _, _, _, rfl, bent_at8 w, allocs_below _ _⟩
def objsB9 (w : World) : List Obj := [
 .cells #[.string ⟨#[103]⟩, sl (w.heap.size + 2) 1, bytV 4, sl (w.heap.size + 3) 3, .slice none 0 0, sl (w.heap.size + 10) 5] 28,
 .cells #[.string ⟨#[103]⟩, sl (w.heap.size + 2) 1, bytV 4, sl (w.heap.size + 3) 3, .slice none 0 0, sl (w.heap.size + 10) 5] 28,
 .cells #[intV 0] 3,
 .cells #[bytV 4, bytV 1, bytV 4] 23,
 .cells #[intV 0, intV 2] 3,
 .cells #[bytV 2, bytV 0, intV 2, .slice none 0 0, u64V 5, intV 0, bytV 4, bytV 13, intV 1, sl (w.heap.size + 4) 2, u64V 0, intV 0] 41,
 .cells #[intV 0] 3,
 .cells #[bytV 10, bytV 0, intV 1, sl (w.heap.size + 6) 1, u64V 0, intV 0] 41,
 .cells #[intV 0, intV 2] 3,
 .cells #[bytV 1, bytV 0, intV 2, sl (w.heap.size + 12) 3, u64V 0, intV 0] 41,
 .cells #[sl (w.heap.size + 5) 2, bytV 2, intV 1, intV 2, intV 1, bytV 0, sl (w.heap.size + 7) 1, bytV 1, intV 0, intV 3, intV 0, bytV 0, .slice none 0 0, bytV 1, intV 0, intV 3, intV 0, bytV 0, sl (w.heap.size + 9) 1, bytV 3, intV 2, intV 0, intV 0, bytV 0, .slice none 0 0, bytV 1, intV 0, intV 3, intV 0, bytV 0] 49,
 .cells #[.string ⟨#[103]⟩, sl (w.heap.size + 2) 1, bytV 4, sl (w.heap.size + 3) 3, .slice none 0 0, sl (w.heap.size + 10) 5] 28,
 .cells #[intV 0, intV 2, intV 2] 3,
 .cells #[.string ⟨#[103]⟩, sl (w.heap.size + 2) 1, bytV 4, sl (w.heap.size + 3) 3, .slice none 0 0, sl (w.heap.size + 10) 5] 28]
theorem bent_at9 (w : World) : GrAt (allocs w (objsB9 w)) (sl (w.heap.size + 2) 1) (sl (w.heap.size + 3) 3) (.slice none 0 0) (sl (w.heap.size + 10) 5) bentG9 := by
 have g := fun k o (h : (objsB9 w)[k]? = some o) => allocs_get (objsB9 w) w k o h
 have i0 : InsAt (allocs w (objsB9 w)) (sl (w.heap.size + 5) 2) [⟨2, 0, 2, [], 5, 0⟩, ⟨4, 13, 1, [0, 2], 0, 0⟩] := by
  refine ⟨by decide, [.slice none 0 0, sl (w.heap.size + 4) 2], rfl, row_lit (t := 41) 2 (g 5 _ rfl) (by omega), fun i x a hx ha => ?_⟩
  rcases i with _ | _ | i
  ·cases hx; cases ha; exact row_nil _ _
  ·cases hx; cases ha; exact row_lit (t := 3) 2 (g 4 _ rfl) (by omega)
  ·simp at hx
 have i1 : InsAt (allocs w (objsB9 w)) (sl (w.heap.size + 7) 1) [⟨10, 0, 1, [0], 0, 0⟩] := by
  refine ⟨by decide, [sl (w.heap.size + 6) 1], rfl, row_lit (t := 41) 1 (g 7 _ rfl) (by omega), fun i x a hx ha => ?_⟩
  rcases i with _ | i
  ·cases hx; cases ha; exact row_lit (t := 3) 1 (g 6 _ rfl) (by omega)
  ·simp at hx
 have i2 : InsAt (allocs w (objsB9 w)) (.slice none 0 0) [] := by
  exact ⟨by simp, [], rfl, row_nil _ _, fun i x a hx ha => by simp at hx⟩
 have i3 : InsAt (allocs w (objsB9 w)) (sl (w.heap.size + 9) 1) [⟨1, 0, 2, [0, 2, 2], 0, 0⟩] := by
  refine ⟨by decide, [sl (w.heap.size + 12) 3], rfl, row_lit (t := 41) 1 (g 9 _ rfl) (by omega), fun i x a hx ha => ?_⟩
  rcases i with _ | i
  ·cases hx; cases ha; exact row_lit (t := 3) 3 (g 12 _ rfl) (by omega)
  ·simp at hx
 have i4 : InsAt (allocs w (objsB9 w)) (.slice none 0 0) [] := by
  exact ⟨by simp, [], rfl, row_nil _ _, fun i x a hx ha => by simp at hx⟩
 refine ⟨row_lit (t := 3) 1 (g 2 _ rfl) (by omega), row_lit (t := 23) 3 (g 3 _ rfl) (by omega), row_nil _ _, ⟨[sl (w.heap.size + 5) 2, sl (w.heap.size + 7) 1, .slice none 0 0, sl (w.heap.size + 9) 1, .slice none 0 0], rfl, row_lit (t := 49) 5 (g 10 _ rfl) (by omega), fun i x a hx ha => ?_⟩⟩
 rcases i with _ | _ | _ | _ | _ | i
 ·cases hx; cases ha; exact i0
 ·cases hx; cases ha; exact i1
 ·cases hx; cases ha; exact i2
 ·cases hx; cases ha; exact i3
 ·cases hx; cases ha; exact i4
 ·simp [bentG9] at hx
set_option maxRecDepth 100000 in
set_option maxHeartbeats 4000000 in
theorem bent_9 (w : World) : Calls Tryz.prog 4 #[.int .i64 9] w fun e w' => ∃ pv vv av bv, e = .returned (.agg #[.string bentG9.name, pv, .int .u8 bentG9.result, vv, av, bv]) ∧ GrAt w' pv vv av bv bentG9 ∧ Below w.heap.size w w' := by
 go_enter Tryz.func4, Tryz.ntmps4
 go_wp2_with (go_at_call 7; refine Calls.mono (small_y w) ?_; rintro e w1 ⟨rfl, rfl⟩)
 change bodyPost _ _ _ _ _ (allocs w (objsB9 w))
 exact bodyPost_ret (results_cell_row rfl _ _ w.heap.size 28 #[.string ⟨#[103]⟩, sl (w.heap.size + 2) 1, bytV 4, sl (w.heap.size + 3) 3, .slice none 0 0, sl (w.heap.size + 10) 5] _ _ rfl (allocs_get (objsB9 w) w 0 _ rfl) Tryz.underlying28 rfl (by rfl)) rfl ⟨_, _, _, _, rfl, bent_at9 w, allocs_below _ _⟩
def objsB10 (w : World) : List Obj := [
 .cells #[.string ⟨#[103]⟩, sl (w.heap.size + 2) 1, bytV 4, sl (w.heap.size + 3) 3, sl (w.heap.size + 14) 1, sl (w.heap.size + 10) 5] 28,
 .cells #[.string ⟨#[103]⟩, sl (w.heap.size + 2) 1, bytV 4, sl (w.heap.size + 3) 3, .slice none 0 0, sl (w.heap.size + 10) 5] 28,
 .cells #[intV 0] 3,
 .cells #[bytV 4, bytV 1, bytV 4] 23,
 .cells #[intV 0, intV 2] 3,
 .cells #[bytV 2, bytV 0, intV 2, .slice none 0 0, u64V 5, intV 0, bytV 4, bytV 13, intV 1, sl (w.heap.size + 4) 2, u64V 0, intV 0] 41,
 .cells #[intV 0] 3,
 .cells #[bytV 10, bytV 0, intV 0, sl (w.heap.size + 6) 1, u64V 0, intV 0] 41,
 .cells #[intV 0, intV 2] 3,
 .cells #[bytV 1, bytV 0, intV 2, sl (w.heap.size + 12) 3, u64V 0, intV 0] 41,
 .cells #[sl (w.heap.size + 5) 2, bytV 2, intV 1, intV 2, intV 1, bytV 0, sl (w.heap.size + 7) 1, bytV 1, intV 0, intV 3, intV 0, bytV 0, .slice none 0 0, bytV 1, intV 0, intV 3, intV 0, bytV 0, sl (w.heap.size + 9) 1, bytV 3, intV 2, intV 0, intV 0, bytV 0, .slice none 0 0, bytV 1, intV 0, intV 3, intV 0, bytV 0] 49,
 .cells #[.string ⟨#[103]⟩, sl (w.heap.size + 2) 1, bytV 4, sl (w.heap.size + 3) 3, .slice none 0 0, sl (w.heap.size + 10) 5] 28,
 .cells #[intV 0, intV 2, intV 2] 3,
 .cells #[.string ⟨#[103]⟩, sl (w.heap.size + 2) 1, bytV 4, sl (w.heap.size + 3) 3, sl (w.heap.size + 14) 1, sl (w.heap.size + 10) 5] 28,
 .cells #[bytV 4, intV 257] 51]
theorem bent_at10 (w : World) : GrAt (allocs w (objsB10 w)) (sl (w.heap.size + 2) 1) (sl (w.heap.size + 3) 3) (sl (w.heap.size + 14) 1) (sl (w.heap.size + 10) 5) bentG10 := by
 have g := fun k o (h : (objsB10 w)[k]? = some o) => allocs_get (objsB10 w) w k o h
 have i0 : InsAt (allocs w (objsB10 w)) (sl (w.heap.size + 5) 2) [⟨2, 0, 2, [], 5, 0⟩, ⟨4, 13, 1, [0, 2], 0, 0⟩] := by
  refine ⟨by decide, [.slice none 0 0, sl (w.heap.size + 4) 2], rfl, row_lit (t := 41) 2 (g 5 _ rfl) (by omega), fun i x a hx ha => ?_⟩
  rcases i with _ | _ | i
  ·cases hx; cases ha; exact row_nil _ _
  ·cases hx; cases ha; exact row_lit (t := 3) 2 (g 4 _ rfl) (by omega)
  ·simp at hx
 have i1 : InsAt (allocs w (objsB10 w)) (sl (w.heap.size + 7) 1) [⟨10, 0, 0, [0], 0, 0⟩] := by
  refine ⟨by decide, [sl (w.heap.size + 6) 1], rfl, row_lit (t := 41) 1 (g 7 _ rfl) (by omega), fun i x a hx ha => ?_⟩
  rcases i with _ | i
  ·cases hx; cases ha; exact row_lit (t := 3) 1 (g 6 _ rfl) (by omega)
  ·simp at hx
 have i2 : InsAt (allocs w (objsB10 w)) (.slice none 0 0) [] := by
  exact ⟨by simp, [], rfl, row_nil _ _, fun i x a hx ha => by simp at hx⟩
 have i3 : InsAt (allocs w (objsB10 w)) (sl (w.heap.size + 9) 1) [⟨1, 0, 2, [0, 2, 2], 0, 0⟩] := by
  refine ⟨by decide, [sl (w.heap.size + 12) 3], rfl, row_lit (t := 41) 1 (g 9 _ rfl) (by omega), fun i x a hx ha => ?_⟩
  rcases i with _ | i
  ·cases hx; cases ha; exact row_lit (t := 3) 3 (g 12 _ rfl) (by omega)
  ·simp at hx
 have i4 : InsAt (allocs w (objsB10 w)) (.slice none 0 0) [] := by
  exact ⟨by simp, [], rfl, row_nil _ _, fun i x a hx ha => by simp at hx⟩
 refine ⟨row_lit (t := 3) 1 (g 2 _ rfl) (by omega), row_lit (t := 23) 3 (g 3 _ rfl) (by omega), row_lit (t := 51) 1 (g 14 _ rfl) (by omega), ⟨[sl (w.heap.size + 5) 2, sl (w.heap.size + 7) 1, .slice none 0 0, sl (w.heap.size + 9) 1, .slice none 0 0], rfl, row_lit (t := 49) 5 (g 10 _ rfl) (by omega), fun i x a hx ha => ?_⟩⟩
 rcases i with _ | _ | _ | _ | _ | i
 ·cases hx; cases ha; exact i0
 ·cases hx; cases ha; exact i1
 ·cases hx; cases ha; exact i2
 ·cases hx; cases ha; exact i3
 ·cases hx; cases ha; exact i4
 ·simp [bentG10] at hx
set_option maxRecDepth 100000 in
set_option maxHeartbeats 4000000 in
theorem bent_10 (w : World) : Calls Tryz.prog 4 #[.int .i64 10] w fun e w' => ∃ pv vv av bv, e = .returned (.agg #[.string bentG10.name, pv, .int .u8 bentG10.result, vv, av, bv]) ∧ GrAt w' pv vv av bv bentG10 ∧ Below w.heap.size w w' := by
 go_enter Tryz.func4, Tryz.ntmps4
 go_wp2_with (go_at_call 7; refine Calls.mono (small_y w) ?_; rintro e w1 ⟨rfl, rfl⟩)
 change bodyPost _ _ _ _ _ (allocs w (objsB10 w))
 exact bodyPost_ret (results_cell_row rfl _ _ w.heap.size 28 #[.string ⟨#[103]⟩, sl (w.heap.size + 2) 1, bytV 4, sl (w.heap.size + 3) 3, sl (w.heap.size + 14) 1, sl (w.heap.size + 10) 5] _ _ rfl (allocs_get (objsB10 w) w 0 _ rfl) Tryz.underlying28 rfl (by rfl)) rfl ⟨_, _, _, _, rfl, bent_at10 w, allocs_below _ _⟩
def objsB11 (w : World) : List Obj := [
 .cells #[.string ⟨#[103]⟩, sl (w.heap.size + 2) 1, bytV 4, sl (w.heap.size + 3) 3, .slice none 0 0, sl (w.heap.size + 10) 5] 28,
 .cells #[.string ⟨#[103]⟩, sl (w.heap.size + 2) 1, bytV 4, sl (w.heap.size + 3) 3, .slice none 0 0, sl (w.heap.size + 10) 5] 28,
 .cells #[intV 0] 3,
 .cells #[bytV 4, bytV 1, bytV 4] 23,
 .cells #[intV 0, intV 2] 3,
 .cells #[bytV 2, bytV 0, intV 2, .slice none 0 0, u64V 5, intV 0, bytV 4, bytV 13, intV 1, sl (w.heap.size + 4) 2, u64V 0, intV 0] 41,
 .cells #[intV 0] 3,
 .cells #[bytV 10, bytV 0, intV 0, sl (w.heap.size + 6) 1, u64V 0, intV 0] 41,
 .cells #[intV 0, intV 2] 3,
 .cells #[bytV 1, bytV 0, intV 2, sl (w.heap.size + 14) 2, u64V 0, intV 0] 41,
 .cells #[sl (w.heap.size + 5) 2, bytV 2, intV 1, intV 2, intV 1, bytV 0, sl (w.heap.size + 7) 1, bytV 1, intV 0, intV 3, intV 0, bytV 0, .slice none 0 0, bytV 1, intV 0, intV 3, intV 0, bytV 0, sl (w.heap.size + 9) 1, bytV 3, intV 2, intV 0, intV 0, bytV 0, .slice none 0 0, bytV 4, intV 0, intV 0, intV 0, bytV 4] 49,
 .cells #[.string ⟨#[103]⟩, sl (w.heap.size + 2) 1, bytV 4, sl (w.heap.size + 3) 3, .slice none 0 0, sl (w.heap.size + 10) 5] 28,
 .cells #[intV 0, intV 2, intV 2] 3,
 .cells #[.string ⟨#[103]⟩, sl (w.heap.size + 2) 1, bytV 4, sl (w.heap.size + 3) 3, .slice none 0 0, sl (w.heap.size + 10) 5] 28,
 .cells #[intV 0, intV 2] 3]
theorem bent_at11 (w : World) : GrAt (allocs w (objsB11 w)) (sl (w.heap.size + 2) 1) (sl (w.heap.size + 3) 3) (.slice none 0 0) (sl (w.heap.size + 10) 5) bentG11 := by
 have g := fun k o (h : (objsB11 w)[k]? = some o) => allocs_get (objsB11 w) w k o h
 have i0 : InsAt (allocs w (objsB11 w)) (sl (w.heap.size + 5) 2) [⟨2, 0, 2, [], 5, 0⟩, ⟨4, 13, 1, [0, 2], 0, 0⟩] := by
  refine ⟨by decide, [.slice none 0 0, sl (w.heap.size + 4) 2], rfl, row_lit (t := 41) 2 (g 5 _ rfl) (by omega), fun i x a hx ha => ?_⟩
  rcases i with _ | _ | i
  ·cases hx; cases ha; exact row_nil _ _
  ·cases hx; cases ha; exact row_lit (t := 3) 2 (g 4 _ rfl) (by omega)
  ·simp at hx
 have i1 : InsAt (allocs w (objsB11 w)) (sl (w.heap.size + 7) 1) [⟨10, 0, 0, [0], 0, 0⟩] := by
  refine ⟨by decide, [sl (w.heap.size + 6) 1], rfl, row_lit (t := 41) 1 (g 7 _ rfl) (by omega), fun i x a hx ha => ?_⟩
  rcases i with _ | i
  ·cases hx; cases ha; exact row_lit (t := 3) 1 (g 6 _ rfl) (by omega)
  ·simp at hx
 have i2 : InsAt (allocs w (objsB11 w)) (.slice none 0 0) [] := by
  exact ⟨by simp, [], rfl, row_nil _ _, fun i x a hx ha => by simp at hx⟩
 have i3 : InsAt (allocs w (objsB11 w)) (sl (w.heap.size + 9) 1) [⟨1, 0, 2, [0, 2], 0, 0⟩] := by
  refine ⟨by decide, [sl (w.heap.size + 14) 2], rfl, row_lit (t := 41) 1 (g 9 _ rfl) (by omega), fun i x a hx ha => ?_⟩
  rcases i with _ | i
  ·cases hx; cases ha; exact row_lit (t := 3) 2 (g 14 _ rfl) (by omega)
  ·simp at hx
 have i4 : InsAt (allocs w (objsB11 w)) (.slice none 0 0) [] := by
  exact ⟨by simp, [], rfl, row_nil _ _, fun i x a hx ha => by simp at hx⟩
 refine ⟨row_lit (t := 3) 1 (g 2 _ rfl) (by omega), row_lit (t := 23) 3 (g 3 _ rfl) (by omega), row_nil _ _, ⟨[sl (w.heap.size + 5) 2, sl (w.heap.size + 7) 1, .slice none 0 0, sl (w.heap.size + 9) 1, .slice none 0 0], rfl, row_lit (t := 49) 5 (g 10 _ rfl) (by omega), fun i x a hx ha => ?_⟩⟩
 rcases i with _ | _ | _ | _ | _ | i
 ·cases hx; cases ha; exact i0
 ·cases hx; cases ha; exact i1
 ·cases hx; cases ha; exact i2
 ·cases hx; cases ha; exact i3
 ·cases hx; cases ha; exact i4
 ·simp [bentG11] at hx
set_option maxRecDepth 100000 in
set_option maxHeartbeats 4000000 in
theorem bent_11 (w : World) : Calls Tryz.prog 4 #[.int .i64 11] w fun e w' => ∃ pv vv av bv, e = .returned (.agg #[.string bentG11.name, pv, .int .u8 bentG11.result, vv, av, bv]) ∧ GrAt w' pv vv av bv bentG11 ∧ Below w.heap.size w w' := by
 go_enter Tryz.func4, Tryz.ntmps4
 go_wp2_with (go_at_call 7; refine Calls.mono (small_y w) ?_; rintro e w1 ⟨rfl, rfl⟩)
 change bodyPost _ _ _ _ _ (allocs w (objsB11 w))
 exact bodyPost_ret (results_cell_row rfl _ _ w.heap.size 28 #[.string ⟨#[103]⟩, sl (w.heap.size + 2) 1, bytV 4, sl (w.heap.size + 3) 3, .slice none 0 0, sl (w.heap.size + 10) 5] _ _ rfl (allocs_get (objsB11 w) w 0 _ rfl) Tryz.underlying28 rfl (by rfl)) rfl ⟨_, _, _, _, rfl, bent_at11 w, allocs_below _ _⟩
def objsB12 (w : World) : List Obj := [
 .cells #[.string ⟨#[103]⟩, sl (w.heap.size + 2) 1, bytV 4, sl (w.heap.size + 3) 3, .slice none 0 0, sl (w.heap.size + 10) 5] 28,
 .cells #[.string ⟨#[103]⟩, sl (w.heap.size + 2) 1, bytV 4, sl (w.heap.size + 3) 3, .slice none 0 0, sl (w.heap.size + 10) 5] 28,
 .cells #[intV 0] 3,
 .cells #[bytV 4, bytV 1, bytV 4] 23,
 .cells #[intV 0, intV 2] 3,
 .cells #[bytV 2, bytV 0, intV 2, .slice none 0 0, u64V 5, intV 0, bytV 4, bytV 13, intV 1, sl (w.heap.size + 4) 2, u64V 0, intV 0] 41,
 .cells #[intV 0] 3,
 .cells #[bytV 10, bytV 0, intV 0, sl (w.heap.size + 6) 1, u64V 0, intV 0] 41,
 .cells #[intV 0, intV 2] 3,
 .cells #[bytV 1, bytV 0, intV 2, sl (w.heap.size + 12) 3, u64V 0, intV 0] 41,
 .cells #[sl (w.heap.size + 5) 2, bytV 2, intV 0, intV 2, intV 1, bytV 0, sl (w.heap.size + 7) 1, bytV 1, intV 0, intV 3, intV 0, bytV 0, .slice none 0 0, bytV 1, intV 0, intV 3, intV 0, bytV 0, sl (w.heap.size + 9) 1, bytV 3, intV 2, intV 0, intV 0, bytV 0, .slice none 0 0, bytV 1, intV 0, intV 3, intV 0, bytV 0] 49,
 .cells #[.string ⟨#[103]⟩, sl (w.heap.size + 2) 1, bytV 4, sl (w.heap.size + 3) 3, .slice none 0 0, sl (w.heap.size + 10) 5] 28,
 .cells #[intV 0, intV 2, intV 2] 3,
 .cells #[.string ⟨#[103]⟩, sl (w.heap.size + 2) 1, bytV 4, sl (w.heap.size + 3) 3, .slice none 0 0, sl (w.heap.size + 10) 5] 28]
theorem bent_at12 (w : World) : GrAt (allocs w (objsB12 w)) (sl (w.heap.size + 2) 1) (sl (w.heap.size + 3) 3) (.slice none 0 0) (sl (w.heap.size + 10) 5) bentG12 := by
 have g := fun k o (h : (objsB12 w)[k]? = some o) => allocs_get (objsB12 w) w k o h
 have i0 : InsAt (allocs w (objsB12 w)) (sl (w.heap.size + 5) 2) [⟨2, 0, 2, [], 5, 0⟩, ⟨4, 13, 1, [0, 2], 0, 0⟩] := by
  refine ⟨by decide, [.slice none 0 0, sl (w.heap.size + 4) 2], rfl, row_lit (t := 41) 2 (g 5 _ rfl) (by omega), fun i x a hx ha => ?_⟩
  rcases i with _ | _ | i
  ·cases hx; cases ha; exact row_nil _ _
  ·cases hx; cases ha; exact row_lit (t := 3) 2 (g 4 _ rfl) (by omega)
  ·simp at hx
 have i1 : InsAt (allocs w (objsB12 w)) (sl (w.heap.size + 7) 1) [⟨10, 0, 0, [0], 0, 0⟩] := by
  refine ⟨by decide, [sl (w.heap.size + 6) 1], rfl, row_lit (t := 41) 1 (g 7 _ rfl) (by omega), fun i x a hx ha => ?_⟩
  rcases i with _ | i
  ·cases hx; cases ha; exact row_lit (t := 3) 1 (g 6 _ rfl) (by omega)
  ·simp at hx
 have i2 : InsAt (allocs w (objsB12 w)) (.slice none 0 0) [] := by
  exact ⟨by simp, [], rfl, row_nil _ _, fun i x a hx ha => by simp at hx⟩
 have i3 : InsAt (allocs w (objsB12 w)) (sl (w.heap.size + 9) 1) [⟨1, 0, 2, [0, 2, 2], 0, 0⟩] := by
  refine ⟨by decide, [sl (w.heap.size + 12) 3], rfl, row_lit (t := 41) 1 (g 9 _ rfl) (by omega), fun i x a hx ha => ?_⟩
  rcases i with _ | i
  ·cases hx; cases ha; exact row_lit (t := 3) 3 (g 12 _ rfl) (by omega)
  ·simp at hx
 have i4 : InsAt (allocs w (objsB12 w)) (.slice none 0 0) [] := by
  exact ⟨by simp, [], rfl, row_nil _ _, fun i x a hx ha => by simp at hx⟩
 refine ⟨row_lit (t := 3) 1 (g 2 _ rfl) (by omega), row_lit (t := 23) 3 (g 3 _ rfl) (by omega), row_nil _ _, ⟨[sl (w.heap.size + 5) 2, sl (w.heap.size + 7) 1, .slice none 0 0, sl (w.heap.size + 9) 1, .slice none 0 0], rfl, row_lit (t := 49) 5 (g 10 _ rfl) (by omega), fun i x a hx ha => ?_⟩⟩
 rcases i with _ | _ | _ | _ | _ | i
 ·cases hx; cases ha; exact i0
 ·cases hx; cases ha; exact i1
 ·cases hx; cases ha; exact i2
 ·cases hx; cases ha; exact i3
 ·cases hx; cases ha; exact i4
 ·simp [bentG12] at hx
set_option maxRecDepth 100000 in
set_option maxHeartbeats 4000000 in
theorem bent_12 (w : World) : Calls Tryz.prog 4 #[.int .i64 12] w fun e w' => ∃ pv vv av bv, e = .returned (.agg #[.string bentG12.name, pv, .int .u8 bentG12.result, vv, av, bv]) ∧ GrAt w' pv vv av bv bentG12 ∧ Below w.heap.size w w' := by
 go_enter Tryz.func4, Tryz.ntmps4
 go_wp2_with (go_at_call 7; refine Calls.mono (small_y w) ?_; rintro e w1 ⟨rfl, rfl⟩)
 change bodyPost _ _ _ _ _ (allocs w (objsB12 w))
 exact bodyPost_ret (results_cell_row rfl _ _ w.heap.size 28 #[.string ⟨#[103]⟩, sl (w.heap.size + 2) 1, bytV 4, sl (w.heap.size + 3) 3, .slice none 0 0, sl (w.heap.size + 10) 5] _ _ rfl (allocs_get (objsB12 w) w 0 _ rfl) Tryz.underlying28 rfl (by rfl)) rfl ⟨_, _, _, _, rfl, bent_at12 w, allocs_below _ _⟩
def objsB14 (w : World) : List Obj := [
 .cells #[.string ⟨#[103]⟩, sl (w.heap.size + 2) 1, bytV 4, sl (w.heap.size + 3) 3, .slice none 0 0, sl (w.heap.size + 10) 5] 28,
 .cells #[.string ⟨#[103]⟩, sl (w.heap.size + 2) 1, bytV 4, sl (w.heap.size + 3) 3, .slice none 0 0, sl (w.heap.size + 10) 5] 28,
 .cells #[intV 0] 3,
 .cells #[bytV 4, bytV 1, bytV 4] 23,
 .cells #[intV 0, intV 2] 3,
 .cells #[bytV 2, bytV 0, intV 2, sl (w.heap.size + 14) 1, u64V 5, intV 0, bytV 4, bytV 13, intV 1, sl (w.heap.size + 4) 2, u64V 0, intV 0] 41,
 .cells #[intV 0] 3,
 .cells #[bytV 10, bytV 0, intV 0, sl (w.heap.size + 6) 1, u64V 0, intV 0] 41,
 .cells #[intV 0, intV 2] 3,
 .cells #[bytV 1, bytV 0, intV 2, sl (w.heap.size + 12) 3, u64V 0, intV 0] 41,
 .cells #[sl (w.heap.size + 5) 2, bytV 2, intV 1, intV 2, intV 1, bytV 0, sl (w.heap.size + 7) 1, bytV 1, intV 0, intV 3, intV 0, bytV 0, .slice none 0 0, bytV 1, intV 0, intV 3, intV 0, bytV 0, sl (w.heap.size + 9) 1, bytV 3, intV 2, intV 0, intV 0, bytV 0, .slice none 0 0, bytV 1, intV 0, intV 3, intV 0, bytV 0] 49,
 .cells #[.string ⟨#[103]⟩, sl (w.heap.size + 2) 1, bytV 4, sl (w.heap.size + 3) 3, .slice none 0 0, sl (w.heap.size + 10) 5] 28,
 .cells #[intV 0, intV 2, intV 2] 3,
 .cells #[.string ⟨#[103]⟩, sl (w.heap.size + 2) 1, bytV 4, sl (w.heap.size + 3) 3, .slice none 0 0, sl (w.heap.size + 10) 5] 28,
 .cells #[intV 0] 3]
theorem bent_at14 (w : World) : GrAt (allocs w (objsB14 w)) (sl (w.heap.size + 2) 1) (sl (w.heap.size + 3) 3) (.slice none 0 0) (sl (w.heap.size + 10) 5) bentG14 := by
 have g := fun k o (h : (objsB14 w)[k]? = some o) => allocs_get (objsB14 w) w k o h
 have i0 : InsAt (allocs w (objsB14 w)) (sl (w.heap.size + 5) 2) [⟨2, 0, 2, [0], 5, 0⟩, ⟨4, 13, 1, [0, 2], 0, 0⟩] := by
  refine ⟨by decide, [sl (w.heap.size + 14) 1, sl (w.heap.size + 4) 2], rfl, row_lit (t := 41) 2 (g 5 _ rfl) (by omega), fun i x a hx ha => ?_⟩
  rcases i with _ | _ | i
  ·cases hx; cases ha; exact row_lit (t := 3) 1 (g 14 _ rfl) (by omega)
  ·cases hx; cases ha; exact row_lit (t := 3) 2 (g 4 _ rfl) (by omega)
  ·simp at hx
 have i1 : InsAt (allocs w (objsB14 w)) (sl (w.heap.size + 7) 1) [⟨10, 0, 0, [0], 0, 0⟩] := by
  refine ⟨by decide, [sl (w.heap.size + 6) 1], rfl, row_lit (t := 41) 1 (g 7 _ rfl) (by omega), fun i x a hx ha => ?_⟩
  rcases i with _ | i
  ·cases hx; cases ha; exact row_lit (t := 3) 1 (g 6 _ rfl) (by omega)
  ·simp at hx
 have i2 : InsAt (allocs w (objsB14 w)) (.slice none 0 0) [] := by
  exact ⟨by simp, [], rfl, row_nil _ _, fun i x a hx ha => by simp at hx⟩
 have i3 : InsAt (allocs w (objsB14 w)) (sl (w.heap.size + 9) 1) [⟨1, 0, 2, [0, 2, 2], 0, 0⟩] := by
  refine ⟨by decide, [sl (w.heap.size + 12) 3], rfl, row_lit (t := 41) 1 (g 9 _ rfl) (by omega), fun i x a hx ha => ?_⟩
  rcases i with _ | i
  ·cases hx; cases ha; exact row_lit (t := 3) 3 (g 12 _ rfl) (by omega)
  ·simp at hx
 have i4 : InsAt (allocs w (objsB14 w)) (.slice none 0 0) [] := by
  exact ⟨by simp, [], rfl, row_nil _ _, fun i x a hx ha => by simp at hx⟩
 refine ⟨row_lit (t := 3) 1 (g 2 _ rfl) (by omega), row_lit (t := 23) 3 (g 3 _ rfl) (by omega), row_nil _ _, ⟨[sl (w.heap.size + 5) 2, sl (w.heap.size + 7) 1, .slice none 0 0, sl (w.heap.size + 9) 1, .slice none 0 0], rfl, row_lit (t := 49) 5 (g 10 _ rfl) (by omega), fun i x a hx ha => ?_⟩⟩
 rcases i with _ | _ | _ | _ | _ | i
 ·cases hx; cases ha; exact i0
 ·cases hx; cases ha; exact i1
 ·cases hx; cases ha; exact i2
 ·cases hx; cases ha; exact i3
 ·cases hx; cases ha; exact i4
 ·simp [bentG14] at hx
set_option maxRecDepth 100000 in
set_option maxHeartbeats 4000000 in
theorem bent_14 (w : World) : Calls Tryz.prog 4 #[.int .i64 14] w fun e w' => ∃ pv vv av bv, e = .returned (.agg #[.string bentG14.name, pv, .int .u8 bentG14.result, vv, av, bv]) ∧ GrAt w' pv vv av bv bentG14 ∧ Below w.heap.size w w' := by
 go_enter Tryz.func4, Tryz.ntmps4
 go_wp2_with (go_at_call 7; refine Calls.mono (small_y w) ?_; rintro e w1 ⟨rfl, rfl⟩)
 change bodyPost _ _ _ _ _ (allocs w (objsB14 w))
 exact bodyPost_ret (results_cell_row rfl _ _ w.heap.size 28 #[.string ⟨#[103]⟩, sl (w.heap.size + 2) 1, bytV 4, sl (w.heap.size + 3) 3, .slice none 0 0, sl (w.heap.size + 10) 5] _ _ rfl (allocs_get (objsB14 w) w 0 _ rfl) Tryz.underlying28 rfl (by rfl)) rfl ⟨_, _, _, _, rfl, bent_at14 w, allocs_below _ _⟩
end Go.Proofs.YtobnpllppohofaaGreatDoor
