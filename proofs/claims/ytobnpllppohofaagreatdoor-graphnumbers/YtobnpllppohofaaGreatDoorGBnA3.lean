/- The chapter's graph bent in one place: where something is stored. -/
import Derived.Test.YtobnpllppohofaaGreatDoorGBn0M
namespace Go.Proofs.YtobnpllppohofaaGreatDoor
open Go.RowKit

def objsB15 (w : World) : List Obj := [
 .cells #[.string ⟨#[103]⟩, sl (w.heap.size + 2) 1, bytV 6, sl (w.heap.size + 3) 3, .slice none 0 0, sl (w.heap.size + 10) 5] 28,
 .cells #[.string ⟨#[103]⟩, sl (w.heap.size + 2) 1, bytV 4, sl (w.heap.size + 3) 3, .slice none 0 0, sl (w.heap.size + 10) 5] 28,
 .cells #[intV 0] 3,
 .cells #[bytV 4, bytV 1, bytV 4] 23,
 .cells #[intV 0, intV 2] 3,
 .cells #[bytV 2, bytV 0, intV 2, .slice none 0 0, u64V 5, intV 0, bytV 4, bytV 13, intV 1, sl (w.heap.size + 4) 2, u64V 0, intV 0] 41,
 .cells #[intV 0] 3,
 .cells #[bytV 10, bytV 0, intV 0, sl (w.heap.size + 6) 1, u64V 0, intV 0] 41,
 .cells #[intV 0, intV 2] 3,
 .cells #[bytV 1, bytV 0, intV 2, sl (w.heap.size + 12) 3, u64V 0, intV 0] 41,
 .cells #[sl (w.heap.size + 5) 2, bytV 2, intV 1, intV 2, intV 1, bytV 0, sl (w.heap.size + 7) 1, bytV 1, intV 0, intV 3, intV 0, bytV 0, .slice none 0 0, bytV 1, intV 0, intV 3, intV 0, bytV 0, sl (w.heap.size + 9) 1, bytV 3, intV 2, intV 0, intV 0, bytV 0, .slice none 0 0, bytV 1, intV 0, intV 3, intV 0, bytV 0] 49,
 .cells #[.string ⟨#[103]⟩, sl (w.heap.size + 2) 1, bytV 4, sl (w.heap.size + 3) 3, .slice none 0 0, sl (w.heap.size + 10) 5] 28,
 .cells #[intV 0, intV 2, intV 2] 3,
 .cells #[.string ⟨#[103]⟩, sl (w.heap.size + 2) 1, bytV 6, sl (w.heap.size + 3) 3, .slice none 0 0, sl (w.heap.size + 10) 5] 28]
theorem bent_at15 (w : World) : GrAt (allocs w (objsB15 w)) (sl (w.heap.size + 2) 1) (sl (w.heap.size + 3) 3) (.slice none 0 0) (sl (w.heap.size + 10) 5) bentG15 := by
 have g := fun k o (h : (objsB15 w)[k]? = some o) => allocs_get (objsB15 w) w k o h
 have i0 : InsAt (allocs w (objsB15 w)) (sl (w.heap.size + 5) 2) [⟨2, 0, 2, [], 5, 0⟩, ⟨4, 13, 1, [0, 2], 0, 0⟩] := by
  refine ⟨by decide, [.slice none 0 0, sl (w.heap.size + 4) 2], rfl, row_lit (t := 41) 2 (g 5 _ rfl) (by omega), fun i x a hx ha => ?_⟩
  rcases i with _ | _ | i
  ·cases hx; cases ha; exact row_nil _ _
  ·cases hx; cases ha; exact row_lit (t := 3) 2 (g 4 _ rfl) (by omega)
  ·simp at hx
 have i1 : InsAt (allocs w (objsB15 w)) (sl (w.heap.size + 7) 1) [⟨10, 0, 0, [0], 0, 0⟩] := by
  refine ⟨by decide, [sl (w.heap.size + 6) 1], rfl, row_lit (t := 41) 1 (g 7 _ rfl) (by omega), fun i x a hx ha => ?_⟩
  rcases i with _ | i
  ·cases hx; cases ha; exact row_lit (t := 3) 1 (g 6 _ rfl) (by omega)
  ·simp at hx
 have i2 : InsAt (allocs w (objsB15 w)) (.slice none 0 0) [] := by
  exact ⟨by simp, [], rfl, row_nil _ _, fun i x a hx ha => by simp at hx⟩
 have i3 : InsAt (allocs w (objsB15 w)) (sl (w.heap.size + 9) 1) [⟨1, 0, 2, [0, 2, 2], 0, 0⟩] := by
  refine ⟨by decide, [sl (w.heap.size + 12) 3], rfl, row_lit (t := 41) 1 (g 9 _ rfl) (by omega), fun i x a hx ha => ?_⟩
  rcases i with _ | i
  ·cases hx; cases ha; exact row_lit (t := 3) 3 (g 12 _ rfl) (by omega)
  ·simp at hx
 have i4 : InsAt (allocs w (objsB15 w)) (.slice none 0 0) [] := by
  exact ⟨by simp, [], rfl, row_nil _ _, fun i x a hx ha => by simp at hx⟩
 refine ⟨row_lit (t := 3) 1 (g 2 _ rfl) (by omega), row_lit (t := 23) 3 (g 3 _ rfl) (by omega), row_nil _ _, ⟨[sl (w.heap.size + 5) 2, sl (w.heap.size + 7) 1, .slice none 0 0, sl (w.heap.size + 9) 1, .slice none 0 0], rfl, row_lit (t := 49) 5 (g 10 _ rfl) (by omega), fun i x a hx ha => ?_⟩⟩
 rcases i with _ | _ | _ | _ | _ | i
 ·cases hx; cases ha; exact i0
 ·cases hx; cases ha; exact i1
 ·cases hx; cases ha; exact i2
 ·cases hx; cases ha; exact i3
 ·cases hx; cases ha; exact i4
 ·simp [bentG15] at hx
set_option maxRecDepth 100000 in
set_option maxHeartbeats 4000000 in
theorem bent_15 (w : World) : Calls Tryz.prog 4 #[.int .i64 15] w fun e w' => ∃ pv vv av bv, e = .returned (.agg #[.string bentG15.name, pv, .int .u8 bentG15.result, vv, av, bv]) ∧ GrAt w' pv vv av bv bentG15 ∧ Below w.heap.size w w' := by
 go_enter Tryz.func4, Tryz.ntmps4
 go_wp2_with (go_at_call 7; refine Calls.mono (small_y w) ?_; rintro e w1 ⟨rfl, rfl⟩)
 change bodyPost _ _ _ _ _ (allocs w (objsB15 w))
 exact bodyPost_ret (results_cell_row rfl _ _ w.heap.size 28 #[.string ⟨#[103]⟩, sl (w.heap.size + 2) 1, bytV 6, sl (w.heap.size + 3) 3, .slice none 0 0, sl (w.heap.size + 10) 5] _ _ rfl (allocs_get (objsB15 w) w 0 _ rfl) Tryz.underlying28 rfl (by rfl)) rfl ⟨_, _, _, _, rfl, bent_at15 w, allocs_below _ _⟩
def objsB16 (w : World) : List Obj := [
 .cells #[.string ⟨#[103]⟩, sl (w.heap.size + 2) 1, bytV 4, sl (w.heap.size + 3) 3, .slice none 0 0, sl (w.heap.size + 10) 5] 28,
 .cells #[.string ⟨#[103]⟩, sl (w.heap.size + 2) 1, bytV 4, sl (w.heap.size + 3) 3, .slice none 0 0, sl (w.heap.size + 10) 5] 28,
 .cells #[intV 0] 3,
 .cells #[bytV 4, bytV 1, bytV 4] 23,
 .cells #[intV 0, intV 2] 3,
 .cells #[bytV 2, bytV 0, intV 2, .slice none 0 0, u64V 5, intV 0, bytV 4, bytV 13, intV 1, sl (w.heap.size + 4) 2, u64V 0, intV 0] 41,
 .cells #[intV 0] 3,
 .cells #[bytV 9, bytV 0, intV 2, sl (w.heap.size + 14) 1, u64V 0, intV 0] 41,
 .cells #[intV 0, intV 2] 3,
 .cells #[bytV 1, bytV 0, intV 2, sl (w.heap.size + 12) 3, u64V 0, intV 0] 41,
 .cells #[sl (w.heap.size + 5) 2, bytV 2, intV 1, intV 2, intV 1, bytV 0, sl (w.heap.size + 7) 1, bytV 1, intV 0, intV 3, intV 0, bytV 0, .slice none 0 0, bytV 1, intV 0, intV 3, intV 0, bytV 0, sl (w.heap.size + 9) 1, bytV 3, intV 2, intV 0, intV 0, bytV 0, .slice none 0 0, bytV 1, intV 0, intV 3, intV 0, bytV 0] 49,
 .cells #[.string ⟨#[103]⟩, sl (w.heap.size + 2) 1, bytV 4, sl (w.heap.size + 3) 3, .slice none 0 0, sl (w.heap.size + 10) 5] 28,
 .cells #[intV 0, intV 2, intV 2] 3,
 .cells #[.string ⟨#[103]⟩, sl (w.heap.size + 2) 1, bytV 4, sl (w.heap.size + 3) 3, .slice none 0 0, sl (w.heap.size + 10) 5] 28,
 .cells #[intV 1] 3]
theorem bent_at16 (w : World) : GrAt (allocs w (objsB16 w)) (sl (w.heap.size + 2) 1) (sl (w.heap.size + 3) 3) (.slice none 0 0) (sl (w.heap.size + 10) 5) bentG16 := by
 have g := fun k o (h : (objsB16 w)[k]? = some o) => allocs_get (objsB16 w) w k o h
 have i0 : InsAt (allocs w (objsB16 w)) (sl (w.heap.size + 5) 2) [⟨2, 0, 2, [], 5, 0⟩, ⟨4, 13, 1, [0, 2], 0, 0⟩] := by
  refine ⟨by decide, [.slice none 0 0, sl (w.heap.size + 4) 2], rfl, row_lit (t := 41) 2 (g 5 _ rfl) (by omega), fun i x a hx ha => ?_⟩
  rcases i with _ | _ | i
  ·cases hx; cases ha; exact row_nil _ _
  ·cases hx; cases ha; exact row_lit (t := 3) 2 (g 4 _ rfl) (by omega)
  ·simp at hx
 have i1 : InsAt (allocs w (objsB16 w)) (sl (w.heap.size + 7) 1) [⟨9, 0, 2, [1], 0, 0⟩] := by
  refine ⟨by decide, [sl (w.heap.size + 14) 1], rfl, row_lit (t := 41) 1 (g 7 _ rfl) (by omega), fun i x a hx ha => ?_⟩
  rcases i with _ | i
  ·cases hx; cases ha; exact row_lit (t := 3) 1 (g 14 _ rfl) (by omega)
  ·simp at hx
 have i2 : InsAt (allocs w (objsB16 w)) (.slice none 0 0) [] := by
  exact ⟨by simp, [], rfl, row_nil _ _, fun i x a hx ha => by simp at hx⟩
 have i3 : InsAt (allocs w (objsB16 w)) (sl (w.heap.size + 9) 1) [⟨1, 0, 2, [0, 2, 2], 0, 0⟩] := by
  refine ⟨by decide, [sl (w.heap.size + 12) 3], rfl, row_lit (t := 41) 1 (g 9 _ rfl) (by omega), fun i x a hx ha => ?_⟩
  rcases i with _ | i
  ·cases hx; cases ha; exact row_lit (t := 3) 3 (g 12 _ rfl) (by omega)
  ·simp at hx
 have i4 : InsAt (allocs w (objsB16 w)) (.slice none 0 0) [] := by
  exact ⟨by simp, [], rfl, row_nil _ _, fun i x a hx ha => by simp at hx⟩
 refine ⟨row_lit (t := 3) 1 (g 2 _ rfl) (by omega), row_lit (t := 23) 3 (g 3 _ rfl) (by omega), row_nil _ _, ⟨[sl (w.heap.size + 5) 2, sl (w.heap.size + 7) 1, .slice none 0 0, sl (w.heap.size + 9) 1, .slice none 0 0], rfl, row_lit (t := 49) 5 (g 10 _ rfl) (by omega), fun i x a hx ha => ?_⟩⟩
 rcases i with _ | _ | _ | _ | _ | i
 ·cases hx; cases ha; exact i0
 ·cases hx; cases ha; exact i1
 ·cases hx; cases ha; exact i2
 ·cases hx; cases ha; exact i3
 ·cases hx; cases ha; exact i4
 ·simp [bentG16] at hx
set_option maxRecDepth 100000 in
set_option maxHeartbeats 4000000 in
theorem bent_16 (w : World) : Calls Tryz.prog 4 #[.int .i64 16] w fun e w' => ∃ pv vv av bv, e = .returned (.agg #[.string bentG16.name, pv, .int .u8 bentG16.result, vv, av, bv]) ∧ GrAt w' pv vv av bv bentG16 ∧ Below w.heap.size w w' := by
 go_enter Tryz.func4, Tryz.ntmps4
 go_wp2_with (go_at_call 7; refine Calls.mono (small_y w) ?_; rintro e w1 ⟨rfl, rfl⟩)
 change bodyPost _ _ _ _ _ (allocs w (objsB16 w))
 exact bodyPost_ret (results_cell_row rfl _ _ w.heap.size 28 #[.string ⟨#[103]⟩, sl (w.heap.size + 2) 1, bytV 4, sl (w.heap.size + 3) 3, .slice none 0 0, sl (w.heap.size + 10) 5] _ _ rfl (allocs_get (objsB16 w) w 0 _ rfl) Tryz.underlying28 rfl (by rfl)) rfl ⟨_, _, _, _, rfl, bent_at16 w, allocs_below _ _⟩
def objsB17 (w : World) : List Obj := [
 .cells #[.string ⟨#[103]⟩, sl (w.heap.size + 2) 1, bytV 4, sl (w.heap.size + 3) 3, .slice none 0 0, sl (w.heap.size + 10) 5] 28,
 .cells #[.string ⟨#[103]⟩, sl (w.heap.size + 2) 1, bytV 4, sl (w.heap.size + 3) 3, .slice none 0 0, sl (w.heap.size + 10) 5] 28,
 .cells #[intV 0] 3,
 .cells #[bytV 4, bytV 1, bytV 4] 23,
 .cells #[intV 0, intV 2] 3,
 .cells #[bytV 2, bytV 0, intV 2, .slice none 0 0, u64V 5, intV 0, bytV 4, bytV 13, intV 1, sl (w.heap.size + 4) 2, u64V 0, intV 0] 41,
 .cells #[intV 0] 3,
 .cells #[bytV 9, bytV 0, intV 1, sl (w.heap.size + 14) 1, u64V 0, intV 0] 41,
 .cells #[intV 0, intV 2] 3,
 .cells #[bytV 1, bytV 0, intV 2, sl (w.heap.size + 12) 3, u64V 0, intV 0] 41,
 .cells #[sl (w.heap.size + 5) 2, bytV 2, intV 1, intV 2, intV 1, bytV 0, sl (w.heap.size + 7) 1, bytV 1, intV 0, intV 3, intV 0, bytV 0, .slice none 0 0, bytV 1, intV 0, intV 3, intV 0, bytV 0, sl (w.heap.size + 9) 1, bytV 3, intV 2, intV 0, intV 0, bytV 0, .slice none 0 0, bytV 1, intV 0, intV 3, intV 0, bytV 0] 49,
 .cells #[.string ⟨#[103]⟩, sl (w.heap.size + 2) 1, bytV 4, sl (w.heap.size + 3) 3, .slice none 0 0, sl (w.heap.size + 10) 5] 28,
 .cells #[intV 0, intV 2, intV 2] 3,
 .cells #[.string ⟨#[103]⟩, sl (w.heap.size + 2) 1, bytV 4, sl (w.heap.size + 3) 3, .slice none 0 0, sl (w.heap.size + 10) 5] 28,
 .cells #[intV 0] 3]
theorem bent_at17 (w : World) : GrAt (allocs w (objsB17 w)) (sl (w.heap.size + 2) 1) (sl (w.heap.size + 3) 3) (.slice none 0 0) (sl (w.heap.size + 10) 5) bentG17 := by
 have g := fun k o (h : (objsB17 w)[k]? = some o) => allocs_get (objsB17 w) w k o h
 have i0 : InsAt (allocs w (objsB17 w)) (sl (w.heap.size + 5) 2) [⟨2, 0, 2, [], 5, 0⟩, ⟨4, 13, 1, [0, 2], 0, 0⟩] := by
  refine ⟨by decide, [.slice none 0 0, sl (w.heap.size + 4) 2], rfl, row_lit (t := 41) 2 (g 5 _ rfl) (by omega), fun i x a hx ha => ?_⟩
  rcases i with _ | _ | i
  ·cases hx; cases ha; exact row_nil _ _
  ·cases hx; cases ha; exact row_lit (t := 3) 2 (g 4 _ rfl) (by omega)
  ·simp at hx
 have i1 : InsAt (allocs w (objsB17 w)) (sl (w.heap.size + 7) 1) [⟨9, 0, 1, [0], 0, 0⟩] := by
  refine ⟨by decide, [sl (w.heap.size + 14) 1], rfl, row_lit (t := 41) 1 (g 7 _ rfl) (by omega), fun i x a hx ha => ?_⟩
  rcases i with _ | i
  ·cases hx; cases ha; exact row_lit (t := 3) 1 (g 14 _ rfl) (by omega)
  ·simp at hx
 have i2 : InsAt (allocs w (objsB17 w)) (.slice none 0 0) [] := by
  exact ⟨by simp, [], rfl, row_nil _ _, fun i x a hx ha => by simp at hx⟩
 have i3 : InsAt (allocs w (objsB17 w)) (sl (w.heap.size + 9) 1) [⟨1, 0, 2, [0, 2, 2], 0, 0⟩] := by
  refine ⟨by decide, [sl (w.heap.size + 12) 3], rfl, row_lit (t := 41) 1 (g 9 _ rfl) (by omega), fun i x a hx ha => ?_⟩
  rcases i with _ | i
  ·cases hx; cases ha; exact row_lit (t := 3) 3 (g 12 _ rfl) (by omega)
  ·simp at hx
 have i4 : InsAt (allocs w (objsB17 w)) (.slice none 0 0) [] := by
  exact ⟨by simp, [], rfl, row_nil _ _, fun i x a hx ha => by simp at hx⟩
 refine ⟨row_lit (t := 3) 1 (g 2 _ rfl) (by omega), row_lit (t := 23) 3 (g 3 _ rfl) (by omega), row_nil _ _, ⟨[sl (w.heap.size + 5) 2, sl (w.heap.size + 7) 1, .slice none 0 0, sl (w.heap.size + 9) 1, .slice none 0 0], rfl, row_lit (t := 49) 5 (g 10 _ rfl) (by omega), fun i x a hx ha => ?_⟩⟩
 rcases i with _ | _ | _ | _ | _ | i
 ·cases hx; cases ha; exact i0
 ·cases hx; cases ha; exact i1
 ·cases hx; cases ha; exact i2
 ·cases hx; cases ha; exact i3
 ·cases hx; cases ha; exact i4
 ·simp [bentG17] at hx
set_option maxRecDepth 100000 in
set_option maxHeartbeats 4000000 in
theorem bent_17 (w : World) : Calls Tryz.prog 4 #[.int .i64 17] w fun e w' => ∃ pv vv av bv, e = .returned (.agg #[.string bentG17.name, pv, .int .u8 bentG17.result, vv, av, bv]) ∧ GrAt w' pv vv av bv bentG17 ∧ Below w.heap.size w w' := by
 go_enter Tryz.func4, Tryz.ntmps4
 go_wp2_with (go_at_call 7; refine Calls.mono (small_y w) ?_; rintro e w1 ⟨rfl, rfl⟩)
 change bodyPost _ _ _ _ _ (allocs w (objsB17 w))
 exact bodyPost_ret (results_cell_row rfl _ _ w.heap.size 28 #[.string ⟨#[103]⟩, sl (w.heap.size + 2) 1, bytV 4, sl (w.heap.size + 3) 3, .slice none 0 0, sl (w.heap.size + 10) 5] _ _ rfl (allocs_get (objsB17 w) w 0 _ rfl) Tryz.underlying28 rfl (by rfl)) rfl ⟨_, _, _, _, rfl, bent_at17 w, allocs_below _ _⟩
def objsB18 (w : World) : List Obj := [
 .cells #[.string ⟨#[103]⟩, sl (w.heap.size + 2) 1, bytV 4, sl (w.heap.size + 3) 3, .slice none 0 0, sl (w.heap.size + 10) 5] 28,
 .cells #[.string ⟨#[103]⟩, sl (w.heap.size + 2) 1, bytV 4, sl (w.heap.size + 3) 3, .slice none 0 0, sl (w.heap.size + 10) 5] 28,
 .cells #[intV 0] 3,
 .cells #[bytV 4, bytV 1, bytV 4] 23,
 .cells #[intV 0, intV 2] 3,
 .cells #[bytV 2, bytV 0, intV 2, .slice none 0 0, u64V 5, intV 0, bytV 4, bytV 13, intV 1, sl (w.heap.size + 4) 2, u64V 0, intV 0] 41,
 .cells #[intV 0] 3,
 .cells #[bytV 9, bytV 0, intV 2, sl (w.heap.size + 14) 1, u64V 0, intV 1] 41,
 .cells #[intV 0, intV 2] 3,
 .cells #[bytV 1, bytV 0, intV 2, sl (w.heap.size + 12) 3, u64V 0, intV 0] 41,
 .cells #[sl (w.heap.size + 5) 2, bytV 2, intV 1, intV 2, intV 1, bytV 0, sl (w.heap.size + 7) 1, bytV 1, intV 0, intV 3, intV 0, bytV 0, .slice none 0 0, bytV 1, intV 0, intV 3, intV 0, bytV 0, sl (w.heap.size + 9) 1, bytV 3, intV 2, intV 0, intV 0, bytV 0, .slice none 0 0, bytV 1, intV 0, intV 3, intV 0, bytV 0] 49,
 .cells #[.string ⟨#[103]⟩, sl (w.heap.size + 2) 1, bytV 4, sl (w.heap.size + 3) 3, .slice none 0 0, sl (w.heap.size + 10) 5] 28,
 .cells #[intV 0, intV 2, intV 2] 3,
 .cells #[.string ⟨#[103]⟩, sl (w.heap.size + 2) 1, bytV 4, sl (w.heap.size + 3) 3, .slice none 0 0, sl (w.heap.size + 10) 5] 28,
 .cells #[intV 0] 3]
theorem bent_at18 (w : World) : GrAt (allocs w (objsB18 w)) (sl (w.heap.size + 2) 1) (sl (w.heap.size + 3) 3) (.slice none 0 0) (sl (w.heap.size + 10) 5) bentG18 := by
 have g := fun k o (h : (objsB18 w)[k]? = some o) => allocs_get (objsB18 w) w k o h
 have i0 : InsAt (allocs w (objsB18 w)) (sl (w.heap.size + 5) 2) [⟨2, 0, 2, [], 5, 0⟩, ⟨4, 13, 1, [0, 2], 0, 0⟩] := by
  refine ⟨by decide, [.slice none 0 0, sl (w.heap.size + 4) 2], rfl, row_lit (t := 41) 2 (g 5 _ rfl) (by omega), fun i x a hx ha => ?_⟩
  rcases i with _ | _ | i
  ·cases hx; cases ha; exact row_nil _ _
  ·cases hx; cases ha; exact row_lit (t := 3) 2 (g 4 _ rfl) (by omega)
  ·simp at hx
 have i1 : InsAt (allocs w (objsB18 w)) (sl (w.heap.size + 7) 1) [⟨9, 0, 2, [0], 0, 1⟩] := by
  refine ⟨by decide, [sl (w.heap.size + 14) 1], rfl, row_lit (t := 41) 1 (g 7 _ rfl) (by omega), fun i x a hx ha => ?_⟩
  rcases i with _ | i
  ·cases hx; cases ha; exact row_lit (t := 3) 1 (g 14 _ rfl) (by omega)
  ·simp at hx
 have i2 : InsAt (allocs w (objsB18 w)) (.slice none 0 0) [] := by
  exact ⟨by simp, [], rfl, row_nil _ _, fun i x a hx ha => by simp at hx⟩
 have i3 : InsAt (allocs w (objsB18 w)) (sl (w.heap.size + 9) 1) [⟨1, 0, 2, [0, 2, 2], 0, 0⟩] := by
  refine ⟨by decide, [sl (w.heap.size + 12) 3], rfl, row_lit (t := 41) 1 (g 9 _ rfl) (by omega), fun i x a hx ha => ?_⟩
  rcases i with _ | i
  ·cases hx; cases ha; exact row_lit (t := 3) 3 (g 12 _ rfl) (by omega)
  ·simp at hx
 have i4 : InsAt (allocs w (objsB18 w)) (.slice none 0 0) [] := by
  exact ⟨by simp, [], rfl, row_nil _ _, fun i x a hx ha => by simp at hx⟩
 refine ⟨row_lit (t := 3) 1 (g 2 _ rfl) (by omega), row_lit (t := 23) 3 (g 3 _ rfl) (by omega), row_nil _ _, ⟨[sl (w.heap.size + 5) 2, sl (w.heap.size + 7) 1, .slice none 0 0, sl (w.heap.size + 9) 1, .slice none 0 0], rfl, row_lit (t := 49) 5 (g 10 _ rfl) (by omega), fun i x a hx ha => ?_⟩⟩
 rcases i with _ | _ | _ | _ | _ | i
 ·cases hx; cases ha; exact i0
 ·cases hx; cases ha; exact i1
 ·cases hx; cases ha; exact i2
 ·cases hx; cases ha; exact i3
 ·cases hx; cases ha; exact i4
 ·simp [bentG18] at hx
set_option maxRecDepth 100000 in
set_option maxHeartbeats 4000000 in
theorem bent_18 (w : World) : Calls Tryz.prog 4 #[.int .i64 18] w fun e w' => ∃ pv vv av bv, e = .returned (.agg #[.string bentG18.name, pv, .int .u8 bentG18.result, vv, av, bv]) ∧ GrAt w' pv vv av bv bentG18 ∧ Below w.heap.size w w' := by
 go_enter Tryz.func4, Tryz.ntmps4
 go_wp2_with (go_at_call 7; refine Calls.mono (small_y w) ?_; rintro e w1 ⟨rfl, rfl⟩)
 change bodyPost _ _ _ _ _ (allocs w (objsB18 w))
 exact bodyPost_ret (results_cell_row rfl _ _ w.heap.size 28 #[.string ⟨#[103]⟩, sl (w.heap.size + 2) 1, bytV 4, sl (w.heap.size + 3) 3, .slice none 0 0, sl (w.heap.size + 10) 5] _ _ rfl (allocs_get (objsB18 w) w 0 _ rfl) Tryz.underlying28 rfl (by rfl)) rfl ⟨_, _, _, _, rfl, bent_at18 w, allocs_below _ _⟩
def objsB20 (w : World) : List Obj := [
 .cells #[.string ⟨#[103]⟩, sl (w.heap.size + 2) 1, bytV 4, sl (w.heap.size + 3) 3, sl (w.heap.size + 14) 1, sl (w.heap.size + 10) 5] 28,
 .cells #[.string ⟨#[103]⟩, sl (w.heap.size + 2) 1, bytV 4, sl (w.heap.size + 3) 3, .slice none 0 0, sl (w.heap.size + 10) 5] 28,
 .cells #[intV 0] 3,
 .cells #[bytV 4, bytV 1, bytV 4] 23,
 .cells #[intV 0, intV 2] 3,
 .cells #[bytV 2, bytV 0, intV 2, .slice none 0 0, u64V 5, intV 0, bytV 4, bytV 13, intV 1, sl (w.heap.size + 4) 2, u64V 0, intV 0] 41,
 .cells #[intV 0] 3,
 .cells #[bytV 6, bytV 0, intV 2, sl (w.heap.size + 15) 1, u64V 0, intV 0] 41,
 .cells #[intV 0, intV 2] 3,
 .cells #[bytV 1, bytV 0, intV 2, sl (w.heap.size + 12) 3, u64V 0, intV 0] 41,
 .cells #[sl (w.heap.size + 5) 2, bytV 2, intV 1, intV 2, intV 1, bytV 0, sl (w.heap.size + 7) 1, bytV 1, intV 0, intV 3, intV 0, bytV 0, .slice none 0 0, bytV 1, intV 0, intV 3, intV 0, bytV 0, sl (w.heap.size + 9) 1, bytV 3, intV 2, intV 0, intV 0, bytV 0, .slice none 0 0, bytV 1, intV 0, intV 3, intV 0, bytV 0] 49,
 .cells #[.string ⟨#[103]⟩, sl (w.heap.size + 2) 1, bytV 4, sl (w.heap.size + 3) 3, .slice none 0 0, sl (w.heap.size + 10) 5] 28,
 .cells #[intV 0, intV 2, intV 2] 3,
 .cells #[.string ⟨#[103]⟩, sl (w.heap.size + 2) 1, bytV 4, sl (w.heap.size + 3) 3, sl (w.heap.size + 14) 1, sl (w.heap.size + 10) 5] 28,
 .cells #[bytV 4, intV 1] 51,
 .cells #[intV 1] 3]
theorem bent_at20 (w : World) : GrAt (allocs w (objsB20 w)) (sl (w.heap.size + 2) 1) (sl (w.heap.size + 3) 3) (sl (w.heap.size + 14) 1) (sl (w.heap.size + 10) 5) bentG20 := by
 have g := fun k o (h : (objsB20 w)[k]? = some o) => allocs_get (objsB20 w) w k o h
 have i0 : InsAt (allocs w (objsB20 w)) (sl (w.heap.size + 5) 2) [⟨2, 0, 2, [], 5, 0⟩, ⟨4, 13, 1, [0, 2], 0, 0⟩] := by
  refine ⟨by decide, [.slice none 0 0, sl (w.heap.size + 4) 2], rfl, row_lit (t := 41) 2 (g 5 _ rfl) (by omega), fun i x a hx ha => ?_⟩
  rcases i with _ | _ | i
  ·cases hx; cases ha; exact row_nil _ _
  ·cases hx; cases ha; exact row_lit (t := 3) 2 (g 4 _ rfl) (by omega)
  ·simp at hx
 have i1 : InsAt (allocs w (objsB20 w)) (sl (w.heap.size + 7) 1) [⟨6, 0, 2, [1], 0, 0⟩] := by
  refine ⟨by decide, [sl (w.heap.size + 15) 1], rfl, row_lit (t := 41) 1 (g 7 _ rfl) (by omega), fun i x a hx ha => ?_⟩
  rcases i with _ | i
  ·cases hx; cases ha; exact row_lit (t := 3) 1 (g 15 _ rfl) (by omega)
  ·simp at hx
 have i2 : InsAt (allocs w (objsB20 w)) (.slice none 0 0) [] := by
  exact ⟨by simp, [], rfl, row_nil _ _, fun i x a hx ha => by simp at hx⟩
 have i3 : InsAt (allocs w (objsB20 w)) (sl (w.heap.size + 9) 1) [⟨1, 0, 2, [0, 2, 2], 0, 0⟩] := by
  refine ⟨by decide, [sl (w.heap.size + 12) 3], rfl, row_lit (t := 41) 1 (g 9 _ rfl) (by omega), fun i x a hx ha => ?_⟩
  rcases i with _ | i
  ·cases hx; cases ha; exact row_lit (t := 3) 3 (g 12 _ rfl) (by omega)
  ·simp at hx
 have i4 : InsAt (allocs w (objsB20 w)) (.slice none 0 0) [] := by
  exact ⟨by simp, [], rfl, row_nil _ _, fun i x a hx ha => by simp at hx⟩
 refine ⟨row_lit (t := 3) 1 (g 2 _ rfl) (by omega), row_lit (t := 23) 3 (g 3 _ rfl) (by omega), row_lit (t := 51) 1 (g 14 _ rfl) (by omega), ⟨[sl (w.heap.size + 5) 2, sl (w.heap.size + 7) 1, .slice none 0 0, sl (w.heap.size + 9) 1, .slice none 0 0], rfl, row_lit (t := 49) 5 (g 10 _ rfl) (by omega), fun i x a hx ha => ?_⟩⟩
 rcases i with _ | _ | _ | _ | _ | i
 ·cases hx; cases ha; exact i0
 ·cases hx; cases ha; exact i1
 ·cases hx; cases ha; exact i2
 ·cases hx; cases ha; exact i3
 ·cases hx; cases ha; exact i4
 ·simp [bentG20] at hx
set_option maxRecDepth 100000 in
set_option maxHeartbeats 4000000 in
theorem bent_20 (w : World) : Calls Tryz.prog 4 #[.int .i64 20] w fun e w' => ∃ pv vv av bv, e = .returned (.agg #[.string bentG20.name, pv, .int .u8 bentG20.result, vv, av, bv]) ∧ GrAt w' pv vv av bv bentG20 ∧ Below w.heap.size w w' := by
 go_enter Tryz.func4, Tryz.ntmps4
 go_wp2_with (go_at_call 7; refine Calls.mono (small_y w) ?_; rintro e w1 ⟨rfl, rfl⟩)
 change bodyPost _ _ _ _ _ (allocs w (objsB20 w))
 exact bodyPost_ret (results_cell_row rfl _ _ w.heap.size 28 #[.string ⟨#[103]⟩, sl (w.heap.size + 2) 1, bytV 4, sl (w.heap.size + 3) 3, sl (w.heap.size + 14) 1, sl (w.heap.size + 10) 5] _ _ rfl (allocs_get (objsB20 w) w 0 _ rfl) Tryz.underlying28 rfl (by rfl)) rfl ⟨_, _, _, _, rfl, bent_at20 w, allocs_below _ _⟩
def objsB21 (w : World) : List Obj := [
 .cells #[.string ⟨#[103]⟩, sl (w.heap.size + 2) 1, bytV 4, sl (w.heap.size + 3) 3, sl (w.heap.size + 14) 1, sl (w.heap.size + 10) 5] 28,
 .cells #[.string ⟨#[103]⟩, sl (w.heap.size + 2) 1, bytV 4, sl (w.heap.size + 3) 3, .slice none 0 0, sl (w.heap.size + 10) 5] 28,
 .cells #[intV 0] 3,
 .cells #[bytV 4, bytV 1, bytV 4] 23,
 .cells #[intV 0, intV 2] 3,
 .cells #[bytV 2, bytV 0, intV 2, .slice none 0 0, u64V 5, intV 0, bytV 4, bytV 13, intV 1, sl (w.heap.size + 4) 2, u64V 0, intV 0] 41,
 .cells #[intV 0] 3,
 .cells #[bytV 7, bytV 0, intV 0, sl (w.heap.size + 15) 2, u64V 0, intV 0] 41,
 .cells #[intV 0, intV 2] 3,
 .cells #[bytV 1, bytV 0, intV 2, sl (w.heap.size + 12) 3, u64V 0, intV 0] 41,
 .cells #[sl (w.heap.size + 5) 2, bytV 2, intV 1, intV 2, intV 1, bytV 0, sl (w.heap.size + 7) 1, bytV 1, intV 0, intV 3, intV 0, bytV 0, .slice none 0 0, bytV 1, intV 0, intV 3, intV 0, bytV 0, sl (w.heap.size + 9) 1, bytV 3, intV 2, intV 0, intV 0, bytV 0, .slice none 0 0, bytV 1, intV 0, intV 3, intV 0, bytV 0] 49,
 .cells #[.string ⟨#[103]⟩, sl (w.heap.size + 2) 1, bytV 4, sl (w.heap.size + 3) 3, .slice none 0 0, sl (w.heap.size + 10) 5] 28,
 .cells #[intV 0, intV 2, intV 2] 3,
 .cells #[.string ⟨#[103]⟩, sl (w.heap.size + 2) 1, bytV 4, sl (w.heap.size + 3) 3, sl (w.heap.size + 14) 1, sl (w.heap.size + 10) 5] 28,
 .cells #[bytV 4, intV 1] 51,
 .cells #[intV 1, intV 0] 3]
theorem bent_at21 (w : World) : GrAt (allocs w (objsB21 w)) (sl (w.heap.size + 2) 1) (sl (w.heap.size + 3) 3) (sl (w.heap.size + 14) 1) (sl (w.heap.size + 10) 5) bentG21 := by
 have g := fun k o (h : (objsB21 w)[k]? = some o) => allocs_get (objsB21 w) w k o h
 have i0 : InsAt (allocs w (objsB21 w)) (sl (w.heap.size + 5) 2) [⟨2, 0, 2, [], 5, 0⟩, ⟨4, 13, 1, [0, 2], 0, 0⟩] := by
  refine ⟨by decide, [.slice none 0 0, sl (w.heap.size + 4) 2], rfl, row_lit (t := 41) 2 (g 5 _ rfl) (by omega), fun i x a hx ha => ?_⟩
  rcases i with _ | _ | i
  ·cases hx; cases ha; exact row_nil _ _
  ·cases hx; cases ha; exact row_lit (t := 3) 2 (g 4 _ rfl) (by omega)
  ·simp at hx
 have i1 : InsAt (allocs w (objsB21 w)) (sl (w.heap.size + 7) 1) [⟨7, 0, 0, [1, 0], 0, 0⟩] := by
  refine ⟨by decide, [sl (w.heap.size + 15) 2], rfl, row_lit (t := 41) 1 (g 7 _ rfl) (by omega), fun i x a hx ha => ?_⟩
  rcases i with _ | i
  ·cases hx; cases ha; exact row_lit (t := 3) 2 (g 15 _ rfl) (by omega)
  ·simp at hx
 have i2 : InsAt (allocs w (objsB21 w)) (.slice none 0 0) [] := by
  exact ⟨by simp, [], rfl, row_nil _ _, fun i x a hx ha => by simp at hx⟩
 have i3 : InsAt (allocs w (objsB21 w)) (sl (w.heap.size + 9) 1) [⟨1, 0, 2, [0, 2, 2], 0, 0⟩] := by
  refine ⟨by decide, [sl (w.heap.size + 12) 3], rfl, row_lit (t := 41) 1 (g 9 _ rfl) (by omega), fun i x a hx ha => ?_⟩
  rcases i with _ | i
  ·cases hx; cases ha; exact row_lit (t := 3) 3 (g 12 _ rfl) (by omega)
  ·simp at hx
 have i4 : InsAt (allocs w (objsB21 w)) (.slice none 0 0) [] := by
  exact ⟨by simp, [], rfl, row_nil _ _, fun i x a hx ha => by simp at hx⟩
 refine ⟨row_lit (t := 3) 1 (g 2 _ rfl) (by omega), row_lit (t := 23) 3 (g 3 _ rfl) (by omega), row_lit (t := 51) 1 (g 14 _ rfl) (by omega), ⟨[sl (w.heap.size + 5) 2, sl (w.heap.size + 7) 1, .slice none 0 0, sl (w.heap.size + 9) 1, .slice none 0 0], rfl, row_lit (t := 49) 5 (g 10 _ rfl) (by omega), fun i x a hx ha => ?_⟩⟩
 rcases i with _ | _ | _ | _ | _ | i
 ·cases hx; cases ha; exact i0
 ·cases hx; cases ha; exact i1
 ·cases hx; cases ha; exact i2
 ·cases hx; cases ha; exact i3
 ·cases hx; cases ha; exact i4
 ·simp [bentG21] at hx
set_option maxRecDepth 100000 in
set_option maxHeartbeats 4000000 in
theorem bent_21 (w : World) : Calls Tryz.prog 4 #[.int .i64 21] w fun e w' => ∃ pv vv av bv, e = .returned (.agg #[.string bentG21.name, pv, .int .u8 bentG21.result, vv, av, bv]) ∧ GrAt w' pv vv av bv bentG21 ∧ Below w.heap.size w w' := by
 go_enter Tryz.func4, Tryz.ntmps4
 go_wp2_with (go_at_call 7; refine Calls.mono (small_y w) ?_; rintro e w1 ⟨rfl, rfl⟩)
 change bodyPost _ _ _ _ _ (allocs w (objsB21 w))
 exact bodyPost_ret (results_cell_row rfl _ _ w.heap.size 28 #[.string ⟨#[103]⟩, sl (w.heap.size + 2) 1, bytV 4, sl (w.heap.size + 3) 3, sl (w.heap.size + 14) 1, sl (w.heap.size + 10) 5] _ _ rfl (allocs_get (objsB21 w) w 0 _ rfl) Tryz.underlying28 rfl (by rfl)) rfl ⟨_, _, _, _, rfl, bent_at21 w, allocs_below _ _⟩
end Go.Proofs.YtobnpllppohofaaGreatDoor
