/- The numbers' graphs that are made in place, told by their memory. -/
import Derived.Test.YtobnpllppohofaaGreatDoorGNum0
import Derived.Test.YtobnpllppohofaaGreatDoorGChk4M
namespace Go.Proofs.YtobnpllppohofaaGreatDoor
open Go.RowKit

theorem small_z (w : World) : Calls Tryz.prog 7 #[.bool true] w fun e w' => e = .returned (.agg #[.string ⟨#[103]⟩, sl (w.heap.size + 1) 1, bytV 4, sl (w.heap.size + 2) 3, .slice none 0 0, sl (w.heap.size + 9) 5]) ∧ w' = ((((((((((((w.alloc (.cells #[.string ⟨#[103]⟩, sl (w.heap.size + 1) 1, bytV 4, sl (w.heap.size + 2) 3, .slice none 0 0, sl (w.heap.size + 9) 5] 28)).alloc (.cells #[intV 0] 3)).alloc (.cells #[bytV 4, bytV 1, bytV 4] 23)).alloc (.cells #[intV 0, intV 2] 3)).alloc (.cells #[bytV 2, bytV 0, intV 2, .slice none 0 0, u64V 5, intV 0, bytV 4, bytV 13, intV 1, sl (w.heap.size + 3) 2, u64V 0, intV 0] 41)).alloc (.cells #[intV 0] 3)).alloc (.cells #[bytV 10, bytV 0, intV 0, sl (w.heap.size + 5) 1, u64V 0, intV 0] 41)).alloc (.cells #[intV 0, intV 2] 3)).alloc (.cells #[bytV 1, bytV 0, intV 2, sl (w.heap.size + 11) 3, u64V 0, intV 0] 41)).alloc (.cells #[sl (w.heap.size + 4) 2, bytV 2, intV 1, intV 2, intV 1, bytV 0, sl (w.heap.size + 6) 1, bytV 1, intV 0, intV 3, intV 0, bytV 0, .slice none 0 0, bytV 1, intV 0, intV 3, intV 0, bytV 0, sl (w.heap.size + 8) 1, bytV 3, intV 2, intV 0, intV 0, bytV 0, .slice none 0 0, bytV 1, intV 0, intV 3, intV 0, bytV 0] 49)).alloc (.cells #[.string ⟨#[103]⟩, sl (w.heap.size + 1) 1, bytV 4, sl (w.heap.size + 2) 3, .slice none 0 0, sl (w.heap.size + 9) 5] 28)).alloc (.cells #[intV 0, intV 2, intV 2] 3)) := small_x w
def objsCall (w : World) : List Obj := [
 .cells #[.string ⟨#[103]⟩, sl (w.heap.size + 1) 1, bytV 4, sl (w.heap.size + 2) 3, .slice none 0 0, sl (w.heap.size + 9) 5] 28,
 .cells #[intV 0] 3,
 .cells #[bytV 4, bytV 1, bytV 4] 23,
 .cells #[intV 0, intV 2] 3,
 .cells #[bytV 2, bytV 0, intV 2, .slice none 0 0, u64V 5, intV 0, bytV 4, bytV 13, intV 1, sl (w.heap.size + 3) 2, u64V 0, intV 0] 41,
 .cells #[intV 0] 3,
 .cells #[bytV 9, bytV 0, intV 2, sl (w.heap.size + 13) 1, u64V 0, intV 1] 41,
 .cells #[intV 0, intV 2] 3,
 .cells #[bytV 1, bytV 0, intV 2, sl (w.heap.size + 11) 3, u64V 0, intV 0] 41,
 .cells #[sl (w.heap.size + 4) 2, bytV 2, intV 1, intV 2, intV 1, bytV 0, sl (w.heap.size + 6) 1, bytV 1, intV 0, intV 3, intV 0, bytV 0, .slice none 0 0, bytV 1, intV 0, intV 3, intV 0, bytV 0, sl (w.heap.size + 8) 1, bytV 3, intV 2, intV 0, intV 0, bytV 0, .slice none 0 0, bytV 1, intV 0, intV 3, intV 0, bytV 0] 49,
 .cells #[.string ⟨#[103]⟩, sl (w.heap.size + 1) 1, bytV 4, sl (w.heap.size + 2) 3, .slice none 0 0, sl (w.heap.size + 9) 5] 28,
 .cells #[intV 0, intV 2, intV 2] 3,
 .cells #[.string ⟨#[103]⟩, sl (w.heap.size + 1) 1, bytV 4, sl (w.heap.size + 2) 3, .slice none 0 0, sl (w.heap.size + 9) 5] 28,
 .cells #[intV 0] 3]
theorem call_gn (w W : World) (hW : ∀ k, w.heap.size ≤ k → k < w.heap.size + 14 → W.heap[k]? = (allocs w (objsCall w)).heap[k]?) : GrAt W (sl (w.heap.size + 1) 1) (sl (w.heap.size + 2) 3) (.slice none 0 0) (sl (w.heap.size + 9) 5) bentG18 ∧ Box W (w.heap.size + 12) [.string ⟨#[103]⟩, sl (w.heap.size + 1) 1, bytV 4, sl (w.heap.size + 2) 3, .slice none 0 0, sl (w.heap.size + 9) 5] := by
 have g := fun k o (h : (objsCall w)[k]? = some o) => (hW (w.heap.size + k) (by omega) (by have h9 : k < 14 := (List.getElem?_eq_some_iff.1 h).1; omega)).trans (allocs_get (objsCall w) w k o h)
 refine ⟨?_, Box.of (g 12 _ rfl)⟩
 have i0 : InsAt W (sl (w.heap.size + 4) 2) [⟨2, 0, 2, [], 5, 0⟩, ⟨4, 13, 1, [0, 2], 0, 0⟩] := by
  refine ⟨by decide, [.slice none 0 0, sl (w.heap.size + 3) 2], rfl, row_lit (t := 41) 2 (g 4 _ rfl) (by omega), fun i x a hx ha => ?_⟩
  rcases i with _ | _ | i
  ·cases hx; cases ha; exact row_nil _ _
  ·cases hx; cases ha; exact row_lit (t := 3) 2 (g 3 _ rfl) (by omega)
  ·simp at hx
 have i1 : InsAt W (sl (w.heap.size + 6) 1) [⟨9, 0, 2, [0], 0, 1⟩] := by
  refine ⟨by decide, [sl (w.heap.size + 13) 1], rfl, row_lit (t := 41) 1 (g 6 _ rfl) (by omega), fun i x a hx ha => ?_⟩
  rcases i with _ | i
  ·cases hx; cases ha; exact row_lit (t := 3) 1 (g 13 _ rfl) (by omega)
  ·simp at hx
 have i2 : InsAt W (.slice none 0 0) [] := by
  exact ⟨by simp, [], rfl, row_nil _ _, fun i x a hx ha => by simp at hx⟩
 have i3 : InsAt W (sl (w.heap.size + 8) 1) [⟨1, 0, 2, [0, 2, 2], 0, 0⟩] := by
  refine ⟨by decide, [sl (w.heap.size + 11) 3], rfl, row_lit (t := 41) 1 (g 8 _ rfl) (by omega), fun i x a hx ha => ?_⟩
  rcases i with _ | i
  ·cases hx; cases ha; exact row_lit (t := 3) 3 (g 11 _ rfl) (by omega)
  ·simp at hx
 have i4 : InsAt W (.slice none 0 0) [] := by
  exact ⟨by simp, [], rfl, row_nil _ _, fun i x a hx ha => by simp at hx⟩
 refine ⟨row_lit (t := 3) 1 (g 1 _ rfl) (by omega), row_lit (t := 23) 3 (g 2 _ rfl) (by omega), row_nil _ _, ⟨[sl (w.heap.size + 4) 2, sl (w.heap.size + 6) 1, .slice none 0 0, sl (w.heap.size + 8) 1, .slice none 0 0], rfl, row_lit (t := 49) 5 (g 9 _ rfl) (by omega), fun i x a hx ha => ?_⟩⟩
 rcases i with _ | _ | _ | _ | _ | i
 ·cases hx; cases ha; exact i0
 ·cases hx; cases ha; exact i1
 ·cases hx; cases ha; exact i2
 ·cases hx; cases ha; exact i3
 ·cases hx; cases ha; exact i4
 ·simp [bentG18] at hx
def rowsG : Gr := ⟨⟨#[103]⟩, [0, 1, 2, 3, 4, 5, 6, 7], 4, [4, 1, 4, 4, 4, 4, 4, 4], [(5, 256)], (smallG true).blocks⟩
def objsRows (w : World) : List Obj := [
 .cells #[.string ⟨#[103]⟩, sl (w.heap.size + 1) 1, bytV 4, sl (w.heap.size + 2) 3, .slice none 0 0, sl (w.heap.size + 9) 5] 28,
 .cells #[intV 0] 3,
 .cells #[bytV 4, bytV 1, bytV 4] 23,
 .cells #[intV 0, intV 2] 3,
 .cells #[bytV 2, bytV 0, intV 2, .slice none 0 0, u64V 5, intV 0, bytV 4, bytV 13, intV 1, sl (w.heap.size + 3) 2, u64V 0, intV 0] 41,
 .cells #[intV 0] 3,
 .cells #[bytV 10, bytV 0, intV 0, sl (w.heap.size + 5) 1, u64V 0, intV 0] 41,
 .cells #[intV 0, intV 2] 3,
 .cells #[bytV 1, bytV 0, intV 2, sl (w.heap.size + 11) 3, u64V 0, intV 0] 41,
 .cells #[sl (w.heap.size + 4) 2, bytV 2, intV 1, intV 2, intV 1, bytV 0, sl (w.heap.size + 6) 1, bytV 1, intV 0, intV 3, intV 0, bytV 0, .slice none 0 0, bytV 1, intV 0, intV 3, intV 0, bytV 0, sl (w.heap.size + 8) 1, bytV 3, intV 2, intV 0, intV 0, bytV 0, .slice none 0 0, bytV 1, intV 0, intV 3, intV 0, bytV 0] 49,
 .cells #[.string ⟨#[103]⟩, sl (w.heap.size + 1) 1, bytV 4, sl (w.heap.size + 2) 3, .slice none 0 0, sl (w.heap.size + 9) 5] 28,
 .cells #[intV 0, intV 2, intV 2] 3,
 .cells #[.string ⟨#[103]⟩, sl (w.heap.size + 14) 8, bytV 4, sl (w.heap.size + 2) 3, sl (w.heap.size + 13) 1, sl (w.heap.size + 9) 5] 28,
 .cells #[bytV 5, intV 256] 51,
 .cells #[intV 0, intV 1, intV 2, intV 3, intV 4, intV 5, intV 6, intV 7] 3,
 .cells #[bytV 4, bytV 4, bytV 4, bytV 4, bytV 4] 23]
theorem rows_gn (w W : World) (v : Value) (hW : ∀ k, k < 16 → k ≠ 2 → k ≠ 12 → W.heap[w.heap.size + k]? = (allocs w (objsRows w)).heap[w.heap.size + k]?) (hv : TysAt W v [4, 1, 4, 4, 4, 4, 4, 4]) : GrAt W (sl (w.heap.size + 14) 8) v (sl (w.heap.size + 13) 1) (sl (w.heap.size + 9) 5) rowsG := by
 have g := fun k o (h : (objsRows w)[k]? = some o) (h2 : k ≠ 2) (h12 : k ≠ 12) => (hW k ((List.getElem?_eq_some_iff.1 h).1) h2 h12).trans (allocs_get (objsRows w) w k o h)
 have i0 : InsAt W (sl (w.heap.size + 4) 2) [⟨2, 0, 2, [], 5, 0⟩, ⟨4, 13, 1, [0, 2], 0, 0⟩] := by
  refine ⟨by decide, [.slice none 0 0, sl (w.heap.size + 3) 2], rfl, row_lit (t := 41) 2 (g 4 _ rfl (by decide) (by decide)) (by omega), fun i x a hx ha => ?_⟩
  rcases i with _ | _ | i
  ·cases hx; cases ha; exact row_nil _ _
  ·cases hx; cases ha; exact row_lit (t := 3) 2 (g 3 _ rfl (by decide) (by decide)) (by omega)
  ·simp at hx
 have i1 : InsAt W (sl (w.heap.size + 6) 1) [⟨10, 0, 0, [0], 0, 0⟩] := by
  refine ⟨by decide, [sl (w.heap.size + 5) 1], rfl, row_lit (t := 41) 1 (g 6 _ rfl (by decide) (by decide)) (by omega), fun i x a hx ha => ?_⟩
  rcases i with _ | i
  ·cases hx; cases ha; exact row_lit (t := 3) 1 (g 5 _ rfl (by decide) (by decide)) (by omega)
  ·simp at hx
 have i2 : InsAt W (.slice none 0 0) [] := by
  exact ⟨by simp, [], rfl, row_nil _ _, fun i x a hx ha => by simp at hx⟩
 have i3 : InsAt W (sl (w.heap.size + 8) 1) [⟨1, 0, 2, [0, 2, 2], 0, 0⟩] := by
  refine ⟨by decide, [sl (w.heap.size + 11) 3], rfl, row_lit (t := 41) 1 (g 8 _ rfl (by decide) (by decide)) (by omega), fun i x a hx ha => ?_⟩
  rcases i with _ | i
  ·cases hx; cases ha; exact row_lit (t := 3) 3 (g 11 _ rfl (by decide) (by decide)) (by omega)
  ·simp at hx
 have i4 : InsAt W (.slice none 0 0) [] := by
  exact ⟨by simp, [], rfl, row_nil _ _, fun i x a hx ha => by simp at hx⟩
 refine ⟨row_lit (t := 3) 8 (g 14 _ rfl (by decide) (by decide)) (by omega), hv, row_lit (t := 51) 1 (g 13 _ rfl (by decide) (by decide)) (by omega), ⟨[sl (w.heap.size + 4) 2, sl (w.heap.size + 6) 1, .slice none 0 0, sl (w.heap.size + 8) 1, .slice none 0 0], rfl, row_lit (t := 49) 5 (g 9 _ rfl (by decide) (by decide)) (by omega), fun i x a hx ha => ?_⟩⟩
 rcases i with _ | _ | _ | _ | _ | i
 ·cases hx; cases ha; exact i0
 ·cases hx; cases ha; exact i1
 ·cases hx; cases ha; exact i2
 ·cases hx; cases ha; exact i3
 ·cases hx; cases ha; exact i4
 ·simp [rowsG, smallG] at hx
theorem chk_rows : checkT [rowsG] = (0, 0) := by decide +kernel
def objsLate (w : World) : List Obj := [
 .cells #[intV 7, intV 8, intV 9] 3,
 .cells #[bytV 1, bytV 0, intV 0, sl (w.heap.size + 0) 3, u64V 0, intV 0] 41,
 .cells #[.slice none 0 0, bytV 2, intV 0, intV 2, intV 3, bytV 0, .slice none 0 0, bytV 1, intV 0, intV 4, intV 0, bytV 0, .slice none 0 0, bytV 1, intV 0, intV 4, intV 0, bytV 0, .slice none 0 0, bytV 1, intV 0, intV 4, intV 0, bytV 0, sl (w.heap.size + 1) 1, bytV 0, intV 0, intV 0, intV 0, bytV 0] 49]
theorem late_at (w : World) : GrAt (allocs w (objsLate w)) (.slice none 0 0) (.slice none 0 0) (.slice none 0 0) (sl (w.heap.size + 2) 5) lateG := by
 have g := fun k o (h : (objsLate w)[k]? = some o) => allocs_get (objsLate w) w k o h
 have i0 : InsAt (allocs w (objsLate w)) (.slice none 0 0) [] := by
  exact ⟨by simp, [], rfl, row_nil _ _, fun i x a hx ha => by simp at hx⟩
 have i1 : InsAt (allocs w (objsLate w)) (.slice none 0 0) [] := by
  exact ⟨by simp, [], rfl, row_nil _ _, fun i x a hx ha => by simp at hx⟩
 have i2 : InsAt (allocs w (objsLate w)) (.slice none 0 0) [] := by
  exact ⟨by simp, [], rfl, row_nil _ _, fun i x a hx ha => by simp at hx⟩
 have i3 : InsAt (allocs w (objsLate w)) (.slice none 0 0) [] := by
  exact ⟨by simp, [], rfl, row_nil _ _, fun i x a hx ha => by simp at hx⟩
 have i4 : InsAt (allocs w (objsLate w)) (sl (w.heap.size + 1) 1) [⟨1, 0, 0, [7, 8, 9], 0, 0⟩] := by
  refine ⟨by decide, [sl (w.heap.size + 0) 3], rfl, row_lit (t := 41) 1 (g 1 _ rfl) (by omega), fun i x a hx ha => ?_⟩
  rcases i with _ | i
  ·cases hx; cases ha; exact row_lit (t := 3) 3 (g 0 _ rfl) (by omega)
  ·simp at hx
 refine ⟨row_nil _ _, row_nil _ _, row_nil _ _, ⟨[.slice none 0 0, .slice none 0 0, .slice none 0 0, .slice none 0 0, sl (w.heap.size + 1) 1], rfl, row_lit (t := 49) 5 (g 2 _ rfl) (by omega), fun i x a hx ha => ?_⟩⟩
 rcases i with _ | _ | _ | _ | _ | i
 ·cases hx; cases ha; exact i0
 ·cases hx; cases ha; exact i1
 ·cases hx; cases ha; exact i2
 ·cases hx; cases ha; exact i3
 ·cases hx; cases ha; exact i4
 ·simp [lateG] at hx
def objsOdd (_w : World) : List Obj := [
 .cells #[.slice none 0 0, bytV 2, intV 0, intV (-1), intV 4611686018427387904, bytV 0, .slice none 0 0, bytV 9, intV 0, intV 1, intV 0, bytV 0] 49]
theorem odd_at (w : World) : GrAt (allocs w (objsOdd w)) (.slice none 0 0) (.slice none 0 0) (.slice none 0 0) (sl (w.heap.size + 0) 2) oddG := by
 have g := fun k o (h : (objsOdd w)[k]? = some o) => allocs_get (objsOdd w) w k o h
 have i0 : InsAt (allocs w (objsOdd w)) (.slice none 0 0) [] := by
  exact ⟨by simp, [], rfl, row_nil _ _, fun i x a hx ha => by simp at hx⟩
 have i1 : InsAt (allocs w (objsOdd w)) (.slice none 0 0) [] := by
  exact ⟨by simp, [], rfl, row_nil _ _, fun i x a hx ha => by simp at hx⟩
 refine ⟨row_nil _ _, row_nil _ _, row_nil _ _, ⟨[.slice none 0 0, .slice none 0 0], rfl, row_lit (t := 49) 2 (g 0 _ rfl) (by omega), fun i x a hx ha => ?_⟩⟩
 rcases i with _ | _ | i
 ·cases hx; cases ha; exact i0
 ·cases hx; cases ha; exact i1
 ·simp [oddG] at hx
end Go.Proofs.YtobnpllppohofaaGreatDoor
/- The document's side: places, types, variables. -/
namespace Go.Proofs.YtobnpllppohofaaGreatDoor
open Go.RowKit

theorem rin_any (a b : Int) (w : World) : Calls Tryz.prog 49 #[.int .i64 a, .int .i64 b] w fun e w' => e = .returned (.bool (placeB a b)) ∧ w' = w := by
 unfold placeB
 go_enter Tryz.func49, Tryz.ntmps49
 by_cases h : 0 ≤ a
 ·go_wp2
  go_ret
  exact ⟨ret_bool (by simp [h]), rfl⟩
 ·go_wp2
  go_ret
  exact ⟨ret_bool (by simp; omega), rfl⟩
def innerB (a b : Int) : Bool := decide (0 < a ∧ a < b)
theorem rinner_any (a b : Int) (w : World) : Calls Tryz.prog 117 #[.int .i64 a, .int .i64 b] w fun e w' => e = .returned (.bool (innerB a b)) ∧ w' = w := by
 unfold innerB
 go_enter Tryz.func117, Tryz.ntmps117
 by_cases h : 0 < a
 ·go_wp2
  go_ret
  exact ⟨ret_bool (by simp [h]), rfl⟩
 ·go_wp2
  go_ret
  exact ⟨ret_bool (by simp; omega), rfl⟩
def scB (t : Int) : Bool := decide (1 ≤ t ∧ t ≤ 5)
theorem rscalar_any (t : Int) (w : World) : Calls Tryz.prog 116 #[.int .u8 t] w fun e w' => e = .returned (.bool (scB t)) ∧ w' = w := by
 unfold scB
 go_enter Tryz.func116, Tryz.ntmps116
 by_cases h : 1 ≤ t
 ·go_wp2
  go_ret
  exact ⟨ret_bool (by simp [h]), rfl⟩
 ·go_wp2
  go_ret
  exact ⟨ret_bool (by simp; omega), rfl⟩
set_option maxRecDepth 100000 in
set_option maxHeartbeats 1000000 in
theorem rvars_any (G : Gr) (pv vv av bv : Value) (l : List Int) (lv : Value) (w : World) (h : GrAt w pv vv av bv G) (hl : IntsAt w lv l) :
  Calls Tryz.prog 89 #[.agg #[.string G.name, pv, .int .u8 G.result, vv, av, bv], lv] w fun e w' => e = .returned (.bool (l.all (inB · G.vars.length))) ∧ Below w.heap.size w w' := by
 obtain ⟨pa, pc, va, vc, aa, ac, ba, bc, rfl, rfl, rfl, rfl, _, _, _, _⟩ := h.openF
 obtain ⟨la, lc, rfl, hll⟩ := hl.form
 have HI : Hid (∀ i, i < l.length → _) := fun i hi => hl.get (i := i) hi
 have HD : Hid (∀ i, i < l.length → (l.drop i).all (inB · G.vars.length) = (inB (l.getD i 0) G.vars.length && (l.drop (i + 1)).all (inB · G.vars.length))) := fun i hi => all_drop (p := (inB · G.vars.length)) hi
 have HZ : Hid ((l.drop l.length).all (inB · G.vars.length) = true) := by show (l.drop l.length).all (inB · G.vars.length) = true; rw [List.drop_length]; rfl
 obtain ⟨R, hR⟩ : ∃ R, R = l.all (inB · G.vars.length) := ⟨_, rfl⟩
 rw [← hR]
 have HR : Hid ((l.drop 0).all (inB · G.vars.length) = R) := hR.symm
 obtain ⟨n, hn⟩ : ∃ n, n = l.length := ⟨_, rfl⟩
 rw [← hn] at HI HD HZ hll ⊢
 clear h hl hR hn
 generalize G.blocks.length = bl at *
 generalize G.name = nm at *
 generalize G.params.length = pl at *
 generalize G.vars.length = m at *
 generalize G.arrs.length = al at *
 generalize G.result = r at *
 have H0 : Hid (Below w.heap.size w (w.alloc (.cells #[.string nm, .slice pa pl pc, .int .u8 r, .slice va m vc, .slice aa al ac, .slice ba bl bc] 28)) ∧ Box (w.alloc (.cells #[.string nm, .slice pa pl pc, .int .u8 r, .slice va m vc, .slice aa al ac, .slice ba bl bc] 28)) w.heap.size [.string nm, .slice pa pl pc, .int .u8 r, .slice va m vc, .slice aa al ac, .slice ba bl bc]) := ⟨below_alloc (Below.refl _ _) _, Box.new w [.string nm, .slice pa pl pc, .int .u8 r, .slice va m vc, .slice aa al ac, .slice ba bl bc] 28⟩
 go_enter Tryz.func89, Tryz.ntmps89
 go_wp2
 go_loopw [5] (fun vi wr => ∃ i : Nat, vi = .int .i64 i ∧ i ≤ n ∧ Hid ((l.drop i).all (inB · m) = R ∧ Below w.heap.size w wr ∧ Box wr w.heap.size [.string nm, .slice pa pl pc, .int .u8 r, .slice va m vc, .slice aa al ac, .slice ba bl bc])) (fun vi _ => n - (intOf vi).toNat)
 case atStart => exact ⟨0, rfl, by omega, HR.out, H0.out⟩
 case round =>
  obtain ⟨i, rfl, hi, hr⟩ := hrel
  clear HR H0
  obtain ⟨e0, e1, e2, e3, e4, e5⟩ := box6 hr.out.2.2
  by_cases hin : i < n
  ·obtain ⟨g, o, rfl, hg, c0⟩ := HI.out i hin
   have hin' : (i : Int) < n := by omega
   have c0' := (hr.out.2.1.cell (p := ⟨g, o + i, none⟩) hg).trans c0
   have HDD : Hid _ := HD.out i hin
   rw [hr.out.1] at HDD
   clear HI HD HZ c0
   generalize l.getD i 0 = y at *
   have HPL : Hid (∀ W, Calls Tryz.prog 49 #[.int .i64 y, .int .i64 (m : Int)] W fun e w' => e = .returned (.bool (inB y m)) ∧ w' = W) := fun W => rin_any y m W
   generalize hb : inB y m = b at *
   clear hb
   cases b with
   | true =>
    have HX : Hid ((l.drop (i + 1)).all (inB · m) = R) := by have h9 := HDD.out; rw [Bool.true_and] at h9; exact h9.symm
    clear HDD
    go_wp2
    go_quiet ((go_at_call 49; exact Calls.quiet_of_same (HPL.out _)))
    go_wp2
    go_roundw
    case rel => exact ⟨i + 1, by first | rfl | (congr 1; omega), by omega, HX.out, by repeat (first | exact hr.out.2.1 | refine below_drewN ?_ _ | refine below_drew ?_), hr.out.2.2.same (by rfl)⟩
    case measure => simp [intOf]; omega
   | false =>
    have HX : Hid (false = R) := by have h9 := HDD.out; rw [Bool.false_and] at h9; exact h9.symm
    clear HDD
    go_wp2
    go_quiet ((go_at_call 49; exact Calls.quiet_of_same (HPL.out _)))
    go_wp2
    go_ret
    exact ⟨ret_bool HX.out, by repeat (first | exact hr.out.2.1 | refine below_drewN ?_ _ | refine below_drew ?_)⟩
  ·obtain rfl : i = n := by omega
   have HX : Hid (true = R) := by have h9 := hr.out.1; rw [HZ.out] at h9; exact h9
   clear HI HD HZ
   go_wp2
   go_ret
   exact ⟨ret_bool HX.out, hr.out.2.1⟩
def plcF (x : Int) : List Int → Nat → Int
 | [], _ => -1
 | y :: l, i => if y = x then (i : Int) else plcF x l (i + 1)
theorem plcF_drop {x : Int} {l : List Int} {i : Nat} (h : i < l.length) : plcF x (l.drop i) i = if l.getD i 0 = x then (i : Int) else plcF x (l.drop (i + 1)) (i + 1) := by
 have e : l.getD i 0 = l[i] := by simp [List.getD, List.getElem?_eq_getElem h]
 rw [e, List.drop_eq_getElem_cons h]
 rfl
set_option maxRecDepth 100000 in
set_option maxHeartbeats 1000000 in
theorem rplace_any (l : List Int) (x : Int) (v : Value) (w : World) (h : IntsAt w v l) : Calls Tryz.prog 55 #[v, .int .i64 x] w fun e w' => e = .returned (.int .i64 (plcF x l 0)) ∧ w' = w := by
 obtain ⟨a, c, rfl, hll⟩ := h.form
 have HI : Hid (∀ i, i < l.length → _) := fun i hi => h.get (i := i) hi
 have HD : Hid (∀ i, i < l.length → _) := fun i hi => plcF_drop (x := x) (l := l) hi
 have HZ : Hid (plcF x (l.drop l.length) l.length = -1) := by show plcF x (l.drop l.length) l.length = -1; rw [List.drop_length]; rfl
 obtain ⟨R, hR⟩ : ∃ R, R = plcF x l 0 := ⟨_, rfl⟩
 rw [← hR]
 have HR : Hid (plcF x (l.drop 0) 0 = R) := hR.symm
 obtain ⟨n, hn⟩ : ∃ n, n = l.length := ⟨_, rfl⟩
 rw [← hn] at HI HD HZ hll ⊢
 clear h hR hn
 go_enter Tryz.func55, Tryz.ntmps55
 go_wp2
 go_loopw [5] (fun vi wr => ∃ i : Nat, vi = .int .i64 i ∧ i ≤ n ∧ Hid (plcF x (l.drop i) i = R ∧ wr = w)) (fun vi _ => n - (intOf vi).toNat)
 case atStart => exact ⟨0, rfl, by omega, HR.out, rfl⟩
 case round =>
  obtain ⟨i, rfl, hi, hr⟩ := hrel
  have hw := hr.out.2
  subst hw
  clear HR
  by_cases hin : i < n
  ·obtain ⟨g, o, rfl, hg, c0⟩ := HI.out i hin
   have hin' : (i : Int) < n := by omega
   have HDD : Hid _ := HD.out i hin
   rw [hr.out.1] at HDD
   clear HI HD HZ
   generalize l.getD i 0 = y at *
   by_cases hy : y = x
   ·subst hy
    have HX : Hid (R = (i : Int)) := by show R = (i : Int); have h9 := HDD.out; simpa using h9
    clear HDD
    go_wp2
    go_ret
    exact ⟨ret_int HX.out.symm, rfl⟩
   ·have hyf : (y == x) = false := beq_false_of_ne hy
    have HX : Hid (R = plcF x (l.drop (i + 1)) (i + 1)) := by show R = plcF x (l.drop (i + 1)) (i + 1); have h9 := HDD.out; simpa [hy] using h9
    clear HDD
    go_wp2
    go_roundw
    case rel => exact ⟨i + 1, by first | rfl | (congr 1; omega), by omega, HX.out.symm, by first | rfl | trivial⟩
    case measure => simp [intOf]; omega
  ·obtain rfl : i = n := by omega
   have HX : Hid (-1 = R) := by have h9 := hr.out.1; rw [HZ.out] at h9; exact h9
   clear HI HD HZ
   go_wp2
   go_ret
   exact ⟨ret_int HX.out, rfl⟩
end Go.Proofs.YtobnpllppohofaaGreatDoor
/- The document's small words stand in the text that is imported. -/
namespace Go.Proofs.YtobnpllppohofaaGreatDoor
end Go.Proofs.YtobnpllppohofaaGreatDoor
