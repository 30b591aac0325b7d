/- The law's own programs in memory. -/
import Derived.Test.YtdgpdmohfnealaaGreatDoorUNum0M
namespace Go.Proofs.YtdgpdmohfnealaaGreatDoor
open Go.RowKit

def objsL (N : Nat) : List Obj := [
  .cells #[intV 0] 3,
  .cells #[bytV 4, bytV 4] 35,
  .cells #[bytV 2, bytV 0, intV 1, .slice none 0 0, wordV 5, intV 0] 52,
  .cells #[intV 0, intV 1] 3,
  .cells #[intV 1, intV 0] 3,
  .cells #[intV 0] 3,
  .cells #[bytV 1, bytV 0, intV 0, sl (N + 3) 2, wordV 0, intV 0, bytV 1, bytV 0, intV 1, sl (N + 4) 2, wordV 0, intV 0, bytV 10, bytV 0, intV 0, sl (N + 5) 1, wordV 0, intV 0] 52,
  .cells #[sl (N + 2) 1, bytV 1, intV 0, intV 1, intV 0, bytV 0, sl (N + 6) 3, bytV 1, intV 0, intV 1, intV 0, bytV 0] 48,
  .cells #[.string ⟨#[]⟩, sl N 1, bytV 4, sl (N + 1) 2, .slice none 0 0, sl (N + 7) 2] 40]
theorem atL (w : World) : GrsAt (allocs w (objsL w.heap.size)) (sl (w.heap.size + 8) 1) [loopG] := by
  have g := fun k o (h : (objsL w.heap.size)[k]? = some o) => allocs_get (objsL w.heap.size) w k o h
  refine ⟨[(sl w.heap.size 1, sl (w.heap.size + 1) 2, .slice none 0 0, sl (w.heap.size + 7) 2)], rfl, row_lit (t := 40) 1 (g 8 _ rfl) (by omega), fun i x q hx hq => ?_⟩
  rcases i with _ | i
  · cases hx; cases hq
    refine ⟨row_lit (t := 3) 1 (g 0 _ rfl) (by omega), row_lit (t := 35) 2 (g 1 _ rfl) (by omega), row_nil _ _, ⟨[sl (w.heap.size + 2) 1, sl (w.heap.size + 6) 3], rfl, row_lit (t := 48) 2 (g 7 _ rfl) (by omega), fun i x a hx ha => ?_⟩⟩
    rcases i with _ | _ | i
    · cases hx; cases ha
      refine ⟨by decide, [.slice none 0 0], rfl, row_lit (t := 52) 1 (g 2 _ rfl) (by omega), fun i x a hx ha => ?_⟩
      rcases i with _ | i
      · cases hx; cases ha; exact row_nil _ _
      · simp at hx
    · cases hx; cases ha
      refine ⟨by decide, [sl (w.heap.size + 3) 2, sl (w.heap.size + 4) 2, sl (w.heap.size + 5) 1], rfl, row_lit (t := 52) 3 (g 6 _ rfl) (by omega), fun i x a hx ha => ?_⟩
      rcases i with _ | _ | _ | i
      · cases hx; cases ha; exact row_lit (t := 3) 2 (g 3 _ rfl) (by omega)
      · cases hx; cases ha; exact row_lit (t := 3) 2 (g 4 _ rfl) (by omega)
      · cases hx; cases ha; exact row_lit (t := 3) 1 (g 5 _ rfl) (by omega)
      · simp at hx
    · simp [loopG] at hx
  · simp at hx
def objsR (N : Nat) : List Obj := [
  .cells #[intV 0] 3,
  .cells #[bytV 4, bytV 4, bytV 4, bytV 1] 35,
  .cells #[bytV 4, intV 2] 68,
  .cells #[intV 1] 3,
  .cells #[intV 2] 3,
  .cells #[intV 1, intV 0] 3,
  .cells #[intV 1, intV 0] 3,
  .cells #[intV 0, intV 0] 3,
  .cells #[intV 1] 3,
  .cells #[intV 2] 3,
  .cells #[intV 0] 3,
  .cells #[intV 2] 3,
  .cells #[intV 0, intV 1] 3,
  .cells #[bytV 6, bytV 0, intV 2, sl (N + 3) 1, wordV 0, intV 0, bytV 10, bytV 0, intV 0, sl (N + 4) 1, wordV 0, intV 0, bytV 7, bytV 0, intV 0, sl (N + 5) 2, wordV 0, intV 0, bytV 2, bytV 0, intV 1, .slice none 0 0, wordV 1, intV 0, bytV 7, bytV 0, intV 0, sl (N + 6) 2, wordV 0, intV 0, bytV 7, bytV 0, intV 0, sl (N + 7) 2, wordV 0, intV 0, bytV 6, bytV 0, intV 2, sl (N + 8) 1, wordV 0, intV 0, bytV 10, bytV 0, intV 0, sl (N + 9) 1, wordV 0, intV 0, bytV 6, bytV 0, intV 2, sl (N + 10) 1, wordV 0, intV 0, bytV 10, bytV 0, intV 0, sl (N + 11) 1, wordV 0, intV 0, bytV 4, bytV 11, intV 3, sl (N + 12) 2, wordV 0, intV 0] 52,
  .cells #[intV 1] 3,
  .cells #[intV 1] 3,
  .cells #[intV 2] 3,
  .cells #[bytV 9, bytV 0, intV 2, sl (N + 14) 1, wordV 0, intV 0, bytV 8, bytV 0, intV 0, .slice none 0 0, wordV 0, intV 0, bytV 6, bytV 0, intV 2, sl (N + 15) 1, wordV 0, intV 0, bytV 10, bytV 0, intV 0, sl (N + 16) 1, wordV 0, intV 0] 52,
  .cells #[sl (N + 13) 11, bytV 2, intV 3, intV 2, intV 1, bytV 0, sl (N + 17) 4, bytV 3, intV 0, intV 0, intV 0, bytV 0, .slice none 0 0, bytV 3, intV 0, intV 0, intV 0, bytV 0] 48,
  .cells #[.string ⟨#[]⟩, sl N 1, bytV 4, sl (N + 1) 4, sl (N + 2) 1, sl (N + 18) 3] 40]
theorem atR (w : World) : GrsAt (allocs w (objsR w.heap.size)) (sl (w.heap.size + 19) 1) [rowsG] := by
  have g := fun k o (h : (objsR w.heap.size)[k]? = some o) => allocs_get (objsR w.heap.size) w k o h
  refine ⟨[(sl w.heap.size 1, sl (w.heap.size + 1) 4, sl (w.heap.size + 2) 1, sl (w.heap.size + 18) 3)], rfl, row_lit (t := 40) 1 (g 19 _ rfl) (by omega), fun i x q hx hq => ?_⟩
  rcases i with _ | i
  · cases hx; cases hq
    refine ⟨row_lit (t := 3) 1 (g 0 _ rfl) (by omega), row_lit (t := 35) 4 (g 1 _ rfl) (by omega), row_lit (t := 68) 1 (g 2 _ rfl) (by omega), ⟨[sl (w.heap.size + 13) 11, sl (w.heap.size + 17) 4, .slice none 0 0], rfl, row_lit (t := 48) 3 (g 18 _ rfl) (by omega), fun i x a hx ha => ?_⟩⟩
    rcases i with _ | _ | _ | i
    · cases hx; cases ha
      refine ⟨by decide, [sl (w.heap.size + 3) 1, sl (w.heap.size + 4) 1, sl (w.heap.size + 5) 2, .slice none 0 0, sl (w.heap.size + 6) 2, sl (w.heap.size + 7) 2, sl (w.heap.size + 8) 1, sl (w.heap.size + 9) 1, sl (w.heap.size + 10) 1, sl (w.heap.size + 11) 1, sl (w.heap.size + 12) 2], rfl, row_lit (t := 52) 11 (g 13 _ rfl) (by omega), fun i x a hx ha => ?_⟩
      rcases i with _ | _ | _ | _ | _ | _ | _ | _ | _ | _ | _ | i
      · cases hx; cases ha; exact row_lit (t := 3) 1 (g 3 _ rfl) (by omega)
      · cases hx; cases ha; exact row_lit (t := 3) 1 (g 4 _ rfl) (by omega)
      · cases hx; cases ha; exact row_lit (t := 3) 2 (g 5 _ rfl) (by omega)
      · cases hx; cases ha; exact row_nil _ _
      · cases hx; cases ha; exact row_lit (t := 3) 2 (g 6 _ rfl) (by omega)
      · cases hx; cases ha; exact row_lit (t := 3) 2 (g 7 _ rfl) (by omega)
      · cases hx; cases ha; exact row_lit (t := 3) 1 (g 8 _ rfl) (by omega)
      · cases hx; cases ha; exact row_lit (t := 3) 1 (g 9 _ rfl) (by omega)
      · cases hx; cases ha; exact row_lit (t := 3) 1 (g 10 _ rfl) (by omega)
      · cases hx; cases ha; exact row_lit (t := 3) 1 (g 11 _ rfl) (by omega)
      · cases hx; cases ha; exact row_lit (t := 3) 2 (g 12 _ rfl) (by omega)
      · simp at hx
    · cases hx; cases ha
      refine ⟨by decide, [sl (w.heap.size + 14) 1, .slice none 0 0, sl (w.heap.size + 15) 1, sl (w.heap.size + 16) 1], rfl, row_lit (t := 52) 4 (g 17 _ rfl) (by omega), fun i x a hx ha => ?_⟩
      rcases i with _ | _ | _ | _ | i
      · cases hx; cases ha; exact row_lit (t := 3) 1 (g 14 _ rfl) (by omega)
      · cases hx; cases ha; exact row_nil _ _
      · cases hx; cases ha; exact row_lit (t := 3) 1 (g 15 _ rfl) (by omega)
      · cases hx; cases ha; exact row_lit (t := 3) 1 (g 16 _ rfl) (by omega)
      · simp at hx
    · cases hx; cases ha
      exact ⟨by simp, [], rfl, row_nil _ _, fun i x a hx ha => by simp at hx⟩
    · simp [rowsG] at hx
  · simp at hx
/-- The program that calls itself, its print left out. -/
def objsC (N : Nat) : List Obj := objs1 N (.slice (some ⟨N + 6, 6, none⟩) 1 1) ++ [.cells #[intV 0] 3, .cells #[intV 0] 3, .cells #[bytV 10, bytV 0, intV 0, sl (N + 4) 1, wordV 0, intV 0, bytV 9, bytV 0, intV 0, sl (N + 5) 1, wordV 0, intV 0] 52]
theorem row_part {W : World} {g : Nat} {l cs : List Value} {t : TypeId} (o n : Nat) (h : W.heap[g]? = some (.cells l.toArray t)) (hn : n ≤ 1000) (hd : l.drop o = cs) : RowAt W (.slice (some ⟨g, o, none⟩) n n) n cs := by
  refine ⟨_, _, rfl, ⟨Nat.le_refl _, by omega⟩, .inr ⟨g, o, rfl, (Array.getElem?_eq_some_iff.1 h).1, fun j u hj => ?_⟩⟩
  simp only [World.cell?, h]
  rw [← hd, List.getElem?_drop] at hj
  simpa using hj
theorem atC (w : World) : GrsAt (allocs w (objsC w.heap.size)) (sl (w.heap.size + 3) 1) [callG] := by
  have g := fun k o (h : (objsC w.heap.size)[k]? = some o) => allocs_get (objsC w.heap.size) w k o h
  refine ⟨[(sl w.heap.size 1, sl (w.heap.size + 1) 1, .slice none 0 0, sl (w.heap.size + 2) 1)], rfl, row_lit (t := 40) 1 (g 3 _ rfl) (by omega), fun i x q hx hq => ?_⟩
  rcases i with _ | i
  · cases hx; cases hq
    refine ⟨row_lit (t := 3) 1 (g 0 _ rfl) (by omega), row_lit (t := 35) 1 (g 1 _ rfl) (by omega), row_nil _ _, ⟨[.slice (some ⟨w.heap.size + 6, 6, none⟩) 1 1], rfl, row_lit (t := 48) 1 (g 2 _ rfl) (by omega), fun i x a hx ha => ?_⟩⟩
    rcases i with _ | i
    · cases hx; cases ha
      refine ⟨by decide, [sl (w.heap.size + 5) 1], rfl, row_part (t := 52) 6 1 (g 6 _ rfl) (by omega) rfl, fun i x a hx ha => ?_⟩
      rcases i with _ | i
      · cases hx; cases ha; exact row_lit (t := 3) 1 (g 5 _ rfl) (by omega)
      · simp at hx
    · simp [callG] at hx
  · simp at hx
def noG : Gr := ⟨⟨#[]⟩, [], 0, [], [], []⟩
theorem at0 (w : World) : GrsAt (w.alloc (.cells #[.string ⟨#[]⟩, .slice none 0 0, bytV 0, .slice none 0 0, .slice none 0 0, .slice none 0 0] 40)) (sl w.heap.size 1) [noG] := by
  refine ⟨[(.slice none 0 0, .slice none 0 0, .slice none 0 0, .slice none 0 0)], rfl, row_lit (t := 40) 1 (heap_alloc_new w _) (by omega), fun i x q hx hq => ?_⟩
  rcases i with _ | i
  · cases hx; cases hq
    exact ⟨row_nil _ _, row_nil _ _, row_nil _ _, ⟨[], rfl, row_nil _ _, fun i x a hx ha => by simp [noG] at hx⟩⟩
  · simp at hx
theorem cells65 : (madeCells #[.string ⟨#[]⟩, .slice none 0 0, bytV 0, .slice none 0 0, .slice none 0 0, .slice none 0 0] (65 * 6)) = (grsCells (List.replicate 65 noG) (List.replicate 65 ((.slice none 0 0 : Value), (.slice none 0 0 : Value), (.slice none 0 0 : Value), (.slice none 0 0 : Value)))).toArray := by kernel_rfl
theorem at65 (w : World) : GrsAt (w.alloc (.cells (madeCells #[.string ⟨#[]⟩, .slice none 0 0, bytV 0, .slice none 0 0, .slice none 0 0, .slice none 0 0] (65 * 6)) 40)) (sl w.heap.size 65) (List.replicate 65 noG) := by
  have hrow := row_lit (W := w.alloc (.cells (madeCells #[.string ⟨#[]⟩, .slice none 0 0, bytV 0, .slice none 0 0, .slice none 0 0, .slice none 0 0] (65 * 6)) 40)) (g := w.heap.size) (cs := grsCells (List.replicate 65 noG) (List.replicate 65 ((.slice none 0 0 : Value), (.slice none 0 0 : Value), (.slice none 0 0 : Value), (.slice none 0 0 : Value)))) (t := 40) 65 (by rw [← cells65]; exact heap_alloc_new w _) (by omega)
  refine ⟨List.replicate 65 (.slice none 0 0, .slice none 0 0, .slice none 0 0, .slice none 0 0), by simp, by simpa using hrow, fun i x q hx hq => ?_⟩
  have e1 := List.eq_of_mem_replicate (List.mem_of_getElem? hx)
  have e2 := List.eq_of_mem_replicate (List.mem_of_getElem? hq)
  rw [e1, e2]
  exact ⟨row_nil _ _, row_nil _ _, row_nil _ _, ⟨[], rfl, row_nil _ _, fun i x a hx ha => by simp [noG] at hx⟩⟩
theorem chk_no : (checkT [noG]).1 = 4 := by decide +kernel
theorem chk_65 : (checkT (List.replicate 65 noG)).1 = 3 := by decide +kernel
end Go.Proofs.YtdgpdmohfnealaaGreatDoor
