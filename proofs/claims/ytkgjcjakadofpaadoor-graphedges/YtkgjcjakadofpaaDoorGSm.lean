/- The chapter's graph. -/
import Derived.Test.YtkgjcjakadofpaaDoorGLaw1
import Derived.Laws.Rows
namespace Go.Proofs.YtkgjcjakadofpaaDoor
open Go.RowKit

def allocs (w : World) (os : List Obj) : World := os.foldl World.alloc w
theorem allocs_below : ∀ (os : List Obj) (w : World), Below w.heap.size w (allocs w os)
  | [], _ => Below.refl _ _
  | o :: os, w => below_trans (below_alloc (Below.refl _ _) o) (allocs_below os (w.alloc o))
theorem allocs_get : ∀ (os : List Obj) (w : World) (k : Nat) (o : Obj), os[k]? = some o → (allocs w os).heap[w.heap.size + k]? = some o
  | o' :: os, w, 0, o, h => by
    cases h
    have h1 := (allocs_below os (w.alloc o')).block w.heap.size (by simp)
    exact h1.trans (heap_alloc_new w o')
  | o' :: os, w, k + 1, o, h => by
    have h1 := allocs_get os (w.alloc o') k o (by simpa using h)
    rw [show (w.alloc o').heap.size = w.heap.size + 1 by simp, show w.heap.size + 1 + k = w.heap.size + (k + 1) by omega] at h1
    exact h1
theorem row_lit {W : World} {g : Nat} {cs : List Value} {t : TypeId} (n : Nat) (h : W.heap[g]? = some (.cells cs.toArray t)) (hn : n ≤ 1000) : RowAt W (.slice (some ⟨g, 0, none⟩) n n) n cs := by
  refine ⟨_, _, rfl, ⟨Nat.le_refl _, by omega⟩, .inr ⟨g, 0, rfl, (Array.getElem?_eq_some_iff.1 h).1, fun j u hj => ?_⟩⟩
  simp only [World.cell?, h]
  simpa using hj
theorem row_nil (W : World) (cs : List Value) : RowAt W (.slice none 0 0) 0 cs := ⟨_, _, rfl, ⟨Nat.le_refl _, by omega⟩, .inl rfl⟩
abbrev sl (g n : Nat) : Value := .slice (some ⟨g, 0, none⟩) n n
abbrev u64V (k : Int) : Value := .int .u64 k
def insA : List In := [⟨2, 0, 2, [], 5, 0⟩, ⟨4, 13, 1, [0, 2], 0, 0⟩]
def insB : List In := [⟨10, 0, 0, [0], 0, 0⟩]
def insC (more : Bool) : List In := [⟨1, 0, 2, if more then [0, 2, 2] else [0, 2], 0, 0⟩]
def smallG (more : Bool) : Gr := ⟨⟨#[103]⟩, [0], 4, [4, 1, 4], [], [⟨insA, ⟨2, 1, 2, 1, 0⟩⟩, ⟨insB, ⟨1, 0, 3, 0, 0⟩⟩, ⟨[], ⟨1, 0, 3, 0, 0⟩⟩, ⟨insC more, ⟨3, 2, 0, 0, 0⟩⟩, ⟨[], ⟨1, 0, 3, 0, 0⟩⟩]⟩
def objs (more : Bool) (N : Nat) : List Obj := [
  .cells #[.string ⟨#[103]⟩, sl (N + 1) 1, bytV 4, sl (N + 2) 3, .slice none 0 0, sl (N + 9) 5] 34,
  .cells #[intV 0] 3,
  .cells #[bytV 4, bytV 1, bytV 4] 29,
  .cells #[intV 0, intV 2] 3,
  .cells #[bytV 2, bytV 0, intV 2, .slice none 0 0, u64V 5, intV 0, bytV 4, bytV 13, intV 1, sl (N + 3) 2, u64V 0, intV 0] 56,
  .cells #[intV 0] 3,
  .cells #[bytV 10, bytV 0, intV 0, sl (N + 5) 1, u64V 0, intV 0] 56,
  .cells #[intV 0, intV 2] 3,
  .cells #[bytV 1, bytV 0, intV 2, if more then sl (N + 11) 3 else sl (N + 7) 2, u64V 0, intV 0] 56,
  .cells #[sl (N + 4) 2, bytV 2, intV 1, intV 2, intV 1, bytV 0, sl (N + 6) 1, bytV 1, intV 0, intV 3, intV 0, bytV 0, .slice none 0 0, bytV 1, intV 0, intV 3, intV 0, bytV 0, sl (N + 8) 1, bytV 3, intV 2, intV 0, intV 0, bytV 0, .slice none 0 0, bytV 1, intV 0, intV 3, intV 0, bytV 0] 47,
  .cells #[.string ⟨#[103]⟩, sl (N + 1) 1, bytV 4, sl (N + 2) 3, .slice none 0 0, sl (N + 9) 5] 34] ++ (if more then [.cells #[intV 0, intV 2, intV 2] 3] else [])
theorem small_at_f (w : World) : GrAt (allocs w (objs false w.heap.size)) (sl (w.heap.size + 1) 1) (sl (w.heap.size + 2) 3) (.slice none 0 0) (sl (w.heap.size + 9) 5) (smallG false) := by
  have g := fun k o (h : (objs false w.heap.size)[k]? = some o) => allocs_get (objs false w.heap.size) w k o h
  have i0 : InsAt (allocs w (objs false w.heap.size)) (sl (w.heap.size + 4) 2) insA := by
    refine ⟨by decide, [.slice none 0 0, sl (w.heap.size + 3) 2], rfl, row_lit (t := 56) 2 (g 4 _ rfl) (by omega), fun i x a hx ha => ?_⟩
    rcases i with _ | _ | i
    · cases hx; cases ha; exact row_nil _ _
    · cases hx; cases ha; exact row_lit (t := 3) 2 (g 3 _ rfl) (by omega)
    · simp [insA] at hx
  have i1 : InsAt (allocs w (objs false w.heap.size)) (sl (w.heap.size + 6) 1) insB := by
    refine ⟨by decide, [sl (w.heap.size + 5) 1], rfl, row_lit (t := 56) 1 (g 6 _ rfl) (by omega), fun i x a hx ha => ?_⟩
    rcases i with _ | i
    · cases hx; cases ha; exact row_lit (t := 3) 1 (g 5 _ rfl) (by omega)
    · simp [insB] at hx
  have i2 : InsAt (allocs w (objs false w.heap.size)) (.slice none 0 0) [] := ⟨by simp, [], rfl, row_nil _ _, fun i x a hx ha => by simp at hx⟩
  have i3 : InsAt (allocs w (objs false w.heap.size)) (sl (w.heap.size + 8) 1) (insC false) := by
    refine ⟨by decide, [sl (w.heap.size + 7) 2], rfl, row_lit (t := 56) 1 (g 8 _ rfl) (by omega), fun i x a hx ha => ?_⟩
    rcases i with _ | i
    · cases hx; cases ha; exact row_lit (t := 3) 2 (g 7 _ rfl) (by omega)
    · simp [insC] at hx
  refine ⟨row_lit (t := 3) 1 (g 1 _ rfl) (by omega), row_lit (t := 29) 3 (g 2 _ rfl) (by omega), row_nil _ _, ⟨[sl (w.heap.size + 4) 2, sl (w.heap.size + 6) 1, .slice none 0 0, sl (w.heap.size + 8) 1, .slice none 0 0], rfl, row_lit (t := 47) 5 (g 9 _ rfl) (by omega), fun i x a hx ha => ?_⟩⟩
  rcases i with _ | _ | _ | _ | _ | i
  · cases hx; cases ha; exact i0
  · cases hx; cases ha; exact i1
  · cases hx; cases ha; exact i2
  · cases hx; cases ha; exact i3
  · cases hx; cases ha; exact i2
  · simp [smallG] at hx
set_option maxRecDepth 100000 in
set_option maxHeartbeats 4000000 in
theorem small_f (w : World) : Calls Tryd.prog 14 #[.bool false] w fun e w' => e = .returned (.agg #[.string ⟨#[103]⟩, sl (w.heap.size + 1) 1, .int .u8 4, sl (w.heap.size + 2) 3, .slice none 0 0, sl (w.heap.size + 9) 5]) ∧ GrAt w' (sl (w.heap.size + 1) 1) (sl (w.heap.size + 2) 3) (.slice none 0 0) (sl (w.heap.size + 9) 5) (smallG false) ∧ Below w.heap.size w w' := by
  go_enter Tryd.func14, Tryd.ntmps14
  go_wp2
  change bodyPost _ _ _ _ _ (allocs w (objs false w.heap.size))
  exact bodyPost_ret (results_cell_row rfl _ _ w.heap.size 34 #[.string ⟨#[103]⟩, sl (w.heap.size + 1) 1, bytV 4, sl (w.heap.size + 2) 3, .slice none 0 0, sl (w.heap.size + 9) 5] _ _ rfl (allocs_get (objs false w.heap.size) w 0 _ rfl) Tryd.underlying34 rfl (by rfl)) rfl ⟨rfl, small_at_f w, allocs_below _ _⟩
theorem small_at_t (w : World) : GrAt (allocs w (objs true w.heap.size)) (sl (w.heap.size + 1) 1) (sl (w.heap.size + 2) 3) (.slice none 0 0) (sl (w.heap.size + 9) 5) (smallG true) := by
  have g := fun k o (h : (objs true w.heap.size)[k]? = some o) => allocs_get (objs true w.heap.size) w k o h
  have i0 : InsAt (allocs w (objs true w.heap.size)) (sl (w.heap.size + 4) 2) insA := by
    refine ⟨by decide, [.slice none 0 0, sl (w.heap.size + 3) 2], rfl, row_lit (t := 56) 2 (g 4 _ rfl) (by omega), fun i x a hx ha => ?_⟩
    rcases i with _ | _ | i
    · cases hx; cases ha; exact row_nil _ _
    · cases hx; cases ha; exact row_lit (t := 3) 2 (g 3 _ rfl) (by omega)
    · simp [insA] at hx
  have i1 : InsAt (allocs w (objs true w.heap.size)) (sl (w.heap.size + 6) 1) insB := by
    refine ⟨by decide, [sl (w.heap.size + 5) 1], rfl, row_lit (t := 56) 1 (g 6 _ rfl) (by omega), fun i x a hx ha => ?_⟩
    rcases i with _ | i
    · cases hx; cases ha; exact row_lit (t := 3) 1 (g 5 _ rfl) (by omega)
    · simp [insB] at hx
  have i2 : InsAt (allocs w (objs true w.heap.size)) (.slice none 0 0) [] := ⟨by simp, [], rfl, row_nil _ _, fun i x a hx ha => by simp at hx⟩
  have i3 : InsAt (allocs w (objs true w.heap.size)) (sl (w.heap.size + 8) 1) (insC true) := by
    refine ⟨by decide, [sl (w.heap.size + 11) 3], rfl, row_lit (t := 56) 1 (g 8 _ rfl) (by omega), fun i x a hx ha => ?_⟩
    rcases i with _ | i
    · cases hx; cases ha; exact row_lit (t := 3) 3 (g 11 _ rfl) (by omega)
    · simp [insC] at hx
  refine ⟨row_lit (t := 3) 1 (g 1 _ rfl) (by omega), row_lit (t := 29) 3 (g 2 _ rfl) (by omega), row_nil _ _, ⟨[sl (w.heap.size + 4) 2, sl (w.heap.size + 6) 1, .slice none 0 0, sl (w.heap.size + 8) 1, .slice none 0 0], rfl, row_lit (t := 47) 5 (g 9 _ rfl) (by omega), fun i x a hx ha => ?_⟩⟩
  rcases i with _ | _ | _ | _ | _ | i
  · cases hx; cases ha; exact i0
  · cases hx; cases ha; exact i1
  · cases hx; cases ha; exact i2
  · cases hx; cases ha; exact i3
  · cases hx; cases ha; exact i2
  · simp [smallG] at hx
set_option maxRecDepth 100000 in
set_option maxHeartbeats 4000000 in
theorem small_t (w : World) : Calls Tryd.prog 14 #[.bool true] w fun e w' => e = .returned (.agg #[.string ⟨#[103]⟩, sl (w.heap.size + 1) 1, .int .u8 4, sl (w.heap.size + 2) 3, .slice none 0 0, sl (w.heap.size + 9) 5]) ∧ GrAt w' (sl (w.heap.size + 1) 1) (sl (w.heap.size + 2) 3) (.slice none 0 0) (sl (w.heap.size + 9) 5) (smallG true) ∧ Below w.heap.size w w' := by
  go_enter Tryd.func14, Tryd.ntmps14
  go_wp2
  change bodyPost _ _ _ _ _ (allocs w (objs true w.heap.size))
  exact bodyPost_ret (results_cell_row rfl _ _ w.heap.size 34 #[.string ⟨#[103]⟩, sl (w.heap.size + 1) 1, bytV 4, sl (w.heap.size + 2) 3, .slice none 0 0, sl (w.heap.size + 9) 5] _ _ rfl (allocs_get (objs true w.heap.size) w 0 _ rfl) Tryd.underlying34 rfl (by rfl)) rfl ⟨rfl, small_at_t w, allocs_below _ _⟩
end Go.Proofs.YtkgjcjakadofpaaDoor
