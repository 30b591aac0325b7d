/- The graph of the law of live, and others made of it. -/
import Derived.Test.YtcggbedjhglmmaaGreatDoorLLv
import Derived.Laws.Rows
namespace Go.Proofs.YtcggbedjhglmmaaGreatDoor
open Go.RowKit

def allocs (w : World) (os : List Obj) : World := os.foldl World.alloc w
theorem allocs_below : ∀ (os : List Obj) (w : World), Below w.heap.size w (allocs w os)
  | [], _ => Below.refl _ _
  | o :: os, w => below_trans (below_alloc (Below.refl _ _) o) (allocs_below os (w.alloc o))
theorem allocs_get : ∀ (os : List Obj) (w : World) (k : Nat) (o : Obj), os[k]? = some o → (allocs w os).heap[w.heap.size + k]? = some o
  | o' :: os, w, 0, o, h => by
    cases h
    have h1 := (allocs_below os (w.alloc o')).block w.heap.size (by simp)
    exact h1.trans (heap_alloc_new w o')
  | o' :: os, w, k + 1, o, h => by
    have h1 := allocs_get os (w.alloc o') k o (by simpa using h)
    rw [show (w.alloc o').heap.size = w.heap.size + 1 by simp, show w.heap.size + 1 + k = w.heap.size + (k + 1) by omega] at h1
    exact h1
theorem row_lit {W : World} {g : Nat} {cs : List Value} {t : TypeId} (n : Nat) (h : W.heap[g]? = some (.cells cs.toArray t)) (hn : n ≤ 1000) : RowAt W (.slice (some ⟨g, 0, none⟩) n n) n cs := by
  refine ⟨_, _, rfl, ⟨Nat.le_refl _, by omega⟩, .inr ⟨g, 0, rfl, (Array.getElem?_eq_some_iff.1 h).1, fun j u hj => ?_⟩⟩
  simp only [World.cell?, h]
  simpa using hj
theorem row_nil (W : World) (cs : List Value) : RowAt W (.slice none 0 0) 0 cs := ⟨_, _, rfl, ⟨Nat.le_refl _, by omega⟩, .inl rfl⟩
abbrev sl (g n : Nat) : Value := .slice (some ⟨g, 0, none⟩) n n
abbrev u64V (k : Int) : Value := .int .u64 k
def insA : List In := [⟨2, 0, 2, [], 5, 0⟩, ⟨4, 13, 1, [0, 2], 0, 0⟩]
def insB : List In := [⟨10, 0, 0, [0], 0, 0⟩]
def insC : List In := [⟨1, 0, 2, [0, 2, 2], 0, 0⟩]
def mkG (b c : List In) : Gr := ⟨⟨#[]⟩, [0], 4, [4, 1, 4], [], [⟨insA, ⟨2, 1, 2, 1, 0⟩⟩, ⟨b, ⟨1, 0, 3, 0, 0⟩⟩, ⟨[], ⟨1, 0, 3, 0, 0⟩⟩, ⟨c, ⟨3, 2, 0, 0, 0⟩⟩, ⟨[], ⟨1, 0, 3, 0, 0⟩⟩]⟩
def objs (N : Nat) : List Obj := [
  .cells #[.string ⟨#[]⟩, sl (N + 1) 1, bytV 4, sl (N + 2) 3, .slice none 0 0, sl (N + 9) 5] 28,
  .cells #[intV 0] 3,
  .cells #[bytV 4, bytV 1, bytV 4] 23,
  .cells #[intV 0, intV 2] 3,
  .cells #[bytV 2, bytV 0, intV 2, .slice none 0 0, u64V 5, intV 0, bytV 4, bytV 13, intV 1, sl (N + 3) 2, u64V 0, intV 0] 54,
  .cells #[intV 0] 3,
  .cells #[bytV 10, bytV 0, intV 0, sl (N + 5) 1, u64V 0, intV 0] 54,
  .cells #[intV 0, intV 2, intV 2] 3,
  .cells #[bytV 1, bytV 0, intV 2, sl (N + 7) 3, u64V 0, intV 0] 54,
  .cells #[sl (N + 4) 2, bytV 2, intV 1, intV 2, intV 1, bytV 0, sl (N + 6) 1, bytV 1, intV 0, intV 3, intV 0, bytV 0, .slice none 0 0, bytV 1, intV 0, intV 3, intV 0, bytV 0, sl (N + 8) 1, bytV 3, intV 2, intV 0, intV 0, bytV 0, .slice none 0 0, bytV 1, intV 0, intV 3, intV 0, bytV 0] 48]
/-- the graph in memory, where two of its blocks' instructions lie as they may -/
theorem mk_at {W : World} {N : Nat} {b c : List In} (g : ∀ k o, k ≠ 0 → k ≠ 6 → k ≠ 8 → (objs N)[k]? = some o → W.heap[N + k]? = some o) (hb : InsAt W (sl (N + 6) 1) b) (hc : InsAt W (sl (N + 8) 1) c) : GrAt W (sl (N + 1) 1) (sl (N + 2) 3) (.slice none 0 0) (sl (N + 9) 5) (mkG b c) := by
  have i0 : InsAt W (sl (N + 4) 2) insA := by
    refine ⟨by decide, [.slice none 0 0, sl (N + 3) 2], rfl, row_lit (t := 54) 2 (g 4 _ (by decide) (by decide) (by decide) rfl) (by omega), fun i x a hx ha => ?_⟩
    rcases i with _ | _ | i
    · cases hx; cases ha; exact row_nil _ _
    · cases hx; cases ha; exact row_lit (t := 3) 2 (g 3 _ (by decide) (by decide) (by decide) rfl) (by omega)
    · simp [insA] at hx
  have i2 : InsAt W (.slice none 0 0) [] := ⟨by simp, [], rfl, row_nil _ _, fun i x a hx ha => by simp at hx⟩
  refine ⟨row_lit (t := 3) 1 (g 1 _ (by decide) (by decide) (by decide) rfl) (by omega), row_lit (t := 23) 3 (g 2 _ (by decide) (by decide) (by decide) rfl) (by omega), row_nil _ _, ⟨[sl (N + 4) 2, sl (N + 6) 1, .slice none 0 0, sl (N + 8) 1, .slice none 0 0], rfl, row_lit (t := 48) 5 (g 9 _ (by decide) (by decide) (by decide) rfl) (by omega), fun i x a hx ha => ?_⟩⟩
  rcases i with _ | _ | _ | _ | _ | i
  · cases hx; cases ha; exact i0
  · cases hx; cases ha; exact hb
  · cases hx; cases ha; exact i2
  · cases hx; cases ha; exact hc
  · cases hx; cases ha; exact i2
  · simp [mkG] at hx
theorem insB_at {W : World} {N : Nat} (h5 : W.heap[N + 5]? = some (.cells #[intV 0] 3)) (h6 : W.heap[N + 6]? = some (.cells #[bytV 10, bytV 0, intV 0, sl (N + 5) 1, u64V 0, intV 0] 54)) : InsAt W (sl (N + 6) 1) insB := by
  refine ⟨by decide, [sl (N + 5) 1], rfl, row_lit (t := 54) 1 h6 (by omega), fun i x a hx ha => ?_⟩
  rcases i with _ | i
  · cases hx; cases ha; exact row_lit (t := 3) 1 h5 (by omega)
  · simp [insB] at hx
theorem insC_at {W : World} {N : Nat} (h7 : W.heap[N + 7]? = some (.cells #[intV 0, intV 2, intV 2] 3)) (h8 : W.heap[N + 8]? = some (.cells #[bytV 1, bytV 0, intV 2, sl (N + 7) 3, u64V 0, intV 0] 54)) : InsAt W (sl (N + 8) 1) insC := by
  refine ⟨by decide, [sl (N + 7) 3], rfl, row_lit (t := 54) 1 h8 (by omega), fun i x a hx ha => ?_⟩
  rcases i with _ | i
  · cases hx; cases ha; exact row_lit (t := 3) 3 h7 (by omega)
  · simp [insC] at hx
theorem small_at (w : World) : GrAt (allocs w (objs w.heap.size)) (sl (w.heap.size + 1) 1) (sl (w.heap.size + 2) 3) (.slice none 0 0) (sl (w.heap.size + 9) 5) (mkG insB insC) := by
  have g := fun k o (h : (objs w.heap.size)[k]? = some o) => allocs_get (objs w.heap.size) w k o h
  exact mk_at (fun k o _ _ _ h => g k o h) (insB_at (g 5 _ rfl) (g 6 _ rfl)) (insC_at (g 7 _ rfl) (g 8 _ rfl))
set_option maxRecDepth 100000 in
set_option maxHeartbeats 4000000 in
theorem small_any (w : World) : Calls Tryz.prog 16 #[] w fun e w' => e = .returned (.agg #[.string ⟨#[]⟩, sl (w.heap.size + 1) 1, .int .u8 4, sl (w.heap.size + 2) 3, .slice none 0 0, sl (w.heap.size + 9) 5]) ∧ w' = allocs w (objs w.heap.size) := by
  go_enter Tryz.func16, Tryz.ntmps16
  go_wp2
  change bodyPost _ _ _ _ _ (allocs w (objs w.heap.size))
  exact bodyPost_ret (results_cell_row rfl _ _ w.heap.size 28 #[.string ⟨#[]⟩, sl (w.heap.size + 1) 1, bytV 4, sl (w.heap.size + 2) 3, .slice none 0 0, sl (w.heap.size + 9) 5] _ _ rfl (allocs_get (objs w.heap.size) w 0 _ rfl) Tryz.underlying28 rfl (by rfl)) rfl ⟨rfl, rfl⟩
end Go.Proofs.YtcggbedjhglmmaaGreatDoor
