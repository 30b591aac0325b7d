/- The chapter's net; what is fixed. -/
import Derived.Test.YtogjjmbcbnceoaaGreatDUnd
import Derived.Test.YtogjjmbcbnceoaaGreatDTr
import Derived.Laws.Rows
namespace Go.Proofs.YtogjjmbcbnceoaaGreat
open Go.RowKit

def allocs (w : World) (os : List Obj) : World := os.foldl World.alloc w
theorem allocs_below : ∀ (os : List Obj) (w : World), Below w.heap.size w (allocs w os)
  | [], _ => Below.refl _ _
  | o :: os, w => below_trans (below_alloc (Below.refl _ _) o) (allocs_below os (w.alloc o))
theorem allocs_get : ∀ (os : List Obj) (w : World) (k : Nat) (o : Obj), os[k]? = some o → (allocs w os).heap[w.heap.size + k]? = some o
  | o' :: os, w, 0, o, h => by
    cases h
    have h1 := (allocs_below os (w.alloc o')).block w.heap.size (by simp)
    exact h1.trans (heap_alloc_new w o')
  | o' :: os, w, k + 1, o, h => by
    have h1 := allocs_get os (w.alloc o') k o (by simpa using h)
    rw [show (w.alloc o').heap.size = w.heap.size + 1 by simp, show w.heap.size + 1 + k = w.heap.size + (k + 1) by omega] at h1
    exact h1
theorem row_lit {W : World} {g : Nat} {cs : List Value} {t : TypeId} (n : Nat) (h : W.heap[g]? = some (.cells cs.toArray t)) (hn : n ≤ 1000) : RowAt W (.slice (some ⟨g, 0, none⟩) n n) n cs := by
  refine ⟨_, _, rfl, ⟨Nat.le_refl _, by omega⟩, .inr ⟨g, 0, rfl, (Array.getElem?_eq_some_iff.1 h).1, fun j u hj => ?_⟩⟩
  simp only [World.cell?, h]
  simpa using hj
theorem row_nil (W : World) (cs : List Value) : RowAt W (.slice none 0 0) 0 cs := ⟨_, _, rfl, ⟨Nat.le_refl _, by omega⟩, .inl rfl⟩
abbrev sl (g n : Nat) : Value := .slice (some ⟨g, 0, none⟩) n n
def netL : List (List Int) := [[1, 2], [3], [3], [1], [3]]
theorem net_may : May netL := by unfold May netL; decide
theorem net_r1 (S : Nat → Prop) (h : ¬ S 0) : Rch netL S 1 := .step .entry h (by decide)
theorem net_r2 (S : Nat → Prop) (h : ¬ S 0) : Rch netL S 2 := .step .entry h (by decide)
theorem net_r3 (S : Nat → Prop) (h : ¬ S 0) (h2 : ¬ S 1 ∨ ¬ S 2) : Rch netL S 3 := by
  rcases h2 with h2 | h2
  · exact .step (net_r1 S h) h2 (by decide)
  · exact .step (net_r2 S h) h2 (by decide)
theorem net_r4 : ¬ Rch netL noneS 4 := by
  intro h
  cases h with
  | @step i _ _ _ he =>
    rcases i with _ | _ | _ | _ | _ | i
    · revert he; decide
    · revert he; decide
    · revert he; decide
    · revert he; decide
    · revert he; decide
    · simp [netL] at he
theorem net_near {b : Nat} (hb : b ≠ 0) (hr : ∀ c, c ≠ 0 → c ≠ b → Rch netL (· = c) b) (h0 : Rch netL noneS b) : Near netL b 0 := by
  refine .inl ⟨0, rfl, fun e => hb e.symm, .entry h0, fun c hc ho => ?_⟩
  by_cases e : c = 0
  · subst e; exact .refl .entry
  · exact absurd (hr c e hc) (ho.2.2.resolve_left hc)
theorem net_12 (c : Nat) : ¬ (1 = c) ∨ ¬ (2 = c) := by omega
theorem net_tree : treeL netL = [-1, 0, 0, 0, -1] := by
  refine (treeL_uniq net_may rfl fun b hb => ?_).symm
  have hb5 : b < 5 := hb
  match b, hb5 with
  | 0, _ => exact near_entry _
  | 1, _ => exact net_near (by omega) (fun c h1 _ => net_r1 _ (fun e => h1 e.symm)) (net_r1 _ (fun h => h))
  | 2, _ => exact net_near (by omega) (fun c h1 _ => net_r2 _ (fun e => h1 e.symm)) (net_r2 _ (fun h => h))
  | 3, _ => exact net_near (by omega) (fun c h1 _ => net_r3 _ (fun e => h1 e.symm) (net_12 c)) (net_r3 _ (fun h => h) (.inl fun h => h))
  | 4, _ => exact near_none net_r4
def netObjs (N : Nat) : List Obj := [.cells #[intV 1, intV 2] 3, .cells #[intV 3] 3, .cells #[intV 3] 3, .cells #[intV 1] 3, .cells #[intV 3] 3, .cells #[sl N 2, sl (N + 1) 1, sl (N + 2) 1, sl (N + 3) 1, sl (N + 4) 1] 23]
theorem net_at (w : World) : NetAt (allocs w (netObjs w.heap.size)) (sl (w.heap.size + 5) 5) netL := by
  have g := fun k o (h : (netObjs w.heap.size)[k]? = some o) => allocs_get (netObjs w.heap.size) w k o h
  refine ⟨[sl w.heap.size 2, sl (w.heap.size + 1) 1, sl (w.heap.size + 2) 1, sl (w.heap.size + 3) 1, sl (w.heap.size + 4) 1], rfl, row_lit (t := 23) 5 (g 5 _ rfl) (by omega), fun i r kv hr hk => ?_⟩
  rcases i with _ | _ | _ | _ | _ | i
  · cases hr; cases hk; exact row_lit (t := 3) 2 (g 0 _ rfl) (by omega)
  · cases hr; cases hk; exact row_lit (t := 3) 1 (g 1 _ rfl) (by omega)
  · cases hr; cases hk; exact row_lit (t := 3) 1 (g 2 _ rfl) (by omega)
  · cases hr; cases hk; exact row_lit (t := 3) 1 (g 3 _ rfl) (by omega)
  · cases hr; cases hk; exact row_lit (t := 3) 1 (g 4 _ rfl) (by omega)
  · simp [netL] at hr
set_option maxRecDepth 100000 in
theorem net_any (w : World) : Calls Tryz.prog 28 #[] w fun e w' => ∃ v, e = .returned v ∧ NetAt w' v netL ∧ Below w.heap.size w w' := by
  have HN : Hid _ := net_at w
  have HB : Hid _ := allocs_below (netObjs w.heap.size) w
  go_enter Tryz.func28, Tryz.ntmps28
  go_wp2
  go_ret
  refine ⟨_, rfl, ?_, ?_⟩
  · first | exact HN.out | (refine cast ?_ HN.out; rfl)
  · exact HB.out
end Go.Proofs.YtogjjmbcbnceoaaGreat
