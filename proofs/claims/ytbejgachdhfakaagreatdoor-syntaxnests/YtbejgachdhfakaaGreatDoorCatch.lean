/- The face's deferred function: what is caught, and what is let by. -/
import Derived.Test.YtbejgachdhfakaaGreatDoorGC
import Derived.Defers
import Derived.Recover
namespace Go.Proofs.YtbejgachdhfakaaGreatDoor
open Go.RowKit

theorem as_yes (x : Value) (w : World) : (Instr.typeAssert (.iface 70 x) 20 70 true).run Tryz.prog w = .ok (.tuple #[x, .bool true]) w := by kernel_rfl
theorem as_no (w : World) : (Instr.typeAssert .nilIface 20 70 true).run Tryz.prog w = .ok (.tuple #[.agg #[.int .i64 0, .int .i64 0], .bool false]) w := by kernel_rfl
set_option maxRecDepth 100000 in
theorem catch_idle (p q : Nat) (w : World) :
    CallsD Tryz.prog 22 #[ptr p, ptr q] .returning w fun e u' w' => e = .returned (.tuple #[]) ∧ u' = .returning ∧ Below w.heap.size w w' := by
  have hb : Below w.heap.size w (w.alloc (.cells #[.int .i64 0, .int .i64 0] 70)) := (Below.refl _ _).alloc (Nat.le_refl _) _
  refine callsD_of_wpS Tryz.func22 rfl fun c₀ cs hu => ?_
  apply wpS_seq
  apply wpS_region
  simp [wpOpsS, go_sem, recoverD, hu, Tryz.ntmps22, Exit.thenS, as_no]
  apply wpS_seq
  apply wpS_region
  simp [wpOpsS, go_sem, Exit.thenS]
  refine wpS_cond (t := false) (by simp [Act.eval, Array.replicate]) ?_
  simp only [Bool.false_eq_true, if_false]
  refine wpS_of_wp (wp_skip ?_)
  cases c₀
  simp_all [bodyPostS, results, Tryz.results22]
set_option maxRecDepth 100000 in
theorem catch_panicking (p q : Nat) (c x : Int) (w : World) (hp : Box w p [.slice none 0 0, .slice none 0 0]) (a b : Value) (hq : Box w q [a, b]) (hpq : p ≠ q) :
    CallsD Tryz.prog 22 #[ptr p, ptr q] (.panicking [{ v := .iface 70 (.agg #[.int .i64 c, .int .i64 x]), recovered := false }]) w fun e u' w' => e = .returned (.tuple #[]) ∧ u' = .panicking [{ v := .iface 70 (.agg #[.int .i64 c, .int .i64 x]), recovered := true }] ∧
      Box w' p [.slice none 0 0, .slice none 0 0] ∧ Box w' q [.int .i64 c, .int .i64 x] ∧ (∀ g, g < w.heap.size → g ≠ p → g ≠ q → w'.heap[g]? = w.heap[g]?) ∧ w.heap.size ≤ w'.heap.size ∧ w'.os = w.os ∧ w'.tape = w.tape ∧ w'.output = w.output := by
  have p0 := hp.cell 0 _ rfl
  have p1 := hp.cell 1 _ rfl
  have q0 := hq.cell 0 _ rfl
  have q1 := hq.cell 1 _ rfl
  have pf0 := hp.fz 0
  have pf1 := hp.fz 1
  have qf0 := hq.fz 0
  have qf1 := hq.fz 1
  have pl := hp.lt
  have ql := hq.lt
  refine callsD_of_wpS Tryz.func22 rfl fun c₀ cs hu => ?_
  apply wpS_seq
  apply wpS_region
  simp [wpOpsS, go_sem, recoverD, hu, Tryz.ntmps22, Exit.thenS, as_yes]
  apply wpS_seq
  apply wpS_region
  simp [wpOpsS, go_sem, Exit.thenS]
  refine wpS_cond (t := true) (by simp [Act.eval, Array.replicate]) ?_
  simp only [if_true]
  refine wpS_of_wp ?_
  simp [Array.replicate]
  go_region
  have e1 : ∀ W : World, ∀ g, g < W.heap.size → ((W.alloc (.cells #[.int .i64 c, .int .i64 x] 70)).drew).heap[g]? = W.heap[g]? := fun W g hg => heap_alloc_old W _ hg
  have BP := ((((hp.set (j := 0) (by simp) (.slice none 0 0)).set (j := 1) (by simp) (.slice none 0 0)).other (a := ⟨q, 0, none⟩) hpq (.int .i64 c)).other (a := ⟨q, 1, none⟩) hpq (.int .i64 x))
  have BQ := ((((hq.other (a := ⟨p, 0, none⟩) (fun e => hpq e.symm) (.slice none 0 0)).other (a := ⟨p, 1, none⟩) (fun e => hpq e.symm) (.slice none 0 0)).set (j := 0) (by simp) (.int .i64 c)).set (j := 1) (by simp) (.int .i64 x))
  have hB : ∀ g, g < w.heap.size → g ≠ p → g ≠ q → ((((w.setCell ⟨p, 0, none⟩ (.slice none 0 0)).setCell ⟨p, 1, none⟩ (.slice none 0 0)).setCell ⟨q, 0, none⟩ (.int .i64 c)).setCell ⟨q, 1, none⟩ (.int .i64 x)).heap[g]? = w.heap[g]? := by
    intro g _ h1 h2
    rw [Below.heap_setCell _ _ _ _ h2, Below.heap_setCell _ _ _ _ h2, Below.heap_setCell _ _ _ _ h1, Below.heap_setCell _ _ _ _ h1]
  have hz : w.heap.size = ((((w.setCell ⟨p, 0, none⟩ (.slice none 0 0)).setCell ⟨p, 1, none⟩ (.slice none 0 0)).setCell ⟨q, 0, none⟩ (.int .i64 c)).setCell ⟨q, 1, none⟩ (.int .i64 x)).heap.size := by simp only [World.size_setCell]
  refine ⟨rfl, _, rfl, .tuple #[], by simp [results, Tryz.results22], rfl, rfl, BP.same (e1 _ _ BP.lt), BQ.same (e1 _ _ BQ.lt), fun g hg h1 h2 => (e1 _ _ (hz ▸ hg)).trans (hB g hg h1 h2), ?_, rfl, rfl, rfl⟩
  simp only [World.size_drew, World.size_alloc, World.size_setCell]
  omega
end Go.Proofs.YtbejgachdhfakaaGreatDoor
