/- The lists that ScalarNumbers lays: what the rounds ask of them. -/
import Derived.Test.YtekgedphjbhalaaTurnsWalk
import Derived.Test.YtekgedphjbhalaaOpsWalk
namespace Go.Proofs.Ytekgedphjbhalaa
open Go.RowKit

def endsL : List Int := [0, 1, 2, 7, 8, 9, 63, 64, 127, 128, 255, 256, 2147483647, 2147483648, 4294967296, 9007199254740993, 9223372036854775807, 9223372036854775808, 9223372036854775809, 18446744073709551615, 18446744073709551614, 18446744071562067968, 18446744071562067967, 9221120237041090560, 9221120237041090561, 18444492273895866368, 9218868437227405312, 18442240474082181120]
def fltsL : List Nat := [4602678819172646912, 13829653735729319117, 4643207697381772493, 4643211215818981376, 4746794007246405632, 4746794007248502784, 13970166044105166029, 13970166044105375744, 4890909195324358656, 4890909195324358655, 14114281232179134464, 14114281232179134465, 9094988921128908188, 13837084675114480435, 1]
theorem ends_word : ∀ c ∈ endsL, word c := by
  intro c hc
  simp only [endsL, List.mem_cons, List.not_mem_nil, or_false] at hc
  unfold word; omega
theorem flts_word : ∀ x ∈ fltsL, x < 18446744073709551616 := by
  intro x hx
  simp only [fltsL, List.mem_cons, List.not_mem_nil, or_false] at hx
  omega

/-- What holds at the head of each round of the first loop: the list owns 28 + k words; the floats lie as they were laid. -/
def Rel1 (w wr : World) (v : Value) (k : Nat) : Prop :=
  ∃ (cs : List Int), wr.ownsRow w.heap.size 23 1 v (28 + k) (cs.map (Value.int .u64)) ∧ (∀ c ∈ cs, word c) ∧
    wr.heap[w.heap.size + 1]? = some (.cells (fltsL.map (Value.float .f64)).toArray 39 (0, 0)) ∧ Below w.heap.size w wr ∧ w.heap.size + 1 < wr.heap.size

theorem rel_start (w : World) : Rel1 w ((w.alloc (.cells (endsL.map (Value.int .u64)).toArray 23)).alloc (.cells (fltsL.map (Value.float .f64)).toArray 39)) (.slice (some ⟨w.heap.size, 0, none⟩) 28 28) 0 := by
  refine ⟨endsL, ?_, ends_word, ?_, ((Below.refl _ _).alloc (Nat.le_refl _) _).alloc (by simp) _, by simp⟩
  · refine World.ownsRow.alloc ?_ _
    refine ⟨by simp [endsL], .inr ⟨w.heap.size, 28, (endsL.map (Value.int .u64)).toArray, rfl, Nat.le_refl _, ?_, by omega, by unfold maxLen; omega, by simp [endsL], by simp [endsL]⟩⟩
    exact heap_alloc_new w _
  · have h := heap_alloc_new (w.alloc (.cells (endsL.map (Value.int .u64)).toArray 23)) (.cells (fltsL.map (Value.float .f64)).toArray 39)
    simpa using h

theorem rel_cell {w wr : World} {v : Value} {k : Nat} (h : Rel1 w wr v k) (j : Nat) (hj : j < 15) : ∃ x : Nat, wr.cell? ⟨w.heap.size + 1, j, none⟩ = some (.float .f64 x) ∧ x < 18446744073709551616 := by
  obtain ⟨cs, _, _, hf, _, _⟩ := h
  have hl : fltsL.length = 15 := rfl
  refine ⟨fltsL[j]'(by omega), ?_, flts_word _ (List.getElem_mem _)⟩
  simp [World.cell?, hf, hl, hj]

theorem rel_step {w wr w1 : World} {v v' : Value} {k : Nat} {x : Nat} (hx : x < 18446744073709551616) {cs : List Int} (hown : wr.ownsRow w.heap.size 23 1 v (28 + k) (cs.map (Value.int .u64))) (hw : ∀ c ∈ cs, word c)
    (hf : wr.heap[w.heap.size + 1]? = some (.cells (fltsL.map (Value.float .f64)).toArray 39 (0, 0))) (hb : Below w.heap.size w wr) (hs : w.heap.size + 1 < wr.heap.size) (o : Obj)
    (hown' : w1.ownsRow w.heap.size 23 1 v' (28 + k + 1) (cs.map (Value.int .u64) ++ [.int .u64 (x : Int)])) (hg : (wr.alloc o).grownBy w1 v.ownBlock) : Rel1 w w1 v' (k + 1) := by
  have hne : some (w.heap.size + 1) ≠ v.ownBlock := by
    intro he
    obtain ⟨_, h | ⟨g, cap, cur, rfl, _, hh, _⟩⟩ := hown
    · rw [h.1] at he; simp [Value.ownBlock] at he
    · simp [Value.ownBlock] at he
      rw [← he, hf] at hh
      simp at hh
  have hsz : (wr.alloc o).heap.size = wr.heap.size + 1 := by simp
  have hlt := hown.lt
  refine ⟨cs ++ [(x : Int)], by simpa [Nat.add_assoc] using hown', ?_, ?_, ?_, ?_⟩
  · intro c hc
    rcases List.mem_append.1 hc with h | h
    · exact hw c h
    · simp at h; subst h; exact ⟨by omega, by omega⟩
  · rw [hg.block (w.heap.size + 1) (by omega) hne]
    have : (wr.alloc o).heap[w.heap.size + 1]? = wr.heap[w.heap.size + 1]? := by
      show (wr.heap.push _)[w.heap.size + 1]? = _
      rw [Array.getElem?_push, if_neg (by omega)]
    rw [this]; exact hf
  · exact (hb.alloc (by omega) o).grown hg (by omega) (fun q hq => (hlt q hq).1)
  · have := hg.size; omega

theorem rel_end {w wr : World} {v : Value} (h : Rel1 w wr v 15) : ∃ (g cap : Nat) (cf : Nat → Int), v = .slice (some ⟨g, 0, none⟩) 43 cap ∧ (∀ j, j < 43 → wr.cell? ⟨g, j, none⟩ = some (.int .u64 (cf j))) ∧ (∀ j, word (cf j)) ∧ Below w.heap.size w wr := by
  obtain ⟨cs, hown, hw, _, hb, _⟩ := h
  have hl : cs.length = 43 := by have := hown.1; simpa using this
  obtain ⟨_, h | ⟨g, cap, cur, rfl, _, hh, _, _, _, ht⟩⟩ := hown
  · omega
  · refine ⟨g, cap, fun j => cs.getD j 0, rfl, ?_, ?_, hb⟩
    · intro j hj
      have e : (cur.toList.take 43)[j]? = some (.int .u64 (cs.getD j 0)) := by
        have ht' : cur.toList.take 43 = cs.map (Value.int .u64) := by simpa using ht
        rw [ht', List.getElem?_map, List.getElem?_eq_getElem (by omega)]
        simp [List.getD, List.getElem?_eq_getElem (show j < cs.length by omega)]
      rw [List.getElem?_take, if_pos hj] at e
      simp [World.cell?, hh]
      simpa using e
    · intro j
      by_cases hj : j < cs.length
      · have : cs.getD j 0 = cs[j] := by simp [List.getD, List.getElem?_eq_getElem hj]
        show word (cs.getD j 0)
        rw [this]; exact hw _ (List.getElem_mem _)
      · have : cs.getD j 0 = 0 := by simp [List.getD, List.getElem?_eq_none (by omega : cs.length ≤ j)]
        show word (cs.getD j 0)
        rw [this]; exact ⟨by omega, by omega⟩
end Go.Proofs.Ytekgedphjbhalaa
