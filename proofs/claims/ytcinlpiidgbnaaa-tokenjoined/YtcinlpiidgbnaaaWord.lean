/- Contracts of the program's Word and of the document's Word: both say whether a text is one of sixteen rows of bytes. -/
import Derived.Test.YtcinlpiidgbnaaaByte
namespace Go.Proofs.Ytcinlpiidgbnaaa
open Go.RowKit

theorem w_true {s : ByteArray} {x : List UInt8} (h : (s.toList == x) = true) (hx : wordB x = true) : true = wordB s.data.toList := by
  have e : s.toList = x := by simpa using h
  rw [← Lib.toList_data, e, hx]
theorem w_false {s : ByteArray} (h : ∀ x ∈ wordsL, (s.toList == x) = false) : false = wordB s.data.toList := by
  rw [← Lib.toList_data]
  unfold wordB
  rw [eq_comm, List.contains_eq_mem]
  simp only [decide_eq_false_iff_not]
  intro hm
  have := h _ hm
  simp at this

theorem no_bool {b : Bool} {p : Prop} (h : b = true) (h' : b = false) : p := by rw [h] at h'; cases h'
set_option maxHeartbeats 400000 in
theorem word_any (s : ByteArray) (w : World) : Calls Try.prog 13 #[.string s] w fun e w' => e = .returned (.bool (wordB s.data.toList)) ∧ w' = w := by
  go_enter Try.func13, Try.ntmps13
  go_wp2
  all_goals go_ret
  all_goals refine ⟨ret_bool ?_, rfl⟩
  all_goals first | exact w_true (by assumption) (by decide) | exact no_bool (by assumption) (by assumption) | skip
  refine w_false ?_
  intro x hx
  simp only [wordsL, List.mem_cons, List.not_mem_nil, or_false] at hx
  rcases hx with rfl | rfl | rfl | rfl | rfl | rfl | rfl | rfl | rfl | rfl | rfl | rfl | rfl | rfl | rfl | rfl
  all_goals assumption
end Go.Proofs.Ytcinlpiidgbnaaa
