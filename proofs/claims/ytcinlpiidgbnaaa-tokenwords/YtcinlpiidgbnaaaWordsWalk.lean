/- The walk of TokenWords. -/
import Derived.Test.YtcinlpiidgbnaaaAwake
import Derived.Test.YtcinlpiidgbnaaaRWord
import Derived.SizedLaws
namespace Go.Proofs.Ytcinlpiidgbnaaa
open Go.RowKit

theorem words_walk (s : ByteArray) (z : s.data.toList.length ≤ reachBytes) (w : World) : Calls Try.prog 4 #[.string s] w fun e w' => e = .returned (.bool true) ∧ Below w.heap.size w w' := by
  have hs : s.size < 4611686018427387904 := by
    unfold reachBytes at z
    have : s.data.toList.length = s.size := by simp
    omega
  have HS : Hid (s.size < 4611686018427387904) := hs
  clear hs z
  go_enter Try.func4, Try.ntmps4
  go_wp2_with (first | (go_at_call 9; refine (awake_any _).mono ?_; rintro e w1 ⟨rfl, hb1⟩) | (go_at_call 13; refine (word_any _ _).mono ?_; rintro e w' ⟨rfl, rfl⟩) | (go_at_call 14; refine (rword_any _ _ HS.out).mono ?_; rintro e w' ⟨rfl, rfl⟩))
  go_ret
  exact ⟨ret_bool (by simp), hb1⟩
end Go.Proofs.Ytcinlpiidgbnaaa
