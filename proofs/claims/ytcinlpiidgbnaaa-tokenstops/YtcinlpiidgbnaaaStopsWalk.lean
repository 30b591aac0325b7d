/- The walk of TokenStops. -/
import Derived.Test.YtcinlpiidgbnaaaStopsB
namespace Go.Proofs.Ytcinlpiidgbnaaa
open Go.RowKit

set_option maxRecDepth 100000 in
set_option maxHeartbeats 2000000 in
theorem stops_walk (s : ByteArray) (z : s.data.toList.length ≤ reachBytes) (t : ByteArray) (z' : t.data.toList.length ≤ reachBytes) (w : World) : Calls Try.prog 8 #[.string s, .string t] w fun e w' => e = .returned (.bool true) ∧ Below w.heap.size w w' := by
  have zs := reach_of' z
  have zt := reach_of' z'
  clear z z'
  have e26 := eql_flt
  by_cases hs : 20000 < s.size + t.size
  · have hs' : (20000 : Int) < (s.size : Int) + t.size := by omega
    go_enter Try.func8, Try.ntmps8
    go_wp2_with (go_at_call 9; refine (awake_any _).mono ?_; rintro e w0 ⟨rfl, hb0⟩)
    go_ret
    exact ⟨rfl, hb0⟩
  · have hs' : (s.size : Int) + t.size ≤ 20000 := by omega
    have hs2 : s.size ≤ 65536 := by omega
    clear zs zt
    rcases hsc : scanS true s.data.toList with p | ⟨ts⟩
    · have hC := fun w => scan_bad hs2 hsc w
      by_cases hp : p < s.size
      · cases hB : ldB s[p]
        · exact stops_bare s t p hs hsc hp hB w
        · exact stops_ld s t p hs hsc hp hB w
      · have hp' : (s.size : Int) ≤ p := by omega
        clear hsc
        go_enter Try.func8, Try.ntmps8
        go_wp2_with (first | (go_at_call 9; refine (awake_any _).mono ?_; rintro e w0 ⟨rfl, hb0⟩) | (go_at_call 10; refine (hC _).mono ?_; rintro e w1 ⟨ad, cap, rfl, hb1⟩))
        go_ret
        exact ⟨rfl, ((hb0.trans (hb1.mono hb0.size)).alloc (by have := hb0.size; have := hb1.size; omega) _)⟩
    · have hC := fun w => scan_good hs2 hsc w
      clear hsc
      go_enter Try.func8, Try.ntmps8
      go_wp2_with (first | (go_at_call 9; refine (awake_any _).mono ?_; rintro e w0 ⟨rfl, hb0⟩) | (go_at_call 10; refine (hC _).mono ?_; rintro e w1 ⟨v, rfl, hl1, hb1⟩))
      go_ret
      exact ⟨rfl, ((hb0.trans (hb1.mono hb0.size)).alloc (by have := hb0.size; have := hb1.size; omega) _)⟩
end Go.Proofs.Ytcinlpiidgbnaaa
