/- The walk of TokenScans. -/
import Derived.Test.YtcinlpiidgbnaaaAwake
import Derived.Test.YtcinlpiidgbnaaaRScan
import Derived.Test.YtcinlpiidgbnaaaToks
import Derived.SizedLaws
namespace Go.Proofs.Ytcinlpiidgbnaaa
open Go.RowKit

theorem reach_max {s : ByteArray} (z : s.data.toList.length ≤ reachBytes) : s.size ≤ maxLen := by
  unfold reachBytes at z
  unfold maxLen
  have : s.data.toList.length = s.size := by simp
  omega
theorem scan_lies (s : ByteArray) (hs : s.size ≤ maxLen) (w : World) : Calls Try.prog 10 #[.string s] w fun e w' => ∃ v, e = .returned (.tuple #[v, .agg #[.int .i64 (errOf s.data.toList), .int .i64 (atOf s.data.toList)]]) ∧ Lies w' v (toksOf s.data.toList) ∧ Below w.heap.size w w' := by
  refine (scan_any s w hs).mono ?_
  rintro e w' ⟨v, rfl, h, hb⟩
  exact ⟨v, rfl, lies_own h, hb⟩
theorem rscan_lies (s : ByteArray) (hs : s.size ≤ maxLen) (w : World) : Calls Try.prog 11 #[.string s] w fun e w' => ∃ v, e = .returned (.tuple #[v, .agg #[.int .i64 (errOf s.data.toList), .int .i64 (atOf s.data.toList)]]) ∧ Lies w' v (toksOf s.data.toList) ∧ Below w.heap.size w w' := by
  refine (rscan_any s w hs).mono ?_
  rintro e w' ⟨v, rfl, h, hb⟩
  exact ⟨v, rfl, lies_own h, hb⟩

set_option maxHeartbeats 400000 in
theorem scans_walk (s : ByteArray) (z : s.data.toList.length ≤ reachBytes) (w : World) : Calls Try.prog 3 #[.string s] w fun e w' => e = .returned (.bool true) ∧ Below w.heap.size w w' := by
  have hs : Hid (s.size ≤ maxLen) := reach_max z
  have e26 := eql_flt
  have hC1 := fun w => scan_lies s hs.out w
  have hC2 := fun w => rscan_lies s hs.out w
  have hlen : Hid ((toksOf s.data.toList).length ≤ 65537) := toks_len _
  generalize toksOf s.data.toList = ts at hC1 hC2 hlen
  generalize errOf s.data.toList = er at hC1 hC2
  generalize atOf s.data.toList = a at hC1 hC2
  clear z hs
  go_enter Try.func3, Try.ntmps3
  go_wp2_with (first | (go_at_call 9; refine (awake_any _).mono ?_; rintro e w0 ⟨rfl, hb0⟩) | (go_at_call 10; refine (hC1 _).mono ?_; rintro e w1 ⟨v1, rfl, hl1, hb1⟩) | (go_at_call 11; refine (hC2 _).mono ?_; rintro e w2 ⟨v2, rfl, hl2, hb2⟩; obtain ⟨q0, q1, q2⟩ := kept_flt hb2; have q3 := past1 q2; have hl3 := lies_below hl1 ((Below.refl _ _).alloc (Nat.le_refl _) _ |>.trans (hb2.mono (by simp)))) | (go_at_call 12; refine (same_below _ _ ts ts _ (lies_below hl3 ((Below.refl _ _).alloc (Nat.le_refl _) _)) (lies_below hl2 ((Below.refl _ _).alloc (Nat.le_refl _) _)) hlen.out).mono ?_; rintro e w3 ⟨rfl, hb3⟩))
  go_ret
  refine ⟨ret_bool (by simp), ?_⟩
  have z0 := hb0.size
  have z1 := hb1.size
  have z2 := hb2.size
  simp at z2
  have b1 : Below w.heap.size w w1 := hb0.trans (hb1.mono z0)
  have b2 : Below w.heap.size w w2 := (b1.alloc (by omega) _).trans (hb2.mono (by simp; omega))
  exact (b2.alloc (by omega) _).trans (hb3.mono (by simp; omega))
end Go.Proofs.Ytcinlpiidgbnaaa
