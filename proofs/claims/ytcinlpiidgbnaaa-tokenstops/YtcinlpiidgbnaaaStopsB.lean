/- The walk of TokenStops: what is refused at a letter or a digit. -/
import Derived.Test.YtcinlpiidgbnaaaStopsA
namespace Go.Proofs.Ytcinlpiidgbnaaa
open Go.RowKit

set_option maxRecDepth 100000 in
set_option maxHeartbeats 8000000 in
theorem stops_ld (s t : ByteArray) (p : Nat) (hs : ¬ 20000 < s.size + t.size) (hsc : scanS true s.data.toList = .error p) (hp : p < s.size) (hB : ldB s[p] = true) (w : World) : Calls Try.prog 8 #[.string s, .string t] w fun e w' => e = .returned (.bool true) ∧ Below w.heap.size w w' := by
  have hs' : (s.size : Int) + t.size ≤ 20000 := by omega
  have hs2 : s.size ≤ 65536 := by omega
  have hC := fun w => scan_bad hs2 hsc w
  have hp' : (p : Int) < s.size := by omega
  have hsp : ¬ s.size ≤ p := by omega
  have HB : Hid (ldB s[p] = true) := hB
  clear hsc hB
  go_enter Try.func8, Try.ntmps8
  go_wp2_with (first | (go_at_call 9; refine (awake_any _).mono ?_; rintro e w0 ⟨rfl, hb0⟩) | (go_at_call 10; refine (hC _).mono ?_; rintro e w1 ⟨ad, cap, rfl, hb1⟩))
  have z0 : Hid (w.heap.size ≤ w0.heap.size) := hb0.size
  have z1 : Hid (w0.heap.size ≤ w1.heap.size) := hb1.size
  have B1 : Hid (Below w.heap.size w w1) := hb0.trans (hb1.mono hb0.size)
  clear hb0 hb1
  go_loop [7] (fun i => ∃ k : Nat, p + k ≤ s.size ∧ i = .int .i64 k) (fun i => s.size - (intOf i).toNat)
  case atStart => exact ⟨0, by omega, rfl⟩
  case round =>
    obtain ⟨k, hk, rfl⟩ := hrel
    simp only [List.append_eq, List.cons_append, List.nil_append]
    by_cases hkl : p + k < s.size
    · have hkl' : (p : Int) + k < s.size := by omega
      cases hl : ldB (s[p + k]'hkl)
      · have h5 : (s[p + k].toNat : Int) < 48 ∨ (57 < (s[p + k].toNat : Int) ∧ (s[p + k].toNat : Int) < 65) ∨ (90 < (s[p + k].toNat : Int) ∧ (s[p + k].toNat : Int) < 95) ∨ (s[p + k].toNat : Int) = 96 ∨ 122 < (s[p + k].toNat : Int) := by
          rw [ldB_iff] at hl
          simp only [decide_eq_false_iff_not] at hl
          omega
        have hk0 : (0 : Int) < k := by
          by_cases h0 : k = 0
          · subst h0
            have := HB.out
            simp only [Nat.add_zero] at hl
            rw [hl] at this; cases this
          · omega
        clear hl
        have h95 : ((s[p + k].toNat : Int) == 95) = false := by simp; omega
        rcases h5 with h | ⟨h, h'⟩ | ⟨h, h'⟩ | h | h
        all_goals
          go_wp2
          go_ret
          exact ⟨rfl, B1.out.alloc (by have := z0.out; have := z1.out; omega) _⟩
      · have h4 : (97 ≤ (s[p + k].toNat : Int) ∧ (s[p + k].toNat : Int) ≤ 122) ∨ (65 ≤ (s[p + k].toNat : Int) ∧ (s[p + k].toNat : Int) ≤ 90) ∨ (s[p + k].toNat : Int) = 95 ∨ (48 ≤ (s[p + k].toNat : Int) ∧ (s[p + k].toNat : Int) ≤ 57) := by
          rw [ldB_iff] at hl; simpa using hl
        clear hl
        rcases h4 with ⟨h, h'⟩ | ⟨h, h'⟩ | h | ⟨h, h'⟩
        all_goals
          first | (have h95 : ((s[p + k].toNat : Int) == 95) = false := by simp; omega) | skip
          go_wp2
          go_round
          case rel => first | exact ⟨k + 1, by omega, by go_num⟩ | (refine ⟨trivial, ?_⟩; (repeat apply Exists.intro); exact ⟨⟨k + 1, by omega, by go_num⟩, rfl⟩)
          case measure => simp [intOf]; omega
    · have hkl' : ¬ (p : Int) + k < s.size := by omega
      have hk0 : (0 : Int) < k := by omega
      go_wp2
      go_ret
      exact ⟨rfl, B1.out.alloc (by have := z0.out; have := z1.out; omega) _⟩
end Go.Proofs.Ytcinlpiidgbnaaa
