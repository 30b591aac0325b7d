/- The walk of TokenStops: what is refused at a byte that is no letter and no digit. -/
import Derived.Test.YtcinlpiidgbnaaaLies2
import Derived.Test.YtcinlpiidgbnaaaFloat
import Derived.Laws.Concat
namespace Go.Proofs.Ytcinlpiidgbnaaa
open Go.RowKit

theorem reach_of' {s : ByteArray} (z : s.data.toList.length ≤ reachBytes) : s.size ≤ 140737488351232 := by
  unfold reachBytes at z
  have : s.data.toList.length = s.size := by simp
  omega
theorem ldB_iff (c : UInt8) : ldB c = decide ((97 ≤ (c.toNat : Int) ∧ (c.toNat : Int) ≤ 122) ∨ (65 ≤ (c.toNat : Int) ∧ (c.toNat : Int) ≤ 90) ∨ (c.toNat : Int) = 95 ∨ (48 ≤ (c.toNat : Int) ∧ (c.toNat : Int) ≤ 57)) := by
  unfold ldB
  rw [letterB_iff, digitB_iff, Bool.eq_iff_iff]
  simp only [Bool.or_eq_true, decide_eq_true_eq]
  omega
theorem stop_list {s t : ByteArray} {p : Nat} : (s.extract 0 (p + 1) ++ t).data.toList = s.data.toList.take (p + 1) ++ t.data.toList := by
  have e : (s.extract 0 (p + 1)).data.toList = s.data.toList.take (p + 1) := by rw [Lib.extract_data]; simp
  rw [← e]; simp
theorem stop_scan {s t : ByteArray} {p : Nat} (h : scanS true s.data.toList = .error p) (hp : p < s.size) (hB : ldB s[p] = false) : scanS true (s.extract 0 (p + 1) ++ t).data.toList = .error p := by
  have hl : s.data.toList.length = s.size := by simp
  refine scanS_stop h (by omega) ?_ ?_
  · intro c hc
    rw [List.getElem?_eq_getElem (by omega)] at hc
    rw [← Option.some.inj hc]; exact hB
  · rw [stop_list, List.take_append_of_le_length (by simp; omega), List.take_take, Nat.min_self]

set_option maxRecDepth 100000 in
set_option maxHeartbeats 4000000 in
theorem stops_bare (s t : ByteArray) (p : Nat) (hs : ¬ 20000 < s.size + t.size) (hsc : scanS true s.data.toList = .error p) (hp : p < s.size) (hB : ldB s[p] = false) (w : World) : Calls Try.prog 8 #[.string s, .string t] w fun e w' => e = .returned (.bool true) ∧ Below w.heap.size w w' := by
  have e26 := eql_flt
  have hs' : (s.size : Int) + t.size ≤ 20000 := by omega
  have hs2 : s.size ≤ 65536 := by omega
  have hC := fun w => scan_bad hs2 hsc w
  have hp' : (p : Int) < s.size := by omega
  have hsc2 := stop_scan (t := t) hsc hp hB
  have hz2 : (s.extract 0 (p + 1) ++ t).size ≤ 65536 := by
    rw [Lib.size_eq, stop_list]; simp; omega
  have hC2 := fun w => scan_bad hz2 hsc2 w
  have hadd : ∀ w, (Op.stringOp .add (s.extract 0 (p + 1)) t).run Try.prog w = .ok (.string (s.extract 0 (p + 1) ++ t)) w := fun w => run_string_add_sum w _ _ (by
    rw [Lib.size_eq, Lib.size_eq, show (s.extract 0 (p + 1)).data.toList = s.data.toList.take (p + 1) by rw [Lib.extract_data]; simp]
    simp; omega)
  have hnb : ¬ ((97 ≤ (s[p].toNat : Int) ∧ (s[p].toNat : Int) ≤ 122) ∨ (65 ≤ (s[p].toNat : Int) ∧ (s[p].toNat : Int) ≤ 90) ∨ (s[p].toNat : Int) = 95 ∨ (48 ≤ (s[p].toNat : Int) ∧ (s[p].toNat : Int) ≤ 57)) := by
    rw [ldB_iff] at hB; simpa using hB
  have h5 : (s[p].toNat : Int) < 48 ∨ (57 < (s[p].toNat : Int) ∧ (s[p].toNat : Int) < 65) ∨ (90 < (s[p].toNat : Int) ∧ (s[p].toNat : Int) < 95) ∨ (s[p].toNat : Int) = 96 ∨ 122 < (s[p].toNat : Int) := by omega
  have H5 : Hid _ := h5
  clear hsc hsc2 hz2 hB hnb h5
  go_enter Try.func8, Try.ntmps8
  go_wp2_with (first | (go_at_call 9; refine (awake_any _).mono ?_; rintro e w0 ⟨rfl, hb0⟩) | (go_at_call 10; refine (hC _).mono ?_; rintro e w1 ⟨ad, cap, rfl, hb1⟩))
  have z0 : Hid (w.heap.size ≤ w0.heap.size) := hb0.size
  have z1 : Hid (w0.heap.size ≤ w1.heap.size) := hb1.size
  have B1 : Hid (Below w.heap.size w w1) := hb0.trans (hb1.mono hb0.size)
  clear hb0 hb1
  go_loop [7] (fun i => i = .int .i64 0) (fun _ => 0)
  case atStart => rfl
  case round =>
    obtain rfl := hrel
    simp only [List.append_eq, List.cons_append, List.nil_append]
    have h95 : ((s[p].toNat : Int) == 95) = false := by have := H5.out; simp; omega
    rcases H5.out with h | ⟨h, h'⟩ | ⟨h, h'⟩ | h | h
    all_goals
      go_wp2_with (go_at_call 10; refine (hC2 _).mono ?_; rintro e w2 ⟨ad2, cap2, rfl, hb2⟩; obtain ⟨q0, q1, q2⟩ := kept_flt hb2; have q3 := past1 q2)
      go_ret
      have z2 := hb2.size
      simp at z2
      exact ⟨ret_bool (by simp), (((B1.out.alloc (by have := z0.out; have := z1.out; omega) _).trans (hb2.mono (by have := z0.out; have := z1.out; simp; omega))).alloc (by have := z0.out; have := z1.out; omega) _)⟩
end Go.Proofs.Ytcinlpiidgbnaaa
