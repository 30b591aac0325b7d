/- The program's rows of bytes of one sort, or of one of two. -/
import Derived.Test.YtcinlpiidgbnaaaByte
import Derived.LoopN
namespace Go.Proofs.Ytcinlpiidgbnaaa
open Go.RowKit

def is1 (x : Nat) (c : UInt8) : Bool := sortN c == x
def is2 (x y : Nat) (c : UInt8) : Bool := sortN c == x || sortN c == y
theorem drop_at {s : ByteArray} {k : Nat} (h : k < s.size) : s.data.toList.drop k = s[k] :: s.data.toList.drop (k + 1) := by
  rw [List.drop_eq_getElem_cons (by simpa using h)]; rfl
theorem drop_end {s : ByteArray} {k : Nat} (h : ¬ k < s.size) : s.data.toList.drop k = [] := List.drop_eq_nil_of_le (by simp; omega)
theorem row_step {p : UInt8 → Bool} {s : ByteArray} {k : Nat} (h : k < s.size) (hp : p s[k] = true) : k + rowL p (s.data.toList.drop k) = k + 1 + rowL p (s.data.toList.drop (k + 1)) := by
  rw [drop_at h, rowL_yes _ hp]; omega
theorem row_stop {p : UInt8 → Bool} {s : ByteArray} {k : Nat} (h : k < s.size) (hp : p s[k] = false) : k + rowL p (s.data.toList.drop k) = k := by
  rw [drop_at h, rowL_no _ hp]; omega
theorem row_end {p : UInt8 → Bool} {s : ByteArray} {k : Nat} (h : ¬ k < s.size) : k + rowL p (s.data.toList.drop k) = k := by
  rw [drop_end h]; rfl

set_option maxHeartbeats 400000 in
theorem row1_any (s : ByteArray) (k0 x b cap : Nat) (w : World) (hs : s.size ≤ 65536) (hk0 : k0 ≤ s.size) (hc : w.cell? ⟨b, 0, none⟩ = some (.int .u8 (x : Int))) :
    Calls Try.prog 28 #[.string s, .int .i64 (k0 : Int), .slice (some ⟨b, 0, none⟩) 1 cap] w fun e w' => e = .returned (.int .i64 ((k0 + rowL (is1 x) (s.data.toList.drop k0) : Nat) : Int)) ∧ w' = w := by
  go_enter Try.func28, Try.ntmps28
  go_wp2
  go_step3
  go_wp2
  go_step3
  go_wp2
  go_loop [1, 7] (fun i _ => ∃ k : Nat, k ≤ s.size ∧ i = .int .i64 k ∧ Hid (k0 + rowL (is1 x) (s.data.toList.drop k0) = k + rowL (is1 x) (s.data.toList.drop k))) (fun i _ => s.size - (intOf i).toNat)
  case atStart => exact ⟨k0, hk0, rfl, rfl⟩
  case round =>
    obtain ⟨k, hk, rfl, hr⟩ := hrel
    by_cases hlt : k < s.size
    · have hlt' : (k : Int) < s.size := by omega
      by_cases hx : sortN s[k] = x
      · go_wp2_with (go_at_call 21; refine (sort_any _ _).mono ?_; rintro e w' ⟨rfl, rfl⟩)
        refine wp_loop_rounds 1 ?_
        rw [rounds_succ]
        go_wp2
        go_round
        case rel => exact ⟨k + 1, by omega, by go_num, hr.out.trans (row_step hlt (by simp [is1, hx]))⟩
        case measure => simp [intOf]; omega
      · go_wp2_with (go_at_call 21; refine (sort_any _ _).mono ?_; rintro e w' ⟨rfl, rfl⟩)
        refine wp_loop_rounds 2 ?_
        rw [rounds_succ]
        go_wp2
        rw [rounds_succ]
        go_wp2
        rw [Exit.noGoto_ret]
        go_ret
        exact ⟨ret_int (by rw [hr.out, row_stop hlt (by simp [is1, hx])]), rfl⟩
    · go_wp2
      go_ret
      exact ⟨ret_int (by rw [hr.out, row_end hlt]), rfl⟩

set_option maxHeartbeats 400000 in
theorem row2_any (s : ByteArray) (k0 x y b cap : Nat) (w : World) (hs : s.size ≤ 65536) (hk0 : k0 ≤ s.size) (hc : w.cell? ⟨b, 0, none⟩ = some (.int .u8 (x : Int))) (hd : w.cell? ⟨b, 1, none⟩ = some (.int .u8 (y : Int))) :
    Calls Try.prog 28 #[.string s, .int .i64 (k0 : Int), .slice (some ⟨b, 0, none⟩) 2 cap] w fun e w' => e = .returned (.int .i64 ((k0 + rowL (is2 x y) (s.data.toList.drop k0) : Nat) : Int)) ∧ w' = w := by
  go_enter Try.func28, Try.ntmps28
  go_wp2
  go_step3
  go_wp2
  go_step3
  go_wp2
  go_loop [1, 7] (fun i _ => ∃ k : Nat, k ≤ s.size ∧ i = .int .i64 k ∧ Hid (k0 + rowL (is2 x y) (s.data.toList.drop k0) = k + rowL (is2 x y) (s.data.toList.drop k))) (fun i _ => s.size - (intOf i).toNat)
  case atStart => exact ⟨k0, hk0, rfl, rfl⟩
  case round =>
    obtain ⟨k, hk, rfl, hr⟩ := hrel
    by_cases hlt : k < s.size
    · have hlt' : (k : Int) < s.size := by omega
      by_cases hx : sortN s[k] = x
      · go_wp2_with (go_at_call 21; refine (sort_any _ _).mono ?_; rintro e w' ⟨rfl, rfl⟩)
        refine wp_loop_rounds 1 ?_
        rw [rounds_succ]
        go_wp2
        go_round
        case rel => exact ⟨k + 1, by omega, by go_num, hr.out.trans (row_step hlt (by simp [is2, hx]))⟩
        case measure => simp [intOf]; omega
      · by_cases hy : sortN s[k] = y
        · go_wp2_with (go_at_call 21; refine (sort_any _ _).mono ?_; rintro e w' ⟨rfl, rfl⟩)
          refine wp_loop_rounds 2 ?_
          rw [rounds_succ]
          go_wp2
          rw [rounds_succ]
          go_wp2
          go_round
          case rel => exact ⟨k + 1, by omega, by go_num, hr.out.trans (row_step hlt (by simp [is2, hy]))⟩
          case measure => simp [intOf]; omega
        go_wp2_with (go_at_call 21; refine (sort_any _ _).mono ?_; rintro e w' ⟨rfl, rfl⟩)
        refine wp_loop_rounds 3 ?_
        rw [rounds_succ]
        go_wp2
        rw [rounds_succ]
        go_wp2
        rw [rounds_succ]
        go_wp2
        rw [Exit.noGoto_ret]
        go_ret
        exact ⟨ret_int (by rw [hr.out, row_stop hlt (by simp [is2, hx, hy])]), rfl⟩
    · go_wp2
      go_ret
      exact ⟨ret_int (by rw [hr.out, row_end hlt]), rfl⟩

end Go.Proofs.Ytcinlpiidgbnaaa
