/- math/bits.Len64 returns the length in bits. -/
import Derived.Test.YtekgedphjbhalaaRows
import Derived.WalkKit
import Derived.WalkSpells
import Derived.Lib.Tables
import Derived.Lib.BitFns
namespace Go.Proofs.Ytekgedphjbhalaa
open Go.RowKit
set_option linter.unusedVariables false

theorem ret_i64 {a b : Int} (h : a = b) : Ending.returned (.int .i64 a) = .returned (.int .i64 b) := by rw [h]
theorem len_ix (i : Int) (h0 : 0 ≤ i) (h1 : i ≤ 255) (w : World) : (Instr.index 9 (.string Lib.len8tab) (.int .u8 i)).run Try.prog w = .ok (.int .u8 (Lib.len8 i)) w :=
  Lib.run_index_len8tab w 9 .u8 i Try.underlying9 h0 h1
theorem len_end (k : Nat) (i : Int) (n : Nat) (hk : k ≤ 56) (h0 : 0 ≤ i) (h1 : i ≤ 255) (h : Lib.bitLen n = k + Lib.bitLen i.toNat) : wrap64 ((k : Int) + wrap64 (Lib.len8 i)) = (Lib.bitLen n : Int) := by
  rw [Lib.len8_of i h0 h1, h]
  have := Lib.bitLen_le8' i h0 h1
  unfold wrap64; omega
theorem len_end0 (i : Int) (h0 : 0 ≤ i) (h1 : i ≤ 255) : wrap64 (wrap64 (Lib.len8 i)) = (Lib.bitLen i.toNat : Int) := by
  rw [Lib.len8_of i h0 h1]
  have := Lib.bitLen_le8' i h0 h1
  unfold wrap64; omega

set_option maxRecDepth 1000000 in
set_option maxHeartbeats 1000000 in
theorem len_111 (x : Int) (w : World) (h0 : 0 ≤ x) (h1 : x ≤ 18446744073709551615) (c0 : 4294967296 ≤ x) (c1 : 65536 ≤ x / 4294967296) (c2 : 256 ≤ x / 4294967296 / 65536) :
    Calls Try.prog 61 #[.int .u64 x] w fun e w' => e = .returned (.int .i64 (wrap64 (56 + wrap64 (Lib.len8 (x / 4294967296 / 65536 / 256))))) ∧ w' = w := by
  have hix := len_ix (x / 4294967296 / 65536 / 256) (by omega) (by omega)
  go_enter Try.func61, Try.ntmps61
  go_wp2
  go_ret
  exact ⟨rfl, rfl⟩

set_option maxRecDepth 1000000 in
set_option maxHeartbeats 1000000 in
theorem len_110 (x : Int) (w : World) (h0 : 0 ≤ x) (h1 : x ≤ 18446744073709551615) (c0 : 4294967296 ≤ x) (c1 : 65536 ≤ x / 4294967296) (c2 : x / 4294967296 / 65536 < 256) :
    Calls Try.prog 61 #[.int .u64 x] w fun e w' => e = .returned (.int .i64 (wrap64 (48 + wrap64 (Lib.len8 (x / 4294967296 / 65536))))) ∧ w' = w := by
  have hix := len_ix (x / 4294967296 / 65536) (by omega) (by omega)
  go_enter Try.func61, Try.ntmps61
  go_wp2
  go_ret
  exact ⟨rfl, rfl⟩

set_option maxRecDepth 1000000 in
set_option maxHeartbeats 1000000 in
theorem len_101 (x : Int) (w : World) (h0 : 0 ≤ x) (h1 : x ≤ 18446744073709551615) (c0 : 4294967296 ≤ x) (c1 : x / 4294967296 < 65536) (c2 : 256 ≤ x / 4294967296) :
    Calls Try.prog 61 #[.int .u64 x] w fun e w' => e = .returned (.int .i64 (wrap64 (40 + wrap64 (Lib.len8 (x / 4294967296 / 256))))) ∧ w' = w := by
  have hix := len_ix (x / 4294967296 / 256) (by omega) (by omega)
  go_enter Try.func61, Try.ntmps61
  go_wp2
  go_ret
  exact ⟨rfl, rfl⟩

set_option maxRecDepth 1000000 in
set_option maxHeartbeats 1000000 in
theorem len_100 (x : Int) (w : World) (h0 : 0 ≤ x) (h1 : x ≤ 18446744073709551615) (c0 : 4294967296 ≤ x) (c1 : x / 4294967296 < 65536) (c2 : x / 4294967296 < 256) :
    Calls Try.prog 61 #[.int .u64 x] w fun e w' => e = .returned (.int .i64 (wrap64 (32 + wrap64 (Lib.len8 (x / 4294967296))))) ∧ w' = w := by
  have hix := len_ix (x / 4294967296) (by omega) (by omega)
  go_enter Try.func61, Try.ntmps61
  go_wp2
  go_ret
  exact ⟨rfl, rfl⟩

set_option maxRecDepth 1000000 in
set_option maxHeartbeats 1000000 in
theorem len_011 (x : Int) (w : World) (h0 : 0 ≤ x) (h1 : x ≤ 18446744073709551615) (c0 : x < 4294967296) (c1 : 65536 ≤ x) (c2 : 256 ≤ x / 65536) :
    Calls Try.prog 61 #[.int .u64 x] w fun e w' => e = .returned (.int .i64 (wrap64 (24 + wrap64 (Lib.len8 (x / 65536 / 256))))) ∧ w' = w := by
  have hix := len_ix (x / 65536 / 256) (by omega) (by omega)
  go_enter Try.func61, Try.ntmps61
  go_wp2
  go_ret
  exact ⟨rfl, rfl⟩

set_option maxRecDepth 1000000 in
set_option maxHeartbeats 1000000 in
theorem len_010 (x : Int) (w : World) (h0 : 0 ≤ x) (h1 : x ≤ 18446744073709551615) (c0 : x < 4294967296) (c1 : 65536 ≤ x) (c2 : x / 65536 < 256) :
    Calls Try.prog 61 #[.int .u64 x] w fun e w' => e = .returned (.int .i64 (wrap64 (16 + wrap64 (Lib.len8 (x / 65536))))) ∧ w' = w := by
  have hix := len_ix (x / 65536) (by omega) (by omega)
  go_enter Try.func61, Try.ntmps61
  go_wp2
  go_ret
  exact ⟨rfl, rfl⟩

set_option maxRecDepth 1000000 in
set_option maxHeartbeats 1000000 in
theorem len_001 (x : Int) (w : World) (h0 : 0 ≤ x) (h1 : x ≤ 18446744073709551615) (c0 : x < 4294967296) (c1 : x < 65536) (c2 : 256 ≤ x) :
    Calls Try.prog 61 #[.int .u64 x] w fun e w' => e = .returned (.int .i64 (wrap64 (8 + wrap64 (Lib.len8 (x / 256))))) ∧ w' = w := by
  have hix := len_ix (x / 256) (by omega) (by omega)
  go_enter Try.func61, Try.ntmps61
  go_wp2
  go_ret
  exact ⟨rfl, rfl⟩

set_option maxRecDepth 1000000 in
set_option maxHeartbeats 1000000 in
theorem len_000 (x : Int) (w : World) (h0 : 0 ≤ x) (h1 : x ≤ 18446744073709551615) (c0 : x < 4294967296) (c1 : x < 65536) (c2 : x < 256) :
    Calls Try.prog 61 #[.int .u64 x] w fun e w' => e = .returned (.int .i64 (wrap64 (wrap64 (Lib.len8 (x))))) ∧ w' = w := by
  have hix := len_ix (x) (by omega) (by omega)
  go_enter Try.func61, Try.ntmps61
  go_wp2
  go_ret
  exact ⟨rfl, rfl⟩

theorem toNat_div (x : Int) (d : Nat) (h0 : 0 ≤ x) : (x / (d : Int)).toNat = x.toNat / d := by
  obtain ⟨n, rfl⟩ := Int.eq_ofNat_of_zero_le h0
  rfl

theorem len_any (x : Int) (w : World) (hx : Hid (0 ≤ x ∧ x ≤ 18446744073709551615)) :
    Calls Try.prog 61 #[.int .u64 x] w fun e w' => e = .returned (.int .i64 (Lib.bitLen x.toNat)) ∧ w' = w := by
  obtain ⟨h0, h1⟩ := hx.out
  by_cases a : 4294967296 ≤ x
  · by_cases b : 65536 ≤ x / 4294967296
    · by_cases c : 256 ≤ x / 4294967296 / 65536
      · refine (len_111 x w h0 h1 (by omega) (by omega) (by omega)).mono ?_
        rintro e w' ⟨rfl, rfl⟩
        refine ⟨ret_i64 (len_end 56 _ _ (by omega) (by omega) (by omega) ?_), rfl⟩
        have e : (x / 4294967296 / 65536 / 256).toNat = x.toNat / 72057594037927936 := by omega
        rw [e]; exact Lib.bitLen_shift56 x.toNat (by omega) (by omega)
      · refine (len_110 x w h0 h1 (by omega) (by omega) (by omega)).mono ?_
        rintro e w' ⟨rfl, rfl⟩
        refine ⟨ret_i64 (len_end 48 _ _ (by omega) (by omega) (by omega) ?_), rfl⟩
        have e : (x / 4294967296 / 65536).toNat = x.toNat / 281474976710656 := by omega
        rw [e]; exact Lib.bitLen_shift48 x.toNat (by omega) (by omega)
    · by_cases c : 256 ≤ x / 4294967296
      · refine (len_101 x w h0 h1 (by omega) (by omega) (by omega)).mono ?_
        rintro e w' ⟨rfl, rfl⟩
        refine ⟨ret_i64 (len_end 40 _ _ (by omega) (by omega) (by omega) ?_), rfl⟩
        have e : (x / 4294967296 / 256).toNat = x.toNat / 1099511627776 := by omega
        rw [e]; exact Lib.bitLen_shift40 x.toNat (by omega) (by omega)
      · refine (len_100 x w h0 h1 (by omega) (by omega) (by omega)).mono ?_
        rintro e w' ⟨rfl, rfl⟩
        refine ⟨ret_i64 (len_end 32 _ _ (by omega) (by omega) (by omega) ?_), rfl⟩
        have e : (x / 4294967296).toNat = x.toNat / 4294967296 := by omega
        rw [e]; exact Lib.bitLen_shift32 x.toNat (by omega) (by omega)
  · by_cases b : 65536 ≤ x
    · by_cases c : 256 ≤ x / 65536
      · refine (len_011 x w h0 h1 (by omega) (by omega) (by omega)).mono ?_
        rintro e w' ⟨rfl, rfl⟩
        refine ⟨ret_i64 (len_end 24 _ _ (by omega) (by omega) (by omega) ?_), rfl⟩
        have e : (x / 65536 / 256).toNat = x.toNat / 16777216 := by omega
        rw [e]; exact Lib.bitLen_shift24 x.toNat (by omega) (by omega)
      · refine (len_010 x w h0 h1 (by omega) (by omega) (by omega)).mono ?_
        rintro e w' ⟨rfl, rfl⟩
        refine ⟨ret_i64 (len_end 16 _ _ (by omega) (by omega) (by omega) ?_), rfl⟩
        have e : (x / 65536).toNat = x.toNat / 65536 := by omega
        rw [e]; exact Lib.bitLen_shift16 x.toNat (by omega) (by omega)
    · by_cases c : 256 ≤ x
      · refine (len_001 x w h0 h1 (by omega) (by omega) (by omega)).mono ?_
        rintro e w' ⟨rfl, rfl⟩
        refine ⟨ret_i64 (len_end 8 _ _ (by omega) (by omega) (by omega) ?_), rfl⟩
        have e : (x / 256).toNat = x.toNat / 256 := by omega
        rw [e]; exact Lib.bitLen_shift8 x.toNat (by omega) (by omega)
      · refine (len_000 x w h0 h1 (by omega) (by omega) (by omega)).mono ?_
        rintro e w' ⟨rfl, rfl⟩
        exact ⟨ret_i64 (len_end0 x h0 (by omega)), rfl⟩
end Go.Proofs.Ytekgedphjbhalaa
