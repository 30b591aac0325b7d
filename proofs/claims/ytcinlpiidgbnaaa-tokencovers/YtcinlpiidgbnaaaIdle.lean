/- idle says of blanks and remarks that they are. -/
import Derived.Test.YtcinlpiidgbnaaaRRow
import Derived.Test.YtcinlpiidgbnaaaFloat
import Derived.Test.YtcinlpiidgbnaaaCov
namespace Go.Proofs.Ytcinlpiidgbnaaa
open Go.RowKit

theorem idle_slash {s : ByteArray} {k : Nat} (h : k < s.size) (hb : blankB s[k] = false) (hs : k + skipL false (s.data.toList.drop k) = s.size) : hasL s.data.toList k 47 = true ∧ hasL s.data.toList (k + 1) 47 = true := by
  by_cases h2 : hasL s.data.toList k 47 = true ∧ hasL s.data.toList (k + 1) 47 = true
  · exact h2
  · rw [skip_none h hb h2] at hs; omega

set_option maxHeartbeats 1000000 in
theorem idle_any (s : ByteArray) (w : World) (hs : s.size ≤ 65536) (hi : idleP s.data.toList) :
    Calls Try.prog 15 #[.string s] w fun e w' => e = .returned (.bool true) ∧ w' = w := by
  have HI : Hid (0 + skipL false (s.data.toList.drop 0) = s.size) := by
    show _ = _
    have : s.data.toList.length = s.size := by simp
    unfold idleP at hi
    rw [List.drop_zero, hi]; omega
  clear hi
  go_enter Try.func15, Try.ntmps15
  go_wp2
  go_loop [3] (fun i => ∃ k : Nat, k ≤ s.size + 1 ∧ i = .int .i64 k ∧ Hid (k < s.size → k + skipL false (s.data.toList.drop k) = s.size)) (fun i => s.size + 1 - (intOf i).toNat)
  case atStart => exact ⟨0, Nat.zero_le _, rfl, fun _ => HI.out⟩
  case round =>
    obtain ⟨k, hk, rfl, hr⟩ := hrel
    by_cases hlt : k < s.size
    · have hlt' : (k : Int) < s.size := by omega
      have hsk : Hid (k + skipL false (s.data.toList.drop k) = s.size) := hr.out hlt
      clear hr
      cases hb : blankB s[k]
      · have h2 := idle_slash hlt hb hsk.out
        have hl2 := has_lt h2.2
        have hl2' : (k : Int) + 1 < s.size := by omega
        have e1 : (s[k].toNat : Int) = 47 := by have := h2.1; rw [hasL_at 47 hlt] at this; simpa using this
        have e2 : (s[k + 1].toNat : Int) = 47 := by have := h2.2; rw [hasL_at 47 hl2] at this; simpa using this
        have hov := skip_over h2.1 h2.2
        have hLe : k + rowL lineB (s.data.toList.drop k) ≤ s.size := by
          have := rowL_le lineB (s.data.toList.drop k)
          rw [show (s.data.toList.drop k).length = s.size - k by simp] at this
          omega
        obtain ⟨k2, hk2⟩ : ∃ k2, k + rowL lineB (s.data.toList.drop k) = k2 := ⟨_, rfl⟩
        have HK2 : Hid (k + rowL lineB (s.data.toList.drop k) = k2) := hk2
        rw [hk2] at hov hLe
        have HR2 : Hid (k2 + skipL false (s.data.toList.drop k2) = s.size) := hov.1.symm.trans hsk.out
        have hkk : k < k2 := by omega
        clear hov hk2 h2 hb
        go_wp2
        go_loop [3] (fun i => ∃ j : Nat, k ≤ j ∧ j ≤ s.size ∧ i = .int .i64 j ∧ Hid (j + rowL lineB (s.data.toList.drop j) = k2)) (fun i => s.size - (intOf i).toNat)
        case atStart => exact ⟨k, Nat.le_refl _, by omega, rfl, HK2⟩
        case round =>
          obtain ⟨j, hkj, hjs, rfl, hj⟩ := hrel
          by_cases hjl : j < s.size
          · have hjl' : (j : Int) < s.size := by omega
            by_cases h10 : ((s[j].toNat : Int) == 10) = true
            · have h10' : ((s[j].toNat : Int)) = 10 := by simpa using h10
              have hj2 : Hid (j + 1 < s.size → j + 1 + skipL false (s.data.toList.drop (j + 1)) = s.size) := by
                intro _
                have h := hj.out
                rw [row_stop hjl (by have := u8_eq s[j] 10; simp only [lineB, bne]; rw [this]; simpa using h10)] at h
                have h3 := HR2.out
                rw [← h, skip_step hjl (by rw [blankB_iff]; simp [h10'])] at h3
                exact h3
              clear h10 hj
              go_wp2
              go_round
              case rel => exact ⟨j + 1, by omega, by go_num, hj2⟩
              case measure => simp [intOf]; omega
            · have h10' : ((s[j].toNat : Int) == 10) = false := by simpa using h10
              have hj2 : Hid (j + 1 + rowL lineB (s.data.toList.drop (j + 1)) = k2) := by
                have h := hj.out
                rw [row_step hjl (by have := u8_eq s[j] 10; simp only [lineB, bne]; rw [this]; simpa using h10)] at h
                exact h
              clear h10 hj
              go_wp2
              go_round
              case rel => exact ⟨j + 1, by omega, by omega, by go_num, hj2⟩
              case measure => simp [intOf]; omega
          · have hjl' : ¬ (j : Int) < s.size := by omega
            clear hj
            go_wp2
            go_round
            case rel => exact ⟨j + 1, by omega, by go_num, fun h => by omega⟩
            case measure => simp [intOf]; omega
      · have hN : Hid (k + 1 < s.size → k + 1 + skipL false (s.data.toList.drop (k + 1)) = s.size) := fun _ => (skip_step hlt hb).symm.trans hsk.out
        have hbv : (s[k].toNat : Int) = 32 ∨ (s[k].toNat : Int) = 9 ∨ (s[k].toNat : Int) = 10 ∨ (s[k].toNat : Int) = 13 := by rw [blankB_iff] at hb; simpa using hb
        clear hb
        rcases hbv with h | h | h | h
        all_goals
          go_wp2
          go_round
          case rel => exact ⟨k + 1, by omega, by go_num, hN⟩
          case measure => simp [intOf]; omega
    · have hlt' : ¬ (k : Int) < s.size := by omega
      go_wp2
      go_ret
      exact ⟨rfl, rfl⟩
end Go.Proofs.Ytcinlpiidgbnaaa
