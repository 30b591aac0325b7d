/- The document's rows of bytes and gaps. -/
import Derived.Test.YtcinlpiidgbnaaaRow
namespace Go.Proofs.Ytcinlpiidgbnaaa
open Go.RowKit

def rowB (b : Bool) : UInt8 → Bool := if b then ldB else digitB
theorem rowB_true : rowB true = ldB := rfl
theorem rowB_false : rowB false = digitB := rfl

set_option maxHeartbeats 400000 in
theorem rrow_any (s : ByteArray) (i0 : Int) (k0 : Nat) (hi0 : i0 = (k0 : Int)) (b : Bool) (w : World) (hs : s.size ≤ 65536) (hk0 : k0 ≤ s.size) :
    Calls Try.prog 24 #[.string s, .int .i64 i0, .bool b] w fun e w' => e = .returned (.int .i64 ((k0 + rowL (rowB b) (s.data.toList.drop k0) : Nat) : Int)) ∧ w' = w := by
  subst hi0
  go_enter Try.func24, Try.ntmps24
  go_wp2
  go_loop [1] (fun i => ∃ k : Nat, k ≤ s.size ∧ i = .int .i64 k ∧ Hid (k0 + rowL (rowB b) (s.data.toList.drop k0) = k + rowL (rowB b) (s.data.toList.drop k))) (fun i => s.size - (intOf i).toNat)
  case atStart => exact ⟨k0, hk0, rfl, rfl⟩
  case round =>
    obtain ⟨k, hk, rfl, hr⟩ := hrel
    by_cases hlt : k < s.size
    · have hlt' : (k : Int) < s.size := by omega
      cases hp : rowB b s[k]
      · have hR : Hid (rowB b s[k] = false) := hp
        cases b
        · have hd : digitB s[k] = false := hp
          clear hp
          go_wp2_with (first | (go_at_call 25; refine (digit_any _ _).mono ?_; rintro e w' ⟨rfl, rfl⟩) | (go_at_call 23; refine (letter_any _ _).mono ?_; rintro e w' ⟨rfl, rfl⟩))
          go_ret
          exact ⟨ret_int (by rw [hr.out, row_stop hlt hR.out]), rfl⟩
        · have hp' : (letterB s[k] || digitB s[k]) = false := hp
          have hl : letterB s[k] = false := by simp at hp'; exact hp'.1
          have hd : digitB s[k] = false := by simp at hp'; exact hp'.2
          clear hp hp'
          go_wp2_with (first | (go_at_call 25; refine (digit_any _ _).mono ?_; rintro e w' ⟨rfl, rfl⟩) | (go_at_call 23; refine (letter_any _ _).mono ?_; rintro e w' ⟨rfl, rfl⟩))
          go_ret
          exact ⟨ret_int (by rw [hr.out, row_stop hlt hR.out]), rfl⟩
      · have hR : Hid (rowB b s[k] = true) := hp
        cases b
        · have hd : digitB s[k] = true := hp
          clear hp
          go_wp2_with (first | (go_at_call 25; refine (digit_any _ _).mono ?_; rintro e w' ⟨rfl, rfl⟩) | (go_at_call 23; refine (letter_any _ _).mono ?_; rintro e w' ⟨rfl, rfl⟩))
          go_round
          case rel => exact ⟨k + 1, by omega, by go_num, hr.out.trans (row_step hlt hR.out)⟩
          case measure => simp [intOf]; omega
        · have hp' : (letterB s[k] || digitB s[k]) = true := hp
          cases hd : digitB s[k]
          · have hl : letterB s[k] = true := by rw [hd] at hp'; simpa using hp'
            clear hp hp'
            go_wp2_with (first | (go_at_call 25; refine (digit_any _ _).mono ?_; rintro e w' ⟨rfl, rfl⟩) | (go_at_call 23; refine (letter_any _ _).mono ?_; rintro e w' ⟨rfl, rfl⟩))
            go_round
            case rel => exact ⟨k + 1, by omega, by go_num, hr.out.trans (row_step hlt hR.out)⟩
            case measure => simp [intOf]; omega
          · clear hp hp'
            go_wp2_with (first | (go_at_call 25; refine (digit_any _ _).mono ?_; rintro e w' ⟨rfl, rfl⟩) | (go_at_call 23; refine (letter_any _ _).mono ?_; rintro e w' ⟨rfl, rfl⟩))
            go_round
            case rel => exact ⟨k + 1, by omega, by go_num, hr.out.trans (row_step hlt hR.out)⟩
            case measure => simp [intOf]; omega
    · have hlt' : ¬ (k : Int) < s.size := by omega
      go_wp2
      go_ret
      exact ⟨ret_int (by have h := hr.out; rw [row_end hlt] at h; omega), rfl⟩

theorem skip_step {s : ByteArray} {k : Nat} (h : k < s.size) (hb : blankB s[k] = true) : k + skipL false (s.data.toList.drop k) = k + 1 + skipL false (s.data.toList.drop (k + 1)) := by
  rw [drop_at h, skip_blank _ hb]; omega
theorem skip_none {s : ByteArray} {k : Nat} (h : k < s.size) (hb : blankB s[k] = false) (h2 : ¬ (hasL s.data.toList k 47 = true ∧ hasL s.data.toList (k + 1) 47 = true)) : k + skipL false (s.data.toList.drop k) = k := by
  rw [skip_stop]
  · rfl
  · intro c hc
    rw [drop_at h] at hc; simp at hc; subst hc; exact hb
  · intro ⟨a, b⟩
    rw [List.getElem?_drop] at a b
    exact h2 ⟨by simpa [hasL] using a, by simpa [hasL] using b⟩
theorem skip_over {s : ByteArray} {k : Nat} (h1 : hasL s.data.toList k 47 = true) (h2 : hasL s.data.toList (k + 1) 47 = true) :
    k + skipL false (s.data.toList.drop k) = k + rowL lineB (s.data.toList.drop k) + skipL false (s.data.toList.drop (k + rowL lineB (s.data.toList.drop k))) ∧ 0 < rowL lineB (s.data.toList.drop k) := by
  have e1 : s.data.toList[k]? = some 47 := by simpa [hasL] using h1
  have e2 : s.data.toList[k + 1]? = some 47 := by simpa [hasL] using h2
  have e : s.data.toList.drop k = 47 :: 47 :: s.data.toList.drop (k + 2) := by
    obtain ⟨a, ea⟩ := List.getElem?_eq_some_iff.1 e1
    obtain ⟨b, eb⟩ := List.getElem?_eq_some_iff.1 e2
    rw [List.drop_eq_getElem_cons a, ea, List.drop_eq_getElem_cons b, eb]
  have := skip_remark (s.data.toList.drop (k + 2))
  rw [← e, List.drop_drop] at this
  refine ⟨by omega, ?_⟩
  rw [e, rowL_yes _ (by decide)]; omega
theorem skip_off {s : ByteArray} {k : Nat} (h : ¬ k < s.size) : k + skipL false (s.data.toList.drop k) = k := by rw [drop_end h]; rfl

set_option maxHeartbeats 400000 in
theorem skip_any (s : ByteArray) (i0 : Int) (k0 : Nat) (hi0 : i0 = (k0 : Int)) (w : World) (hs : s.size ≤ 65536) (hk0 : k0 ≤ s.size) :
    Calls Try.prog 22 #[.string s, .int .i64 i0] w fun e w' => e = .returned (.int .i64 ((k0 + skipL false (s.data.toList.drop k0) : Nat) : Int)) ∧ w' = w := by
  subst hi0
  obtain ⟨R, hR⟩ : ∃ R, k0 + skipL false (s.data.toList.drop k0) = R := ⟨_, rfl⟩
  rw [hR]
  have HR : Hid _ := hR
  clear hR
  go_enter Try.func22, Try.ntmps22
  go_wp2
  go_loop [1] (fun i => ∃ k : Nat, k ≤ s.size ∧ i = .int .i64 k ∧ Hid (k + skipL false (s.data.toList.drop k) = R)) (fun i => s.size - (intOf i).toNat)
  case atStart => exact ⟨k0, hk0, rfl, HR⟩
  case round =>
    obtain ⟨k, hk, rfl, hr⟩ := hrel
    by_cases hlt : k < s.size
    · have hlt' : (k : Int) < s.size := by omega
      cases hb : blankB s[k]
      · by_cases h1 : ((s[k].toNat : Int) == 47) = true
        · by_cases hl2 : k + 1 < s.size
          · have hl2' : (k : Int) + 1 < s.size := by omega
            by_cases h2 : ((s[k + 1].toNat : Int) == 47) = true
            · have h1' : hasL s.data.toList k 47 = true := by rw [hasL_at 47 hlt]; simpa using h1
              have h2' : hasL s.data.toList (k + 1) 47 = true := by rw [hasL_at 47 hl2]; simpa using h2
              have hov := skip_over h1' h2'
              have hLe : k + rowL lineB (s.data.toList.drop k) ≤ s.size := by
                have := rowL_le lineB (s.data.toList.drop k)
                rw [show (s.data.toList.drop k).length = s.size - k by simp] at this
                omega
              obtain ⟨k2, hk2⟩ : ∃ k2, k + rowL lineB (s.data.toList.drop k) = k2 := ⟨_, rfl⟩
              have HK2 : Hid (k + rowL lineB (s.data.toList.drop k) = k2) := hk2
              rw [hk2] at hov hLe
              have HR2 : Hid (k2 + skipL false (s.data.toList.drop k2) = R) := hov.1.symm.trans hr.out
              have hkk : k < k2 := by omega
              clear hov hk2 h1' h2'
              go_wp2_with (go_at_call 35; refine (blank_any _ _).mono ?_; rintro e w' ⟨rfl, rfl⟩)
              go_loop [1] (fun i => ∃ j : Nat, k ≤ j ∧ j ≤ s.size ∧ i = .int .i64 j ∧ Hid (j + rowL lineB (s.data.toList.drop j) = k2)) (fun i => s.size - (intOf i).toNat)
              case atStart => exact ⟨k, Nat.le_refl _, hk, rfl, HK2⟩
              case round =>
                obtain ⟨j, hkj, hjs, rfl, hj⟩ := hrel
                by_cases hjl : j < s.size
                · have hjl' : (j : Int) < s.size := by omega
                  by_cases h10 : ((s[j].toNat : Int) == 10) = true
                  · have hj2 : Hid (j = k2) := by
                      have h := hj.out
                      rw [row_stop hjl (by have := u8_eq s[j] 10; simp only [lineB, bne]; rw [this]; simpa using h10)] at h
                      exact h
                    have h10' : ((s[j].toNat : Int)) = 10 := by simpa using h10
                    clear h10 hj
                    go_wp2
                    go_round
                    case rel => exact ⟨k2, hLe, by rw [← hj2.out], HR2⟩
                    case measure => have := hj2.out; simp [intOf]; omega
                  · have h10' : ((s[j].toNat : Int) == 10) = false := by simpa using h10
                    have hj2 : Hid (j + 1 + rowL lineB (s.data.toList.drop (j + 1)) = k2) := by
                      have h := hj.out
                      rw [row_step hjl (by have := u8_eq s[j] 10; simp only [lineB, bne]; rw [this]; simpa using h10)] at h
                      exact h
                    clear h10 hj
                    go_wp2
                    go_round
                    case rel => exact ⟨j + 1, by omega, by omega, by go_num, hj2⟩
                    case measure => simp [intOf]; omega
                · have hjl' : ¬ (j : Int) < s.size := by omega
                  have hj2 : Hid (j = k2) := by have h := hj.out; rw [row_end hjl] at h; exact h
                  clear hj
                  go_wp2
                  go_round
                  case rel => exact ⟨k2, hLe, by rw [← hj2.out], HR2⟩
                  case measure => have := hj2.out; simp [intOf]; omega
            · have h2' : ((s[k + 1].toNat : Int) == 47) = false := by simpa using h2
              have hN : Hid (k = R) := by
                have h := hr.out
                rw [skip_none hlt hb (fun h => by have := h.2; rw [hasL_at 47 hl2] at this; simp at this h2; exact h2 this)] at h
                exact h
              clear h2
              go_wp2_with (go_at_call 35; refine (blank_any _ _).mono ?_; rintro e w' ⟨rfl, rfl⟩)
              go_ret
              exact ⟨ret_int (by rw [hN.out]), rfl⟩
          · have hl2' : ¬ (k : Int) + 1 < s.size := by omega
            have hN : Hid (k = R) := by
              have h := hr.out
              rw [skip_none hlt hb (fun h => by have := h.2; rw [hasL_off 47 hl2] at this; cases this)] at h
              exact h
            go_wp2_with (go_at_call 35; refine (blank_any _ _).mono ?_; rintro e w' ⟨rfl, rfl⟩)
            go_ret
            exact ⟨ret_int (by rw [hN.out]), rfl⟩
        · have h1' : ((s[k].toNat : Int) == 47) = false := by simpa using h1
          have hN : Hid (k = R) := by
            have h := hr.out
            rw [skip_none hlt hb (fun h => by have := h.1; rw [hasL_at 47 hlt] at this; simp at this h1; exact h1 this)] at h
            exact h
          clear h1
          go_wp2_with (go_at_call 35; refine (blank_any _ _).mono ?_; rintro e w' ⟨rfl, rfl⟩)
          go_ret
          exact ⟨ret_int (by rw [hN.out]), rfl⟩
      · have hN : Hid (k + 1 + skipL false (s.data.toList.drop (k + 1)) = R) := (skip_step hlt hb).symm.trans hr.out
        go_wp2_with (go_at_call 35; refine (blank_any _ _).mono ?_; rintro e w' ⟨rfl, rfl⟩)
        go_round
        case rel => exact ⟨k + 1, by omega, by go_num, hN⟩
        case measure => simp [intOf]; omega
    · have hlt' : ¬ (k : Int) < s.size := by omega
      go_wp2
      go_ret
      exact ⟨ret_int (by have h := hr.out; rw [skip_off hlt] at h; omega), rfl⟩
end Go.Proofs.Ytcinlpiidgbnaaa
