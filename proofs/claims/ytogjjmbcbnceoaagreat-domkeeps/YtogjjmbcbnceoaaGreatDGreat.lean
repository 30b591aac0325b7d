/- Whether a net is too great to be looked at. -/
import Derived.Test.YtogjjmbcbnceoaaGreatDMay
namespace Go.Proofs.YtogjjmbcbnceoaaGreat
open Go.RowKit

theorem lens_take {rows : List (List Int)} {i : Nat} (h : i < rows.length) : lensA (rows.take (i + 1)) = lensA (rows.take i) + (rows.getD i []).length := by
  unfold lensA
  rw [List.take_add_one, List.map_append, List.sum_append, List.getElem?_eq_getElem h, getD_of h]
  congr 1
theorem lens_take_le (rows : List (List Int)) (i : Nat) : lensA (rows.take i) ≤ lensA rows := by
  have : lensA rows = lensA (rows.take i) + lensA (rows.drop i) := by
    unfold lensA
    rw [← List.sum_append, ← List.map_append, List.take_append_drop]
  omega
def greatB (nx : List (List Int)) : Bool := decide (300 < nx.length ∨ 3000 < nx.length + lensA nx)
theorem greatB_no {nx : List (List Int)} (h : greatB nx = false) : nx.length ≤ 300 ∧ lensA nx ≤ 3000 := by
  unfold greatB at h
  have := of_decide_eq_false h
  omega
set_option maxRecDepth 100000 in
set_option maxHeartbeats 1000000 in
theorem great_any (nx : List (List Int)) (v : Value) (w : World) (h : NetAt w v nx) : Calls Tryz.prog 5 #[v] w fun e w' => e = .returned (.bool (greatB nx)) ∧ w' = w := by
  obtain ⟨a, c, rfl, hll⟩ := h.form
  have HI : Hid (∀ i, i < nx.length → _) := fun i hi => h.get (i := i) hi
  have HL : Hid (∀ i, i < nx.length → _) := fun i hi => lens_take (rows := nx) (i := i) hi
  have HE : Hid (lensA (nx.take nx.length) = lensA nx) := by show _ = _; rw [List.take_length]
  have HLE : Hid (∀ i, lensA (nx.take i) ≤ lensA nx) := fun i => lens_take_le nx i
  have HR : Hid (greatB nx = decide (300 < nx.length ∨ 3000 < nx.length + lensA nx)) := rfl
  obtain ⟨R, hR⟩ : ∃ R, R = greatB nx := ⟨_, rfl⟩
  rw [← hR] at HR
  rw [← hR]
  clear hR
  obtain ⟨n, hn⟩ : ∃ n, n = nx.length := ⟨_, rfl⟩
  rw [← hn] at HI HL HE hll HR
  rw [← hn]
  clear h hn
  go_enter Tryz.func5, Tryz.ntmps5
  go_wp2
  go_loopw [3, 4] (fun vs vi wr => ∃ (i : Nat) (s : Nat), vi = .int .i64 i ∧ i ≤ n ∧ vs = .int .i64 (s : Int) ∧ s ≤ 281474976710656 ∧ Hid (s = n + lensA (nx.take i) ∧ wr = w)) (fun _ vi _ => n - (intOf vi).toNat)
  case atStart => exact ⟨0, n, rfl, by omega, rfl, by omega, by simp [lensA], rfl⟩
  case round =>
    obtain ⟨i, s, rfl, hi, rfl, hsb, hr⟩ := hrel
    have hw := hr.out.2
    subst hw
    by_cases hin : i < n
    · have hin' : (i : Int) < n := by omega
      by_cases hs : s ≤ 3000
      · have hs' : (s : Int) ≤ 3000 := by omega
        obtain ⟨g, o, ra, rc, rfl, hg, c0, hI⟩ := HI.out i hin
        obtain ⟨_, _, _, hml⟩ := hI.form
        have HX : Hid _ := HL.out i hin
        clear HI HL HE hI
        generalize (nx.getD i []).length = m at *
        go_wp2
        go_roundw
        case rel => exact ⟨i + 1, s + m, by first | rfl | (congr 1; omega), by omega, by first | rfl | (congr 1; omega), by omega, by rw [HX.out]; have := hr.out.1; omega, by first | rfl | trivial⟩
        case measure => simp [intOf]; omega
      · have hs' : ¬ (s : Int) ≤ 3000 := by omega
        have hs2 : (3000 : Int) < s := by omega
        have HT : Hid (R = true) := by show R = true; rw [HR.out]; exact decide_eq_true (.inr (by have := hr.out.1; have := HLE.out i; omega))
        clear HI HL HE
        by_cases h3 : (300 : Int) < n
        · go_wp2
          go_ret
          exact ⟨ret_bool HT.out.symm, rfl⟩
        · go_wp2
          go_ret
          exact ⟨ret_bool HT.out.symm, rfl⟩
    · obtain rfl : i = n := by omega
      have HX : Hid (s = i + lensA nx) := by show s = _; rw [hr.out.1, HE.out]
      clear HI HL HE
      by_cases h3 : (300 : Int) < i
      · have HT : Hid (R = true) := by show R = true; rw [HR.out]; exact decide_eq_true (.inl (by omega))
        go_wp2
        go_ret
        exact ⟨ret_bool HT.out.symm, rfl⟩
      · by_cases h4 : (3000 : Int) < s
        · have HT : Hid (R = true) := by show R = true; rw [HR.out]; exact decide_eq_true (.inr (by have := HX.out; omega))
          go_wp2
          go_ret
          exact ⟨ret_bool HT.out.symm, rfl⟩
        · have HT : Hid (R = false) := by show R = false; rw [HR.out]; exact decide_eq_false (by have := HX.out; omega)
          go_wp2
          go_ret
          exact ⟨ret_bool HT.out.symm, rfl⟩
end Go.Proofs.YtogjjmbcbnceoaaGreat
