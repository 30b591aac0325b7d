/- The document's signs. -/
import Derived.Test.YtcinlpiidgbnaaaSign
namespace Go.Proofs.Ytcinlpiidgbnaaa
open Go.RowKit

def twosT : List UInt8 := [32, 61, 61, 32, 33, 61, 32, 60, 61, 32, 62, 61, 32, 60, 60, 32, 62, 62, 32, 38, 38, 32, 124, 124, 32]
def onesT : List UInt8 := [40, 41, 123, 125, 91, 93, 44, 59, 61, 60, 62, 43, 45, 42, 47, 37, 38, 124, 94, 33]
theorem twos_at : ∀ j < 8, twosL[j]? = some ((twosT.drop (3 * j + 1)).take 2) := by decide
theorem two_one : ∀ x ∈ twosL, ∃ c d, x = [c, d] ∧ markB c = true := by
  intro x hx
  simp only [twosL, List.mem_cons, List.not_mem_nil, or_false] at hx
  rcases hx with rfl | rfl | rfl | rfl | rfl | rfl | rfl | rfl <;> exact ⟨_, _, rfl, by decide⟩
theorem ones_same (c : UInt8) : markB c = onesT.contains c := by
  unfold markB
  rw [List.contains_eq_mem, List.contains_eq_mem]
  congr 1
  simp only [onesL, onesT, List.mem_cons, List.not_mem_nil, or_false, eq_iff_iff]
  constructor <;> (intro h; rcases h with h | h | h | h | h | h | h | h | h | h | h | h | h | h | h | h | h | h | h | h <;> simp [h])
/-- How many bytes a sign has, or 0. -/
def rsignN (l : List UInt8) : Nat := if twoB (l.take 2) then 2 else match l with | [] => 0 | c :: _ => if markB c then 1 else 0

theorem two_none {x : List UInt8} (h : ∀ i < 8, twosL[i]? ≠ some x) : twoB x = false := by
  unfold twoB
  rw [List.contains_eq_mem]
  simp only [decide_eq_false_iff_not]
  intro hm
  obtain ⟨i, hi, e⟩ := List.getElem_of_mem hm
  exact h i (by simpa [twosL] using hi) (by rw [List.getElem?_eq_getElem hi, e])
theorem two_short {l : List UInt8} (h : l.length < 2) : twoB (l.take 2) = false := by
  match l, h with
  | [], _ => rfl
  | [c], _ => simp [twoB, twosL]
theorem at_two {T : ByteArray} {c j : Nat} (hT : T.data.toList = twosT) (hc : c = 3 * j) (hj : j < 8) : twosL[j]? = some (T.extract (c + 1) (c + 3)).toList := by
  rw [twos_at j hj, Lib.toList_data, Lib.extract_data, hT, hc]
  congr 2; omega
theorem two_hit {T s : ByteArray} {c k : Nat} (hT : T.data.toList = twosT) (h : ∃ j, c = 3 * j ∧ ∀ i < j, k + 2 ≤ s.size → twosL[i]? ≠ some ((s.data.toList.drop k).take 2)) (hc : c < 24)
    (hm : (T.extract (c + 1) (c + 3)).toList = (s.extract k (k + 2)).toList) : rsignN (s.data.toList.drop k) = 2 := by
  obtain ⟨j, hj, _⟩ := h
  have e := at_two hT hj (by omega)
  rw [hm, two_list] at e
  have : twoB ((s.data.toList.drop k).take 2) = true := by
    unfold twoB
    rw [List.contains_eq_mem]
    simp only [decide_eq_true_eq]
    exact List.mem_of_getElem? e
  unfold rsignN
  rw [if_pos this]
theorem two_miss {T s : ByteArray} {c k : Nat} (hT : T.data.toList = twosT) (h : ∃ j, c = 3 * j ∧ ∀ i < j, k + 2 ≤ s.size → twosL[i]? ≠ some ((s.data.toList.drop k).take 2)) (hc : c < 24)
    (hm : ((T.extract (c + 1) (c + 3)).toList == (s.extract k (k + 2)).toList) = false) : ∃ j, c + 3 = 3 * j ∧ ∀ i < j, k + 2 ≤ s.size → twosL[i]? ≠ some ((s.data.toList.drop k).take 2) := by
  obtain ⟨j, hj, hp⟩ := h
  refine ⟨j + 1, by omega, ?_⟩
  intro i hi h2 he
  by_cases hij : i < j
  · exact hp i hij h2 he
  · have : i = j := by omega
    subst this
    rw [at_two hT hj (by omega), ← two_list] at he
    simp at hm he
    exact hm he
theorem one_hit {O s : ByteArray} {d k : Nat} (hO : O.data.toList = onesT) (hk : k < s.size) (hd : d < O.size) (h2 : twoB ((s.data.toList.drop k).take 2) = false) (hm : ((O[d].toNat : Int) == (s[k].toNat : Int)) = true) : rsignN (s.data.toList.drop k) = 1 := by
  have e : O[d] = s[k] := by
    have := u8_eq O[d] s[k]
    have h3 : (O[d] == s[k]) = true := by rw [this]; simpa using hm
    simpa using h3
  have hmk : markB s[k] = true := by
    rw [ones_same, List.contains_eq_mem, ← e]
    simp only [decide_eq_true_eq]
    rw [← hO]
    exact List.mem_of_getElem? (i := d) (by rw [List.getElem?_eq_getElem (by simpa using hd)]; rfl)
  unfold rsignN
  rw [h2, drop_at hk]
  simp [hmk]
theorem one_miss {O s : ByteArray} {d k : Nat} (hO : O.data.toList = onesT) (hk : k < s.size) (hd : d < O.size) (h : ∀ i < d, onesT[i]? ≠ some s[k]) (hm : ((O[d].toNat : Int) == (s[k].toNat : Int)) = false) : ∀ i < d + 1, onesT[i]? ≠ some s[k] := by
  intro i hi he
  by_cases hid : i < d
  · exact h i hid he
  · have : i = d := by omega
    subst this
    rw [← hO, List.getElem?_eq_getElem (by simpa using hd)] at he
    have he2 : O[i] = s[k] := Option.some.inj he
    rw [he2] at hm
    simp at hm
theorem one_none {s : ByteArray} {k : Nat} (hk : k < s.size) (h2 : twoB ((s.data.toList.drop k).take 2) = false) (h : ∀ i < 20, onesT[i]? ≠ some s[k]) : rsignN (s.data.toList.drop k) = 0 := by
  have hmk : markB s[k] = false := by
    rw [ones_same, List.contains_eq_mem]
    simp only [decide_eq_false_iff_not]
    intro hm
    obtain ⟨i, hi, e⟩ := List.getElem_of_mem hm
    exact h i (by simpa [onesT] using hi) (by rw [List.getElem?_eq_getElem hi, e])
  unfold rsignN
  rw [h2, drop_at hk]
  simp [hmk]

set_option maxHeartbeats 400000 in
theorem rsign_any (s : ByteArray) (k : Nat) (w : World) (hs : s.size ≤ 65536) (hk : k < s.size) :
    Calls Try.prog 27 #[.string s, .int .i64 (k : Int)] w fun e w' => e = .returned (.int .i64 (rsignN (s.data.toList.drop k) : Int)) ∧ ∃ n, w' = w.drewN n := by
  go_enter Try.func27, Try.ntmps27
  generalize hT : (ByteArray.mk #[32, 61, 61, 32, 33, 61, 32, 60, 61, 32, 62, 61, 32, 60, 60, 32, 62, 62, 32, 38, 38, 32, 124, 124, 32]) = T
  generalize hO : (ByteArray.mk #[40, 41, 123, 125, 91, 93, 44, 59, 61, 60, 62, 43, 45, 42, 47, 37, 38, 124, 94, 33]) = O
  have hTl : Hid (T.data.toList = twosT) := by subst hT; rfl
  have hOl : Hid (O.data.toList = onesT) := by subst hO; rfl
  have hTs : T.size = 25 := by subst hT; rfl
  have hOs : O.size = 20 := by subst hO; rfl
  clear hT hO
  go_wp2
  go_loopw [5] (fun i wr => ∃ c n : Nat, c ≤ 24 ∧ i = .int .i64 (c : Int) ∧ wr = w.drewN n ∧ Hid (∃ j, c = 3 * j ∧ ∀ i < j, k + 2 ≤ s.size → twosL[i]? ≠ some ((s.data.toList.drop k).take 2))) (fun i _ => 24 - (intOf i).toNat)
  case atStart => exact ⟨0, 0, by omega, rfl, rfl, 0, rfl, fun i hi => by omega⟩
  case round =>
    obtain ⟨c, n, hc, rfl, rfl, hn⟩ := hrel
    by_cases h2 : k + 2 ≤ s.size
    · have h2' : (k : Int) + 2 ≤ s.size := by omega
      by_cases hc24 : c < 24
      · have hc3 : c + 3 ≤ 24 := by obtain ⟨j, hj, _⟩ := hn.out; omega
        have hc4 : (c : Int) + 2 < 25 := by omega
        by_cases hm : (T.extract (c + 1) (c + 3)).toList = (s.extract k (k + 2)).toList
        · have hR : Hid (rsignN (s.data.toList.drop k) = 2) := two_hit hTl.out hn.out hc24 hm
          go_wp2_with fail
          go_quiet (fail)
          go_wp2
          go_ret
          exact ⟨ret_int (by rw [hR.out]; rfl), _, World.drewN_drewN _ _ _⟩
        · have hm' : ((T.extract (c + 1) (c + 3)).toList == (s.extract k (k + 2)).toList) = false := by simpa using hm
          have hR : Hid (∃ j, c + 3 = 3 * j ∧ ∀ i < j, k + 2 ≤ s.size → twosL[i]? ≠ some ((s.data.toList.drop k).take 2)) := two_miss hTl.out hn.out hc24 hm'
          clear hm hn
          go_wp2_with fail
          go_quiet (fail)
          go_wp2
          go_roundw
          case rel => exact ⟨c + 3, _, by omega, by go_num, rfl, hR⟩
          case measure => simp [intOf]; omega
      · have H2 : Hid (twoB ((s.data.toList.drop k).take 2) = false) := by
          obtain ⟨j, hj, hp⟩ := hn.out
          exact two_none (fun i hi => hp i (by omega) h2)
        have hc4 : ¬ (c : Int) + 2 < 25 := by omega
        clear hn
        go_wp2
        go_loopw [6] (fun i wr => ∃ c n : Nat, c ≤ 20 ∧ i = .int .i64 (c : Int) ∧ wr = w.drewN n ∧ Hid (∀ i < c, onesT[i]? ≠ some s[k])) (fun i _ => 20 - (intOf i).toNat)
        case atStart => exact ⟨0, _, by omega, rfl, rfl, fun i hi => by omega⟩
        case round =>
          obtain ⟨d, m, hd, rfl, rfl, ho⟩ := hrel
          by_cases hd20 : d < 20
          · have hd20' : (d : Int) < 20 := by omega
            have hk' : (k : Int) < s.size := by omega
            have hdO : d < O.size := by omega
            by_cases hm : ((O[d].toNat : Int) == (s[k].toNat : Int)) = true
            · go_wp2_with fail
              go_quiet (fail)
              go_wp2
              go_ret
              exact ⟨ret_int (by rw [one_hit hOl.out hk hdO H2.out hm]; rfl), _, World.drewN_drewN _ _ _⟩
            · have hm' : ((O[d].toNat : Int) == (s[k].toNat : Int)) = false := by simpa using hm
              have hO2 : Hid (∀ i < d + 1, onesT[i]? ≠ some s[k]) := one_miss hOl.out hk hdO ho.out hm'
              clear hm ho
              go_wp2_with fail
              go_quiet (fail)
              go_wp2
              go_roundw
              case rel => exact ⟨d + 1, _, by omega, by go_num, rfl, hO2⟩
              case measure => simp [intOf]; omega
          · have hd' : Hid (d = 20) := by show d = 20; omega
            go_wp2
            go_ret
            exact ⟨ret_int (by rw [one_none hk H2.out (by have := ho.out; rwa [hd'.out] at this)]; rfl), _, rfl⟩
    · have h2' : ¬ (k : Int) + 2 ≤ s.size := by omega
      have H2 : Hid (twoB ((s.data.toList.drop k).take 2) = false) := two_short (by simp; omega)
      clear hn
      go_wp2
      go_loopw [6] (fun i wr => ∃ c n : Nat, c ≤ 20 ∧ i = .int .i64 (c : Int) ∧ wr = w.drewN n ∧ Hid (∀ i < c, onesT[i]? ≠ some s[k])) (fun i _ => 20 - (intOf i).toNat)
      case atStart => exact ⟨0, _, by omega, rfl, rfl, fun i hi => by omega⟩
      case round =>
        obtain ⟨d, m, hd, rfl, rfl, ho⟩ := hrel
        by_cases hd20 : d < 20
        · have hd20' : (d : Int) < 20 := by omega
          have hk' : (k : Int) < s.size := by omega
          have hdO : d < O.size := by omega
          by_cases hm : ((O[d].toNat : Int) == (s[k].toNat : Int)) = true
          · go_wp2_with fail
            go_quiet (fail)
            go_wp2
            go_ret
            exact ⟨ret_int (by rw [one_hit hOl.out hk hdO H2.out hm]; rfl), _, World.drewN_drewN _ _ _⟩
          · have hm' : ((O[d].toNat : Int) == (s[k].toNat : Int)) = false := by simpa using hm
            have hO2 : Hid (∀ i < d + 1, onesT[i]? ≠ some s[k]) := one_miss hOl.out hk hdO ho.out hm'
            clear hm ho
            go_wp2_with fail
            go_quiet (fail)
            go_wp2
            go_roundw
            case rel => exact ⟨d + 1, _, by omega, by go_num, rfl, hO2⟩
            case measure => simp [intOf]; omega
        · have hd' : Hid (d = 20) := by show d = 20; omega
          go_wp2
          go_ret
          exact ⟨ret_int (by rw [one_none hk H2.out (by have := ho.out; rwa [hd'.out] at this)]; rfl), _, rfl⟩
end Go.Proofs.Ytcinlpiidgbnaaa
