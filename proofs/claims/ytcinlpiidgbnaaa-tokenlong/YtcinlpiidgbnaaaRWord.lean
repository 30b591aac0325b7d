/- The document's Word: a search in one text. -/
import Derived.Test.YtcinlpiidgbnaaaWord
namespace Go.Proofs.Ytcinlpiidgbnaaa
open Go.RowKit

def textL : List UInt8 := [32] ++ wordsL.flatMap fun x => x ++ [32]
theorem text_len : textL.length = 83 := by decide
/-- At place j of the text the row l stands, a blank ahead of it and a blank behind. -/
def meets (l : List UInt8) (j : Nat) : Bool := decide (j + l.length + 2 ≤ 83) && textL[j]? == some 32 && (textL.drop (j + 1)).take l.length == l && textL[j + 1 + l.length]? == some 32
def okAt (j n : Nat) : Bool := !(textL[j]? == some 32) || !(decide (j + n + 2 ≤ 83)) || !(textL[j + 1 + n]? == some 32) || ((textL.drop (j + 1)).take n).contains 32 || wordB ((textL.drop (j + 1)).take n) == decide (0 < n)
set_option maxRecDepth 100000 in
theorem meets_chk : ((List.range 82).all fun j => !(textL[j]? == some 32) || (List.range 82).all fun n => okAt j n) = true := by decide +kernel
theorem meets_all (j : Nat) (hj : j < 82) (h1 : textL[j]? = some 32) (n : Nat) (hn : n < 82) (h2 : j + n + 2 ≤ 83) (h3 : textL[j + 1 + n]? = some 32) (h4 : ((textL.drop (j + 1)).take n).contains 32 = false) : wordB ((textL.drop (j + 1)).take n) = decide (0 < n) := by
  have h := List.all_eq_true.1 meets_chk j (List.mem_range.2 hj)
  rw [h1] at h
  simp only [BEq.rfl, Bool.not_true, Bool.false_or] at h
  have h' := List.all_eq_true.1 h n (List.mem_range.2 hn)
  unfold okAt at h'
  rw [h1, h3, h4] at h'
  simpa [h2] using h'
theorem word_meets : ∀ x ∈ wordsL, ∃ j < 82, meets x j = true := by decide +kernel
theorem word_blank : ∀ x ∈ wordsL, x.contains 32 = false := by decide
theorem blank_word {l : List UInt8} (h : l.contains 32 = true) : wordB l = false := by
  unfold wordB
  rw [List.contains_eq_mem]
  simp only [decide_eq_false_iff_not]
  intro hm
  have := word_blank _ hm
  rw [h] at this; cases this
theorem meets_word {l : List UInt8} (h : l.contains 32 = false) {j : Nat} (hm : meets l j = true) : wordB l = decide (0 < l.length) := by
  simp only [meets, Bool.and_eq_true, decide_eq_true_eq, beq_iff_eq] at hm
  obtain ⟨⟨⟨h1, h2⟩, h3⟩, h4⟩ := hm
  have := meets_all j (by omega) h2 l.length (by omega) h1 h4
  rw [h3] at this
  exact this h
theorem none_word {l : List UInt8} (h : ∀ j < 82, meets l j = false) : wordB l = false := by
  unfold wordB
  rw [List.contains_eq_mem]
  simp only [decide_eq_false_iff_not]
  intro hm
  obtain ⟨j, hj, e⟩ := word_meets _ hm
  rw [h j hj] at e; cases e

theorem byte_some {s : ByteArray} {k : Nat} (h : k < s.size) : s.data.toList[k]? = some s[k] := by
  rw [List.getElem?_eq_getElem (by simpa using h)]; rfl
theorem byte_is {s : ByteArray} {k : Nat} (h : k < s.size) (c : UInt8) : (s.data.toList[k]? == some c) = ((s[k].toNat : Int) == (c.toNat : Int)) := by
  rw [byte_some h]
  show (s[k] == c) = _
  rw [u8_eq]; rfl
theorem meets_eq {s T : ByteArray} {j : Nat} (hT : T.data.toList = textL) (h1 : j < T.size) (h2 : j + 1 + s.size < T.size) (hb : j + s.size + 2 ≤ 83) :
    meets s.data.toList j = (((T[j].toNat : Int) == 32) && decide ((T.extract (j + 1) (j + 1 + s.size)).toList = s.toList) && ((T[j + 1 + s.size].toNat : Int) == 32)) := by
  have e0 : s.data.toList.length = s.size := by simp
  have e1 := byte_is h1 32
  have e2 := byte_is h2 32
  rw [hT] at e1 e2
  have e3 : (T.extract (j + 1) (j + 1 + s.size)).toList = (textL.drop (j + 1)).take s.size := by
    rw [Lib.toList_data, Lib.extract_data, hT]; congr 1; omega
  unfold meets
  rw [e0, e1, e2, e3, Lib.toList_data]
  have e4 : ((textL.drop (j + 1)).take s.size == s.data.toList) = decide ((textL.drop (j + 1)).take s.size = s.data.toList) := by rw [Bool.eq_iff_iff]; simp
  rw [e4]
  simp [hb]
theorem take_snoc (s : ByteArray) (k : Nat) (h : k < s.size) : s.data.toList.take (k + 1) = s.data.toList.take k ++ [s[k]] := by
  rw [List.take_succ_eq_append_getElem (by simpa using h)]; rfl
theorem take_all {s : ByteArray} {k : Nat} (h : k = s.size) : s.data.toList.take k = s.data.toList := List.take_of_length_le (by simp; omega)
theorem has_blank {s : ByteArray} {k : Nat} (h : k < s.size) (e : ((s[k].toNat : Int) == 32) = true) : wordB s.data.toList = false := by
  refine blank_word ?_
  have e2 : s[k] = 32 := by
    have := u8_eq s[k] 32
    rw [show ((32 : UInt8).toNat : Int) = 32 from rfl] at this
    have h3 : (s[k] == 32) = true := by rw [this]; simpa using e
    simpa using h3
  rw [List.contains_eq_mem]
  simp only [decide_eq_true_eq]
  exact List.mem_of_getElem? (by rw [byte_some h, e2])
theorem no_blank {s : ByteArray} {k : Nat} (h : k < s.size) (e : ((s[k].toNat : Int) == 32) = false) (hc : (s.data.toList.take k).contains 32 = false) : (s.data.toList.take (k + 1)).contains 32 = false := by
  have e2 : s[k] ≠ 32 := by
    intro e2
    rw [e2] at e; revert e; decide
  rw [take_snoc s k h]
  rw [List.contains_eq_mem] at hc ⊢
  simp only [decide_eq_false_iff_not, List.mem_append, List.mem_singleton, not_or] at hc ⊢
  exact ⟨hc, fun e3 => e2 e3.symm⟩
theorem meets_step {l : List UInt8} {j : Nat} (h : ∀ i < j, meets l i = false) (h2 : meets l j = false) : ∀ i < j + 1, meets l i = false := by
  intro i hi
  by_cases e : i = j
  · subst e; exact h2
  · exact h i (by omega)
theorem meets_far {s : ByteArray} {j : Nat} (hb : ¬ j + s.size + 2 ≤ 83) (h : ∀ i < j, meets s.data.toList i = false) : wordB s.data.toList = false := by
  refine none_word fun i _ => ?_
  by_cases e : i < j
  · exact h i e
  · have : ¬ i + s.data.toList.length + 2 ≤ 83 := by simp; omega
    simp [meets]; omega

set_option maxHeartbeats 200000 in
theorem rword_any (s : ByteArray) (w : World) (hs : s.size < 4611686018427387904) : Calls Try.prog 14 #[.string s] w fun e w' => e = .returned (.bool (wordB s.data.toList)) ∧ w' = w := by
  go_enter Try.func14, Try.ntmps14
  generalize hT : (ByteArray.mk (List.toArray (List.append [32, 102, 117, 110, 99, 32, 118, 97, 114, 32, 105, 102, 32, 101, 108, 115, 101, 32, 119, 104, 105, 108, 101, 32, 98, 114, 101, 97, 107, 32, 99, 111, 110, 116, 105, 110, 117, 101, 32, 114, 101] [116, 117, 114, 110, 32, 112, 114, 105, 110, 116, 32, 116, 114, 117, 101, 32, 102, 97, 108, 115, 101, 32, 105, 54, 52, 32, 105, 51, 50, 32, 117, 56, 32, 98, 111, 111, 108, 32, 102, 54, 52, 32]))) = T
  have hTl : Hid (T.data.toList = textL) := by
    subst hT; show _ = _; decide
  have hTs : T.size = 83 := by
    have := hTl.out
    have h2 := congrArg List.length this
    rw [text_len] at h2
    simpa using h2
  clear hT
  go_wp2
  go_loop [3] (fun i => ∃ k : Nat, k ≤ s.size ∧ i = .int .i64 k ∧ Hid ((s.data.toList.take k).contains 32 = false)) (fun i => s.size - (intOf i).toNat)
  case atStart => exact ⟨0, Nat.zero_le _, rfl, rfl⟩
  case round =>
    obtain ⟨k, hk, rfl, hc⟩ := hrel
    by_cases hlt : k < s.size
    · by_cases h32 : ((s[k].toNat : Int) == 32) = true
      · go_wp2
        go_ret
        exact ⟨ret_bool (has_blank hlt h32).symm, rfl⟩
      · have h32' : ((s[k].toNat : Int) == 32) = false := by simpa using h32
        clear h32
        go_wp2
        go_round
        case rel => exact ⟨k + 1, by omega, by go_num, no_blank hlt h32' hc.out⟩
        case measure => simp [intOf]; omega
    · have hkl : Hid (k = s.size) := by show k = s.size; omega
      go_wp2
      go_loop [4] (fun i => ∃ k : Nat, k ≤ 83 ∧ i = .int .i64 k ∧ Hid (∀ j < k, meets s.data.toList j = false)) (fun i => 83 - (intOf i).toNat)
      case atStart => exact ⟨0, Nat.zero_le _, rfl, fun j hj => by omega⟩
      case round =>
        obtain ⟨j, hj, rfl, hm⟩ := hrel
        by_cases hb : j + s.size + 2 ≤ 83
        · have X : Hid ((s.data.toList.take k).contains 32 = false ∧ k = s.size ∧ T.data.toList = textL ∧ ∀ i < j, meets s.data.toList i = false) := ⟨hc.out, hkl.out, hTl.out, hm.out⟩
          clear hs hk hlt hc hkl hTl hm
          have b1 : (j : Int) < 83 := by omega
          have b2 : (j : Int) + s.size + 2 ≤ 83 := by omega
          by_cases e1 : ((T[j]'(by omega)).toNat : Int) = 32
          · have b3 : (j : Int) + 1 + s.size < 83 := by omega
            have b4 : j + 1 + s.size < T.size := by omega
            have M : Hid (meets s.data.toList j = (((T[j].toNat : Int) == 32) && decide ((T.extract (j + 1) (j + 1 + s.size)).toList = s.toList) && ((T[j + 1 + s.size].toNat : Int) == 32))) := meets_eq X.out.2.2.1 (by omega) b4 hb
            go_wp2
            · go_ret
              have hm : meets s.data.toList j = true := by rw [M.out, e1]; simp only [BEq.rfl, Bool.true_and, Bool.and_eq_true, decide_eq_true_eq]; exact ⟨by assumption, by assumption⟩
              have hc : s.data.toList.contains 32 = false := by have := X.out.1; rwa [take_all X.out.2.1] at this
              refine ⟨ret_bool ?_, rfl⟩
              rw [meets_word hc hm]; simp
            · go_round
              case rel => exact ⟨j + 1, by omega, by go_num, meets_step X.out.2.2.2 (by rw [M.out, Bool.and_eq_false_iff]; right; assumption)⟩
              case measure => simp [intOf]; omega
            · go_round
              case rel => exact ⟨j + 1, by omega, by go_num, meets_step X.out.2.2.2 (by rw [M.out, Bool.and_eq_false_iff, Bool.and_eq_false_iff]; left; right; simp only [decide_eq_false_iff_not]; assumption)⟩
              case measure => simp [intOf]; omega
          · have e1' : (((T[j]'(by omega)).toNat : Int) == 32) = false := by simpa using e1
            have M : Hid (meets s.data.toList j = (((T[j].toNat : Int) == 32) && decide ((T.extract (j + 1) (j + 1 + s.size)).toList = s.toList) && ((T[j + 1 + s.size].toNat : Int) == 32))) := meets_eq X.out.2.2.1 (by omega) (by omega) hb
            clear e1
            go_wp2
            go_round
            case rel => exact ⟨j + 1, by omega, by go_num, meets_step X.out.2.2.2 (by rw [M.out, e1']; rfl)⟩
            case measure => simp [intOf]; omega
        · go_wp2
          go_ret
          exact ⟨ret_bool (meets_far hb hm.out).symm, rfl⟩
end Go.Proofs.Ytcinlpiidgbnaaa
