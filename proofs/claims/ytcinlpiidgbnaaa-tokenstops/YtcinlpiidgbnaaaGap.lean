/- The program's gaps: blanks and remarks. -/
import Derived.Test.YtcinlpiidgbnaaaRow
namespace Go.Proofs.Ytcinlpiidgbnaaa
open Go.RowKit

theorem sorts_apart (c : UInt8) : (blankB c = true → letterB c = false ∧ digitB c = false) ∧ (letterB c = true → digitB c = false) := by
  rw [blankB_iff, letterB_iff, digitB_iff]
  simp only [decide_eq_true_eq, decide_eq_false_iff_not]
  omega
theorem is_blank : is1 1 = blankB := by
  funext c
  unfold is1 sortN
  cases blankB c <;> cases letterB c <;> cases digitB c <;> cases markB c <;> rfl
theorem is_letter : is1 2 = letterB := by
  funext c
  have h := sorts_apart c
  unfold is1 sortN
  revert h
  cases blankB c <;> cases letterB c <;> cases digitB c <;> cases markB c <;> decide
theorem is_digit : is1 3 = digitB := by
  funext c
  have h := sorts_apart c
  unfold is1 sortN
  revert h
  cases blankB c <;> cases letterB c <;> cases digitB c <;> cases markB c <;> decide
theorem is_ld : is2 2 3 = ldB := by
  funext c
  have h := sorts_apart c
  unfold is2 sortN ldB
  revert h
  cases blankB c <;> cases letterB c <;> cases digitB c <;> cases markB c <;> decide
theorem index_line (l : List UInt8) : Lib.indexByte l 10 = if rowL lineB l < l.length then (rowL lineB l : Int) else -1 := by
  induction l with
  | nil => rfl
  | cons c t ih =>
    by_cases h : c = 10
    · subst h
      rw [rowL_no t (by decide)]
      simp [Lib.indexByte]
    · have b : (c == 10) = false := by simpa using h
      rw [rowL_yes t (by simp [lineB, h])]
      have e : Lib.indexByte (c :: t) 10 = if Lib.indexByte t 10 == -1 then -1 else Lib.indexByte t 10 + 1 := by simp [Lib.indexByte, b]
      rw [e, ih]
      simp only [List.length_cons]
      by_cases h2 : rowL lineB t < t.length
      · have h3 : ((rowL lineB t : Int) == -1) = false := by simp
        have h4 : rowL lineB t + 1 < t.length + 1 := by omega
        simp only [h2, h4, if_true, h3]; simp
      · have h4 : ¬ rowL lineB t + 1 < t.length + 1 := by omega
        simp only [h2, h4, if_false]; simp

theorem line_any (s : ByteArray) (k : Nat) (w : World) (hs : s.size ≤ 65536) (hk : k ≤ s.size) :
    Calls Try.prog 33 #[.string s, .int .i64 (k : Int)] w fun e w' => e = .returned (.int .i64 ((k + rowL lineB (s.data.toList.drop k) : Nat) : Int)) ∧ w' = w := by
  have hi := index_line (s.data.toList.drop k)
  have hl := rowL_le lineB (s.data.toList.drop k)
  have hle : (s.data.toList.drop k).length = s.size - k := by simp
  rw [hle] at hi hl
  have hx : (s.extract k s.size).data.toList = s.data.toList.drop k := by rw [Lib.extract_data, List.take_of_length_le (by simp)]
  obtain ⟨n, hn⟩ : ∃ n, n = rowL lineB (s.data.toList.drop k) := ⟨_, rfl⟩
  rw [← hn] at hi hl ⊢
  clear hn hle
  by_cases h : n < s.size - k
  · rw [if_pos h] at hi
    have hi2 : Hid (Lib.indexByte (s.extract k s.size).data.toList 10 = (n : Int)) := by rw [hx]; exact hi
    clear hi hx
    go_enter Try.func33, Try.ntmps33
    go_wp2_with (go_at_call 34; refine (index_any _ 10 _).mono ?_; rintro e w' ⟨rfl, rfl⟩; rw [hi2.out])
    go_ret
    exact ⟨ret_int (by omega), rfl⟩
  · rw [if_neg h] at hi
    have hi2 : Hid (Lib.indexByte (s.extract k s.size).data.toList 10 = -1) := by rw [hx]; exact hi
    clear hi hx
    go_enter Try.func33, Try.ntmps33
    go_wp2_with (go_at_call 34; refine (index_any _ 10 _).mono ?_; rintro e w' ⟨rfl, rfl⟩; rw [hi2.out])
    go_ret
    exact ⟨ret_int (by omega), rfl⟩

theorem has_at (s : ByteArray) (i : Int) (k : Nat) (hi : i = (k : Int)) (hk : k < 4611686018427387904) (c : UInt8) (w : World) (hs : s.size ≤ 65536) :
    Calls Try.prog 31 #[.string s, .int .i64 i, .int .u8 (c.toNat : Int)] w fun e w' => e = .returned (.bool (hasL s.data.toList k c)) ∧ w' = w := by
  subst hi; exact has_any s k c w (by omega) hk
theorem hasL_drop (l : List UInt8) (k i : Nat) (c : UInt8) : hasL (l.drop k) i c = hasL l (k + i) c := by
  unfold hasL; rw [List.getElem?_drop]
/-- What holds at the head of each round of a gap: the place k has no blank, and the rest of the gap is what is asked. -/
def GapAt (l : List UInt8) (k0 k : Nat) : Prop := k0 + skipL false (l.drop k0) = k + skipL false (l.drop k) ∧ ∀ c, (l.drop k).head? = some c → blankB c = false
theorem gap_start (l : List UInt8) (k0 : Nat) : GapAt l k0 (k0 + rowL blankB (l.drop k0)) := by
  refine ⟨?_, ?_⟩
  · rw [skip_row (l.drop k0), List.drop_drop]; omega
  · intro c h
    rw [← List.drop_drop] at h
    exact row_head blankB _ c h
theorem gap_round {l : List UInt8} {k0 k : Nat} (h : GapAt l k0 k) (h1 : hasL l k 47 = true) (h2 : hasL l (k + 1) 47 = true) :
    GapAt l k0 (k + rowL lineB (l.drop k) + rowL blankB (l.drop (k + rowL lineB (l.drop k)))) ∧ k < k + rowL lineB (l.drop k) := by
  have e1 : l[k]? = some 47 := by simpa [hasL] using h1
  have e2 : l[k + 1]? = some 47 := by simpa [hasL] using h2
  have e : l.drop k = 47 :: 47 :: l.drop (k + 2) := by
    obtain ⟨a, ea⟩ := List.getElem?_eq_some_iff.1 e1
    obtain ⟨b, eb⟩ := List.getElem?_eq_some_iff.1 e2
    rw [List.drop_eq_getElem_cons a, ea, List.drop_eq_getElem_cons b, eb]
  have hg := gap_start l (k + rowL lineB (l.drop k))
  refine ⟨⟨?_, hg.2⟩, ?_⟩
  · rw [h.1, ← hg.1]
    have := skip_remark (l.drop (k + 2))
    rw [← e, List.drop_drop] at this
    rw [this]; omega
  · rw [e, rowL_yes _ (by decide)]; omega
theorem gap_end {l : List UInt8} {k0 k : Nat} (h : GapAt l k0 k) (h1 : ¬ (hasL l k 47 = true ∧ hasL l (k + 1) 47 = true)) : k0 + skipL false (l.drop k0) = k := by
  rw [h.1, skip_stop h.2]
  · rfl
  · intro ⟨a, b⟩
    rw [List.getElem?_drop] at a b
    exact h1 ⟨by simpa [hasL] using a, by simpa [hasL] using b⟩

set_option maxHeartbeats 200000 in
theorem gap_any (s : ByteArray) (k0 : Nat) (w : World) (hs : s.size ≤ 65536) (hk0 : k0 ≤ s.size) :
    Calls Try.prog 19 #[.string s, .int .i64 (k0 : Int)] w fun e w' => e = .returned (.int .i64 ((k0 + skipL false (s.data.toList.drop k0) : Nat) : Int)) ∧ Below w.heap.size w w' := by
  have hG : Hid (GapAt s.data.toList k0 (k0 + rowL blankB (s.data.toList.drop k0))) := gap_start _ _
  have hL := rowL_le blankB (s.data.toList.drop k0)
  rw [show (s.data.toList.drop k0).length = s.size - k0 by simp] at hL
  have hR := fun b cap w => row1_any s k0 1 b cap w hs hk0
  rw [is_blank] at hR
  obtain ⟨k1, hk1⟩ : ∃ k1, k1 = k0 + rowL blankB (s.data.toList.drop k0) := ⟨_, rfl⟩
  rw [← hk1] at hG hR
  have hk1s : k1 ≤ s.size := by omega
  clear hk1 hL
  go_enter Try.func19, Try.ntmps19
  go_wp2_with (go_at_call 28; refine (hR _ _ _ ?hc).mono ?_; (case hc => simp); rintro e w' ⟨rfl, rfl⟩)
  clear hR
  go_loopw [1] (fun i wr => ∃ k : Nat, k ≤ s.size ∧ i = .int .i64 k ∧ Hid (GapAt s.data.toList k0 k ∧ Below w.heap.size w wr)) (fun i _ => s.size - (intOf i).toNat)
  case atStart => exact ⟨k1, hk1s, rfl, hG, (Below.refl _ _).alloc (Nat.le_refl _) _⟩
  case round =>
    obtain ⟨k, hk, rfl, hr⟩ := hrel
    have hk' : k + 1 < 4611686018427387904 := by omega
    by_cases h1 : hasL s.data.toList k 47 = true
    · by_cases h2 : hasL s.data.toList (k + 1) 47 = true
      · have hX := gap_round hr.out.1 h1 h2
        have hL := rowL_le lineB (s.data.toList.drop k)
        rw [show (s.data.toList.drop k).length = s.size - k by simp] at hL
        have hLi := fun w => line_any s k w hs hk
        obtain ⟨k2, hk2⟩ : ∃ k2, k2 = k + rowL lineB (s.data.toList.drop k) := ⟨_, rfl⟩
        rw [← hk2] at hX hLi
        have hk2s : k2 ≤ s.size := by omega
        have hR := fun b cap w => row1_any s k2 1 b cap w hs hk2s
        rw [is_blank] at hR
        have hM := rowL_le blankB (s.data.toList.drop k2)
        rw [show (s.data.toList.drop k2).length = s.size - k2 by simp] at hM
        obtain ⟨k3, hk3⟩ : ∃ k3, k3 = k2 + rowL blankB (s.data.toList.drop k2) := ⟨_, rfl⟩
        rw [← hk3] at hX hR
        have hk3s : k3 ≤ s.size := by omega
        have hlt : k < k3 := by have := hX.2; omega
        have hX1 : Hid (GapAt s.data.toList k0 k3 ∧ Below w.heap.size w wr) := ⟨hX.1, hr.out.2⟩
        have hsz : Hid (w.heap.size ≤ wr.heap.size) := hr.out.2.size
        clear hX hL hk2 hM hk3 hr
        go_wp2_with (first | (go_at_call 31; refine (has_at s _ k ?h1 (by omega) 47 _ hs).mono ?_; (case h1 => omega); rintro e w' ⟨rfl, rfl⟩) | (go_at_call 31; refine (has_at s _ (k + 1) ?h2 (by omega) 47 _ hs).mono ?_; (case h2 => omega); rintro e w' ⟨rfl, rfl⟩) | (go_at_call 33; refine (hLi _).mono ?_; rintro e w' ⟨rfl, rfl⟩) | (go_at_call 28; refine (hR _ _ _ ?hc2).mono ?_; (case hc2 => simp); rintro e w' ⟨rfl, rfl⟩))
        go_roundw
        case rel => exact ⟨k3, hk3s, rfl, hX1.out.1, hX1.out.2.alloc hsz.out _⟩
        case measure => simp [intOf]; omega
      · have h2' : hasL s.data.toList (k + 1) 47 = false := by simpa using h2
        have hE : Hid (k0 + skipL false (s.data.toList.drop k0) = k) := gap_end hr.out.1 (fun h => h2 h.2)
        clear h2
        go_wp2_with (first | (go_at_call 31; refine (has_at s _ k ?h1 (by omega) 47 _ hs).mono ?_; (case h1 => omega); rintro e w' ⟨rfl, rfl⟩) | (go_at_call 31; refine (has_at s _ (k + 1) ?h2 (by omega) 47 _ hs).mono ?_; (case h2 => omega); rintro e w' ⟨rfl, rfl⟩))
        go_ret
        exact ⟨ret_int (by rw [hE.out]), hr.out.2⟩
    · have h1' : hasL s.data.toList k 47 = false := by simpa using h1
      have hE : Hid (k0 + skipL false (s.data.toList.drop k0) = k) := gap_end hr.out.1 (fun h => h1 h.1)
      clear h1
      go_wp2_with (go_at_call 31; refine (has_at s _ k ?h1 (by omega) 47 _ hs).mono ?_; (case h1 => omega); rintro e w' ⟨rfl, rfl⟩)
      go_ret
      exact ⟨ret_int (by rw [hE.out]), hr.out.2⟩
end Go.Proofs.Ytcinlpiidgbnaaa
