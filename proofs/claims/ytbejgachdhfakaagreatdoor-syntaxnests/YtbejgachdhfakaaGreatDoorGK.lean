/- Contracts of the small functions: the sort of a byte, what stands at a place, tokens and faults. -/
import Derived.Test.YtbejgachdhfakaaGreatDoorProg
import Derived.Test.YtbejgachdhfakaaGreatDoorGA
import Derived.WalkKit
import Derived.WalkLawsBesides
import Derived.Deep.LoopGhost
import Derived.Deep.QuietTactic
import Derived.BigQuiet
import Derived.WalkSpells
import Derived.Laws.Externs
import Derived.Lib.Bytealg
import Derived.LoopN
namespace Go.Proofs.YtbejgachdhfakaaGreatDoor.Sc
open Go.RowKit
theorem ret_int {k : IntKind} {a b : Int} (h : a = b) : Ending.returned (.int k a) = .returned (.int k b) := by rw [h]
theorem ret_bool {a b : Bool} (h : a = b) : Ending.returned (.bool a) = .returned (.bool b) := by rw [h]
theorem u8_eq (c d : UInt8) : (c == d) = decide ((c.toNat : Int) = (d.toNat : Int)) := by
  rw [Bool.eq_iff_iff]; simp [← UInt8.toNat_inj]; omega
theorem blankB_iff (c : UInt8) : blankB c = decide ((c.toNat : Int) = 32 ∨ (c.toNat : Int) = 9 ∨ (c.toNat : Int) = 10 ∨ (c.toNat : Int) = 13) := by
  rw [Bool.eq_iff_iff]; simp [blankB, ← UInt8.toNat_inj]; omega
theorem letterB_iff (c : UInt8) : letterB c = decide ((97 ≤ (c.toNat : Int) ∧ (c.toNat : Int) ≤ 122) ∨ (65 ≤ (c.toNat : Int) ∧ (c.toNat : Int) ≤ 90) ∨ (c.toNat : Int) = 95) := by
  rw [Bool.eq_iff_iff]; simp [letterB, ← UInt8.toNat_inj, UInt8.le_iff_toNat_le]; omega
theorem digitB_iff (c : UInt8) : digitB c = decide (48 ≤ (c.toNat : Int) ∧ (c.toNat : Int) ≤ 57) := by
  rw [Bool.eq_iff_iff]; simp [digitB, UInt8.le_iff_toNat_le]; omega
theorem taken_any (kd a b : Int) (w : World) : Calls Tryz.prog 38 #[.int .u8 kd, .int .i64 a, .int .i64 b] w fun e w' => e = .returned (.tuple #[.agg #[.int .u8 kd, .int .i64 a, .int .i64 b], .agg #[.int .i64 0, .int .i64 0]]) ∧ Below w.heap.size w w' := by
  go_enter Tryz.func38, Tryz.ntmps38
  go_wp2
  exact bodyPost_ret (v := .tuple #[.agg #[.int .u8 kd, .int .i64 a, .int .i64 b], .agg #[.int .i64 0, .int .i64 0]]) (by simp [results, Tryz.results38, go_sem]) rfl ⟨rfl, ((Below.refl _ _).alloc (Nat.le_refl _) _).alloc (by simp) _⟩
theorem refused_any (a : Int) (w : World) : Calls Tryz.prog 36 #[.int .i64 a] w fun e w' => e = .returned (.tuple #[.agg #[.int .u8 0, .int .i64 0, .int .i64 0], .agg #[.int .i64 120, .int .i64 a]]) ∧ Below w.heap.size w w' := by
  go_enter Tryz.func36, Tryz.ntmps36
  go_wp2
  exact bodyPost_ret (v := .tuple #[.agg #[.int .u8 0, .int .i64 0, .int .i64 0], .agg #[.int .i64 120, .int .i64 a]]) (by simp [results, Tryz.results36, go_sem]) rfl ⟨rfl, ((Below.refl _ _).alloc (Nat.le_refl _) _).alloc (by simp) _⟩
theorem hasL_at {s : ByteArray} {k : Nat} (c : UInt8) (h : k < s.size) : hasL s.data.toList k c = decide ((s[k].toNat : Int) = (c.toNat : Int)) := by
  have e : s.data.toList[k]? = some s[k] := by
    rw [List.getElem?_eq_getElem (by simpa using h)]; rfl
  unfold hasL
  rw [e, ← u8_eq]; simp
theorem hasL_off {s : ByteArray} {k : Nat} (c : UInt8) (h : ¬ k < s.size) : hasL s.data.toList k c = false := by
  have e : s.data.toList[k]? = none := List.getElem?_eq_none (by simp; exact Nat.le_of_not_lt h)
  unfold hasL
  rw [e]; rfl

theorem has_any (s : ByteArray) (k : Nat) (c : UInt8) (w : World) (_hs : s.size < 4611686018427387904) (_hk : k < 4611686018427387904) :
    Calls Tryz.prog 39 #[.string s, .int .i64 (k : Int), .int .u8 (c.toNat : Int)] w fun e w' => e = .returned (.bool (hasL s.data.toList k c)) ∧ w' = w := by
  by_cases h : k < s.size
  · go_enter Tryz.func39, Tryz.ntmps39
    go_wp2
    go_ret
    exact ⟨ret_bool (by rw [hasL_at c h]; rfl), rfl⟩
  · go_enter Tryz.func39, Tryz.ntmps39
    go_wp2
    go_ret
    exact ⟨ret_bool (hasL_off c h).symm, rfl⟩

theorem byte_back (c : UInt8) : ((c.toNat : Int)).toNat.toUInt8 = c := by simp
theorem index_any (s : ByteArray) (c : UInt8) (w : World) : Calls Tryz.prog 42 #[.string s, .int .u8 (c.toNat : Int)] w fun e w' => e = .returned (.int .i64 (Lib.indexByte s.data.toList c)) ∧ w' = w := by
  have f1 : ∀ w, (callFunc 136 #[.string s, .int .u8 (c.toNat : Int)]).run Tryz.prog w = .ok (.value (.int .i64 (Lib.indexByte s.data.toList c))) w := by
    intro w
    rw [run_callFunc_extern Tryz.func136 (by kernel_rfl) (by kernel_rfl) (by kernel_rfl) (e := Extern.BytealgIndexByte.indexByte) (by kernel_rfl), Lib.run_indexByteString, byte_back]
    rfl
  go_enter Tryz.func42, Tryz.ntmps42
  go_wp2
  go_ret
  exact ⟨rfl, rfl⟩

theorem index_ge (l : List UInt8) (c : UInt8) : decide (0 ≤ Lib.indexByte l c) = l.contains c := by
  induction l with
  | nil => simp [Lib.indexByte]
  | cons b t ih =>
    have h1 : -1 ≤ Lib.indexByte t c := by
      clear ih
      induction t with
      | nil => simp [Lib.indexByte]
      | cons d u ih2 => simp only [Lib.indexByte]; split <;> (try split) <;> omega
    rw [Bool.eq_iff_iff] at ih ⊢
    simp only [decide_eq_true_eq, List.contains_cons, Bool.or_eq_true] at ih ⊢
    by_cases h : b = c
    · subst h; simp [Lib.indexByte]
    · have h' : (b == c) = false := by simpa using h
      have h'' : (c == b) = false := by simpa using fun e => h e.symm
      have e1 : Lib.indexByte (b :: t) c = if Lib.indexByte t c == -1 then -1 else Lib.indexByte t c + 1 := by simp [Lib.indexByte, h']
      rw [e1, h'', ← ih]
      split
      · rename_i e; simp at e; rw [e]; simp
      · rename_i e; simp at e; simp; omega

theorem sort_any (c : UInt8) (w : World) : Calls Tryz.prog 21 #[.int .u8 (c.toNat : Int)] w fun e w' => e = .returned (.int .u8 (sortN c : Int)) ∧ w' = w := by
  have H : Hid (sortN c = if (c.toNat : Int) = 32 ∨ (c.toNat : Int) = 9 ∨ (c.toNat : Int) = 10 ∨ (c.toNat : Int) = 13 then 1 else if (97 ≤ (c.toNat : Int) ∧ (c.toNat : Int) ≤ 122) ∨ (65 ≤ (c.toNat : Int) ∧ (c.toNat : Int) ≤ 90) ∨ (c.toNat : Int) = 95 then 2 else if 48 ≤ (c.toNat : Int) ∧ (c.toNat : Int) ≤ 57 then 3 else if 0 ≤ Lib.indexByte onesL c then 4 else 0) := by
    show sortN c = _
    have hm : markB c = decide (0 ≤ Lib.indexByte onesL c) := (index_ge onesL c).symm
    simp only [sortN, blankB_iff, letterB_iff, digitB_iff, hm, decide_eq_true_eq]
  go_enter Tryz.func21, Tryz.ntmps21
  go_wp2_with (go_at_call 42; refine (index_any _ c _).mono ?_; rintro e w' ⟨rfl, rfl⟩)
  all_goals go_ret
  all_goals (refine ⟨ret_int ?_, rfl⟩; rw [H.out]; clear H; unfold onesL; simp only [beq_eq_false_iff_ne, beq_iff_eq, ne_eq] at *; (repeat' split) <;> first | rfl | omega)
end Go.Proofs.YtbejgachdhfakaaGreatDoor.Sc
/- Contracts of the program's Word and of the document's Word: both say whether a text is one of sixteen rows of bytes. -/
namespace Go.Proofs.YtbejgachdhfakaaGreatDoor.Sc
open Go.RowKit

theorem w_true {s : ByteArray} {x : List UInt8} (h : (s.toList == x) = true) (hx : wordB x = true) : true = wordB s.data.toList := by
  have e : s.toList = x := by simpa using h
  rw [← Lib.toList_data, e, hx]
theorem w_false {s : ByteArray} (h : ∀ x ∈ wordsL, (s.toList == x) = false) : false = wordB s.data.toList := by
  rw [← Lib.toList_data]
  unfold wordB
  rw [eq_comm, List.contains_eq_mem]
  simp only [decide_eq_false_iff_not]
  intro hm
  have := h _ hm
  simp at this

theorem no_bool {b : Bool} {p : Prop} (h : b = true) (h' : b = false) : p := by rw [h] at h'; cases h'
set_option maxHeartbeats 400000 in
theorem word_any (s : ByteArray) (w : World) : Calls Tryz.prog 37 #[.string s] w fun e w' => e = .returned (.bool (wordB s.data.toList)) ∧ w' = w := by
  go_enter Tryz.func37, Tryz.ntmps37
  go_wp2
  all_goals go_ret
  all_goals refine ⟨ret_bool ?_, rfl⟩
  all_goals first | exact w_true (by assumption) (by decide) | exact no_bool (by assumption) (by assumption) | skip
  refine w_false ?_
  intro x hx
  simp only [wordsL, List.mem_cons, List.not_mem_nil, or_false] at hx
  rcases hx with rfl | rfl | rfl | rfl | rfl | rfl | rfl | rfl | rfl | rfl | rfl | rfl | rfl | rfl | rfl | rfl
  all_goals assumption
end Go.Proofs.YtbejgachdhfakaaGreatDoor.Sc
/- The program's rows of bytes of one sort, or of one of two. -/
namespace Go.Proofs.YtbejgachdhfakaaGreatDoor.Sc
open Go.RowKit

def is1 (x : Nat) (c : UInt8) : Bool := sortN c == x
def is2 (x y : Nat) (c : UInt8) : Bool := sortN c == x || sortN c == y
theorem drop_at {s : ByteArray} {k : Nat} (h : k < s.size) : s.data.toList.drop k = s[k] :: s.data.toList.drop (k + 1) := by
  rw [List.drop_eq_getElem_cons (by simpa using h)]; rfl
theorem drop_end {s : ByteArray} {k : Nat} (h : ¬ k < s.size) : s.data.toList.drop k = [] := List.drop_eq_nil_of_le (by simp; omega)
theorem row_step {p : UInt8 → Bool} {s : ByteArray} {k : Nat} (h : k < s.size) (hp : p s[k] = true) : k + rowL p (s.data.toList.drop k) = k + 1 + rowL p (s.data.toList.drop (k + 1)) := by
  rw [drop_at h, rowL_yes _ hp]; omega
theorem row_stop {p : UInt8 → Bool} {s : ByteArray} {k : Nat} (h : k < s.size) (hp : p s[k] = false) : k + rowL p (s.data.toList.drop k) = k := by
  rw [drop_at h, rowL_no _ hp]; omega
theorem row_end {p : UInt8 → Bool} {s : ByteArray} {k : Nat} (h : ¬ k < s.size) : k + rowL p (s.data.toList.drop k) = k := by
  rw [drop_end h]; rfl

set_option maxHeartbeats 400000 in
theorem row1_any (s : ByteArray) (k0 x b cap : Nat) (w : World) (hs : s.size ≤ 65536) (hk0 : k0 ≤ s.size) (hc : w.cell? ⟨b, 0, none⟩ = some (.int .u8 (x : Int))) :
    Calls Tryz.prog 35 #[.string s, .int .i64 (k0 : Int), .slice (some ⟨b, 0, none⟩) 1 cap] w fun e w' => e = .returned (.int .i64 ((k0 + rowL (is1 x) (s.data.toList.drop k0) : Nat) : Int)) ∧ w' = w := by
  go_enter Tryz.func35, Tryz.ntmps35
  go_wp2
  go_step3
  go_wp2
  go_step3
  go_wp2
  go_loop [1, 7] (fun i _ => ∃ k : Nat, k ≤ s.size ∧ i = .int .i64 k ∧ Hid (k0 + rowL (is1 x) (s.data.toList.drop k0) = k + rowL (is1 x) (s.data.toList.drop k))) (fun i _ => s.size - (intOf i).toNat)
  case atStart => exact ⟨k0, hk0, rfl, rfl⟩
  case round =>
    obtain ⟨k, hk, rfl, hr⟩ := hrel
    by_cases hlt : k < s.size
    · have hlt' : (k : Int) < s.size := by omega
      by_cases hx : sortN s[k] = x
      · go_wp2_with (go_at_call 21; refine (sort_any _ _).mono ?_; rintro e w' ⟨rfl, rfl⟩)
        refine wp_loop_rounds 1 ?_
        rw [rounds_succ]
        go_wp2
        go_round
        case rel => exact ⟨k + 1, by omega, by go_num, hr.out.trans (row_step hlt (by simp [is1, hx]))⟩
        case measure => simp [intOf]; omega
      · go_wp2_with (go_at_call 21; refine (sort_any _ _).mono ?_; rintro e w' ⟨rfl, rfl⟩)
        refine wp_loop_rounds 2 ?_
        rw [rounds_succ]
        go_wp2
        rw [rounds_succ]
        go_wp2
        rw [Exit.noGoto_ret]
        go_ret
        exact ⟨ret_int (by rw [hr.out, row_stop hlt (by simp [is1, hx])]), rfl⟩
    · go_wp2
      go_ret
      exact ⟨ret_int (by rw [hr.out, row_end hlt]), rfl⟩

set_option maxHeartbeats 400000 in
theorem row2_any (s : ByteArray) (k0 x y b cap : Nat) (w : World) (hs : s.size ≤ 65536) (hk0 : k0 ≤ s.size) (hc : w.cell? ⟨b, 0, none⟩ = some (.int .u8 (x : Int))) (hd : w.cell? ⟨b, 1, none⟩ = some (.int .u8 (y : Int))) :
    Calls Tryz.prog 35 #[.string s, .int .i64 (k0 : Int), .slice (some ⟨b, 0, none⟩) 2 cap] w fun e w' => e = .returned (.int .i64 ((k0 + rowL (is2 x y) (s.data.toList.drop k0) : Nat) : Int)) ∧ w' = w := by
  go_enter Tryz.func35, Tryz.ntmps35
  go_wp2
  go_step3
  go_wp2
  go_step3
  go_wp2
  go_loop [1, 7] (fun i _ => ∃ k : Nat, k ≤ s.size ∧ i = .int .i64 k ∧ Hid (k0 + rowL (is2 x y) (s.data.toList.drop k0) = k + rowL (is2 x y) (s.data.toList.drop k))) (fun i _ => s.size - (intOf i).toNat)
  case atStart => exact ⟨k0, hk0, rfl, rfl⟩
  case round =>
    obtain ⟨k, hk, rfl, hr⟩ := hrel
    by_cases hlt : k < s.size
    · have hlt' : (k : Int) < s.size := by omega
      by_cases hx : sortN s[k] = x
      · go_wp2_with (go_at_call 21; refine (sort_any _ _).mono ?_; rintro e w' ⟨rfl, rfl⟩)
        refine wp_loop_rounds 1 ?_
        rw [rounds_succ]
        go_wp2
        go_round
        case rel => exact ⟨k + 1, by omega, by go_num, hr.out.trans (row_step hlt (by simp [is2, hx]))⟩
        case measure => simp [intOf]; omega
      · by_cases hy : sortN s[k] = y
        · go_wp2_with (go_at_call 21; refine (sort_any _ _).mono ?_; rintro e w' ⟨rfl, rfl⟩)
          refine wp_loop_rounds 2 ?_
          rw [rounds_succ]
          go_wp2
          rw [rounds_succ]
          go_wp2
          go_round
          case rel => exact ⟨k + 1, by omega, by go_num, hr.out.trans (row_step hlt (by simp [is2, hy]))⟩
          case measure => simp [intOf]; omega
        go_wp2_with (go_at_call 21; refine (sort_any _ _).mono ?_; rintro e w' ⟨rfl, rfl⟩)
        refine wp_loop_rounds 3 ?_
        rw [rounds_succ]
        go_wp2
        rw [rounds_succ]
        go_wp2
        rw [rounds_succ]
        go_wp2
        rw [Exit.noGoto_ret]
        go_ret
        exact ⟨ret_int (by rw [hr.out, row_stop hlt (by simp [is2, hx, hy])]), rfl⟩
    · go_wp2
      go_ret
      exact ⟨ret_int (by rw [hr.out, row_end hlt]), rfl⟩

end Go.Proofs.YtbejgachdhfakaaGreatDoor.Sc
/- The program's gaps: blanks and remarks. -/
namespace Go.Proofs.YtbejgachdhfakaaGreatDoor.Sc
open Go.RowKit

theorem sorts_apart (c : UInt8) : (blankB c = true → letterB c = false ∧ digitB c = false) ∧ (letterB c = true → digitB c = false) := by
  rw [blankB_iff, letterB_iff, digitB_iff]
  simp only [decide_eq_true_eq, decide_eq_false_iff_not]
  omega
theorem is_blank : is1 1 = blankB := by
  funext c
  unfold is1 sortN
  cases blankB c <;> cases letterB c <;> cases digitB c <;> cases markB c <;> rfl
theorem is_letter : is1 2 = letterB := by
  funext c
  have h := sorts_apart c
  unfold is1 sortN
  revert h
  cases blankB c <;> cases letterB c <;> cases digitB c <;> cases markB c <;> decide
theorem is_digit : is1 3 = digitB := by
  funext c
  have h := sorts_apart c
  unfold is1 sortN
  revert h
  cases blankB c <;> cases letterB c <;> cases digitB c <;> cases markB c <;> decide
theorem is_ld : is2 2 3 = ldB := by
  funext c
  have h := sorts_apart c
  unfold is2 sortN ldB
  revert h
  cases blankB c <;> cases letterB c <;> cases digitB c <;> cases markB c <;> decide
theorem index_line (l : List UInt8) : Lib.indexByte l 10 = if rowL lineB l < l.length then (rowL lineB l : Int) else -1 := by
  induction l with
  | nil => rfl
  | cons c t ih =>
    by_cases h : c = 10
    · subst h
      rw [rowL_no t (by decide)]
      simp [Lib.indexByte]
    · have b : (c == 10) = false := by simpa using h
      rw [rowL_yes t (by simp [lineB, h])]
      have e : Lib.indexByte (c :: t) 10 = if Lib.indexByte t 10 == -1 then -1 else Lib.indexByte t 10 + 1 := by simp [Lib.indexByte, b]
      rw [e, ih]
      simp only [List.length_cons]
      by_cases h2 : rowL lineB t < t.length
      · have h3 : ((rowL lineB t : Int) == -1) = false := by simp
        have h4 : rowL lineB t + 1 < t.length + 1 := by omega
        simp only [h2, h4, if_true, h3]; simp
      · have h4 : ¬ rowL lineB t + 1 < t.length + 1 := by omega
        simp only [h2, h4, if_false]; simp

theorem line_any (s : ByteArray) (k : Nat) (w : World) (hs : s.size ≤ 65536) (hk : k ≤ s.size) :
    Calls Tryz.prog 41 #[.string s, .int .i64 (k : Int)] w fun e w' => e = .returned (.int .i64 ((k + rowL lineB (s.data.toList.drop k) : Nat) : Int)) ∧ w' = w := by
  have hi := index_line (s.data.toList.drop k)
  have hl := rowL_le lineB (s.data.toList.drop k)
  have hle : (s.data.toList.drop k).length = s.size - k := by simp
  rw [hle] at hi hl
  have hx : (s.extract k s.size).data.toList = s.data.toList.drop k := by rw [Lib.extract_data, List.take_of_length_le (by simp)]
  obtain ⟨n, hn⟩ : ∃ n, n = rowL lineB (s.data.toList.drop k) := ⟨_, rfl⟩
  rw [← hn] at hi hl ⊢
  clear hn hle
  by_cases h : n < s.size - k
  · rw [if_pos h] at hi
    have hi2 : Hid (Lib.indexByte (s.extract k s.size).data.toList 10 = (n : Int)) := by rw [hx]; exact hi
    clear hi hx
    go_enter Tryz.func41, Tryz.ntmps41
    go_wp2_with (go_at_call 42; refine (index_any _ 10 _).mono ?_; rintro e w' ⟨rfl, rfl⟩; rw [hi2.out])
    go_ret
    exact ⟨ret_int (by omega), rfl⟩
  · rw [if_neg h] at hi
    have hi2 : Hid (Lib.indexByte (s.extract k s.size).data.toList 10 = -1) := by rw [hx]; exact hi
    clear hi hx
    go_enter Tryz.func41, Tryz.ntmps41
    go_wp2_with (go_at_call 42; refine (index_any _ 10 _).mono ?_; rintro e w' ⟨rfl, rfl⟩; rw [hi2.out])
    go_ret
    exact ⟨ret_int (by omega), rfl⟩

theorem has_at (s : ByteArray) (i : Int) (k : Nat) (hi : i = (k : Int)) (hk : k < 4611686018427387904) (c : UInt8) (w : World) (hs : s.size ≤ 65536) :
    Calls Tryz.prog 39 #[.string s, .int .i64 i, .int .u8 (c.toNat : Int)] w fun e w' => e = .returned (.bool (hasL s.data.toList k c)) ∧ w' = w := by
  subst hi; exact has_any s k c w (by omega) hk
theorem hasL_drop (l : List UInt8) (k i : Nat) (c : UInt8) : hasL (l.drop k) i c = hasL l (k + i) c := by
  unfold hasL; rw [List.getElem?_drop]
/-- What holds at the head of each round of a gap: the place k has no blank, and the rest of the gap is what is asked. -/
def GapAt (l : List UInt8) (k0 k : Nat) : Prop := k0 + skipL false (l.drop k0) = k + skipL false (l.drop k) ∧ ∀ c, (l.drop k).head? = some c → blankB c = false
theorem gap_start (l : List UInt8) (k0 : Nat) : GapAt l k0 (k0 + rowL blankB (l.drop k0)) := by
  refine ⟨?_, ?_⟩
  · rw [skip_row (l.drop k0), List.drop_drop]; omega
  · intro c h
    rw [← List.drop_drop] at h
    exact row_head blankB _ c h
theorem gap_round {l : List UInt8} {k0 k : Nat} (h : GapAt l k0 k) (h1 : hasL l k 47 = true) (h2 : hasL l (k + 1) 47 = true) :
    GapAt l k0 (k + rowL lineB (l.drop k) + rowL blankB (l.drop (k + rowL lineB (l.drop k)))) ∧ k < k + rowL lineB (l.drop k) := by
  have e1 : l[k]? = some 47 := by simpa [hasL] using h1
  have e2 : l[k + 1]? = some 47 := by simpa [hasL] using h2
  have e : l.drop k = 47 :: 47 :: l.drop (k + 2) := by
    obtain ⟨a, ea⟩ := List.getElem?_eq_some_iff.1 e1
    obtain ⟨b, eb⟩ := List.getElem?_eq_some_iff.1 e2
    rw [List.drop_eq_getElem_cons a, ea, List.drop_eq_getElem_cons b, eb]
  have hg := gap_start l (k + rowL lineB (l.drop k))
  refine ⟨⟨?_, hg.2⟩, ?_⟩
  · rw [h.1, ← hg.1]
    have := skip_remark (l.drop (k + 2))
    rw [← e, List.drop_drop] at this
    rw [this]; omega
  · rw [e, rowL_yes _ (by decide)]; omega
theorem gap_end {l : List UInt8} {k0 k : Nat} (h : GapAt l k0 k) (h1 : ¬ (hasL l k 47 = true ∧ hasL l (k + 1) 47 = true)) : k0 + skipL false (l.drop k0) = k := by
  rw [h.1, skip_stop h.2]
  · rfl
  · intro ⟨a, b⟩
    rw [List.getElem?_drop] at a b
    exact h1 ⟨by simpa [hasL] using a, by simpa [hasL] using b⟩

set_option maxHeartbeats 200000 in
theorem gap_any (s : ByteArray) (k0 : Nat) (w : World) (hs : s.size ≤ 65536) (hk0 : k0 ≤ s.size) :
    Calls Tryz.prog 19 #[.string s, .int .i64 (k0 : Int)] w fun e w' => e = .returned (.int .i64 ((k0 + skipL false (s.data.toList.drop k0) : Nat) : Int)) ∧ Below w.heap.size w w' := by
  have hG : Hid (GapAt s.data.toList k0 (k0 + rowL blankB (s.data.toList.drop k0))) := gap_start _ _
  have hL := rowL_le blankB (s.data.toList.drop k0)
  rw [show (s.data.toList.drop k0).length = s.size - k0 by simp] at hL
  have hR := fun b cap w => row1_any s k0 1 b cap w hs hk0
  rw [is_blank] at hR
  obtain ⟨k1, hk1⟩ : ∃ k1, k1 = k0 + rowL blankB (s.data.toList.drop k0) := ⟨_, rfl⟩
  rw [← hk1] at hG hR
  have hk1s : k1 ≤ s.size := by omega
  clear hk1 hL
  go_enter Tryz.func19, Tryz.ntmps19
  go_wp2_with (go_at_call 35; refine (hR _ _ _ ?hc).mono ?_; (case hc => simp); rintro e w' ⟨rfl, rfl⟩)
  clear hR
  go_loopw [1] (fun i wr => ∃ k : Nat, k ≤ s.size ∧ i = .int .i64 k ∧ Hid (GapAt s.data.toList k0 k ∧ Below w.heap.size w wr)) (fun i _ => s.size - (intOf i).toNat)
  case atStart => exact ⟨k1, hk1s, rfl, hG, (Below.refl _ _).alloc (Nat.le_refl _) _⟩
  case round =>
    obtain ⟨k, hk, rfl, hr⟩ := hrel
    have hk' : k + 1 < 4611686018427387904 := by omega
    by_cases h1 : hasL s.data.toList k 47 = true
    · by_cases h2 : hasL s.data.toList (k + 1) 47 = true
      · have hX := gap_round hr.out.1 h1 h2
        have hL := rowL_le lineB (s.data.toList.drop k)
        rw [show (s.data.toList.drop k).length = s.size - k by simp] at hL
        have hLi := fun w => line_any s k w hs hk
        obtain ⟨k2, hk2⟩ : ∃ k2, k2 = k + rowL lineB (s.data.toList.drop k) := ⟨_, rfl⟩
        rw [← hk2] at hX hLi
        have hk2s : k2 ≤ s.size := by omega
        have hR := fun b cap w => row1_any s k2 1 b cap w hs hk2s
        rw [is_blank] at hR
        have hM := rowL_le blankB (s.data.toList.drop k2)
        rw [show (s.data.toList.drop k2).length = s.size - k2 by simp] at hM
        obtain ⟨k3, hk3⟩ : ∃ k3, k3 = k2 + rowL blankB (s.data.toList.drop k2) := ⟨_, rfl⟩
        rw [← hk3] at hX hR
        have hk3s : k3 ≤ s.size := by omega
        have hlt : k < k3 := by have := hX.2; omega
        have hX1 : Hid (GapAt s.data.toList k0 k3 ∧ Below w.heap.size w wr) := ⟨hX.1, hr.out.2⟩
        have hsz : Hid (w.heap.size ≤ wr.heap.size) := hr.out.2.size
        clear hX hL hk2 hM hk3 hr
        go_wp2_with (first | (go_at_call 39; refine (has_at s _ k ?h1 (by omega) 47 _ hs).mono ?_; (case h1 => omega); rintro e w' ⟨rfl, rfl⟩) | (go_at_call 39; refine (has_at s _ (k + 1) ?h2 (by omega) 47 _ hs).mono ?_; (case h2 => omega); rintro e w' ⟨rfl, rfl⟩) | (go_at_call 41; refine (hLi _).mono ?_; rintro e w' ⟨rfl, rfl⟩) | (go_at_call 35; refine (hR _ _ _ ?hc2).mono ?_; (case hc2 => simp); rintro e w' ⟨rfl, rfl⟩))
        go_roundw
        case rel => exact ⟨k3, hk3s, rfl, hX1.out.1, hX1.out.2.alloc hsz.out _⟩
        case measure => simp [intOf]; omega
      · have h2' : hasL s.data.toList (k + 1) 47 = false := by simpa using h2
        have hE : Hid (k0 + skipL false (s.data.toList.drop k0) = k) := gap_end hr.out.1 (fun h => h2 h.2)
        clear h2
        go_wp2_with (first | (go_at_call 39; refine (has_at s _ k ?h1 (by omega) 47 _ hs).mono ?_; (case h1 => omega); rintro e w' ⟨rfl, rfl⟩) | (go_at_call 39; refine (has_at s _ (k + 1) ?h2 (by omega) 47 _ hs).mono ?_; (case h2 => omega); rintro e w' ⟨rfl, rfl⟩))
        go_ret
        exact ⟨ret_int (by rw [hE.out]), hr.out.2⟩
    · have h1' : hasL s.data.toList k 47 = false := by simpa using h1
      have hE : Hid (k0 + skipL false (s.data.toList.drop k0) = k) := gap_end hr.out.1 (fun h => h1 h.1)
      clear h1
      go_wp2_with (go_at_call 39; refine (has_at s _ k ?h1 (by omega) 47 _ hs).mono ?_; (case h1 => omega); rintro e w' ⟨rfl, rfl⟩)
      go_ret
      exact ⟨ret_int (by rw [hE.out]), hr.out.2⟩
end Go.Proofs.YtbejgachdhfakaaGreatDoor.Sc
/- What the program cuts off at a place: names, literals, signs. -/
namespace Go.Proofs.YtbejgachdhfakaaGreatDoor.Sc
open Go.RowKit

def tokV (kd a e : Int) : Value := .agg #[.int .u8 kd, .int .i64 a, .int .i64 e]
def fltV (er a : Int) : Value := .agg #[.int .i64 er, .int .i64 a]
/-- A token and a fault, as a cutter hands them back, for what is cut off at place k. -/
def cutV (k : Nat) : Except Nat (Nat × Nat) → Value
  | .error p => .tuple #[tokV 0 0 0, fltV 120 ((k + p : Nat) : Int)]
  | .ok (kd, e) => .tuple #[tokV kd k ((k + e : Nat) : Int), fltV 0 0]
theorem bcell {W w1 : World} (hb : Below W.heap.size W w1) : (∀ b o, b < W.heap.size → w1.cell? ⟨b, o, none⟩ = W.cell? ⟨b, o, none⟩) ∧ (∀ b o, b < W.heap.size → w1.frozen? ⟨b, o, none⟩ = W.frozen? ⟨b, o, none⟩) :=
  ⟨fun b o h => hb.cell (p := ⟨b, o, none⟩) h, fun b o h => hb.frozen (p := ⟨b, o, none⟩) h⟩

theorem new0 {W : World} {g : Nat} (hg : g = W.heap.size) (a : Value) (cs : List Value) (t : TypeId) : (W.alloc (.cells (a :: cs).toArray t)).cell? ⟨g, 0, none⟩ = some a := by
  subst hg
  have h := heap_alloc_new W (.cells (a :: cs).toArray t)
  simp only [World.cell?, h]
  rfl
theorem new1 {W : World} {g : Nat} (hg : g = W.heap.size) (a b : Value) (cs : List Value) (t : TypeId) : (W.alloc (.cells (a :: b :: cs).toArray t)).cell? ⟨g, 1, none⟩ = some b := by
  subst hg
  have h := heap_alloc_new W (.cells (a :: b :: cs).toArray t)
  simp only [World.cell?, h]
  rfl

theorem below_store {B : Nat} {w w1 : World} (h : Below B w w1) (a b c d e : Value) : Below B w (((((w1.setCell ⟨B, 0, none⟩ a).setCell ⟨B, 1, none⟩ b).setCell ⟨B, 2, none⟩ c).setCell ⟨B + 1, 0, none⟩ d).setCell ⟨B + 1, 1, none⟩ e) :=
  ((((h.setCell (Nat.le_refl _) a).setCell (Nat.le_refl _) b).setCell (Nat.le_refl _) c).setCell (Nat.le_succ _) d).setCell (Nat.le_succ _) e

theorem ret_two {F : Func} {R : Ending → World → Prop} {t : Array Value} {w w1 : World} {x0 x1 x2 y0 y1 a b c d e : Value}
    (hB : Below (w.heap.size + 2) ((w.alloc (.cells #[x0, x1, x2] 38)).alloc (.cells #[y0, y1] 26)) w1)
    (hr : ∀ Wf : World, Wf.cell? ⟨w.heap.size, 0, none⟩ = some a → Wf.cell? ⟨w.heap.size, 1, none⟩ = some b → Wf.cell? ⟨w.heap.size, 2, none⟩ = some c → Wf.cell? ⟨w.heap.size + 1, 0, none⟩ = some d → Wf.cell? ⟨w.heap.size + 1, 1, none⟩ = some e →
      (results F t).run Tryz.prog Wf = .ok (.tuple #[.agg #[a, b, c], .agg #[d, e]]) Wf)
    (hR : ∀ Wf : World, Below w.heap.size w Wf → R (.returned (.tuple #[.agg #[a, b, c], .agg #[d, e]])) Wf) :
    bodyPost Tryz.prog F R .ret { tmps := t, defers := [] } (((((w1.setCell ⟨w.heap.size, 0, none⟩ a).setCell ⟨w.heap.size, 1, none⟩ b).setCell ⟨w.heap.size, 2, none⟩ c).setCell ⟨w.heap.size + 1, 0, none⟩ d).setCell ⟨w.heap.size + 1, 1, none⟩ e) := by
  have c0 : w1.cell? ⟨w.heap.size, 0, none⟩ = some x0 := by rw [hB.cell (p := ⟨w.heap.size, 0, none⟩) (by simp)]; simp [go_sem]
  have c1 : w1.cell? ⟨w.heap.size, 1, none⟩ = some x1 := by rw [hB.cell (p := ⟨w.heap.size, 1, none⟩) (by simp)]; simp [go_sem]
  have c2 : w1.cell? ⟨w.heap.size, 2, none⟩ = some x2 := by rw [hB.cell (p := ⟨w.heap.size, 2, none⟩) (by simp)]; simp [go_sem]
  have d0 : w1.cell? ⟨w.heap.size + 1, 0, none⟩ = some y0 := by rw [hB.cell (p := ⟨w.heap.size + 1, 0, none⟩) (by simp)]; exact new0 (by simp) _ _ _
  have d1 : w1.cell? ⟨w.heap.size + 1, 1, none⟩ = some y1 := by rw [hB.cell (p := ⟨w.heap.size + 1, 1, none⟩) (by simp)]; exact new1 (by simp) _ _ _ _
  refine bodyPost_ret (hr _ ?_ ?_ ?_ ?_ ?_) rfl (hR _ (below_store (((Below.refl _ _).alloc (Nat.le_refl _) _).alloc (by simp) _ |>.trans (hB.mono (by omega))) _ _ _ _ _))
  all_goals simp [go_sem, c0, c1, c2, d0, d1]

set_option maxHeartbeats 400000 in
theorem name_any (s : ByteArray) (k : Nat) (w : World) (hs : s.size ≤ 65536) (hk : k ≤ s.size) :
    Calls Tryz.prog 16 #[.string s, .int .i64 (k : Int)] w fun e w' => e = .returned (cutV k (nameL (s.data.toList.drop k))) ∧ Below w.heap.size w w' := by
  have hL := rowL_le ldB (s.data.toList.drop k)
  rw [show (s.data.toList.drop k).length = s.size - k by simp] at hL
  have hR := fun b cap w => row2_any s k 2 3 b cap w hs hk
  rw [is_ld] at hR
  have hN : nameL (s.data.toList.drop k) = if 32 < rowL ldB (s.data.toList.drop k) then .error 0 else .ok (if wordB ((s.data.toList.drop k).take (rowL ldB (s.data.toList.drop k))) then 3 else 2, rowL ldB (s.data.toList.drop k)) := rfl
  obtain ⟨n, hn⟩ : ∃ n, n = rowL ldB (s.data.toList.drop k) := ⟨_, rfl⟩
  rw [← hn] at hR hL hN
  clear hn
  obtain ⟨m, hm⟩ : ∃ m, m = k + n := ⟨_, rfl⟩
  rw [← hm] at hR
  have hmk : k ≤ m := by omega
  have hms : m ≤ s.size := by omega
  by_cases h32 : 32 < n
  · rw [if_pos h32] at hN
    have hv : Hid (cutV k (nameL (s.data.toList.drop k)) = .tuple #[.agg #[.int .u8 0, .int .i64 0, .int .i64 0], .agg #[.int .i64 120, .int .i64 (k : Int)]]) := by rw [hN]; rfl
    have h32' : 32 < (m : Int) - k := by omega
    clear hN hm hL h32
    go_enter Tryz.func16, Tryz.ntmps16
    go_wp2_with (first | (go_at_call 35; refine (hR _ _ _ ?h1 ?h2).mono ?_; (case h1 => exact new0 (by simp) _ _ _); (case h2 => exact new1 (by simp) _ _ _ _); rintro e w' ⟨rfl, rfl⟩) | (go_at_call 36; refine (refused_any _ _).mono ?_; rintro e w1 ⟨rfl, hb⟩; obtain ⟨hc, hf⟩ := bcell hb))
    refine ret_two (((Below.refl _ _).alloc (by simp) _).trans (hb.mono (by simp))) ?r (fun Wf h => ⟨by rw [hv.out], h⟩)
    case r => intro Wf h0 h1 h2 h3 h4; simp [results, Tryz.results16, go_sem, h0, h1, h2, h3, h4]
  · rw [if_neg h32] at hN
    have hx : Hid ((s.extract k m).data.toList = (s.data.toList.drop k).take n) := by
      show _ = _
      rw [Lib.extract_data]; congr 1; omega
    obtain ⟨b, hbw⟩ : ∃ b, wordB ((s.data.toList.drop k).take n) = b := ⟨_, rfl⟩
    rw [hbw] at hN
    have hW : Hid (wordB (s.extract k m).data.toList = b) := by rw [hx.out]; exact hbw
    have h32' : (m : Int) - k ≤ 32 := by omega
    have hmi : ((k + n : Nat) : Int) = m := by omega
    cases b
    · have hv : Hid (cutV k (nameL (s.data.toList.drop k)) = .tuple #[.agg #[.int .u8 2, .int .i64 k, .int .i64 (m : Int)], .agg #[.int .i64 0, .int .i64 0]]) := by show _ = _; rw [hN, ← hmi]; rfl
      clear hN hm hL h32 hbw hx hmi
      go_enter Tryz.func16, Tryz.ntmps16
      go_wp2_with (first | (go_at_call 35; refine (hR _ _ _ ?h1 ?h2).mono ?_; (case h1 => exact new0 (by simp) _ _ _); (case h2 => exact new1 (by simp) _ _ _ _); rintro e w' ⟨rfl, rfl⟩) | (go_at_call 37; refine (word_any _ _).mono ?_; rintro e w' ⟨rfl, rfl⟩; rw [hW.out]) | (go_at_call 38; refine (taken_any _ _ _ _).mono ?_; rintro e w1 ⟨rfl, hb⟩; obtain ⟨hc, hf⟩ := bcell hb))
      refine ret_two (((Below.refl _ _).alloc (by simp) _).trans (hb.mono (by simp))) ?r (fun Wf h => ⟨by rw [hv.out], h⟩)
      case r => intro Wf h0 h1 h2 h3 h4; simp [results, Tryz.results16, go_sem, h0, h1, h2, h3, h4]
    · have hv : Hid (cutV k (nameL (s.data.toList.drop k)) = .tuple #[.agg #[.int .u8 3, .int .i64 k, .int .i64 (m : Int)], .agg #[.int .i64 0, .int .i64 0]]) := by show _ = _; rw [hN, ← hmi]; rfl
      clear hN hm hL h32 hbw hx hmi
      go_enter Tryz.func16, Tryz.ntmps16
      go_wp2_with (first | (go_at_call 35; refine (hR _ _ _ ?h1 ?h2).mono ?_; (case h1 => exact new0 (by simp) _ _ _); (case h2 => exact new1 (by simp) _ _ _ _); rintro e w' ⟨rfl, rfl⟩) | (go_at_call 37; refine (word_any _ _).mono ?_; rintro e w' ⟨rfl, rfl⟩; rw [hW.out]) | (go_at_call 38; refine (taken_any _ _ _ _).mono ?_; rintro e w1 ⟨rfl, hb⟩; obtain ⟨hc, hf⟩ := bcell hb))
      refine ret_two (((Below.refl _ _).alloc (by simp) _).trans (hb.mono (by simp))) ?r (fun Wf h => ⟨by rw [hv.out], h⟩)
      case r => intro Wf h0 h1 h2 h3 h4; simp [results, Tryz.results16, go_sem, h0, h1, h2, h3, h4]
end Go.Proofs.YtbejgachdhfakaaGreatDoor.Sc
/- What the program cuts off at a place: signs, and literals with a point. -/
namespace Go.Proofs.YtbejgachdhfakaaGreatDoor.Sc
open Go.RowKit

theorem two_list {s : ByteArray} {k : Nat} : (s.extract k (k + 2)).toList = (s.data.toList.drop k).take 2 := by
  rw [Lib.toList_data, Lib.extract_data]; congr 1; omega
theorem sign_two {s : ByteArray} {k : Nat} {x : List UInt8} (h : ((s.extract k (k + 2)).toList == x) = true) (hx : twoB x = true) : signL (s.data.toList.drop k) = 2 := by
  have e : (s.extract k (k + 2)).toList = x := by simpa using h
  rw [two_list] at e
  unfold signL; rw [e, if_pos hx]
theorem sign_one {s : ByteArray} {k : Nat} (h : ∀ x ∈ twosL, ((s.extract k (k + 2)).toList == x) = false) : signL (s.data.toList.drop k) = 1 := by
  unfold signL
  rw [if_neg]
  unfold twoB
  rw [List.contains_eq_mem]
  simp only [decide_eq_true_eq]
  intro hm
  have := h _ hm
  rw [two_list] at this
  simp at this
theorem sign_short {l : List UInt8} (h : l.length < 2) : signL l = 1 := by
  match l, h with
  | [], _ => rfl
  | [c], _ =>
    unfold signL
    rw [if_neg]
    simp [twoB, twosL]
theorem sign_v2 {k : Nat} {l : List UInt8} (h : signL l = 2) : cutV k (.ok (6, signL l)) = .tuple #[.agg #[.int .u8 6, .int .i64 (k : Int), .int .i64 ((k : Int) + 2)], .agg #[.int .i64 0, .int .i64 0]] := by
  rw [h]; simp only [cutV, tokV, fltV, Int.natCast_add]; rfl
theorem sign_v1 {k : Nat} {l : List UInt8} (h : signL l = 1) : cutV k (.ok (6, signL l)) = .tuple #[.agg #[.int .u8 6, .int .i64 (k : Int), .int .i64 ((k : Int) + 1)], .agg #[.int .i64 0, .int .i64 0]] := by
  rw [h]; simp only [cutV, tokV, fltV, Int.natCast_add]; rfl
theorem has_in (s : ByteArray) (i : Int) (k : Nat) (hi : i = (k : Int)) (hk : k < 4611686018427387904) (d : Int) (c : UInt8) (hd : d = (c.toNat : Int)) (w : World) (hs : s.size ≤ 65536) :
    Calls Tryz.prog 39 #[.string s, .int .i64 i, .int .u8 d] w fun e w' => e = .returned (.bool (hasL s.data.toList k c)) ∧ w' = w := by
  subst hi hd; exact has_any s k c w (by omega) hk

set_option maxHeartbeats 1000000 in
theorem sign_any (s : ByteArray) (k : Nat) (w : World) (hs : s.size ≤ 65536) (hk : k < s.size) :
    Calls Tryz.prog 18 #[.string s, .int .i64 (k : Int)] w fun e w' => e = .returned (cutV k (.ok (6, signL (s.data.toList.drop k)))) ∧ Below w.heap.size w w' := by
  by_cases h2 : k + 2 ≤ s.size
  · go_enter Tryz.func18, Tryz.ntmps18
    go_wp2_with (go_at_call 38; refine (taken_any _ _ _ _).mono ?_; rintro e w1 ⟨rfl, hb⟩; obtain ⟨hc, hf⟩ := bcell hb)
    all_goals first | (exact no_bool (by assumption) (by assumption)) | skip
    all_goals first | (refine ret_two (((Below.refl _ _)).trans (Below.mono (by assumption) (by simp))) ?r (fun Wf h => ⟨by rw [sign_v2 (sign_two (by assumption) (by decide))], h⟩); (case r => intro Wf h0 h1 h2 h3 h4; simp [results, Tryz.results18, go_sem, h0, h1, h2, h3, h4])) | skip
    have ht : ∀ x ∈ twosL, ((s.extract k (k + 2)).toList == x) = false := by
      intro x hx
      simp only [twosL, List.mem_cons, List.not_mem_nil, or_false] at hx
      rcases hx with rfl | rfl | rfl | rfl | rfl | rfl | rfl | rfl
      all_goals assumption
    refine ret_two ((Below.refl _ _).trans (hb.mono (by simp))) ?r (fun Wf h => ⟨by rw [sign_v1 (sign_one ht)], h⟩)
    case r => intro Wf h0 h1 h2 h3 h4; simp [results, Tryz.results18, go_sem, h0, h1, h2, h3, h4]
  · go_enter Tryz.func18, Tryz.ntmps18
    go_wp2_with (go_at_call 38; refine (taken_any _ _ _ _).mono ?_; rintro e w1 ⟨rfl, hb⟩; obtain ⟨hc, hf⟩ := bcell hb)
    refine ret_two ((Below.refl _ _).trans (hb.mono (by simp))) ?r (fun Wf h => ⟨by rw [sign_v1 (sign_short (by simp; omega))], h⟩)
    case r => intro Wf h0 h1 h2 h3 h4; simp [results, Tryz.results18, go_sem, h0, h1, h2, h3, h4]

theorem signed_any (s : ByteArray) (i : Int) (k : Nat) (hi : i = (k : Int)) (w : World) (hs : s.size ≤ 65536) (hk : k ≤ s.size) :
    Calls Tryz.prog 89 #[.string s, .int .i64 i] w fun e w' => e = .returned (.int .i64 ((if hasL s.data.toList k 43 || hasL s.data.toList k 45 then k + 1 else k : Nat) : Int)) ∧ w' = w := by
  subst hi
  cases h1 : hasL s.data.toList k 43
  · cases h2 : hasL s.data.toList k 45
    · go_enter Tryz.func89, Tryz.ntmps89
      go_wp2_with (first | (go_at_call 39; refine (has_in s _ k ?hh (by omega) _ 43 ?hd _ hs).mono ?_; (case hh => rfl); (case hd => decide); rintro e w' ⟨rfl, rfl⟩) | (go_at_call 39; refine (has_in s _ k ?hh2 (by omega) _ 45 ?hd2 _ hs).mono ?_; (case hh2 => rfl); (case hd2 => decide); rintro e w' ⟨rfl, rfl⟩))
      go_ret
      exact ⟨ret_int rfl, rfl⟩
    · go_enter Tryz.func89, Tryz.ntmps89
      go_wp2_with (first | (go_at_call 39; refine (has_in s _ k ?hh (by omega) _ 43 ?hd _ hs).mono ?_; (case hh => rfl); (case hd => decide); rintro e w' ⟨rfl, rfl⟩) | (go_at_call 39; refine (has_in s _ k ?hh2 (by omega) _ 45 ?hd2 _ hs).mono ?_; (case hh2 => rfl); (case hd2 => decide); rintro e w' ⟨rfl, rfl⟩))
      go_ret
      exact ⟨ret_int (by simp), rfl⟩
  · go_enter Tryz.func89, Tryz.ntmps89
    go_wp2_with (first | (go_at_call 39; refine (has_in s _ k ?hh (by omega) _ 43 ?hd _ hs).mono ?_; (case hh => rfl); (case hd => decide); rintro e w' ⟨rfl, rfl⟩) | (go_at_call 39; refine (has_in s _ k ?hh2 (by omega) _ 45 ?hd2 _ hs).mono ?_; (case hh2 => rfl); (case hd2 => decide); rintro e w' ⟨rfl, rfl⟩))
    go_ret
    exact ⟨ret_int (by simp), rfl⟩
end Go.Proofs.YtbejgachdhfakaaGreatDoor.Sc
