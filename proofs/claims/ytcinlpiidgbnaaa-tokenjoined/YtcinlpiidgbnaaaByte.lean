/- Contracts of the small functions: the sort of a byte, what stands at a place, tokens and faults. -/
import Derived.Test.YtcinlpiidgbnaaaProg
import Derived.Test.YtcinlpiidgbnaaaPlain
import Derived.WalkKit
import Derived.WalkLawsBesides
import Derived.Deep.LoopGhost
import Derived.Deep.QuietTactic
import Derived.BigQuiet
import Derived.WalkSpells
import Derived.Laws.Externs
import Derived.Lib.Bytealg
namespace Go.Proofs.Ytcinlpiidgbnaaa
open Go.RowKit
theorem ret_int {k : IntKind} {a b : Int} (h : a = b) : Ending.returned (.int k a) = .returned (.int k b) := by rw [h]
theorem ret_bool {a b : Bool} (h : a = b) : Ending.returned (.bool a) = .returned (.bool b) := by rw [h]
theorem u8_eq (c d : UInt8) : (c == d) = decide ((c.toNat : Int) = (d.toNat : Int)) := by
  rw [Bool.eq_iff_iff]; simp [← UInt8.toNat_inj]; omega
theorem blankB_iff (c : UInt8) : blankB c = decide ((c.toNat : Int) = 32 ∨ (c.toNat : Int) = 9 ∨ (c.toNat : Int) = 10 ∨ (c.toNat : Int) = 13) := by
  rw [Bool.eq_iff_iff]; simp [blankB, ← UInt8.toNat_inj]; omega
theorem letterB_iff (c : UInt8) : letterB c = decide ((97 ≤ (c.toNat : Int) ∧ (c.toNat : Int) ≤ 122) ∨ (65 ≤ (c.toNat : Int) ∧ (c.toNat : Int) ≤ 90) ∨ (c.toNat : Int) = 95) := by
  rw [Bool.eq_iff_iff]; simp [letterB, ← UInt8.toNat_inj, UInt8.le_iff_toNat_le]; omega
theorem digitB_iff (c : UInt8) : digitB c = decide (48 ≤ (c.toNat : Int) ∧ (c.toNat : Int) ≤ 57) := by
  rw [Bool.eq_iff_iff]; simp [digitB, UInt8.le_iff_toNat_le]; omega
theorem blank_any (c : UInt8) (w : World) : Calls Try.prog 35 #[.int .u8 (c.toNat : Int)] w fun e w' => e = .returned (.bool (blankB c)) ∧ w' = w := by
  go_enter Try.func35, Try.ntmps35
  go_wp2
  all_goals go_ret
  all_goals (refine ⟨ret_bool ?_, rfl⟩; rw [blankB_iff, Bool.eq_iff_iff]; simp; try omega)
theorem letter_any (c : UInt8) (w : World) : Calls Try.prog 23 #[.int .u8 (c.toNat : Int)] w fun e w' => e = .returned (.bool (letterB c)) ∧ w' = w := by
  go_enter Try.func23, Try.ntmps23
  go_wp2
  all_goals go_ret
  all_goals (refine ⟨ret_bool ?_, rfl⟩; rw [letterB_iff, Bool.eq_iff_iff]; simp; try omega)
theorem digit_any (c : UInt8) (w : World) : Calls Try.prog 25 #[.int .u8 (c.toNat : Int)] w fun e w' => e = .returned (.bool (digitB c)) ∧ w' = w := by
  go_enter Try.func25, Try.ntmps25
  go_wp2
  all_goals go_ret
  all_goals (refine ⟨ret_bool ?_, rfl⟩; rw [digitB_iff, Bool.eq_iff_iff]; simp; try omega)
theorem taken_any (kd a b : Int) (w : World) : Calls Try.prog 30 #[.int .u8 kd, .int .i64 a, .int .i64 b] w fun e w' => e = .returned (.tuple #[.agg #[.int .u8 kd, .int .i64 a, .int .i64 b], .agg #[.int .i64 0, .int .i64 0]]) ∧ Below w.heap.size w w' := by
  go_enter Try.func30, Try.ntmps30
  go_wp2
  exact bodyPost_ret (v := .tuple #[.agg #[.int .u8 kd, .int .i64 a, .int .i64 b], .agg #[.int .i64 0, .int .i64 0]]) (by simp [results, Try.results30, go_sem]) rfl ⟨rfl, ((Below.refl _ _).alloc (Nat.le_refl _) _).alloc (by simp) _⟩
theorem refused_any (a : Int) (w : World) : Calls Try.prog 29 #[.int .i64 a] w fun e w' => e = .returned (.tuple #[.agg #[.int .u8 0, .int .i64 0, .int .i64 0], .agg #[.int .i64 120, .int .i64 a]]) ∧ Below w.heap.size w w' := by
  go_enter Try.func29, Try.ntmps29
  go_wp2
  exact bodyPost_ret (v := .tuple #[.agg #[.int .u8 0, .int .i64 0, .int .i64 0], .agg #[.int .i64 120, .int .i64 a]]) (by simp [results, Try.results29, go_sem]) rfl ⟨rfl, ((Below.refl _ _).alloc (Nat.le_refl _) _).alloc (by simp) _⟩
theorem hasL_at {s : ByteArray} {k : Nat} (c : UInt8) (h : k < s.size) : hasL s.data.toList k c = decide ((s[k].toNat : Int) = (c.toNat : Int)) := by
  have e : s.data.toList[k]? = some s[k] := by
    rw [List.getElem?_eq_getElem (by simpa using h)]; rfl
  unfold hasL
  rw [e, ← u8_eq]; simp
theorem hasL_off {s : ByteArray} {k : Nat} (c : UInt8) (h : ¬ k < s.size) : hasL s.data.toList k c = false := by
  have e : s.data.toList[k]? = none := List.getElem?_eq_none (by simp; exact Nat.le_of_not_lt h)
  unfold hasL
  rw [e]; rfl

theorem has_any (s : ByteArray) (k : Nat) (c : UInt8) (w : World) (_hs : s.size < 4611686018427387904) (_hk : k < 4611686018427387904) :
    Calls Try.prog 31 #[.string s, .int .i64 (k : Int), .int .u8 (c.toNat : Int)] w fun e w' => e = .returned (.bool (hasL s.data.toList k c)) ∧ w' = w := by
  by_cases h : k < s.size
  · go_enter Try.func31, Try.ntmps31
    go_wp2
    go_ret
    exact ⟨ret_bool (by rw [hasL_at c h]; rfl), rfl⟩
  · go_enter Try.func31, Try.ntmps31
    go_wp2
    go_ret
    exact ⟨ret_bool (hasL_off c h).symm, rfl⟩

theorem byte_back (c : UInt8) : ((c.toNat : Int)).toNat.toUInt8 = c := by simp
theorem index_any (s : ByteArray) (c : UInt8) (w : World) : Calls Try.prog 34 #[.string s, .int .u8 (c.toNat : Int)] w fun e w' => e = .returned (.int .i64 (Lib.indexByte s.data.toList c)) ∧ w' = w := by
  have f1 : ∀ w, (callFunc 38 #[.string s, .int .u8 (c.toNat : Int)]).run Try.prog w = .ok (.value (.int .i64 (Lib.indexByte s.data.toList c))) w := by
    intro w
    rw [run_callFunc_extern Try.func38 (by kernel_rfl) (by kernel_rfl) (by kernel_rfl) (e := Extern.BytealgIndexByte.indexByte) (by kernel_rfl), Lib.run_indexByteString, byte_back]
    rfl
  go_enter Try.func34, Try.ntmps34
  go_wp2
  go_ret
  exact ⟨rfl, rfl⟩

theorem index_ge (l : List UInt8) (c : UInt8) : decide (0 ≤ Lib.indexByte l c) = l.contains c := by
  induction l with
  | nil => simp [Lib.indexByte]
  | cons b t ih =>
    have h1 : -1 ≤ Lib.indexByte t c := by
      clear ih
      induction t with
      | nil => simp [Lib.indexByte]
      | cons d u ih2 => simp only [Lib.indexByte]; split <;> (try split) <;> omega
    rw [Bool.eq_iff_iff] at ih ⊢
    simp only [decide_eq_true_eq, List.contains_cons, Bool.or_eq_true] at ih ⊢
    by_cases h : b = c
    · subst h; simp [Lib.indexByte]
    · have h' : (b == c) = false := by simpa using h
      have h'' : (c == b) = false := by simpa using fun e => h e.symm
      have e1 : Lib.indexByte (b :: t) c = if Lib.indexByte t c == -1 then -1 else Lib.indexByte t c + 1 := by simp [Lib.indexByte, h']
      rw [e1, h'', ← ih]
      split
      · rename_i e; simp at e; rw [e]; simp
      · rename_i e; simp at e; simp; omega

theorem sort_any (c : UInt8) (w : World) : Calls Try.prog 21 #[.int .u8 (c.toNat : Int)] w fun e w' => e = .returned (.int .u8 (sortN c : Int)) ∧ w' = w := by
  have H : Hid (sortN c = if (c.toNat : Int) = 32 ∨ (c.toNat : Int) = 9 ∨ (c.toNat : Int) = 10 ∨ (c.toNat : Int) = 13 then 1 else if (97 ≤ (c.toNat : Int) ∧ (c.toNat : Int) ≤ 122) ∨ (65 ≤ (c.toNat : Int) ∧ (c.toNat : Int) ≤ 90) ∨ (c.toNat : Int) = 95 then 2 else if 48 ≤ (c.toNat : Int) ∧ (c.toNat : Int) ≤ 57 then 3 else if 0 ≤ Lib.indexByte onesL c then 4 else 0) := by
    show sortN c = _
    have hm : markB c = decide (0 ≤ Lib.indexByte onesL c) := (index_ge onesL c).symm
    simp only [sortN, blankB_iff, letterB_iff, digitB_iff, hm, decide_eq_true_eq]
  go_enter Try.func21, Try.ntmps21
  go_wp2_with (go_at_call 34; refine (index_any _ c _).mono ?_; rintro e w' ⟨rfl, rfl⟩)
  all_goals go_ret
  all_goals (refine ⟨ret_int ?_, rfl⟩; rw [H.out]; clear H; unfold onesL; simp only [beq_eq_false_iff_ne, beq_iff_eq, ne_eq] at *; (repeat' split) <;> first | rfl | omega)
end Go.Proofs.Ytcinlpiidgbnaaa
