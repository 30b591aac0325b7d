/- The contract of strings.IndexAny at this program, laid by the shelf. -/
import Derived.Shelf.Strings.IndexAnyAll
import Derived.Test.YtbejgachdhfakaaGreatDoorProg
import Derived.Test.YtbejgachdhfakaaGreatDoorGO
import Derived.Test.YtbejgachdhfakaaGreatDoorScal
import Derived.Test.YtbejgachdhfakaaGreatDoorGB
import Derived.Test.YtbejgachdhfakaaGreatDoorGE
namespace Go.Proofs
open Go.Shelf
def Tryz.lays153_ren : Go.Shelf.Ren := ⟨fun | 153 => 198 | 152 => 210 | 226 => 211 | 227 => 205 | 228 => 212 | 137 => 42 | 119 => 222 | 224 => 223 | 225 => 224 | 217 => 90 | 266 => 136 | n => n, fun | 9 => 9 | 3 => 3 | 4 => 4 | 5 => 5 | 21 => 21 | 117 => 325 | 116 => 324 | 0 => 0 | 46 => 271 | 124 => 328 | n => n, fun | n => n⟩
theorem Tryz.lays153 : Go.Proofs.Lays.n153 Tryz.prog Tryz.lays153_ren := {
  mixed := by kernel_rfl
  f119 := Tryz.func222.trans (congrArg some (by kernel_rfl))
  f137 := Tryz.func42.trans (congrArg some (by kernel_rfl))
  f152 := Tryz.func210.trans (congrArg some (by kernel_rfl))
  f153 := Tryz.func198.trans (congrArg some (by kernel_rfl))
  f217 := Tryz.func90.trans (congrArg some (by kernel_rfl))
  f224 := Tryz.func223.trans (congrArg some (by kernel_rfl))
  f225 := Tryz.func224.trans (congrArg some (by kernel_rfl))
  f226 := Tryz.func211.trans (congrArg some (by kernel_rfl))
  f227 := Tryz.func205.trans (congrArg some (by kernel_rfl))
  f228 := Tryz.func212.trans (congrArg some (by kernel_rfl))
  f266 := Tryz.func136.trans (congrArg some (by kernel_rfl))
  t0 := Tryz.underlying0
  a0 := Tryz.isAgg0
  z0 := Tryz.sizeOf0
  v0 := Tryz.zeroValue0
  t3 := Tryz.underlying3
  a3 := Tryz.isAgg3
  z3 := Tryz.sizeOf3
  v3 := Tryz.zeroValue3
  t4 := Tryz.underlying4
  a4 := Tryz.isAgg4
  z4 := Tryz.sizeOf4
  v4 := Tryz.zeroValue4
  t5 := Tryz.underlying5
  a5 := Tryz.isAgg5
  z5 := Tryz.sizeOf5
  v5 := Tryz.zeroValue5
  t9 := Tryz.underlying9
  a9 := Tryz.isAgg9
  z9 := Tryz.sizeOf9
  v9 := Tryz.zeroValue9
  t21 := Tryz.underlying21
  a21 := Tryz.isAgg21
  z21 := Tryz.sizeOf21
  v21 := Tryz.zeroValue21
  t46 := Tryz.underlying271
  a46 := Tryz.isAgg271
  z46 := Tryz.sizeOf271
  v46 := Tryz.zeroValue271
  t116 := Tryz.underlying324
  a116 := Tryz.isAgg324
  z116 := Tryz.sizeOf324
  t117 := Tryz.underlying325
  a117 := Tryz.isAgg325
  z117 := Tryz.sizeOf325
  v117 := Tryz.zeroValue325
  t124 := Tryz.underlying328
  a124 := Tryz.isAgg328
  z124 := Tryz.sizeOf328
  v124 := Tryz.zeroValue328 }
open Go.RowKit Go.Lib in
theorem Tryz.strings_IndexAny_laid (s chars : ByteArray) (w : World) (hs : s.size < 4294967281) (hcs : chars.size < 4294967281) (has : ∀ (j : Nat) b, s.data.toList[j]? = some b → b.toNat < 128) (hac : ∀ (j : Nat) b, chars.data.toList[j]? = some b → b.toNat < 128) :
    Calls Tryz.prog 198 #[.string s, .string chars] w fun e w' => e = .returned (.int .i64 (Lib.indexAny s.data.toList chars.data.toList)) ∧ Below w.heap.size w w' := Any.strings_IndexAny_laid Tryz.lays153 (by kernel_rfl) s chars w hs hcs has hac
end Go.Proofs
/- A literal's type and word, as the program reads them, against the plain function. -/
namespace Go.Proofs.YtbejgachdhfakaaGreatDoor
open Go.RowKit

/-- No i and no u. -/
def noIU (b : UInt8) : Bool := !([105, 117] : List UInt8).contains b
def cutIU (x : List UInt8) : List UInt8 × List UInt8 := (x.takeWhile noIU, x.dropWhile noIU)
theorem index_iu : ∀ x : List UInt8, Lib.indexAny x [105, 117] = if (cutIU x).2 = [] then -1 else ((cutIU x).1.length : Int)
  | [] => rfl
  | b :: l => by
    have ih := index_iu l
    unfold Lib.indexAny
    by_cases hb : ([105, 117] : List UInt8).contains b = true
    · have hn : noIU b = false := by unfold noIU; rw [hb]; rfl
      rw [if_pos hb]
      simp [cutIU, List.takeWhile, List.dropWhile, hn]
    · have hn : noIU b = true := by unfold noIU; simpa using hb
      have e1 : (cutIU (b :: l)).1 = b :: (cutIU l).1 := by simp [cutIU, List.takeWhile, hn]
      have e2 : (cutIU (b :: l)).2 = (cutIU l).2 := by simp [cutIU, List.dropWhile, hn]
      rw [if_neg hb, ih, e1, e2]
      by_cases hs : (cutIU l).2 = []
      · rw [if_pos hs, if_pos hs]; rfl
      · rw [if_neg hs, if_neg hs]
        have hne : ¬ (((cutIU l).1.length : Int) == -1) = true := by
          intro hc
          have := eq_of_beq hc
          omega
        rw [if_neg hne]
        simp
/-- The type that stands behind the digits. -/
def iuT (x : List UInt8) : Nat := if (cutIU x).2 = [] then 4 else typN (cutIU x).2
theorem iuT_lt (x : List UInt8) : iuT x < 6 := by
  unfold iuT typN
  split
  · omega
  · repeat' split
    all_goals omega
theorem cut_app (x : List UInt8) : (cutIU x).1 ++ (cutIU x).2 = x := List.takeWhile_append_dropWhile
def WholeTold (b : ByteArray) (w : World) (e : Ending) (w' : World) : Prop := Below w.heap.size w w' ∧ ∃ (n : Int) (ok : Bool), e = .returned (.tuple #[typV (iuT b.toList), .int .u64 n, .bool ok]) ∧
  ((ok = true ∧ uintOk ⟨(cutIU b.toList).1.toArray⟩ ∧ n = (digitsV (cutIU b.toList).1 : Int)) ∨ (ok = false ∧ ¬ uintOk ⟨(cutIU b.toList).1.toArray⟩))
theorem drawn {B : Nat} {a w : World} (h : Below B a w) (n : Nat) : Below B a (w.drewN n) := h.trans ⟨rfl, rfl, rfl, Nat.le_refl _, fun _ _ => rfl⟩
theorem extract_hi (b : ByteArray) (k : Nat) : (b.extract k b.size).toList = b.toList.drop k := by
  rw [Lib.toList_data, Lib.toList_data, Lib.extract_data]
  exact List.take_of_length_le (by simp)
theorem extract_lo (b : ByteArray) (k : Nat) : b.extract 0 k = ⟨(b.toList.take k).toArray⟩ := by
  rw [Lib.toList_data]
  apply ByteArray.ext
  apply Array.ext'
  rw [Lib.extract_data]
  simp
theorem mk_toList (b : ByteArray) : (⟨b.toList.toArray⟩ : ByteArray) = b := by
  rw [Lib.toList_data]
theorem mk_list (l : List UInt8) : (⟨l.toArray⟩ : ByteArray).toList = l := by
  rw [Lib.toList_data]
theorem nil_neq (ty : TypeId) (x : Value) (w : World) : (binOp .eql 287 (.iface ty x) .nilIface).run Tryz.prog w = .ok (.bool false) w := by kernel_rfl
theorem nil_eq (w : World) : (binOp .eql 287 .nilIface .nilIface).run Tryz.prog w = .ok (.bool true) w := by kernel_rfl
set_option maxRecDepth 100000 in
set_option maxHeartbeats 1000000 in
theorem whole_any' (b : ByteArray) (w : World) (hs : b.size ≤ 65536) (hw : GlobsAt w) (ha : ∀ c ∈ b.toList, c.toNat < 128) : Calls Tryz.prog 191 #[.string b] w (WholeTold b w) := by
  have HI : Hid (Calls Tryz.prog 198 #[.string b, .string ⟨#[105, 117]⟩] w fun e w' => e = .returned (.int .i64 (if (cutIU b.toList).2 = [] then -1 else ((cutIU b.toList).1.length : Int))) ∧ Below w.heap.size w w') := by
    have := Tryz.strings_IndexAny_laid b ⟨#[105, 117]⟩ w (by omega) (by decide) (fun j c hc => ha c (by rw [Lib.toList_data]; exact List.mem_of_getElem? hc)) (fun j c hc => by
      have : c ∈ ([105, 117] : List UInt8) := List.mem_of_getElem? hc
      simp at this
      rcases this with rfl | rfl <;> decide)
    have e : Lib.indexAny b.data.toList (⟨#[105, 117]⟩ : ByteArray).data.toList = Lib.indexAny b.toList [105, 117] := by rw [Lib.toList_data]
    rw [e, index_iu] at this
    exact this
  have happ := cut_app b.toList
  have hlen : b.toList.length = b.size := by rw [Lib.toList_data]; simp
  unfold WholeTold iuT
  have n1 := nil_neq
  have n2 := nil_eq
  by_cases h2 : (cutIU b.toList).2 = []
  · rw [if_pos h2] at HI ⊢
    have h1 : (cutIU b.toList).1 = b.toList := by rw [h2, List.append_nil] at happ; exact happ
    rw [h1, mk_toList]
    have HU : Hid (∀ W, Below w.heap.size w W → Calls Tryz.prog 170 #[.string b, .int .i64 10, .int .i64 63] W fun e w' => Below W.heap.size W w' ∧
      ((uintOk b ∧ e = .returned (.tuple #[.int .u64 (digitsV b.toList : Int), .nilIface])) ∨ (¬ uintOk b ∧ ∃ (n : Int) (ty : TypeId) (x : Value), e = .returned (.tuple #[.int .u64 n, .iface ty x])))) := fun W hb => does_uint b W hs (hw.below hw.lt hb)
    clear hw happ hlen h1 h2 ha
    generalize digitsV b.toList = d at HU ⊢
    go_enter Tryz.func191, Tryz.ntmps191
    go_wp2_with (first | (go_at_call 198; refine Calls.mono (by exact HI.out) ?_; rintro e w1 ⟨rfl, hb1⟩) | (go_at_call 170; refine Calls.mono (by exact HU.out _ hb1) ?_; rintro e w2 ⟨hb2, ⟨hok, rfl⟩ | ⟨hno, n, ty, x, rfl⟩⟩))
    · go_quiet (fail)
      go_wp2
      go_ret3
      exact ⟨drawn (hb1.trans (hb2.mono hb1.size)) _, _, _, rfl, .inl ⟨rfl, hok, rfl⟩⟩
    · go_quiet (fail)
      go_wp2
      go_ret3
      exact ⟨drawn (hb1.trans (hb2.mono hb1.size)) _, _, _, rfl, .inr ⟨rfl, hno⟩⟩
  · rw [if_neg h2] at HI ⊢
    have hk : (cutIU b.toList).1.length ≤ b.size := by have := congrArg List.length happ; rw [List.length_append] at this; omega
    have e1 : b.extract 0 (cutIU b.toList).1.length = ⟨(cutIU b.toList).1.toArray⟩ := by
      have t1 : ((cutIU b.toList).1 ++ (cutIU b.toList).2).take (cutIU b.toList).1.length = (cutIU b.toList).1 := List.take_left
      rw [happ] at t1
      rw [extract_lo, t1]
    have e2 : (b.extract (cutIU b.toList).1.length b.size).toList = (cutIU b.toList).2 := by
      have t1 : ((cutIU b.toList).1 ++ (cutIU b.toList).2).drop (cutIU b.toList).1.length = (cutIU b.toList).2 := List.drop_left
      rw [happ] at t1
      rw [extract_hi, t1]
    have HT : Hid (∀ W, Calls Tryz.prog 96 #[.string (b.extract (cutIU b.toList).1.length b.size)] W fun e w' => e = .returned (typV (typN (cutIU b.toList).2)) ∧ w' = W) := fun W => by
      have := typeOf_any (b.extract (cutIU b.toList).1.length b.size) W
      rw [e2] at this
      exact this
    have hds : (⟨(cutIU b.toList).1.toArray⟩ : ByteArray).size ≤ 65536 := by
      show (cutIU b.toList).1.toArray.size ≤ _
      simp; omega
    have HU : Hid (∀ W, Below w.heap.size w W → Calls Tryz.prog 170 #[.string (b.extract 0 (cutIU b.toList).1.length), .int .i64 10, .int .i64 63] W fun e w' => Below W.heap.size W w' ∧
      ((uintOk ⟨(cutIU b.toList).1.toArray⟩ ∧ e = .returned (.tuple #[.int .u64 (digitsV (cutIU b.toList).1 : Int), .nilIface])) ∨ (¬ uintOk ⟨(cutIU b.toList).1.toArray⟩ ∧ ∃ (n : Int) (ty : TypeId) (x : Value), e = .returned (.tuple #[.int .u64 n, .iface ty x])))) := fun W hb => by
      have := does_uint ⟨(cutIU b.toList).1.toArray⟩ W hds (hw.below hw.lt hb)
      rw [mk_list (cutIU b.toList).1] at this
      rw [e1]
      exact this
    clear hw happ e1 e2 ha hds h2
    generalize uintOk ⟨(cutIU b.toList).1.toArray⟩ = UO at HU ⊢
    generalize digitsV (cutIU b.toList).1 = d at HU ⊢
    generalize typN (cutIU b.toList).2 = ty0 at HT ⊢
    generalize (cutIU b.toList).1.length = k at HU HT HI hk ⊢
    go_enter Tryz.func191, Tryz.ntmps191
    go_wp2_with (first | (go_at_call 198; refine Calls.mono (by exact HI.out) ?_; rintro e w1 ⟨rfl, hb1⟩) | (go_at_call 96; refine Calls.mono (by exact HT.out _) ?_; rintro e w' ⟨rfl, rfl⟩) | (go_at_call 170; refine Calls.mono (by exact HU.out _ hb1) ?_; rintro e w2 ⟨hb2, ⟨hok, rfl⟩ | ⟨hno, n, ty, x, rfl⟩⟩))
    · go_quiet (fail)
      go_wp2
      go_ret3
      exact ⟨drawn (hb1.trans (hb2.mono hb1.size)) _, _, _, rfl, .inl ⟨rfl, hok, rfl⟩⟩
    · go_quiet (fail)
      go_wp2
      go_ret3
      exact ⟨drawn (hb1.trans (hb2.mono hb1.size)) _, _, _, rfl, .inr ⟨rfl, hno⟩⟩

theorem typN_iu {x : List UInt8} {c : UInt8} {l : List UInt8} (hx : x = c :: l) (hc : noIU c = true) : typN x ≠ 2 ∧ typN x ≠ 3 ∧ typN x ≠ 4 := by
  subst hx
  have h1 : c ≠ 105 := by rintro rfl; exact absurd hc (by decide)
  have h2 : c ≠ 117 := by rintro rfl; exact absurd hc (by decide)
  unfold typN
  repeat' split
  all_goals simp_all
theorem typN_iu2 {x : List UInt8} {c : UInt8} {l : List UInt8} (hx : x = c :: l) (hc : noIU c = false) : typN x ≠ 1 ∧ typN x ≠ 5 := by
  subst hx
  have h1 : c ≠ 98 := by rintro rfl; exact absurd hc (by decide)
  have h2 : c ≠ 102 := by rintro rfl; exact absurd hc (by decide)
  unfold typN
  repeat' split
  all_goals simp_all
theorem digit_noIU {c : UInt8} (h : digitB c = true) : noIU c = true := by
  have := (digitB_iff c).1 h
  unfold noIU
  have h1 : c ≠ 105 := by rintro rfl; exact absurd this.2 (by decide)
  have h2 : c ≠ 117 := by rintro rfl; exact absurd this.2 (by decide)
  simp [h1, h2]
/-- Digits up to the i or the u: the two ways to cut are one. -/
theorem cut_same : ∀ x : List UInt8, (cutIU x).1.all digitB = true → cutDig x = cutIU x
  | [], _ => rfl
  | c :: l, h => by
    by_cases hc : noIU c = true
    · have e1 : (cutIU (c :: l)).1 = c :: (cutIU l).1 := by simp [cutIU, List.takeWhile, hc]
      have e2 : (cutIU (c :: l)).2 = (cutIU l).2 := by simp [cutIU, List.dropWhile, hc]
      rw [e1, List.all_cons, Bool.and_eq_true] at h
      have ih := cut_same l h.2
      have d1 : (cutDig (c :: l)).1 = c :: (cutDig l).1 := by simp [cutDig, List.takeWhile, h.1]
      have d2 : (cutDig (c :: l)).2 = (cutDig l).2 := by simp [cutDig, List.dropWhile, h.1]
      apply Prod.ext
      · rw [d1, e1, ih]
      · rw [d2, e2, ih]
    · have hc' : noIU c = false := by simpa using hc
      have hd : digitB c = false := by
        cases h' : digitB c
        · rfl
        · rw [digit_noIU h'] at hc'; cases hc'
      simp [cutDig, cutIU, List.takeWhile, List.dropWhile, hc', hd]
/-- A byte ahead of the i or the u that is no digit: no whole type's word stands there. -/
theorem cut_other : ∀ x : List UInt8, (cutIU x).1.all digitB = false → ∃ c l, (cutDig x).2 = c :: l ∧ noIU c = true
  | [], h => by simp [cutIU] at h
  | c :: l, h => by
    by_cases hc : noIU c = true
    · have e1 : (cutIU (c :: l)).1 = c :: (cutIU l).1 := by simp [cutIU, List.takeWhile, hc]
      by_cases hd : digitB c = true
      · rw [e1, List.all_cons, hd, Bool.true_and] at h
        obtain ⟨c', l', h1, h2⟩ := cut_other l h
        exact ⟨c', l', by rw [← h1]; simp [cutDig, List.dropWhile, hd], h2⟩
      · exact ⟨c, l, by simp [cutDig, List.dropWhile, hd], hc⟩
    · have e1 : (cutIU (c :: l)).1 = [] := by simp [cutIU, List.takeWhile, hc]
      rw [e1] at h
      simp at h
theorem cut_head : ∀ x : List UInt8, (cutIU x).2 = [] ∨ ∃ c l, (cutIU x).2 = c :: l ∧ noIU c = false
  | [] => .inl rfl
  | c :: l => by
    by_cases hc : noIU c = true
    · have e2 : (cutIU (c :: l)).2 = (cutIU l).2 := by simp [cutIU, List.dropWhile, hc]
      rw [e2]
      exact cut_head l
    · exact .inr ⟨c, l, by simp [cutIU, List.dropWhile, hc], by simpa using hc⟩
theorem litB_whole {t n : Nat} (h1 : t ≠ 1) (h5 : t ≠ 5) (hn : n < 9223372036854775808) : litB (t : Int) (n : Int) = decide (t = 4 ∨ (t = 3 ∧ n < 2147483648) ∨ (t = 2 ∧ n < 256)) := by
  have a5 : ¬ (t : Int) = 5 := by omega
  have a1 : ¬ (t : Int) = 1 := by omega
  have ab : ((n : Int) < 9223372036854775808) := by omega
  unfold litB
  rw [if_neg a5, decide_eq_true ab, Bool.true_and]
  unfold rightB cutI typedB numberB wholeB
  by_cases h2 : t = 2
  · subst h2
    have : ((n : Int) % 256 == (n : Int)) = decide (n < 256) := by
      by_cases h : n < 256
      · rw [decide_eq_true h]
        simp; omega
      · rw [decide_eq_false h]
        simp; omega
    simp [this]
  by_cases h3 : t = 3
  · subst h3
    have : (IntKind.u64.wrap (wrap32 (n : Int)) == (n : Int)) = decide (n < 2147483648) := by
      rw [IntKind.wrap_u64]
      unfold wrap32
      by_cases h : n < 2147483648
      · rw [decide_eq_true h]
        simp; omega
      · rw [decide_eq_false h]
        simp; omega
    simp [this]
  by_cases h4 : t = 4
  · subst h4
    simp
  · have b2 : ¬ (t : Int) = 2 := by omega
    have b3 : ¬ (t : Int) = 3 := by omega
    have b4 : ¬ (t : Int) = 4 := by omega
    simp [a1, a5, b2, b3, b4, h2, h3, h4]
/-- A whole literal: the plain function says what the program does. -/
theorem litW_whole (F : FW) {k : Nat} {b : ByteArray} (h1 : ¬ b.toList = [116, 114, 117, 101]) (h2 : ¬ b.toList = [102, 97, 108, 115, 101]) (hk : ¬ k = 5) :
    (uintOk ⟨(cutIU b.toList).1.toArray⟩ → litW F k b = if litB (iuT b.toList : Int) (digitsV (cutIU b.toList).1 : Int) = true then some (iuT b.toList, digitsV (cutIU b.toList).1) else none) ∧
    (¬ uintOk ⟨(cutIU b.toList).1.toArray⟩ → litW F k b = none) := by
  unfold litW
  rw [if_neg h1, if_neg h2, if_neg hk]
  unfold uintOk
  rw [mk_list]
  generalize b.toList = x
  cases ha : (cutIU x).1.all digitB with
  | true =>
    have e := cut_same x ha
    rw [e]
    show (_ → (if (cutIU x).1 ≠ [] ∧ digitsV (cutIU x).1 < 9223372036854775808 ∧ (iuT x = 4 ∨ iuT x = 3 ∧ digitsV (cutIU x).1 < 2147483648 ∨ iuT x = 2 ∧ digitsV (cutIU x).1 < 256) then some (iuT x, digitsV (cutIU x).1) else none) = _) ∧ (_ → (if (cutIU x).1 ≠ [] ∧ digitsV (cutIU x).1 < 9223372036854775808 ∧ (iuT x = 4 ∨ iuT x = 3 ∧ digitsV (cutIU x).1 < 2147483648 ∨ iuT x = 2 ∧ digitsV (cutIU x).1 < 256) then some (iuT x, digitsV (cutIU x).1) else none) = none)
    have t15 : iuT x ≠ 1 ∧ iuT x ≠ 5 := by
      unfold iuT
      rcases cut_head x with h | ⟨c, l, h, hc⟩
      · rw [if_pos h]; omega
      · rw [if_neg (by rw [h]; simp)]
        exact typN_iu2 h hc
    refine ⟨fun ⟨u1, _, u3⟩ => ?_, fun hn => ?_⟩
    · rw [litB_whole t15.1 t15.2 u3]
      simp [u1, u3]
    · rw [if_neg]
      rintro ⟨u1, u3, _⟩
      exact hn ⟨u1, rfl, u3⟩
  | false =>
    refine ⟨fun hh => absurd hh.2.1 (by simp), fun _ => ?_⟩
    obtain ⟨c, l, h, hc⟩ := cut_other x ha
    have ht := typN_iu h hc
    rw [if_neg]
    rintro ⟨_, _, h3⟩
    rw [if_neg (by rw [h]; simp)] at h3
    omega
/-- What wordOf tells: the type, the word, and whether it stands for a word at all. -/
def WordTold (k : Nat) (b : ByteArray) (w : World) (e : Ending) (w' : World) : Prop := Below w.heap.size w w' ∧ ∃ (t : Nat) (n : Int) (ok : Bool), e = .returned (.tuple #[typV t, .int .u64 n, .bool ok]) ∧ t < 6 ∧
  ((ok = false ∧ litW floatW k b = none) ∨ (ok = true ∧ ∃ m : Nat, n = (m : Int) ∧ (t = 5 ∨ word n) ∧ litW floatW k b = if litB (t : Int) n = true then some (t, m) else none))
theorem litB_float (n : Int) : litB 5 n = decide (n < 9218868437227405312) := by unfold litB; rw [if_pos rfl]
set_option maxRecDepth 100000 in
set_option maxHeartbeats 1000000 in
theorem wordOf_any (k : Nat) (b : ByteArray) (w : World) (hs : b.size ≤ 65536) (hw : GlobsAt w) (hf : k = 5 → FloatOk b) (ha : k = 5 ∨ b.toList = [116, 114, 117, 101] ∨ b.toList = [102, 97, 108, 115, 101] ∨ ∀ c ∈ b.toList, c.toNat < 128) :
    Calls Tryz.prog 187 #[.int .u8 (k : Int), .string b] w (WordTold k b w) := by
  have bq : ∀ l : List UInt8, (b.toList == l) = decide (b.toList = l) := fun l => by
    by_cases h : b.toList = l
    · rw [h]; simp
    · rw [decide_eq_false h]; simpa using h
  by_cases h1 : b.toList = [116, 114, 117, 101]
  · have g1 : (b.toList == [116, 114, 117, 101]) = true := by simp [h1]
    have hl : litW floatW k b = some (1, 1) := by unfold litW; rw [if_pos h1]
    clear hf ha hw bq
    go_enter Tryz.func187, Tryz.ntmps187
    go_wp2
    go_ret3
    exact ⟨Below.refl _ _, 1, 1, true, rfl, by omega, .inr ⟨rfl, 1, rfl, .inr ⟨by omega, by omega⟩, by rw [hl]; decide⟩⟩
  have g1 : (b.toList == [116, 114, 117, 101]) = false := by rw [bq]; exact decide_eq_false h1
  by_cases h2 : b.toList = [102, 97, 108, 115, 101]
  · have g2 : (b.toList == [102, 97, 108, 115, 101]) = true := by simp [h2]
    have hl : litW floatW k b = some (1, 0) := by unfold litW; rw [if_neg h1, if_pos h2]
    clear hf ha hw bq
    go_enter Tryz.func187, Tryz.ntmps187
    go_wp2
    go_ret3
    exact ⟨Below.refl _ _, 1, 0, true, rfl, by omega, .inr ⟨rfl, 0, rfl, .inr ⟨by omega, by omega⟩, by rw [hl]; decide⟩⟩
  have g2 : (b.toList == [102, 97, 108, 115, 101]) = false := by rw [bq]; exact decide_eq_false h2
  by_cases h5 : k = 5
  · subst h5
    have HF := float_does (hf rfl) hw
    have hl : litW floatW 5 b = if litB 5 (floatW b : Int) = true then some (5, floatW b) else none := by
      unfold litW
      rw [if_neg h1, if_neg h2, if_pos rfl, litB_float]
      by_cases hh : floatW b < 9218868437227405312
      · rw [if_pos hh, if_pos (by simp; omega)]
      · rw [if_neg hh, if_neg (by simp; omega)]
    clear hf ha hw bq
    generalize floatW b = m at HF hl ⊢
    go_enter Tryz.func187, Tryz.ntmps187
    go_wp2_with (go_at_call 190; refine HF.mono ?_; rintro e w1 ⟨rfl, hb1⟩)
    go_ret3
    exact ⟨hb1, 5, _, true, rfl, by omega, .inr ⟨rfl, m, rfl, .inl rfl, hl⟩⟩
  · have hb : ∀ c ∈ b.toList, c.toNat < 128 := by
      rcases ha with h | h | h | h
      · exact absurd h h5
      · exact absurd h h1
      · exact absurd h h2
      · exact h
    have HW : Hid (Calls Tryz.prog 191 #[.string b] w (WholeTold b w)) := whole_any' b w hs hw hb
    have hl := litW_whole floatW h1 h2 h5
    have h5' : ((k : Int) == 5) = false := by simp; omega
    have h5d : ¬ (k : Int) = 5 := by omega
    have hvl : uintOk ⟨(cutIU b.toList).1.toArray⟩ → digitsV (cutIU b.toList).1 < 9223372036854775808 := fun hh => by
      have := hh.2.2
      rwa [mk_list] at this
    have HTL : Hid (iuT b.toList < 6) := iuT_lt _
    have HL : Hid _ := hl
    have HV : Hid _ := hvl
    clear hf ha hw bq hb hl hvl
    unfold WholeTold at HW
    go_enter Tryz.func187, Tryz.ntmps187
    go_wp2_with (go_at_call 191; refine Calls.mono (by exact HW.out) ?_; rintro e w1 ⟨hb1, n, ok, rfl, hc⟩)
    go_ret3
    refine ⟨hb1, iuT b.toList, n, ok, rfl, HTL.out, ?_⟩
    rcases hc with ⟨rfl, hu, rfl⟩ | ⟨rfl, hu⟩
    · exact .inr ⟨rfl, _, rfl, .inr ⟨by omega, by have := HV.out hu; omega⟩, HL.out.1 hu⟩
    · exact .inl ⟨rfl, HL.out.2 hu⟩
end Go.Proofs.YtbejgachdhfakaaGreatDoor
/- A literal: its node, or the fault of one beyond its type. -/
namespace Go.Proofs.YtbejgachdhfakaaGreatDoor
open Go.RowKit

theorem good_head {s : ByteArray} {st : St} (h : Good s st.toks) : TokOk s (hd st) := by
  obtain ⟨fr, z, he, hz, hf⟩ := h
  unfold hd
  rw [he]
  match fr, hf with
  | [], _ => exact ⟨fun hh => absurd hh (by simp), fun hh => absurd hh (by simp)⟩
  | t :: fr, hf => exact (hf t (by simp)).2.2.2
set_option maxRecDepth 100000 in
set_option maxHeartbeats 1000000 in
theorem does_lit : DoesLit floatW := by
  intro E w v kvs st hA h
  have hN := next_par h
  have hfl := fld0
  have hgt := good_head h.good
  have hgd : Good E.s (tl st).toks := by
    rcases hA with h4 | h5 | ht | hf
    · exact good_kind h.good (by omega)
    · exact good_kind h.good (by omega)
    · exact good_txs h.good (by unfold has at ht; rw [eq_of_beq ht]; simp)
    · exact good_txs h.good (by unfold has at hf; rw [eq_of_beq hf]; simp)
  have hsz : (txB E.s (hd st)).size ≤ 65536 := by
    have := h.ssz
    unfold txB
    rw [ByteArray.size_extract]
    omega
  have HSUM : Hid ((tl st).nodes.length + 1 + (tl st).toks.length ≤ 140000) := by
    obtain ⟨t, r, ht, _⟩ := h.head
    have := h.sum
    have e : (tl st).toks = r := by simp [tl, ht]
    show st.nodes.length + 1 + (tl st).toks.length ≤ 140000
    rw [e]
    rw [ht, List.length_cons] at this
    omega
  have HT : Hid (∀ W, Below w.heap.size w W → Calls Tryz.prog 95 #[ptr E.p] W fun e w' => e = .returned (.string (txB E.s (hd st))) ∧ Below W.heap.size W w') := fun W hw => text_par (h.below hw)
  have HS : Hid (∀ W, Below w.heap.size w W → Calls Tryz.prog 92 #[ptr E.p, .int .i64 131] W fun e w' => e = gaveUp 131 (hd st).2.1 ∧ Below W.heap.size W w') := fun W hw => stop_par (h.below hw) 131
  have HP : Hid (∀ W, Below w.heap.size w W → Calls Tryz.prog 93 #[ptr E.p] W fun e w' => e = .returned (.int .i64 ((hd st).2.1 : Int)) ∧ Kept E.p W w' ∧ Par E w' v kvs (tl st)) := fun W hw => pass_par (h.below hw) hgd
  have HW : Hid (∀ W, Below w.heap.size w W → Calls Tryz.prog 187 #[.int .u8 ((hd st).1 : Int), .string (txB E.s (hd st))] W (WordTold (hd st).1 (txB E.s (hd st)) W)) := fun W hw =>
    wordOf_any _ _ W hsz (h.gl.2.below (by have := h.gl.1; have := h.lt; omega) hw) hgt.1 (by
      rcases hA with h4 | h5 | ht | hf
      · exact .inr (.inr (.inr (hgt.2 h4)))
      · exact .inl h5
      · exact .inr (.inl (eq_of_beq ht))
      · exact .inr (.inr (.inl (eq_of_beq hf))))
  have HPUT : Hid (∀ (W : World) (t m : Nat), Kept E.p w W → Par E W v kvs (tl st) → Calls Tryz.prog 100 #[ptr E.p, .agg #[.int .u8 1, natV (hd st).2.1, .string ⟨#[]⟩, .int .u8 (t : Int), .int .u8 0, .int .u64 (m : Int), .int .i64 0, .slice none 0 0]] W (PostN E w v kvs (putP ⟨1, (hd st).2.1, ⟨#[]⟩, t, 0, m, 0, []⟩ (tl st)))) :=
    fun W t m hk hp => put_node hp (hk.moved v kvs) ⟨1, (hd st).2.1, ⟨#[]⟩, t, 0, m, 0, []⟩ none 0 0 (World.ownsRow_nil _ _ _ _) (fun g hg => (by cases hg)) HSUM.out
  clear hgt hgd hsz hA h
  unfold litP stop
  generalize (hd st).1 = k at hN HW ⊢
  generalize (hd st).2.1 = pl at hN HS HP HPUT ⊢
  generalize txB E.s (hd st) = b at HT HW ⊢
  generalize hL : litW floatW k b = L
  have HL : Hid _ := hL
  clear hL
  unfold WordTold at HW
  go_enter Tryz.func182, Tryz.ntmps182
  go_wp2_with (first | (go_at_call 23; refine hN.mono ?_; rintro e w1 ⟨rfl, hb1⟩) | (go_at_call 95; refine Calls.mono (by exact HT.out _ hb1) ?_; rintro e w2 ⟨rfl, hb2⟩; have hb12 := hb1.trans (hb2.mono hb1.size)) | (go_at_call 187; refine Calls.mono (by exact HW.out _ hb12) ?_; rintro e w3 ⟨hb3, t, n, ok, rfl, ht6, ⟨rfl, hl⟩ | ⟨rfl, m, rfl, hwd, hl⟩⟩ <;> have hb13 := hb12.trans (hb3.mono hb12.size)))
  · obtain rfl : L = none := HL.out.symm.trans hl
    go_wp2_with (go_at_call 92; refine Calls.mono (by exact HS.out _ hb13) ?_; rintro e w4 ⟨rfl, hb4⟩; unfold gaveUp)
    exact ⟨rfl, rfl, v, kvs, (Kept.of_below (hb13.trans (hb4.mono hb13.size))).moved v kvs⟩
  · have HB : Hid (∀ W, Calls Tryz.prog 102 #[.int .u8 (t : Int), .int .u64 (m : Int)] W fun e w' => e = .returned (.bool (litB (t : Int) (m : Int))) ∧ w' = W) := fun W => litWord_any _ _ W (by
      rcases hwd with rfl | h
      · exact .inl rfl
      · exact .inr h)
    have HL2 := HL.out.symm.trans hl
    clear hl HL
    cases hlb : litB (t : Int) (m : Int) with
    | false =>
      rw [hlb, if_neg (by simp)] at HL2
      subst HL2
      rw [hlb] at HB
      go_wp2_with (first | (go_at_call 102; refine Calls.mono (by exact HB.out _) ?_; rintro e w4 ⟨rfl, rfl⟩) | (go_at_call 92; refine Calls.mono (by exact HS.out _ hb13) ?_; rintro e w4 ⟨rfl, hb4⟩; unfold gaveUp))
      exact ⟨rfl, rfl, v, kvs, (Kept.of_below (hb13.trans (hb4.mono hb13.size))).moved v kvs⟩
    | true =>
      rw [hlb, if_pos rfl] at HL2
      subst HL2
      rw [hlb] at HB
      go_wp2_with (first | (go_at_call 102; refine Calls.mono (by exact HB.out _) ?_; rintro e w4 ⟨rfl, rfl⟩) | (go_at_call 93; refine Calls.mono (by exact HP.out _ hb13) ?_; rintro e w5 ⟨rfl, hk5, hp5⟩; have hk05 := (Kept.of_below (p := E.p) hb13).trans hk5) | (go_at_call 100; refine Calls.mono (by exact HPUT.out _ t m hk05 hp5) ?_; rintro e w6 h6; unfold putP PostN at h6; obtain ⟨rfl, h6⟩ := h6))
      go_ret
      exact ⟨rfl, h6⟩
end Go.Proofs.YtbejgachdhfakaaGreatDoor
