/- Contracts of the small functions of package scalar, and of literalWord: what each returns, the world as it was. -/
import Derived.Test.YtbejgachdhfakaaGreatDoorProg
import Derived.WalkKit
import Derived.WalkSpells
import Derived.WalkLawsBesides
import Derived.OpenShut
namespace Go.Proofs.YtbejgachdhfakaaGreatDoor
open Go.RowKit

def wholeB (t : Int) : Bool := t == 2 || t == 3 || t == 4
def numberB (t : Int) : Bool := t == 5 || wholeB t
def typedB (t : Int) : Bool := t == 1 || numberB t
def nanI (a : Int) : Bool := FloatKind.f64.format.order a.toNat a.toNat != some .eq
def cutI (t a : Int) : Int :=
  if t = 1 then a % 2 else if t = 2 then a % 256 else if t = 3 then IntKind.u64.wrap (wrap32 a)
  else if t = 5 then (if nanI a = true then 9221120237041090560 else a) else if t = 4 then a else 0
def rightB (t a : Int) : Bool := typedB t && (cutI t a == a)
def word (a : Int) : Prop := 0 ≤ a ∧ a < 18446744073709551616
theorem ret_u64 {a b : Int} (h : a = b) : Ending.returned (.int .u64 a) = .returned (.int .u64 b) := by rw [h]
theorem ret_bool {a b : Bool} (h : a = b) : Ending.returned (.bool a) = .returned (.bool b) := by rw [h]
theorem and_one (a : Int) (h : word a) : bits .and .u64 a 1 = a % 2 := by
  obtain ⟨h0, h1⟩ := h
  exact and_one_u64 a h0 (by omega)

theorem run_frombits (a : Int) (w : World) : (callFunc 163 #[.int .u64 a]).run Tryz.prog w = .ok (.value (.float .f64 a.toNat)) w := by kernel_rfl

set_option maxHeartbeats 400000 in
theorem cut_any (t a : Int) (w : World) (ha : Hid (word a)) :
    Calls Tryz.prog 145 #[.int .u8 t, .int .u64 a] w fun e w' => e = .returned (.int .u64 (cutI t a)) ∧ w' = w := by
  have f1 := run_frombits
  by_cases h1 : t = 1
  · subst h1
    go_enter Tryz.func145, Tryz.ntmps145
    go_wp2
    go_ret
    exact ⟨ret_u64 (and_one a ha.out), rfl⟩
  by_cases h2 : t = 2
  · subst h2
    go_enter Tryz.func145, Tryz.ntmps145
    go_wp2
    go_ret
    exact ⟨rfl, rfl⟩
  by_cases h3 : t = 3
  · subst h3
    go_enter Tryz.func145, Tryz.ntmps145
    go_wp2
    go_ret
    exact ⟨rfl, rfl⟩
  by_cases h4 : t = 4
  · subst h4
    go_enter Tryz.func145, Tryz.ntmps145
    go_wp2
    go_ret
    exact ⟨rfl, rfl⟩
  by_cases h5 : t = 5
  · subst h5
    by_cases hn : (FloatKind.f64.format.order a.toNat a.toNat != some .eq) = true
    · go_enter Tryz.func145, Tryz.ntmps145
      go_wp2
      go_ret
      exact ⟨ret_u64 (by simp [cutI, nanI, hn]), rfl⟩
    · have hn' : (FloatKind.f64.format.order a.toNat a.toNat != some .eq) = false := by simpa using hn
      go_enter Tryz.func145, Tryz.ntmps145
      go_wp2
      go_ret
      exact ⟨ret_u64 (by simp [cutI, nanI, hn']), rfl⟩
  · go_enter Tryz.func145, Tryz.ntmps145
    go_wp2
    go_ret
    exact ⟨ret_u64 (by simp [cutI, h1, h2, h3, h4, h5]), rfl⟩

set_option maxHeartbeats 400000 in
theorem whole_any (t : Int) (w : World) : Calls Tryz.prog 169 #[.int .u8 t] w fun e w' => e = .returned (.bool (wholeB t)) ∧ w' = w := by
  go_enter Tryz.func169, Tryz.ntmps169
  go_wp2
  all_goals go_ret
  all_goals exact ⟨ret_bool (by simp_all [wholeB]), rfl⟩

set_option maxHeartbeats 400000 in
theorem number_any (t : Int) (w : World) : Calls Tryz.prog 161 #[.int .u8 t] w fun e w' => e = .returned (.bool (numberB t)) ∧ w' = w := by
  by_cases h : t = 5
  · subst h
    go_enter Tryz.func161, Tryz.ntmps161
    go_wp2
    go_ret
    exact ⟨rfl, rfl⟩
  · have h' : (t == 5) = false := by simpa using h
    go_enter Tryz.func161, Tryz.ntmps161
    go_wp2_with (go_at_call 169; refine (whole_any _ _).mono ?_; rintro e w' ⟨rfl, rfl⟩)
    go_ret
    exact ⟨ret_bool (by simp [numberB, h']), rfl⟩

set_option maxHeartbeats 400000 in
theorem typed_any (t : Int) (w : World) : Calls Tryz.prog 144 #[.int .u8 t] w fun e w' => e = .returned (.bool (typedB t)) ∧ w' = w := by
  by_cases h : t = 1
  · subst h
    go_enter Tryz.func144, Tryz.ntmps144
    go_wp2
    go_ret
    exact ⟨rfl, rfl⟩
  · have h' : (t == 1) = false := by simpa using h
    go_enter Tryz.func144, Tryz.ntmps144
    go_wp2_with (go_at_call 161; refine (number_any _ _).mono ?_; rintro e w' ⟨rfl, rfl⟩)
    go_ret
    exact ⟨ret_bool (by simp [typedB, h']), rfl⟩

set_option maxHeartbeats 400000 in
theorem right_any (t a : Int) (w : World) (ha : Hid (word a)) :
    Calls Tryz.prog 101 #[.int .u8 t, .int .u64 a] w fun e w' => e = .returned (.bool (rightB t a)) ∧ w' = w := by
  by_cases h : typedB t = true
  · go_enter Tryz.func101, Tryz.ntmps101
    go_wp2_with (first | (go_at_call 144; refine (typed_any _ _).mono ?_; rintro e w' ⟨rfl, rfl⟩) | (go_at_call 145; refine (cut_any _ _ _ ha).mono ?_; rintro e w' ⟨rfl, rfl⟩))
    go_ret
    exact ⟨ret_bool (by simp [rightB, h]), rfl⟩
  · have h' : typedB t = false := by simpa using h
    go_enter Tryz.func101, Tryz.ntmps101
    go_wp2_with (first | (go_at_call 144; refine (typed_any _ _).mono ?_; rintro e w' ⟨rfl, rfl⟩))
    go_ret
    exact ⟨ret_bool (by simp [rightB, h']), rfl⟩

/-- Is a word that of a literal of a type? -/
def litB (t a : Int) : Bool := if t = 5 then decide (a < 9218868437227405312) else decide (a < 9223372036854775808) && rightB t a
set_option maxHeartbeats 400000 in
set_option maxRecDepth 100000 in
theorem litWord_any (t a : Int) (w : World) (ha : Hid (t = 5 ∨ word a)) : Calls Tryz.prog 102 #[.int .u8 t, .int .u64 a] w fun e w' => e = .returned (.bool (litB t a)) ∧ w' = w := by
  by_cases h5 : t = 5
  · subst h5
    clear ha
    go_enter Tryz.func102, Tryz.ntmps102
    go_wp2
    go_ret
    exact ⟨ret_bool (by simp [litB]), rfl⟩
  · have h5' : (t == 5) = false := by simpa using h5
    have hw : word a := ha.out.resolve_left h5
    have hR := fun w => right_any t a w hw
    obtain ⟨h0, h1⟩ := hw
    clear ha
    by_cases hb : a < 9223372036854775808
    · have hc : wrap64 a = a := by unfold wrap64; omega
      have hg : decide (0 ≤ a) = true := by simpa using h0
      go_enter Tryz.func102, Tryz.ntmps102
      go_wp2_with (go_at_call 101; refine (hR _).mono ?_; rintro e w' ⟨rfl, rfl⟩)
      go_ret
      exact ⟨ret_bool (by simp [litB, h5, hb]), rfl⟩
    · have hc : wrap64 a = a - 18446744073709551616 := by unfold wrap64; omega
      have hg : decide (0 ≤ a - 18446744073709551616) = false := by simp; omega
      have hn : a - 18446744073709551616 < 0 := by omega
      go_enter Tryz.func102, Tryz.ntmps102
      go_wp2
      go_ret
      exact ⟨ret_bool (by simp [litB, h5]; omega), rfl⟩
theorem typ_zero (t : Int) : rightB t 0 = typedB t := by
  unfold rightB cutI
  by_cases h1 : t = 1
  · simp [h1]
  by_cases h2 : t = 2
  · simp [h2]
  by_cases h3 : t = 3
  · subst h3
    have e0 : IntKind.u64.wrap (wrap32 0) = 0 := by rw [IntKind.wrap_u64]; unfold wrap32; decide
    simp [e0]
  by_cases h5 : t = 5
  · subst h5
    decide
  by_cases h4 : t = 4
  · simp [h4]
  · simp [h1, h2, h3, h4, h5, typedB, numberB, wholeB]
set_option maxHeartbeats 400000 in
theorem rightType_any (t : Int) (w : World) : Calls Tryz.prog 51 #[.int .u8 t] w fun e w' => e = .returned (.bool (typedB t)) ∧ w' = w := by
  have hR := fun w => right_any t 0 w ⟨by omega, by omega⟩
  simp only [typ_zero] at hR
  go_enter Tryz.func51, Tryz.ntmps51
  go_wp2_with (go_at_call 101; refine (hR _).mono ?_; rintro e w' ⟨rfl, rfl⟩)
  go_ret
  exact ⟨rfl, rfl⟩
end Go.Proofs.YtbejgachdhfakaaGreatDoor
