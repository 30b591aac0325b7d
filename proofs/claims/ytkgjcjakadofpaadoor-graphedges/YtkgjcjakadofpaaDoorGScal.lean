/- Package scalar: which words are right, what operations make of types, which types turn. -/
import Derived.Test.YtkgjcjakadofpaaDoorGSmall
import Derived.OpenShut
namespace Go.Proofs.YtkgjcjakadofpaaDoor
open Go.RowKit

def wholeB (t : Int) : Bool := t == 2 || t == 3 || t == 4
def numberB (t : Int) : Bool := t == 5 || wholeB t
def typedB (t : Int) : Bool := t == 1 || numberB t
def nanI (a : Int) : Bool := FloatKind.f64.format.order a.toNat a.toNat != some .eq
def cutI (t a : Int) : Int :=
  if t = 1 then a % 2 else if t = 2 then a % 256 else if t = 3 then IntKind.u64.wrap (wrap32 a)
  else if t = 5 then (if nanI a = true then 9221120237041090560 else a) else if t = 4 then a else 0
def rightB (t a : Int) : Bool := typedB t && (cutI t a == a)
def word (a : Int) : Prop := 0 ≤ a ∧ a < 18446744073709551616
def oneB (o : Int) : Bool := o == 17 || o == 18
def ofT (o t : Int) : Int :=
  if o = 11 ∨ o = 12 then (if typedB t then 1 else 0)
  else if o = 13 ∨ o = 14 ∨ o = 15 ∨ o = 16 then (if numberB t then 1 else 0)
  else if o = 1 ∨ o = 2 ∨ o = 3 ∨ o = 4 ∨ o = 17 then (if numberB t then t else 0)
  else if o = 6 ∨ o = 7 ∨ o = 8 ∨ o = 18 then (if t = 1 ∨ wholeB t = true then t else 0)
  else if o = 5 ∨ o = 9 ∨ o = 10 then (if wholeB t then t else 0) else 0
def ofB (o t : Int) : Bool :=
  if o = 11 ∨ o = 12 then typedB t
  else if o = 13 ∨ o = 14 ∨ o = 15 ∨ o = 16 then numberB t
  else if o = 1 ∨ o = 2 ∨ o = 3 ∨ o = 4 ∨ o = 17 then numberB t
  else if o = 6 ∨ o = 7 ∨ o = 8 ∨ o = 18 then t == 1 || wholeB t
  else if o = 5 ∨ o = 9 ∨ o = 10 then wholeB t else false
def turnsB (to fr : Int) : Bool := numberB to && numberB fr
theorem ret_u64 {a b : Int} (h : a = b) : Ending.returned (.int .u64 a) = .returned (.int .u64 b) := by rw [h]
theorem ret_pair {k : IntKind} {a b : Int} {x y : Bool} (h : a = b) (g : x = y) : Ending.returned (.tuple #[.int k a, .bool x]) = .returned (.tuple #[.int k b, .bool y]) := by rw [h, g]
theorem and_one (a : Int) (h : word a) : bits .and .u64 a 1 = a % 2 := by
  obtain ⟨h0, h1⟩ := h
  exact and_one_u64 a h0 (by omega)
theorem run_frombits (a : Int) (w : World) : (callFunc 87 #[.int .u64 a]).run Tryd.prog w = .ok (.value (.float .f64 a.toNat)) w := by kernel_rfl
set_option maxHeartbeats 400000 in
theorem cut_any (t a : Int) (w : World) (ha : Hid (word a)) :
    Calls Tryd.prog 66 #[.int .u8 t, .int .u64 a] w fun e w' => e = .returned (.int .u64 (cutI t a)) ∧ w' = w := by
  have f1 := run_frombits
  by_cases h1 : t = 1
  · subst h1
    go_enter Tryd.func66, Tryd.ntmps66
    go_wp2
    go_ret
    exact ⟨ret_u64 (and_one a ha.out), rfl⟩
  by_cases h2 : t = 2
  · subst h2
    go_enter Tryd.func66, Tryd.ntmps66
    go_wp2
    go_ret
    exact ⟨rfl, rfl⟩
  by_cases h3 : t = 3
  · subst h3
    go_enter Tryd.func66, Tryd.ntmps66
    go_wp2
    go_ret
    exact ⟨rfl, rfl⟩
  by_cases h4 : t = 4
  · subst h4
    go_enter Tryd.func66, Tryd.ntmps66
    go_wp2
    go_ret
    exact ⟨rfl, rfl⟩
  by_cases h5 : t = 5
  · subst h5
    by_cases hn : (FloatKind.f64.format.order a.toNat a.toNat != some .eq) = true
    · go_enter Tryd.func66, Tryd.ntmps66
      go_wp2
      go_ret
      exact ⟨ret_u64 (by simp [cutI, nanI, hn]), rfl⟩
    · have hn' : (FloatKind.f64.format.order a.toNat a.toNat != some .eq) = false := by simpa using hn
      go_enter Tryd.func66, Tryd.ntmps66
      go_wp2
      go_ret
      exact ⟨ret_u64 (by simp [cutI, nanI, hn']), rfl⟩
  · go_enter Tryd.func66, Tryd.ntmps66
    go_wp2
    go_ret
    exact ⟨ret_u64 (by simp [cutI, h1, h2, h3, h4, h5]), rfl⟩
set_option maxHeartbeats 400000 in
theorem whole_any (t : Int) (w : World) : Calls Tryd.prog 88 #[.int .u8 t] w fun e w' => e = .returned (.bool (wholeB t)) ∧ w' = w := by
  go_enter Tryd.func88, Tryd.ntmps88
  go_wp2
  all_goals go_ret
  all_goals exact ⟨ret_bool (by simp_all [wholeB]), rfl⟩
set_option maxHeartbeats 400000 in
theorem number_any (t : Int) (w : World) : Calls Tryd.prog 68 #[.int .u8 t] w fun e w' => e = .returned (.bool (numberB t)) ∧ w' = w := by
  by_cases h : t = 5
  · subst h
    go_enter Tryd.func68, Tryd.ntmps68
    go_wp2
    go_ret
    exact ⟨rfl, rfl⟩
  · have h' : (t == 5) = false := by simpa using h
    go_enter Tryd.func68, Tryd.ntmps68
    go_wp2_with (go_at_call 88; refine (whole_any _ _).mono ?_; rintro e w' ⟨rfl, rfl⟩)
    go_ret
    exact ⟨ret_bool (by simp [numberB, h']), rfl⟩
set_option maxHeartbeats 400000 in
theorem typed_any (t : Int) (w : World) : Calls Tryd.prog 65 #[.int .u8 t] w fun e w' => e = .returned (.bool (typedB t)) ∧ w' = w := by
  by_cases h : t = 1
  · subst h
    go_enter Tryd.func65, Tryd.ntmps65
    go_wp2
    go_ret
    exact ⟨rfl, rfl⟩
  · have h' : (t == 1) = false := by simpa using h
    go_enter Tryd.func65, Tryd.ntmps65
    go_wp2_with (go_at_call 68; refine (number_any _ _).mono ?_; rintro e w' ⟨rfl, rfl⟩)
    go_ret
    exact ⟨ret_bool (by simp [typedB, h']), rfl⟩
set_option maxHeartbeats 400000 in
theorem right_any (t a : Int) (w : World) (ha : Hid (word a)) :
    Calls Tryd.prog 40 #[.int .u8 t, .int .u64 a] w fun e w' => e = .returned (.bool (rightB t a)) ∧ w' = w := by
  by_cases h : typedB t = true
  · go_enter Tryd.func40, Tryd.ntmps40
    go_wp2_with (first | (go_at_call 65; refine (typed_any _ _).mono ?_; rintro e w' ⟨rfl, rfl⟩) | (go_at_call 66; refine (cut_any _ _ _ ha).mono ?_; rintro e w' ⟨rfl, rfl⟩))
    go_ret
    exact ⟨ret_bool (by simp [rightB, h]), rfl⟩
  · have h' : typedB t = false := by simpa using h
    go_enter Tryd.func40, Tryd.ntmps40
    go_wp2_with (first | (go_at_call 65; refine (typed_any _ _).mono ?_; rintro e w' ⟨rfl, rfl⟩))
    go_ret
    exact ⟨ret_bool (by simp [rightB, h']), rfl⟩
set_option maxHeartbeats 1000000 in
theorem of_any (o t : Int) (w : World) :
    Calls Tryd.prog 67 #[.int .u8 o, .int .u8 t] w fun e w' => e = .returned (.tuple #[.int .u8 (ofT o t), .bool (ofB o t)]) ∧ w' = w := by
  go_enter Tryd.func67, Tryd.ntmps67
  go_wp2_with (first | (go_at_call 68; refine (number_any _ _).mono ?_; rintro e w' ⟨rfl, rfl⟩) | (go_at_call 88; refine (whole_any _ _).mono ?_; rintro e w' ⟨rfl, rfl⟩))
  all_goals go_ret2
  all_goals exact ⟨ret_pair (by simp_all [ofT, typedB]) (by simp_all [ofB, typedB]), rfl⟩
set_option maxHeartbeats 400000 in
theorem turns_any (to fr : Int) (w : World) : Calls Tryd.prog 42 #[.int .u8 to, .int .u8 fr] w fun e w' => e = .returned (.bool (turnsB to fr)) ∧ w' = w := by
  cases h1 : numberB to <;> cases h2 : numberB fr
  all_goals
    go_enter Tryd.func42, Tryd.ntmps42
    go_wp2_with (go_at_call 68; refine (number_any _ _).mono ?_; rintro e w' ⟨rfl, rfl⟩)
    go_ret
    exact ⟨ret_bool (by simp [turnsB, h1, h2]), rfl⟩
end Go.Proofs.YtkgjcjakadofpaaDoor
