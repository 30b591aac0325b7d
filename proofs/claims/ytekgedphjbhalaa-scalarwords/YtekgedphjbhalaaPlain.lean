/- The plain functions on numbers that the contracts of package scalar and of the document's answer are stated with: no program in sight. -/
import Derived.WalkKit
import Derived.WalkSpells
import Derived.WalkLawsBesides
import Derived.OpenShut
namespace Go.Proofs.Ytekgedphjbhalaa
open Go.RowKit

def wholeB (t : Int) : Bool := t == 2 || t == 3 || t == 4
def numberB (t : Int) : Bool := t == 5 || wholeB t
def typedB (t : Int) : Bool := t == 1 || numberB t
def nanI (a : Int) : Bool := FloatKind.f64.format.order a.toNat a.toNat != some .eq
def cutI (t a : Int) : Int :=
  if t = 1 then a % 2 else if t = 2 then a % 256 else if t = 3 then IntKind.u64.wrap (wrap32 a)
  else if t = 5 then (if nanI a = true then 9221120237041090560 else a) else if t = 4 then a else 0
def rightB (t a : Int) : Bool := typedB t && (cutI t a == a)
def word (a : Int) : Prop := 0 ≤ a ∧ a < 18446744073709551616
def truthI (x : Bool) : Int := if x then 1 else 0
def oneB (o : Int) : Bool := o == 17 || o == 18
def ofT (o t : Int) : Int :=
  if o = 11 ∨ o = 12 then (if typedB t then 1 else 0)
  else if o = 13 ∨ o = 14 ∨ o = 15 ∨ o = 16 then (if numberB t then 1 else 0)
  else if o = 1 ∨ o = 2 ∨ o = 3 ∨ o = 4 ∨ o = 17 then (if numberB t then t else 0)
  else if o = 6 ∨ o = 7 ∨ o = 8 ∨ o = 18 then (if t = 1 ∨ wholeB t = true then t else 0)
  else if o = 5 ∨ o = 9 ∨ o = 10 then (if wholeB t then t else 0) else 0
def ofB (o t : Int) : Bool :=
  if o = 11 ∨ o = 12 then typedB t
  else if o = 13 ∨ o = 14 ∨ o = 15 ∨ o = 16 then numberB t
  else if o = 1 ∨ o = 2 ∨ o = 3 ∨ o = 4 ∨ o = 17 then numberB t
  else if o = 6 ∨ o = 7 ∨ o = 8 ∨ o = 18 then t == 1 || wholeB t
  else if o = 5 ∨ o = 9 ∨ o = 10 then wholeB t else false
def placesI (t b : Int) : Int := if t = 2 then b % 8 else if t = 3 then b % 32 else b % 64
def divI (o t n m : Int) : Int :=
  if m = 0 then 0 else if o = 5 then cutI t (IntKind.u64.wrap (n.tmod m)) else cutI t (IntKind.u64.wrap (wrap64 (n.tdiv m)))
def cmpB (o n m : Int) : Bool :=
  if o = 11 then n == m else if o = 12 then n != m else if o = 13 then decide (n < m) else if o = 14 then decide (n ≤ m)
  else if o = 15 then decide (m < n) else if o = 16 then decide (m ≤ n) else false
def bitsI (o t a b : Int) : Int :=
  if o = 1 then cutI t (IntKind.u64.wrap (a + b)) else if o = 2 then cutI t (IntKind.u64.wrap (a - b)) else if o = 3 then cutI t (IntKind.u64.wrap (a * b))
  else if o = 4 ∨ o = 5 then divI o t (wrap64 a) (wrap64 b) else if o = 6 then bits .and .u64 a b else if o = 7 then bits .or .u64 a b else if o = 8 then bits .xor .u64 a b
  else if o = 9 then cutI t (IntKind.u64.wrap (a * 2 ^ (placesI t b).toNat)) else if o = 10 then IntKind.u64.wrap (wrap64 a / 2 ^ (placesI t b).toNat)
  else truthI (cmpB o (wrap64 a) (wrap64 b))
def stopsB (o t b : Int) : Bool := (o == 4 || o == 5) && wholeB t && b == 0

theorem word_of_wf {a : Int} (h : (Lit.int .u64 a).wf = true) : word a := by
  have := bounds_u64 h
  unfold word; omega

theorem ret_u64 {a b : Int} (h : a = b) : Ending.returned (.int .u64 a) = .returned (.int .u64 b) := by rw [h]
theorem ret_bool {a b : Bool} (h : a = b) : Ending.returned (.bool a) = .returned (.bool b) := by rw [h]
theorem ret_pair {k : IntKind} {a b : Int} {x y : Bool} (h : a = b) (g : x = y) : Ending.returned (.tuple #[.int k a, .bool x]) = .returned (.tuple #[.int k b, .bool y]) := by rw [h, g]

theorem and_one (a : Int) (h : word a) : bits .and .u64 a 1 = a % 2 := by
  obtain ⟨h0, h1⟩ := h
  exact and_one_u64 a h0 (by omega)
theorem and_seven (a : Int) (h : word a) : bits .and .u64 a 7 = a % 8 := by
  obtain ⟨h0, h1⟩ := h
  rw [u64_and a 7 h0 h1 (by omega) (by omega)]
  show ((a.toNat &&& 7 : Nat) : Int) = _
  rw [nat_mask3]; omega
theorem and_31 (a : Int) (h : word a) : bits .and .u64 a 31 = a % 32 := by
  obtain ⟨h0, h1⟩ := h
  rw [u64_and a 31 h0 h1 (by omega) (by omega)]
  show ((a.toNat &&& 31 : Nat) : Int) = _
  rw [nat_mask5]; omega
theorem and_63 (a : Int) (h : word a) : bits .and .u64 a 63 = a % 64 := by
  obtain ⟨h0, h1⟩ := h
  rw [u64_and a 63 h0 h1 (by omega) (by omega)]
  show ((a.toNat &&& 63 : Nat) : Int) = _
  rw [nat_mask6]; omega
theorem placesI_bd (t b : Int) : 0 ≤ placesI t b ∧ placesI t b ≤ 63 := by
  unfold placesI; split <;> (try split) <;> omega
end Go.Proofs.Ytekgedphjbhalaa
