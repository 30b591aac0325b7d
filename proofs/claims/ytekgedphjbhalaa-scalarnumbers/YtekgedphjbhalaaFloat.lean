/- Facts on binary64 words that the contracts want: which words are NaNs, what an operation that has no answer draws. -/
import Derived.Test.YtekgedphjbhalaaPlain
namespace Go.Proofs.Ytekgedphjbhalaa
open Go.RowKit

theorem d_sign : Ieee.double.signWeight = 9223372036854775808 := by decide
theorem d_binade : Ieee.double.binade = 4503599627370496 := by decide
theorem d_inf : Ieee.double.infRung = 9218868437227405312 := by decide

theorem read_nan (x : Nat) (h : 9218868437227405312 < x % 9223372036854775808) : ∃ s f, Ieee.double.read x = .nan s f := by
  refine ⟨x / 9223372036854775808 % 2 == 1, x % 9223372036854775808 - 9218868437227405312, ?_⟩
  unfold Ieee.Format.read
  simp only [d_sign, d_binade, d_inf]
  rw [if_neg (by omega), if_neg (by omega), if_neg (by omega)]

theorem read_inf (x : Nat) (h : x % 9223372036854775808 = 9218868437227405312) : Ieee.double.read x = .infinity (x / 9223372036854775808 % 2 == 1) := by
  unfold Ieee.Format.read
  simp only [d_sign, d_binade, d_inf]
  rw [if_neg (by omega), if_neg (by omega), if_pos h]

theorem read_sub (x : Nat) (h : x % 9223372036854775808 < 4503599627370496) : Ieee.double.read x = .number (x / 9223372036854775808 % 2 == 1) (x % 9223372036854775808) Ieee.double.leastPlace := by
  unfold Ieee.Format.read
  simp only [d_sign, d_binade]
  rw [if_pos h]

theorem read_norm (x : Nat) (h : 4503599627370496 ≤ x % 9223372036854775808) (g : x % 9223372036854775808 < 9218868437227405312) :
    Ieee.double.read x = .number (x / 9223372036854775808 % 2 == 1) (4503599627370496 + x % 9223372036854775808 % 4503599627370496) (Ieee.double.leastPlace + ((x % 9223372036854775808 / 4503599627370496 - 1 : Nat) : Int)) := by
  unfold Ieee.Format.read
  simp only [d_sign, d_binade, d_inf]
  rw [if_neg (by omega), if_pos g]

theorem read_num (x : Nat) (h : x % 9223372036854775808 < 9218868437227405312) : ∃ s m i, Ieee.double.read x = .number s m i := by
  by_cases g : x % 9223372036854775808 < 4503599627370496
  · exact ⟨_, _, _, read_sub x g⟩
  · exact ⟨_, _, _, read_norm x (by omega) h⟩

theorem order_nan (x : Nat) (h : 9218868437227405312 < x % 9223372036854775808) : Ieee.double.order x x = none := by
  obtain ⟨s, f, e⟩ := read_nan x h
  simp [Ieee.Format.order, e, Ieee.Datum.order]

theorem order_self (x : Nat) (h : ¬ 9218868437227405312 < x % 9223372036854775808) : Ieee.double.order x x = some .eq := by
  by_cases g : x % 9223372036854775808 = 9218868437227405312
  · have e := read_inf x g
    simp [Ieee.Format.order, e, Ieee.Datum.order]
  · obtain ⟨s, m, i, e⟩ := read_num x (by omega)
    simp [Ieee.Format.order, e, Ieee.Datum.order]

theorem nanI_iff (a : Int) : nanI a = true ↔ 9218868437227405312 < a.toNat % 9223372036854775808 := by
  by_cases h : 9218868437227405312 < a.toNat % 9223372036854775808
  · have := order_nan a.toNat h
    simp [nanI, FloatKind.format, this, h]
  · have := order_self a.toNat h
    simp [nanI, FloatKind.format, this, h]

def drawnNaN (x y : Nat) (w : World) : Nat := (Question.nanBits .f64 x y).cut (w.tape w.drawn (.nanBits .f64 x y))
theorem drawnNaN_nan (x y : Nat) (w : World) : nanI (drawnNaN x y w : Int) = true := by
  rw [nanI_iff]
  generalize ht : w.tape w.drawn (.nanBits .f64 x y) = t
  have e : drawnNaN x y w = (t % 2) * 9223372036854775808 + 9218868437227405312 + 1 + (t / 2) % 4503599627370495 := by
    unfold drawnNaN; rw [ht]; simp [Question.cut]
  have p1 : t % 2 < 2 := Nat.mod_lt _ (by omega)
  have q1 : (t / 2) % 4503599627370495 < 4503599627370495 := Nat.mod_lt _ (by omega)
  generalize t % 2 = p at e p1
  generalize (t / 2) % 4503599627370495 = q at e q1
  rw [e, Int.toNat_natCast]
  rcases (show p = 0 ∨ p = 1 by omega) with rfl | rfl <;> omega
theorem run_nan {P : Program} (op : BinOp) (x y : Nat) (t : TypeId) (w : World) (hop : op = .add ∨ op = .sub ∨ op = .mul ∨ op = .quo) (h : floatBits op .f64 x y = none) :
    (binOp op t (.float .f64 x) (.float .f64 y)).run P w = .ok (.float .f64 (drawnNaN x y w)) w.drew := by
  rcases hop with rfl | rfl | rfl | rfl <;> (simp only [floatBits] at h; simp [binOp, Op.floatArith, h, Question.forced, drawnNaN])

def resI : Option Nat → Int
  | some r => cutI 5 r
  | none => 9221120237041090560
def fcmpB (o : Int) (x y : Nat) : Bool :=
  if o = 11 then FloatKind.f64.format.order x y == some .eq else if o = 12 then FloatKind.f64.format.order x y != some .eq
  else if o = 13 then FloatKind.f64.format.order x y == some .lt else if o = 14 then (FloatKind.f64.format.order x y == some .lt || FloatKind.f64.format.order x y == some .eq)
  else if o = 15 then FloatKind.f64.format.order x y == some .gt else if o = 16 then (FloatKind.f64.format.order x y == some .gt || FloatKind.f64.format.order x y == some .eq) else false
def fltI (o : Int) (x y : Nat) : Int :=
  if o = 1 then resI (floatBits .add .f64 x y) else if o = 2 then resI (floatBits .sub .f64 x y) else if o = 3 then resI (floatBits .mul .f64 x y)
  else if o = 4 then resI (floatBits .quo .f64 x y) else truthI (fcmpB o x y)
theorem resI_drawn {x y : Nat} {w : World} : cutI 5 (drawnNaN x y w) = resI none := by
  simp [cutI, drawnNaN_nan, resI]
end Go.Proofs.Ytekgedphjbhalaa
