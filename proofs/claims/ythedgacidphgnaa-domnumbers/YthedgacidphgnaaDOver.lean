/- Going up a list, and what stands under each place, as the document says. -/
import Derived.Test.YthedgacidphgnaaDSame
namespace Go.Proofs.Ythedgacidphgnaa
open Go.RowKit

theorem overF_zero (t : List Int) (a b : Int) : overF t a 0 b = false := rfl
theorem overF_eq (t : List Int) (a : Int) (f : Nat) : overF t a (f + 1) a = true := by unfold overF; rw [if_pos rfl]
theorem overF_up {t : List Int} {a b : Int} {f : Nat} (hn : a ≠ b) (h : 0 ≤ t.getD b.toNat 0 ∧ t.getD b.toNat 0 < (t.length : Int)) : overF t a (f + 1) b = overF t a f (t.getD b.toNat 0) := by
  rw [overF, if_neg hn, if_pos h]
theorem overF_out {t : List Int} {a b : Int} {f : Nat} (hn : a ≠ b) (h : ¬ (0 ≤ t.getD b.toNat 0 ∧ t.getD b.toNat 0 < (t.length : Int))) : overF t a (f + 1) b = false := by
  rw [overF, if_neg hn, if_neg h]
set_option maxRecDepth 100000 in
set_option maxHeartbeats 1000000 in
theorem rover_any (t : List Int) (a b : Int) (v : Value) (w : World) (h : IntsAt w v t) : Calls Try.prog 14 #[v, .int .i64 a, .int .i64 b] w fun e w' => e = .returned (.bool (overL t a b)) ∧ w' = w := by
  obtain ⟨ta, tc, rfl, hll⟩ := h.form
  have HI : Hid (∀ i, i < t.length → _) := fun i hi => h.get (i := i) hi
  have HZ : Hid (∀ b, overF t a 0 b = false) := fun b => overF_zero t a b
  have HQ : Hid (∀ f, overF t a (f + 1) a = true) := fun f => overF_eq t a f
  have HU : Hid (∀ (b : Int) (f : Nat), a ≠ b → 0 ≤ t.getD b.toNat 0 ∧ t.getD b.toNat 0 < (t.length : Int) → _) := fun b f hn h => overF_up (f := f) hn h
  have HX : Hid (∀ (b : Int) (f : Nat), a ≠ b → ¬ (0 ≤ t.getD b.toNat 0 ∧ t.getD b.toNat 0 < (t.length : Int)) → _) := fun b f hn h => overF_out (f := f) hn h
  unfold overL
  obtain ⟨n, hn⟩ : ∃ n, n = t.length := ⟨_, rfl⟩
  rw [← hn] at HI hll HU HX
  rw [← hn]
  clear h hn
  by_cases ha : a < 0
  · rw [if_neg (by omega)]
    clear HI HZ HQ HU HX
    go_enter Try.func14, Try.ntmps14
    go_wp2
    go_ret
    exact ⟨rfl, rfl⟩
  have ha' : ¬ a < 0 := ha
  by_cases ha2 : (n : Int) ≤ a
  · rw [if_neg (by omega)]
    clear HI HZ HQ HU HX
    go_enter Try.func14, Try.ntmps14
    go_wp2
    go_ret
    exact ⟨rfl, rfl⟩
  have ha2' : ¬ (n : Int) ≤ a := ha2
  by_cases hb : b < 0
  · rw [if_neg (by omega)]
    clear HI HZ HQ HU HX
    go_enter Try.func14, Try.ntmps14
    go_wp2
    go_ret
    exact ⟨rfl, rfl⟩
  have hb' : ¬ b < 0 := hb
  by_cases hb2 : (n : Int) ≤ b
  · rw [if_neg (by omega)]
    clear HI HZ HQ HU HX
    go_enter Try.func14, Try.ntmps14
    go_wp2
    go_ret
    exact ⟨rfl, rfl⟩
  have hb2' : ¬ (n : Int) ≤ b := hb2
  rw [if_pos ⟨⟨by omega, by omega⟩, by omega, by omega⟩]
  obtain ⟨R, hR⟩ : ∃ R, R = overF t a (n + 1) b := ⟨_, rfl⟩
  rw [← hR]
  have HR : Hid (overF t a (n + 1 - 0) b = R) := hR.symm
  clear hR
  go_enter Try.func14, Try.ntmps14
  go_wp2
  go_loopw [2, 7] (fun vb vi wr => ∃ (i : Nat) (b : Nat), vi = .int .i64 i ∧ i ≤ n + 1 ∧ vb = .int .i64 (b : Int) ∧ b < n ∧ Hid (overF t a (n + 1 - i) (b : Int) = R ∧ wr = w)) (fun _ vi _ => n + 1 - (intOf vi).toNat)
  case atStart =>
    obtain ⟨b0, hb0⟩ : ∃ b0 : Nat, b = (b0 : Int) := Int.eq_ofNat_of_zero_le (by omega)
    subst hb0
    exact ⟨0, b0, rfl, by omega, rfl, by omega, HR.out, rfl⟩
  case round =>
    obtain ⟨i, b1, rfl, hi, rfl, hb1, hr⟩ := hrel
    have hw := hr.out.2
    subst hw
    have HRR : Hid _ := hr.out.1
    clear HR hb hb' hb2 hb2' hr
    by_cases hin : i ≤ n
    · have hin' : (i : Int) ≤ n := by omega
      rw [show n + 1 - i = (n - i) + 1 by omega] at HRR
      by_cases hab : a = (b1 : Int)
      · subst hab
        have HT : Hid (R = true) := by show R = true; rw [← HRR.out]; exact HQ.out _
        clear HI HZ HQ HU HX HRR
        go_wp2
        go_ret
        exact ⟨ret_bool HT.out.symm, rfl⟩
      · have habf : (a == (b1 : Int)) = false := beq_false_of_ne hab
        obtain ⟨g, o, rfl, hg, c0⟩ := HI.out b1 hb1
        have hb1' : (b1 : Int) < n := by omega
        have HU1 : Hid _ := HU.out (b1 : Int) (n - i) hab
        have HX1 : Hid _ := HX.out (b1 : Int) (n - i) hab
        rw [Int.toNat_natCast] at HU1 HX1
        clear HI HZ HQ HU HX
        generalize t.getD b1 0 = y at *
        by_cases hy : y < 0
        · have HT : Hid (R = false) := by show R = false; rw [← HRR.out]; exact HX1.out (by omega)
          clear HU1 HX1 HRR
          go_wp2
          go_ret
          exact ⟨ret_bool HT.out.symm, rfl⟩
        · have hy' : ¬ y < 0 := hy
          by_cases hyn : (n : Int) ≤ y
          · have HT : Hid (R = false) := by show R = false; rw [← HRR.out]; exact HX1.out (by omega)
            clear HU1 HX1 HRR
            go_wp2
            go_ret
            exact ⟨ret_bool HT.out.symm, rfl⟩
          · have hyn' : ¬ (n : Int) ≤ y := hyn
            have HT : Hid (overF t a (n - i) y = R) := by show _ = R; rw [← HRR.out]; exact (HU1.out ⟨by omega, by omega⟩).symm
            obtain ⟨y0, hy0⟩ : ∃ y0 : Nat, y = (y0 : Int) := Int.eq_ofNat_of_zero_le (by omega)
            subst hy0
            clear HU1 HX1 HRR
            go_wp2
            go_roundw
            case rel => exact ⟨i + 1, y0, by first | rfl | (congr 1; omega), by omega, rfl, by omega, by rw [show n + 1 - (i + 1) = n - i by omega]; exact HT.out, by first | rfl | trivial⟩
            case measure => simp [intOf]; omega
    · obtain rfl : i = n + 1 := by omega
      have HT : Hid (R = false) := by show R = false; rw [← HRR.out, Nat.sub_self]; exact HZ.out _
      have hin' : ¬ ((n + 1 : Nat) : Int) ≤ n := by omega
      clear HI HZ HQ HU HX HRR
      go_wp2
      go_ret
      exact ⟨ret_bool HT.out.symm, rfl⟩
end Go.Proofs.Ythedgacidphgnaa
