/- The program's places, whether a net may be, going up a list. -/
import Derived.Test.YthedgacidphgnaaDAwk
namespace Go.Proofs.Ythedgacidphgnaa
open Go.RowKit

theorem place_yes (i n : Int) (h0 : 0 ≤ i) (h1 : i < n) (w : World) : Calls Try.prog 28 #[.int .i64 i, .int .i64 n] w fun e w' => e = .returned (.bool true) ∧ w = w' := by
  go_enter Try.func28, Try.ntmps28
  go_wp2
  go_ret
  exact ⟨rfl, rfl⟩
theorem place_no (i n : Int) (h : ¬ (0 ≤ i ∧ i < n)) (w : World) : Calls Try.prog 28 #[.int .i64 i, .int .i64 n] w fun e w' => e = .returned (.bool false) ∧ w = w' := by
  by_cases h0 : 0 ≤ i
  · have h1 : ¬ i < n := fun h1 => h ⟨h0, h1⟩
    clear h
    go_enter Try.func28, Try.ntmps28
    go_wp2
    go_ret
    exact ⟨rfl, rfl⟩
  · clear h
    go_enter Try.func28, Try.ntmps28
    go_wp2
    go_ret
    exact ⟨rfl, rfl⟩
theorem overF_one {t : List Int} {a b : Int} : overF t a 1 b = decide (a = b) := by
  unfold overF
  by_cases h : a = b
  · rw [if_pos h]; simp [h]
  · rw [if_neg h]
    simp only [overF_zero]
    simp [h]
set_option maxRecDepth 100000 in
set_option maxHeartbeats 1000000 in
theorem over_any' (t : List Int) (a b : Int) (v : Value) (w : World) (h : IntsAt w v t) : Calls Try.prog 13 #[v, .int .i64 a, .int .i64 b] w fun e w' => e = .returned (.bool (overL t a b)) ∧ ∃ k, w' = w.drewN k := by
  obtain ⟨ta, tc, rfl, hll⟩ := h.form
  have HI : Hid (∀ i, i < t.length → _) := fun i hi => h.get (i := i) hi
  have HQ : Hid (∀ f, overF t a (f + 1) a = true) := fun f => overF_eq t a f
  have HU : Hid (∀ (b : Int) (f : Nat), a ≠ b → 0 ≤ t.getD b.toNat 0 ∧ t.getD b.toNat 0 < (t.length : Int) → _) := fun b f hn h => overF_up (f := f) hn h
  have HX : Hid (∀ (b : Int) (f : Nat), a ≠ b → ¬ (0 ≤ t.getD b.toNat 0 ∧ t.getD b.toNat 0 < (t.length : Int)) → _) := fun b f hn h => overF_out (f := f) hn h
  have HO : Hid (∀ b, overF t a 1 b = decide (a = b)) := fun b => overF_one
  unfold overL
  obtain ⟨n, hn⟩ : ∃ n, n = t.length := ⟨_, rfl⟩
  rw [← hn] at HI hll HU HX
  rw [← hn]
  clear h hn
  by_cases ha : 0 ≤ a ∧ a < (n : Int)
  case neg =>
    rw [if_neg (fun hc => ha hc.1)]
    have HP : Hid (∀ W, Calls Try.prog 28 #[.int .i64 a, .int .i64 (n : Int)] W fun e w' => e = .returned (.bool false) ∧ W = w') := fun W => place_no a n ha W
    clear HI HQ HU HX HO
    go_enter Try.func13, Try.ntmps13
    go_wp2_with (go_at_call 28; go_loud (refine Calls.mono (HP.out _) ?_; rintro e w1 ⟨rfl, rfl⟩))
    go_ret
    exact ⟨rfl, 0, rfl⟩
  have HP : Hid (∀ W, Calls Try.prog 28 #[.int .i64 a, .int .i64 (n : Int)] W fun e w' => e = .returned (.bool true) ∧ W = w') := fun W => place_yes a n ha.1 ha.2 W
  obtain ⟨R, hR⟩ : ∃ R, R = (if (0 ≤ a ∧ a < (n : Int)) ∧ (0 ≤ b ∧ b < (n : Int)) then overF t a (n + 1) b else false) := ⟨_, rfl⟩
  rw [← hR]
  have HR : Hid ((0 ≤ b ∧ b < (n : Int) → overF t a (n - 0 + 1) b = R) ∧ (¬ (0 ≤ b ∧ b < (n : Int)) → R = false)) := ⟨fun hb => by rw [hR, if_pos ⟨ha, hb⟩]; rfl, fun hb => by rw [hR, if_neg (fun hc => hb hc.2)]⟩
  have HA : Hid _ := ha
  clear hR ha
  go_enter Try.func13, Try.ntmps13
  go_wp2_with (go_at_call 28; go_loud (refine Calls.mono (HP.out _) ?_; rintro e w1 ⟨rfl, rfl⟩))
  clear HP
  go_loopw [2, 14] (fun vb vi wr => ∃ (i : Nat) (b : Int), vi = .int .i64 i ∧ i ≤ n ∧ vb = .int .i64 b ∧ Hid ((0 ≤ b ∧ b < (n : Int) → overF t a (n - i + 1) b = R) ∧ (¬ (0 ≤ b ∧ b < (n : Int)) → R = false)) ∧ ∃ k, wr = w.drewN k) (fun _ vi _ => n - (intOf vi).toNat)
  case atStart => exact ⟨0, b, rfl, by omega, rfl, HR.out, 0, rfl⟩
  case round =>
    obtain ⟨i, b1, rfl, hi, rfl, hr, hw⟩ := hrel
    have HW : Hid _ := hw
    clear HR hw
    by_cases hin : i < n
    · have hin' : (i : Int) < n := by omega
      by_cases hab : a = b1
      · subst hab
        have HT : Hid (R = true) := by show R = true; rw [← hr.out.1 HA.out]; exact HQ.out _
        clear HI HQ HU HX HO hr HA
        go_wp2
        go_ret
        exact ⟨ret_bool (by rw [HT.out]; try simp), HW.out⟩
      · have habf : (a == b1) = false := beq_false_of_ne hab
        by_cases hb : 0 ≤ b1 ∧ b1 < (n : Int)
        · have HP : Hid (∀ W, Calls Try.prog 28 #[.int .i64 b1, .int .i64 (n : Int)] W fun e w' => e = .returned (.bool true) ∧ W = w') := fun W => place_yes b1 n hb.1 hb.2 W
          have hRR := hr.out.1 hb
          have HRR : Hid (overF t a (n - i + 1) b1 = R) := hRR
          obtain ⟨b2, hb2⟩ : ∃ b2 : Nat, b1 = (b2 : Int) := Int.eq_ofNat_of_zero_le hb.1
          subst hb2
          have hb2n : b2 < n := by have := hb.2; omega
          obtain ⟨g, o, rfl, hg, c0⟩ := HI.out b2 hb2n
          have hb2n' : (b2 : Int) < n := by omega
          have HU1 : Hid _ := HU.out (b2 : Int) (n - i) hab
          have HX1 : Hid _ := HX.out (b2 : Int) (n - i) hab
          rw [Int.toNat_natCast] at HU1 HX1
          clear HI HQ HU HX hr hb hRR
          generalize t.getD b2 0 = y at *
          have HN : Hid ((0 ≤ y ∧ y < (n : Int) → overF t a (n - (i + 1) + 1) y = R) ∧ (¬ (0 ≤ y ∧ y < (n : Int)) → R = false)) := ⟨fun hy => by rw [show n - (i + 1) + 1 = n - i by omega, ← HRR.out]; exact (HU1.out hy).symm, fun hy => by rw [← HRR.out]; exact HX1.out hy⟩
          obtain ⟨k0, hk0⟩ := HW.out
          have c1 : wr.cell? ⟨g, o + b2, none⟩ = some (.int .i64 y) := by rw [hk0]; exact c0
          have HW2 : Hid (wr = w.drewN k0) := hk0
          clear HU1 HX1 HRR HW hk0 c0
          go_wp2_with (go_at_call 28; go_loud (refine Calls.mono (HP.out _) ?_; rintro e w1 ⟨rfl, rfl⟩))
          go_roundw
          case rel => exact ⟨i + 1, y, by first | rfl | (congr 1; omega), by omega, rfl, HN.out, k0, HW2.out⟩
          case measure => simp [intOf]; omega
        · have HP : Hid (∀ W, Calls Try.prog 28 #[.int .i64 b1, .int .i64 (n : Int)] W fun e w' => e = .returned (.bool false) ∧ W = w') := fun W => place_no b1 n hb W
          have HT : Hid (R = false) := hr.out.2 hb
          clear HI HQ HU HX HO hr HA hb
          go_wp2_with (go_at_call 28; go_loud (refine Calls.mono (HP.out _) ?_; rintro e w1 ⟨rfl, rfl⟩))
          go_ret
          exact ⟨ret_bool (by rw [HT.out]; try simp [hab]), HW.out⟩
    · obtain rfl : i = n := by omega
      have HT : Hid (R = decide (a = b1)) := by
        show R = _
        by_cases hb : 0 ≤ b1 ∧ b1 < (i : Int)
        · rw [← hr.out.1 hb, Nat.sub_self]; exact HO.out _
        · rw [hr.out.2 hb]
          symm
          exact decide_eq_false (fun e => hb (e ▸ HA.out))
      clear HI HQ HU HX HO hr HA
      go_wp2
      go_ret
      exact ⟨ret_bool (by rw [HT.out]; try (first | rfl | simp)), HW.out⟩
theorem over_ok : OverOk := fun t a b v w h => over_any' t a b v w h
end Go.Proofs.Ythedgacidphgnaa
