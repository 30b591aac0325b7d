/- The walk of ScalarNumbers: the lists are laid, all rounds ask what the other statements say of every input, and the chapter's examples hold. -/
import Derived.Test.YtekgedphjbhalaaNumPlain
import Derived.Deep.QuietTactic
import Derived.BigQuiet
import Derived.WalkSpells
namespace Go.Proofs.Ytekgedphjbhalaa
open Go.RowKit

theorem info23 : (Try.prog.info? 23).map (fun i => (i.zero, i.size, i.bytes)) = some (some (.int .u64 0), 1, 8) := by kernel_rfl

theorem ex_nan : twoI 4 5 0 0 = 9221120237041090560 ∧ okTwo 4 5 0 0 = true := by decide +kernel
theorem ex_ne : twoI 12 5 9221120237041090560 9221120237041090560 = 1 ∧ okTwo 12 5 9221120237041090560 9221120237041090560 = true := by decide +kernel
theorem ex_neg : oneI 17 5 0 = 9223372036854775808 ∧ okOne 17 5 0 = true := by decide +kernel
theorem ex_none : okTwo 17 4 1 1 = false := by decide +kernel
theorem ex_least : twoI 4 4 9223372036854775808 18446744073709551615 = 9223372036854775808 ∧ okTwo 4 4 9223372036854775808 18446744073709551615 = true := by decide +kernel

theorem words_walk (t a : Int) (w : World) (ha : Hid (word a)) : Calls Try.prog 3 #[.int .u8 t, .int .u64 a] w fun e w' => e = .returned (.bool true) ∧ w' = w := by
  go_enter Try.func3, Try.ntmps3
  go_wp2_with (first | (go_at_call 9; refine (right_any _ _ _ ha).mono ?_; rintro e w' ⟨rfl, rfl⟩) | (go_at_call 10; refine (rright_any _ _ _ ha).mono ?_; rintro e w' ⟨rfl, rfl⟩) | (go_at_call 11; refine (cut_any _ _ _ ha).mono ?_; rintro e w' ⟨rfl, rfl⟩) | (go_at_call 12; refine (rcut_any _ _ _ ha).mono ?_; rintro e w' ⟨rfl, rfl⟩) | (go_at_call 13; refine (awake_any _).mono ?_; rintro e w' ⟨rfl, rfl⟩))
  go_ret
  exact ⟨rfl, rfl⟩

set_option maxRecDepth 100000 in
set_option maxHeartbeats 4000000 in
theorem num_walk (w : World) :
    Calls Try.prog 6 #[] w fun e w' => e = .returned (.bool true) ∧ Below w.heap.size w w' := by
  have f2 := run_bits
  obtain ⟨i0, hi, hz0, hz1, hz2⟩ := info_parts info23
  have hst : Hid (Rel1 w _ _ 0) := rel_start w
  go_enter Try.func6, Try.ntmps6
  go_wp2
  go_loopw [2, 4] (fun v i wr => ∃ k : Nat, k ≤ 15 ∧ i = .int .i64 k ∧ Hid (Rel1 w wr v k)) (fun _ i _ => 15 - (intOf i).toNat)
  case atStart => exact ⟨0, by omega, rfl, hst⟩
  case round =>
    clear hst
    obtain ⟨k, hk, rfl, hR⟩ := hrel
    by_cases hlt : k < 15
    · obtain ⟨x, hcx, hx⟩ := rel_cell hR.out k hlt
      obtain ⟨cs, hown, hw, hf, hb, hs⟩ := hR.out
      have hxh : Hid (x < 18446744073709551616) := hx
      have hwh : Hid (∀ c ∈ cs, word c) := hw
      have hfh : Hid (wr.heap[w.heap.size + 1]? = some (.cells (fltsL.map (Value.float .f64)).toArray 39 (0, 0))) := hf
      clear hx hw hf hR
      go_wp2_with (at_builtin; refine wpList_append_own _ rfl _ _ 38 rfl w.heap.size 23 i0 (.int .u64 0) 1 8 Try.underlying38 hi hz0 hz1 hz2 rfl (by decide) _ _ _ rfl (hown.alloc _) ⟨wr.heap.size, 0, none⟩ 1 1 [.int .u64 (x : Int)] rfl rfl ?c1 ?c2 ?c3 ?c4 ?c5 ?_)
      case c1 => exact cell_one_new _ _ _
      case c2 => intro u hu; simp at hu; subst hu; rfl
      case c3 => unfold maxLen; omega
      case c4 => omega
      case c5 => simp; omega
      · intro v' w1 hown' hgrow _
        have hR' : Hid (Rel1 w w1 v' (k + 1)) := rel_step hxh.out hown hwh.out hfh.out hb hs _ hown' hgrow
        clear hown' hgrow hown hwh hfh hb hs hxh hcx
        go_wp2
        go_roundw
        case rel => exact ⟨k + 1, by omega, by go_num, hR'⟩
        case measure => simp [intOf]; omega
    · have ek : k = 15 := by omega
      subst ek
      obtain ⟨g, cap, cf, hv, hc, hcw, hb⟩ := rel_end hR.out
      have hbh : Hid (Below w.heap.size w wr) := hb
      clear hR hb hlt hk hi hz0 hz1 hz2 f2
      rw [hv, show ((15 : Nat) : Int) = 15 from rfl]
      clear hv
      obtain ⟨wc, rfl⟩ : ∃ wc : World, wc = wr := ⟨_, rfl⟩
      go_wp2
      go_loopw [5] (fun t wr => ∃ (a n : Nat), a ≤ 7 ∧ t = .int .u8 a ∧ wr = wc.drewN n) (fun t _ => 7 - (intOf t).toNat)
      case atStart => exact ⟨0, 0, by omega, rfl, rfl⟩
      case round =>
        obtain ⟨a, n, ha, rfl, rfl⟩ := hrel
        by_cases hlt : a < 7
        · have a7 : (a : Int) < 7 := by omega
          go_wp2
          go_loopw [6] (fun i wr => ∃ (k n : Nat), k ≤ 43 ∧ i = .int .i64 k ∧ wr = wc.drewN n) (fun i _ => 43 - (intOf i).toNat)
          case atStart => exact ⟨0, _, by omega, rfl, rfl⟩
          case round =>
            obtain ⟨k, m, hk, rfl, rfl⟩ := hrel
            by_cases hlk : k < 43
            · have k43 : (k : Int) < 43 := by omega
              have hck := hc k hlk
              have hwk : Hid (word (cf k)) := hcw k
              go_wp2
              go_loopw [7] (fun i wr => ∃ (b n : Nat), b ≤ 7 ∧ i = .int .u8 b ∧ wr = wc.drewN n) (fun i _ => 7 - (intOf i).toNat)
              case atStart => exact ⟨0, _, by omega, rfl, rfl⟩
              case round =>
                obtain ⟨b, m2, hb, rfl, rfl⟩ := hrel
                by_cases hlb : (b : Int) < 7
                · go_wp2_with (go_at_call 5; refine (turns_walk _ _ _ _ hwk).mono ?_; rintro e w1 ⟨rfl, rfl⟩)
                  go_roundw
                  case rel => first | exact ⟨b + 1, _, by omega, by go_num, rfl⟩ | ((repeat apply Exists.intro); exact ⟨⟨b + 1, _, by omega, by go_num, rfl⟩, rfl⟩)
                  case measure => simp [intOf]; omega
                · go_wp2
                  go_loopw [8] (fun i wr => ∃ (q n : Nat), q ≤ 22 ∧ i = .int .i64 q ∧ wr = wc.drewN n) (fun i _ => 22 - (intOf i).toNat)
                  case atStart => exact ⟨0, _, by omega, rfl, rfl⟩
                  case round =>
                    obtain ⟨q, m3, hq, rfl, rfl⟩ := hrel
                    by_cases hlq : q < 22
                    · have q22 : (q : Int) < 22 := by omega
                      have hcq := hc q (by omega)
                      have hwq : Hid (word (cf q)) := hcw q
                      go_wp2
                      go_loopw [9] (fun i wr => ∃ (o : Nat), o ≤ 20 ∧ i = .int .u8 o ∧ Hid (∃ n, wr = wc.drewN n)) (fun i _ => 20 - (intOf i).toNat)
                      case atStart => exact ⟨0, by omega, rfl, _, rfl⟩
                      case round =>
                        obtain ⟨o, ho, rfl, hwr⟩ := hrel
                        by_cases hlo : (o : Int) < 20
                        · have b2 : (q : Int) < 43 := by omega
                          have hck' : wr.cell? ⟨g, k, none⟩ = some (.int .u64 (cf k)) := by
                            obtain ⟨n, rfl⟩ := hwr.out; exact hck
                          have hcq' : wr.cell? ⟨g, q, none⟩ = some (.int .u64 (cf q)) := by
                            obtain ⟨n, rfl⟩ := hwr.out; exact hcq
                          go_wp2_with fail
                          go_quiet ((go_at_call 4; exact Calls.quiet_of (ops_walk _ _ _ _ _ hwk hwq)))
                          have hwr' : Hid (∃ n, wr.drewN nq = wc.drewN n) := by
                            obtain ⟨n, rfl⟩ := hwr.out; exact ⟨_, World.drewN_drewN _ _ _⟩
                          go_wp2
                          go_roundw
                          case rel => first | exact ⟨o + 1, by omega, by go_num, hwr'⟩ | ((repeat apply Exists.intro); exact ⟨⟨o + 1, by omega, by go_num, hwr'⟩, rfl⟩)
                          case measure => simp [intOf]; omega
                        · obtain ⟨n6, rfl⟩ := hwr.out
                          clear hwr
                          go_wp2
                          go_roundw
                          case rel => first | exact ⟨q + 1, _, by omega, by go_num, rfl⟩ | ((repeat apply Exists.intro); exact ⟨⟨q + 1, _, by omega, by go_num, rfl⟩, rfl⟩)
                          case measure => simp [intOf]; omega
                    · go_wp2_with (go_at_call 3; refine (words_walk _ _ _ hwk).mono ?_; rintro e w1 ⟨rfl, rfl⟩)
                      go_roundw
                      case rel => first | exact ⟨k + 1, _, by omega, by go_num, rfl⟩ | ((repeat apply Exists.intro); exact ⟨⟨k + 1, _, by omega, by go_num, rfl⟩, rfl⟩)
                      case measure => simp [intOf]; omega
            · go_wp2
              go_roundw
              case rel => first | exact ⟨a + 1, _, by omega, by go_num, rfl⟩ | ((repeat apply Exists.intro); exact ⟨⟨a + 1, _, by omega, by go_num, rfl⟩, rfl⟩)
              case measure => simp [intOf]; omega
        · have x0 : Hid (word 0) := ⟨by omega, by omega⟩
          have x1 : Hid (word 1) := ⟨by omega, by omega⟩
          have x2 : Hid (word 9221120237041090560) := ⟨by omega, by omega⟩
          have x3 : Hid (word 9223372036854775808) := ⟨by omega, by omega⟩
          have x4 : Hid (word 18446744073709551615) := ⟨by omega, by omega⟩
          have y1 := ex_nan.1
          have y2 := ex_nan.2
          have y3 := ex_ne.1
          have y4 := ex_ne.2
          have y5 := ex_neg.1
          have y6 := ex_neg.2
          have y7 := ex_none
          have y8 := ex_least.1
          have y9 := ex_least.2
          clear hc hcw
          go_wp2_with (first | (go_at_call 16; refine (two_any _ _ _ _ _ ?h1 ?h2).mono ?_; (case h1 => assumption); (case h2 => assumption); rintro e w1 ⟨rfl, n1, rfl⟩) | (go_at_call 18; refine (one_any _ _ _ _ x0).mono ?_; rintro e w1 ⟨rfl, rfl⟩) | (go_at_call 13; refine (awake_any _).mono ?_; rintro e w1 ⟨rfl, rfl⟩))
          go_ret
          refine ⟨rfl, ?_⟩
          exact below_drewN hbh.out _
end Go.Proofs.Ytekgedphjbhalaa
