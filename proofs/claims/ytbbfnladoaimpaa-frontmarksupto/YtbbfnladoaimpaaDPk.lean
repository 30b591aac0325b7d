/- A number brought below another one. -/
import Derived.Test.YtbbfnladoaimpaaDMem
namespace Go.Proofs.Ytbbfnladoaimpaa
open Go.RowKit

theorem tmod_facts (x : Int) {n : Nat} (hn : 1 ≤ n) : (x.tmod (n : Int) < 0 → x.tmod (n : Int) + n = x % (n : Int)) ∧ (0 ≤ x.tmod (n : Int) → x.tmod (n : Int) = x % (n : Int)) ∧ -(n : Int) < x.tmod (n : Int) ∧ x.tmod (n : Int) < n := by
  have h1 := Int.emod_nonneg x (b := (n : Int)) (by omega)
  have h2 := Int.emod_lt_of_pos x (b := (n : Int)) (by omega)
  have h3 := Int.tmod_eq_emod (a := x) (b := (n : Int))
  split at h3
  · refine ⟨?_, ?_, ?_, ?_⟩ <;> omega
  · rename_i hc
    have h4 : x % (n : Int) ≠ 0 := fun e => hc (.inr (Int.dvd_of_emod_eq_zero e))
    have h5 : ((n : Int).natAbs : Int) = n := by omega
    rw [h5] at h3
    refine ⟨?_, ?_, ?_, ?_⟩ <;> omega
theorem pick_any (x : Int) (n : Nat) (hn : 1 ≤ n) (hn2 : n ≤ 140737488355328) (w : World) : Calls Try.prog 18 #[.int .i64 x, .int .i64 (n : Int)] w fun e w' => e = .returned (.int .i64 (x % (n : Int))) ∧ w' = w := by
  have h1 : ¬ (n : Int) < 1 := by omega
  have h0 : ¬ (n : Int) = 0 := by omega
  have HF : Hid _ := tmod_facts x hn
  go_enter Try.func18, Try.ntmps18
  go_wp2
  · rename_i hlt
    go_ret
    have hf := HF.out
    have e : wrap64 (x.tmod (n : Int) + n) = x.tmod (n : Int) + n := by
      have := hf.2.2
      first | (unfold wrap64; omega) | (rw [wrap64_eq] <;> omega) | simp [wrap64]
    exact ⟨ret_int (by rw [e]; exact hf.1 hlt), rfl⟩
  · rename_i hge
    go_ret
    exact ⟨ret_int (HF.out.2.1 hge), rfl⟩
end Go.Proofs.Ytbbfnladoaimpaa
