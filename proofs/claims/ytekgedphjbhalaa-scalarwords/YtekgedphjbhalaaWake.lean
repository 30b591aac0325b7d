/- The document's Cut and Right. -/
import Derived.Test.YtekgedphjbhalaaAwake
namespace Go.Proofs.Ytekgedphjbhalaa
open Go.RowKit

theorem w32_hi (a : Int) (h : word a) (g : 2147483648 ≤ a.tmod 4294967296) : IntKind.u64.wrap (a.tmod 4294967296 + 18446744069414584320) = IntKind.u64.wrap (wrap32 a) := by
  obtain ⟨h0, h1⟩ := h
  have e : a.tmod 4294967296 = a % 4294967296 := Int.tmod_eq_emod_of_nonneg h0
  rw [wrap_u64, wrap_u64]; unfold wrap32; omega
theorem w32_lo (a : Int) (h : word a) (g : a.tmod 4294967296 < 2147483648) : a.tmod 4294967296 = IntKind.u64.wrap (wrap32 a) := by
  obtain ⟨h0, h1⟩ := h
  have e : a.tmod 4294967296 = a % 4294967296 := Int.tmod_eq_emod_of_nonneg h0
  rw [wrap_u64]; unfold wrap32; omega

set_option maxHeartbeats 400000 in
theorem rcut_any (t a : Int) (w : World) (ha : Hid (word a)) :
    Calls Try.prog 12 #[.int .u8 t, .int .u64 a] w fun e w' => e = .returned (.int .u64 (cutI t a)) ∧ w' = w := by
  have f1 := run_frombits
  by_cases h1 : t = 1
  · subst h1
    go_enter Try.func12, Try.ntmps12
    go_wp2
    go_ret
    exact ⟨ret_u64 (Int.tmod_eq_emod_of_nonneg ha.out.1), rfl⟩
  by_cases h2 : t = 2
  · subst h2
    go_enter Try.func12, Try.ntmps12
    go_wp2
    go_ret
    exact ⟨ret_u64 (Int.tmod_eq_emod_of_nonneg ha.out.1), rfl⟩
  by_cases h3 : t = 3
  · subst h3
    go_enter Try.func12, Try.ntmps12
    go_wp2
    all_goals go_ret
    · exact ⟨ret_u64 (w32_hi a ha.out (by assumption)), rfl⟩
    · exact ⟨ret_u64 (w32_lo a ha.out (by assumption)), rfl⟩
  by_cases h4 : t = 4
  · subst h4
    go_enter Try.func12, Try.ntmps12
    go_wp2
    go_ret
    exact ⟨rfl, rfl⟩
  by_cases h5 : t = 5
  · subst h5
    by_cases hn : (FloatKind.f64.format.order a.toNat a.toNat != some .eq) = true
    · go_enter Try.func12, Try.ntmps12
      go_wp2
      go_ret
      exact ⟨ret_u64 (by simp [cutI, nanI, hn]), rfl⟩
    · have hn' : (FloatKind.f64.format.order a.toNat a.toNat != some .eq) = false := by simpa using hn
      go_enter Try.func12, Try.ntmps12
      go_wp2
      go_ret
      exact ⟨ret_u64 (by simp [cutI, nanI, hn']), rfl⟩
  · go_enter Try.func12, Try.ntmps12
    go_wp2
    go_ret
    exact ⟨ret_u64 (by simp [cutI, h1, h2, h3, h4, h5]), rfl⟩

theorem typedB_iff (t : Int) : typedB t = true ↔ 1 ≤ t ∧ t ≤ 5 := by
  simp [typedB, numberB, wholeB]; omega

set_option maxHeartbeats 400000 in
theorem rright_any (t a : Int) (w : World) (ha : Hid (word a)) :
    Calls Try.prog 10 #[.int .u8 t, .int .u64 a] w fun e w' => e = .returned (.bool (rightB t a)) ∧ w' = w := by
  have hi := typedB_iff t
  by_cases h : typedB t = true
  · have h1 : 1 ≤ t := (hi.1 h).1
    have h2 : t ≤ 5 := (hi.1 h).2
    clear hi
    go_enter Try.func10, Try.ntmps10
    go_wp2_with (go_at_call 12; refine (rcut_any _ _ _ ha).mono ?_; rintro e w' ⟨rfl, rfl⟩)
    go_ret
    exact ⟨ret_bool (by simp [rightB, h]), rfl⟩
  · have h' : typedB t = false := by simpa using h
    by_cases g : 1 ≤ t
    · have g2 : ¬ t ≤ 5 := fun k => h (hi.2 ⟨g, k⟩)
      clear hi
      go_enter Try.func10, Try.ntmps10
      go_wp2
      go_ret
      exact ⟨ret_bool (by simp [rightB, h']), rfl⟩
    · clear hi
      go_enter Try.func10, Try.ntmps10
      go_wp2
      go_ret
      exact ⟨ret_bool (by simp [rightB, h']), rfl⟩

end Go.Proofs.Ytekgedphjbhalaa
