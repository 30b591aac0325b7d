/- Small contracts of the laws; what stands under a place. -/
import Derived.Test.YthedgacidphgnaaDLaw1
import Derived.Test.YthedgacidphgnaaDWo
import Derived.Test.YthedgacidphgnaaDPk
namespace Go.Proofs.Ythedgacidphgnaa
open Go.RowKit

def amongB (l : List Int) (x : Int) : Bool := decide (x ∈ l)
theorem among_drop {l : List Int} {i : Nat} {x : Int} (h : i < l.length) : amongB (l.drop i) x = (decide (l.getD i 0 = x) || amongB (l.drop (i + 1)) x) := by
  have e : l.getD i 0 = l[i] := by simp [List.getD, List.getElem?_eq_getElem h]
  rw [e, List.drop_eq_getElem_cons h]
  unfold amongB
  rw [← Bool.decide_or]
  exact decide_eq_decide.2 (by rw [List.mem_cons]; exact or_congr_left eq_comm)
set_option maxRecDepth 100000 in
set_option maxHeartbeats 1000000 in
theorem among_any (l : List Int) (x : Int) (v : Value) (w : World) (h : IntsAt w v l) : Calls Try.prog 20 #[v, .int .i64 x] w fun e w' => e = .returned (.bool (amongB l x)) ∧ w' = w := by
  obtain ⟨a, c, rfl, hll⟩ := h.form
  have HI : Hid (∀ i, i < l.length → _) := fun i hi => h.get (i := i) hi
  have HD : Hid (∀ i, i < l.length → _) := fun i hi => among_drop (l := l) (x := x) hi
  have HZ : Hid (amongB (l.drop l.length) x = false) := by show _ = _; rw [List.drop_length]; rfl
  obtain ⟨R, hR⟩ : ∃ R, R = amongB l x := ⟨_, rfl⟩
  rw [← hR]
  have HR : Hid (amongB (l.drop 0) x = R) := hR.symm
  obtain ⟨n, hn⟩ : ∃ n, n = l.length := ⟨_, rfl⟩
  rw [← hn] at HI HD HZ hll ⊢
  clear h hR hn
  go_enter Try.func20, Try.ntmps20
  go_wp2
  go_loopw [5] (fun vi wr => ∃ i : Nat, vi = .int .i64 i ∧ i ≤ n ∧ Hid (amongB (l.drop i) x = R ∧ wr = w)) (fun vi _ => n - (intOf vi).toNat)
  case atStart => exact ⟨0, rfl, by omega, HR.out, rfl⟩
  case round =>
    obtain ⟨i, rfl, hi, hr⟩ := hrel
    have hw := hr.out.2
    subst hw
    clear HR
    by_cases hin : i < n
    · obtain ⟨g, o, rfl, hg, c0⟩ := HI.out i hin
      have hin' : (i : Int) < n := by omega
      have HDD : Hid _ := HD.out i hin
      rw [hr.out.1] at HDD
      clear HI HD HZ
      generalize l.getD i 0 = y at *
      by_cases hy : y = x
      · subst hy
        have HX : Hid (R = true) := by show R = true; have h9 := HDD.out; simpa using h9
        clear HDD
        go_wp2
        go_ret
        exact ⟨ret_bool HX.out.symm, rfl⟩
      · have hyf : (y == x) = false := beq_false_of_ne hy
        have HX : Hid (R = amongB (l.drop (i + 1)) x) := by show R = amongB (l.drop (i + 1)) x; have h9 := HDD.out; simpa [hy] using h9
        clear HDD
        go_wp2
        go_roundw
        case rel => exact ⟨i + 1, by first | rfl | (congr 1; omega), by omega, HX.out.symm, by first | rfl | trivial⟩
        case measure => simp [intOf]; omega
    · obtain rfl : i = n := by omega
      have HX : Hid (false = R) := by have h9 := hr.out.1; rw [HZ.out] at h9; exact h9
      clear HI HD HZ
      go_wp2
      go_ret
      exact ⟨ret_bool HX.out, rfl⟩
theorem putA_get {i : Int} {rows : List (List Int)} {to : Int} {j : Nat} (hj : j < rows.length) : (putA i rows to).getD j [] = rows.getD j [] ++ (if (j : Int) = to then [i] else []) := by
  unfold putA
  by_cases hb : inB to rows.length = true
  · rw [if_pos hb]
    rw [inB_iff] at hb
    simp only [List.getD, List.getElem?_modify, List.getElem?_eq_getElem hj]
    by_cases e : (j : Int) = to
    · have : to.toNat = j := by omega
      simp [e, this]
    · have : to.toNat ≠ j := by omega
      simp [e, this]
  · rw [if_neg hb]
    have e : ¬ (j : Int) = to := by
      rw [inB_iff] at hb
      omega
    simp [e]
theorem underF_mem {j : Nat} {x : Int} : ∀ (t : List Int) (i0 : Nat) (rows : List (List Int)), j < rows.length → (x ∈ (underF t i0 rows).getD j [] ↔ x ∈ rows.getD j [] ∨ ∃ q : Nat, x = ((i0 + q : Nat) : Int) ∧ q < t.length ∧ t.getD q 0 = (j : Int))
  | [], i0, rows, _ => by
    unfold underF
    exact ⟨.inl, fun h => h.elim id fun ⟨q, _, h2, _⟩ => by simp at h2⟩
  | y :: t, i0, rows, hj => by
    unfold underF
    rw [underF_mem t (i0 + 1) _ (by rw [putA_len]; exact hj), putA_get hj, List.mem_append]
    constructor
    · rintro ((h | h) | ⟨q, h1, h2, h3⟩)
      · exact .inl h
      · split at h
        · rename_i he
          simp at h
          exact .inr ⟨0, by simpa using h, by simp, by simpa using he.symm⟩
        · simp at h
      · exact .inr ⟨q + 1, by rw [h1]; congr 1; omega, by simpa using h2, by simpa using h3⟩
    · rintro (h | ⟨q, h1, h2, h3⟩)
      · exact .inl (.inl h)
      · rcases q with _ | q
        · refine .inl (.inr ?_)
          have e : (j : Int) = y := by simpa using h3.symm
          rw [if_pos e]
          simpa using h1
        · exact .inr ⟨q, by rw [h1]; congr 1; omega, by simpa using h2, by simpa using h3⟩
theorem under_mem {t : List Int} {i j : Nat} (hi : i < t.length) (hj : j < t.length) (h : t.getD i 0 = (j : Int)) : (i : Int) ∈ (underT t).getD j [] := by
  unfold underT
  exact (underF_mem t 0 _ (by simpa using hj)).2 (.inr ⟨i, by simp, hi, h⟩)
end Go.Proofs.Ythedgacidphgnaa
