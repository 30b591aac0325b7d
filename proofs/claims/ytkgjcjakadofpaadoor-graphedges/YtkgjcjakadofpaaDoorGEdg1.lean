/- Edges: what Next, Ahead and Order say together. -/
import Derived.Test.YtkgjcjakadofpaaDoorGAhead
import Derived.Test.YtkgjcjakadofpaaDoorGDfs
import Derived.Test.YtkgjcjakadofpaaDoorGLaw1
namespace Go.Proofs.YtkgjcjakadofpaaDoor
open Go.RowKit

structure Edges (ts : List Tm) (A : List (List Int)) (O : List Int) : Prop where
  back : ∀ (i : Nat) (to : Nat), i < ts.length → to < ts.length → (to : Int) ∈ nextT (ts.getD i default) → amongB (A.getD to []) (i : Int) = true ∧ (amongB O (i : Int) = true → amongB O (to : Int) = true)
  up : ∀ (i : Nat), i < ts.length → (A.getD i []).Pairwise (· < ·)
  met : ∀ (i : Nat), i < ts.length → amongB O (i : Int) = (decide (i = 0) || (A.getD i []).any (amongB O ·))
  sum : lensA A = edgesF ts.length ts
  len : A.length = ts.length
  nil : decide (O.length = 0) = decide (ts.length = 0)
theorem edges_ok (ts : List Tm) : Edges ts (aheadT ts) (orderT ts) := by
  have ho := order_ok ts
  refine ⟨fun i to hi hto hm => ⟨?_, ?_⟩, fun i hi => ahead_lt hi, fun i hi => ?_, lens_ahead ts, ?_, ?_⟩
  · exact decide_eq_true ((mem_ahead hto).2 ⟨i, rfl, hi, hm⟩)
  · intro h
    have h1 : (i : Int) ∈ orderT ts := of_decide_eq_true h
    exact decide_eq_true (ho.closed i h1 to ((next_named _ _).1 hm) (inB_iff.2 ⟨by omega, by omega⟩))
  · rw [Bool.eq_iff_iff]
    constructor
    · intro h
      have h1 : (i : Int) ∈ orderT ts := of_decide_eq_true h
      by_cases h0 : i = 0
      · simp [h0]
      · obtain ⟨p, hp, hn⟩ := ho.par i h1 h0
        obtain ⟨p', e, hl⟩ := ho.nat _ hp
        have e' : p = p' := by omega
        subst e'
        rw [Bool.or_eq_true]
        right
        rw [List.any_eq_true]
        exact ⟨(p : Int), (mem_ahead hi).2 ⟨p, rfl, hl, (next_named _ _).2 hn⟩, decide_eq_true hp⟩
    · intro h
      rw [Bool.or_eq_true] at h
      rcases h with h | h
      · have h0 : i = 0 := of_decide_eq_true h
        subst h0
        exact decide_eq_true (ho.zero hi)
      · rw [List.any_eq_true] at h
        obtain ⟨x, hx, hxo⟩ := h
        obtain ⟨k, rfl, hk, hn⟩ := (mem_ahead hi).1 hx
        exact decide_eq_true (ho.closed k (of_decide_eq_true hxo) i ((next_named _ _).1 hn) (inB_iff.2 ⟨by omega, by omega⟩))
  · unfold aheadT; rw [aheadF_len]; simp
  · refine decide_eq_decide.2 ⟨fun h => ?_, fun h => ?_⟩
    · rcases Nat.eq_zero_or_pos ts.length with h0 | h0
      · exact h0
      · have := ho.zero h0
        rw [List.length_eq_zero_iff.1 h] at this
        cases this
    · rw [List.length_eq_zero_iff]
      refine List.eq_nil_iff_forall_not_mem.2 fun x hx => ?_
      obtain ⟨k, _, hk⟩ := ho.nat x hx
      omega
end Go.Proofs.YtkgjcjakadofpaaDoor
