/- Edges by numbers, gathered: plain. -/
import Derived.Test.YthedgacidphgnaaDSet
import Derived.Test.YthedgacidphgnaaDOvN
namespace Go.Proofs.Ythedgacidphgnaa
open Lt

/-- The edges of the first i nodes, and k ones of node i, the other way round. -/
structure AhTo (nx : List (List Int)) (ns : List Int) (i k : Nat) (rows : List (List Int)) : Prop where
  len : rows.length = ns.length
  mem : ∀ (z : Nat) (x : Int), z < ns.length → (x ∈ rows.getD z [] ↔ ∃ q v u e : Nat, x = (q : Int) ∧ ns[q]? = some (v : Int) ∧ ns[z]? = some (u : Int) ∧ (nx.getD v [])[e]? = some (u : Int) ∧ (q < i ∨ (q = i ∧ e < k)))
theorem AhTo.start (nx : List (List Int)) (ns : List Int) : AhTo nx ns 0 0 (List.replicate ns.length []) := by
  refine ⟨by simp, fun z x hz => ⟨fun h => ?_, fun ⟨q, v, u, e, _, _, _, _, h⟩ => by omega⟩⟩
  rw [List.getD_eq_getElem?_getD, List.getElem?_replicate, if_pos hz] at h
  simp at h
theorem AhTo.row {nx : List (List Int)} {ns : List Int} {i k : Nat} {rows : List (List Int)} (h : AhTo nx ns i k rows) {v : Nat} (hv : ns[i]? = some (v : Int)) (hk : k = (nx.getD v []).length) : AhTo nx ns (i + 1) 0 rows := by
  refine ⟨h.len, fun z x hz => (h.mem z x hz).trans ⟨?_, ?_⟩⟩
  · rintro ⟨q, v, u, e, h1, h2, h3, h4, h5⟩
    exact ⟨q, v, u, e, h1, h2, h3, h4, by omega⟩
  · rintro ⟨q, v', u, e, h1, h2, h3, h4, h5⟩
    refine ⟨q, v', u, e, h1, h2, h3, h4, ?_⟩
    rcases Nat.lt_or_ge q i with h6 | h6
    · exact .inl h6
    · have : q = i := by omega
      subst this
      rw [hv] at h2
      have : v = v' := by cases h2; rfl
      subst this
      have := (List.getElem?_eq_some_iff.1 h4).1
      exact .inr ⟨rfl, by omega⟩
theorem AhTo.step {nx : List (List Int)} {ns fs ps : List Int} (D : Done nx ns fs ps) {i k : Nat} {rows : List (List Int)} (h : AhTo nx ns i k rows) {v u z : Nat} (hv : ns[i]? = some (v : Int)) (hu : (nx.getD v [])[k]? = some (u : Int)) (hz : ns[z]? = some (u : Int)) : AhTo nx ns i (k + 1) (rows.modify z (· ++ [(i : Int)])) := by
  have hzl := (List.getElem?_eq_some_iff.1 hz).1
  have hlen := h.len
  refine ⟨by simpa using hlen, fun y x hy => ?_⟩
  rw [getD_modify (by omega)]
  by_cases e : z = y
  · subst e
    rw [if_pos rfl, List.mem_append]
    constructor
    · rintro (h1 | h1)
      · obtain ⟨q, v', u', e, h2, h3, h4, h5, h6⟩ := (h.mem z x hy).1 h1
        exact ⟨q, v', u', e, h2, h3, h4, h5, by omega⟩
      · simp at h1
        exact ⟨i, v, u, k, h1, hv, hz, hu, .inr ⟨rfl, by omega⟩⟩
    · rintro ⟨q, v', u', e, h2, h3, h4, h5, h6⟩
      by_cases h7 : q < i ∨ (q = i ∧ e < k)
      · exact .inl ((h.mem z x hy).2 ⟨q, v', u', e, h2, h3, h4, h5, h7⟩)
      · have : q = i := by omega
        subst this
        right; simp [h2]
  · rw [if_neg e]
    refine (h.mem y x hy).trans ⟨?_, ?_⟩
    · rintro ⟨q, v', u', e, h2, h3, h4, h5, h6⟩
      exact ⟨q, v', u', e, h2, h3, h4, h5, by omega⟩
    · rintro ⟨q, v', u', e', h2, h3, h4, h5, h6⟩
      refine ⟨q, v', u', e', h2, h3, h4, h5, ?_⟩
      by_cases h7 : q < i ∨ (q = i ∧ e' < k)
      · exact h7
      · exfalso
        have h8 : q = i := by omega
        have h9 : e' = k := by omega
        subst h8; subst h9
        rw [hv] at h3
        have : v = v' := by cases h3; rfl
        subst this
        rw [hu] at h5
        have : u = u' := by cases h5; rfl
        subst this
        exact e (D.inj hz h4)
theorem AhTo.all {nx : List (List Int)} {ns : List Int} {rows : List (List Int)} (h : AhTo nx ns ns.length 0 rows) {z : Nat} (hz : z < ns.length) : (∀ x ∈ rows.getD z [], ∃ q : Nat, x = (q : Int) ∧ EdN nx ns q z) ∧ ∀ q, EdN nx ns q z → (q : Int) ∈ rows.getD z [] := by
  refine ⟨fun x hx => ?_, fun q hq => ?_⟩
  · obtain ⟨q, v, u, e, h1, h2, h3, h4, h5⟩ := (h.mem z x hz).1 hx
    exact ⟨q, h1, (List.getElem?_eq_some_iff.1 h2).1, hz, v, u, h2, h3, List.mem_of_getElem? h4⟩
  · obtain ⟨h1, _, v, u, h2, h3, h4⟩ := hq
    obtain ⟨e, he⟩ := List.getElem?_of_mem h4
    exact (h.mem z _ hz).2 ⟨q, v, u, e, rfl, h2, h3, he, .inl h1⟩
end Go.Proofs.Ythedgacidphgnaa
