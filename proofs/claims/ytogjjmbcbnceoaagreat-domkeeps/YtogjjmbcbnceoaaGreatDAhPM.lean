/- Going up a list that may have circles: as many steps as it has places are enough. -/
import Derived.Test.YtogjjmbcbnceoaaGreatDFrontM
import Derived.Test.YtogjjmbcbnceoaaGreatDSet
namespace Go.Proofs.YtogjjmbcbnceoaaGreat

theorem inj_le : ∀ (n m : Nat) (f : Nat → Nat), (∀ i, i < m → f i < n) → (∀ i j, i < m → j < m → f i = f j → i = j) → m ≤ n
  | 0, m, f, h, _ => by
    rcases m with _ | m
    · exact Nat.le_refl _
    · have := h 0 (by omega); omega
  | n + 1, m, f, h, hi => by
    rcases m with _ | m
    · omega
    by_cases hx : ∃ i, i < m + 1 ∧ f i = n
    · obtain ⟨i, him, hf⟩ := hx
      have := inj_le n m (fun k => if k = i then f m else f k) (fun k hk => by
        show (if k = i then f m else f k) < n
        split
        · rename_i e
          subst e
          have h1 := h m (by omega)
          have h2 : f m ≠ n := fun e => by have := hi m k (by omega) him (by rw [e, hf]); omega
          omega
        · rename_i e
          have h1 := h k (by omega)
          have h2 : f k ≠ n := fun e2 => e (hi k i (by omega) him (by rw [e2, hf]))
          omega) (fun k l hk hl he => by
        have he' : (if k = i then f m else f k) = (if l = i then f m else f l) := he
        split at he' <;> split at he'
        · omega
        · have := hi m l (by omega) (by omega) he'; omega
        · have := hi k m (by omega) (by omega) he'; omega
        · exact hi k l (by omega) (by omega) he')
      omega
    · have := inj_le n (m + 1) f (fun k hk => by
        have h1 := h k hk
        have h2 : f k ≠ n := fun e => hx ⟨k, hk, e⟩
        omega) hi
      omega
def upI (t : List Int) : Nat → Int → Int
  | 0, b => b
  | k + 1, b => upI t k (t.getD b.toNat 0)
theorem upI_add (t : List Int) : ∀ (k j : Nat) (b : Int), upI t (k + j) b = upI t j (upI t k b)
  | 0, j, b => by rw [Nat.zero_add]; rfl
  | k + 1, j, b => by
    rw [show k + 1 + j = (k + j) + 1 by omega]
    exact upI_add t k j _
def InT (t : List Int) (x : Int) : Prop := 0 ≤ x ∧ x < (t.length : Int)
/-- a is met after j steps, all of them at places. -/
def UpOk (t : List Int) (a b : Int) (j : Nat) : Prop := upI t j b = a ∧ ∀ i, i ≤ j → InT t (upI t i b)
theorem overF_up_iff (t : List Int) (a : Int) : ∀ (f : Nat) (b : Int), InT t b → (overF t a f b = true ↔ ∃ j, j < f ∧ UpOk t a b j)
  | 0, b, _ => ⟨fun h => (by cases h), fun ⟨j, h, _⟩ => (by omega)⟩
  | f + 1, b, hb => by
    by_cases e : a = b
    · refine ⟨fun _ => ⟨0, by omega, e.symm, fun i hi => ?_⟩, fun _ => by unfold overF; rw [if_pos e]⟩
      have : i = 0 := by omega
      subst this; exact hb
    · by_cases hi : InT t (t.getD b.toNat 0)
      · have ih := overF_up_iff t a f _ hi
        have hf : overF t a (f + 1) b = overF t a f (t.getD b.toNat 0) := by
          show (if a = b then true else if 0 ≤ t.getD b.toNat 0 ∧ t.getD b.toNat 0 < (t.length : Int) then overF t a f (t.getD b.toNat 0) else false) = _
          exact (if_neg e).trans (if_pos hi)
        rw [hf, ih]
        constructor
        · rintro ⟨j, hj, h1, h2⟩
          refine ⟨j + 1, by omega, h1, fun i hi2 => ?_⟩
          rcases i with _ | i
          · exact hb
          · exact h2 i (by omega)
        · rintro ⟨j, hj, h1, h2⟩
          rcases j with _ | j
          · exact absurd h1.symm e
          · exact ⟨j, by omega, h1, fun i hi2 => h2 (i + 1) (by omega)⟩
      · have hf : overF t a (f + 1) b = false := by unfold InT at hi; unfold overF; rw [if_neg e, if_neg hi]
        rw [hf]
        refine ⟨fun h => (by cases h), fun ⟨j, hj, h1, h2⟩ => ?_⟩
        rcases j with _ | j
        · exact absurd h1.symm e
        · exact absurd (h2 1 (by omega)) hi
theorem up_short (t : List Int) (a b : Int) : ∀ (j : Nat), UpOk t a b j → ∃ i, i < t.length ∧ UpOk t a b i := by
  intro j
  induction j using Nat.strongRecOn with
  | _ j ih =>
    intro h
    rcases Nat.lt_or_ge j t.length with hj | hj
    · exact ⟨j, hj, h⟩
    · have hx : ∃ i k, i < k ∧ k ≤ t.length ∧ upI t i b = upI t k b := Classical.byContradiction fun hn => by
        have := inj_le t.length (t.length + 1) (fun i => (upI t i b).toNat) (fun i hi => by
          have := h.2 i (by omega)
          unfold InT at this
          show (upI t i b).toNat < _
          omega) (fun i k hi hk he => by
          have h1 := (h.2 i (by omega)).1
          have h2 := (h.2 k (by omega)).1
          have he' : (upI t i b).toNat = (upI t k b).toNat := he
          have e : upI t i b = upI t k b := by omega
          rcases Nat.lt_trichotomy i k with h3 | h3 | h3
          · exact absurd ⟨i, k, h3, by omega, e⟩ hn
          · exact h3
          · exact absurd ⟨k, i, h3, by omega, e.symm⟩ hn)
        omega
      obtain ⟨i, k, hik, hk, e⟩ := hx
      have sh : ∀ m, i ≤ m → upI t m b = upI t (m - i + k) b := fun m hm => by
        rw [show m = i + (m - i) by omega, upI_add, e, ← upI_add]
        congr 1
        omega
      refine ih (j - (k - i)) (by omega) ⟨?_, fun m hm => ?_⟩
      · rw [sh _ (by omega), show j - (k - i) - i + k = j by omega]
        exact h.1
      · rcases Nat.lt_or_ge m i with h5 | h5
        · exact h.2 m (by omega)
        · rw [sh m h5]
          exact h.2 _ (by omega)
/-- Any bound from the length on. -/
theorem over_fuel {t : List Int} {a b : Int} (hb : 0 ≤ b ∧ b < (t.length : Int)) {f g : Nat} (hf : t.length ≤ f) (hg : t.length ≤ g) : overF t a f b = overF t a g b := by
  have key : ∀ {f g : Nat}, t.length ≤ g → overF t a f b = true → overF t a g b = true := fun {f g} hg h => by
    obtain ⟨j, _, h1⟩ := (overF_up_iff t a f b hb).1 h
    obtain ⟨i, h2, h3⟩ := up_short t a b j h1
    exact (overF_up_iff t a g b hb).2 ⟨i, by omega, h3⟩
  rcases h1 : overF t a f b with _ | _
  · rcases h2 : overF t a g b with _ | _
    · rfl
    · rw [key hf h2] at h1; cases h1
  · rw [key hg h1]
theorem overL_fuel {t : List Int} {a b : Int} (ha : 0 ≤ a ∧ a < (t.length : Int)) (hb : 0 ≤ b ∧ b < (t.length : Int)) {f : Nat} (hf : t.length ≤ f) : overL t a b = overF t a f b := by
  unfold overL
  rw [if_pos ⟨ha, hb⟩]
  exact over_fuel hb (by omega) hf
end Go.Proofs.YtogjjmbcbnceoaaGreat
/- Edges by numbers, gathered: plain. -/
namespace Go.Proofs.YtogjjmbcbnceoaaGreat
open Lt

/-- The edges of the first i nodes, and k ones of node i, the other way round. -/
structure AhTo (nx : List (List Int)) (ns : List Int) (i k : Nat) (rows : List (List Int)) : Prop where
  len : rows.length = ns.length
  mem : ∀ (z : Nat) (x : Int), z < ns.length → (x ∈ rows.getD z [] ↔ ∃ q v u e : Nat, x = (q : Int) ∧ ns[q]? = some (v : Int) ∧ ns[z]? = some (u : Int) ∧ (nx.getD v [])[e]? = some (u : Int) ∧ (q < i ∨ (q = i ∧ e < k)))
theorem AhTo.start (nx : List (List Int)) (ns : List Int) : AhTo nx ns 0 0 (List.replicate ns.length []) := by
  refine ⟨by simp, fun z x hz => ⟨fun h => ?_, fun ⟨q, v, u, e, _, _, _, _, h⟩ => by omega⟩⟩
  rw [List.getD_eq_getElem?_getD, List.getElem?_replicate, if_pos hz] at h
  simp at h
theorem AhTo.row {nx : List (List Int)} {ns : List Int} {i k : Nat} {rows : List (List Int)} (h : AhTo nx ns i k rows) {v : Nat} (hv : ns[i]? = some (v : Int)) (hk : k = (nx.getD v []).length) : AhTo nx ns (i + 1) 0 rows := by
  refine ⟨h.len, fun z x hz => (h.mem z x hz).trans ⟨?_, ?_⟩⟩
  · rintro ⟨q, v, u, e, h1, h2, h3, h4, h5⟩
    exact ⟨q, v, u, e, h1, h2, h3, h4, by omega⟩
  · rintro ⟨q, v', u, e, h1, h2, h3, h4, h5⟩
    refine ⟨q, v', u, e, h1, h2, h3, h4, ?_⟩
    rcases Nat.lt_or_ge q i with h6 | h6
    · exact .inl h6
    · have : q = i := by omega
      subst this
      rw [hv] at h2
      have : v = v' := by cases h2; rfl
      subst this
      have := (List.getElem?_eq_some_iff.1 h4).1
      exact .inr ⟨rfl, by omega⟩
theorem AhTo.step {nx : List (List Int)} {ns fs ps : List Int} (D : Done nx ns fs ps) {i k : Nat} {rows : List (List Int)} (h : AhTo nx ns i k rows) {v u z : Nat} (hv : ns[i]? = some (v : Int)) (hu : (nx.getD v [])[k]? = some (u : Int)) (hz : ns[z]? = some (u : Int)) : AhTo nx ns i (k + 1) (rows.modify z (· ++ [(i : Int)])) := by
  have hzl := (List.getElem?_eq_some_iff.1 hz).1
  have hlen := h.len
  refine ⟨by simpa using hlen, fun y x hy => ?_⟩
  rw [getD_modify (by omega)]
  by_cases e : z = y
  · subst e
    rw [if_pos rfl, List.mem_append]
    constructor
    · rintro (h1 | h1)
      · obtain ⟨q, v', u', e, h2, h3, h4, h5, h6⟩ := (h.mem z x hy).1 h1
        exact ⟨q, v', u', e, h2, h3, h4, h5, by omega⟩
      · simp at h1
        exact ⟨i, v, u, k, h1, hv, hz, hu, .inr ⟨rfl, by omega⟩⟩
    · rintro ⟨q, v', u', e, h2, h3, h4, h5, h6⟩
      by_cases h7 : q < i ∨ (q = i ∧ e < k)
      · exact .inl ((h.mem z x hy).2 ⟨q, v', u', e, h2, h3, h4, h5, h7⟩)
      · have : q = i := by omega
        subst this
        right; simp [h2]
  · rw [if_neg e]
    refine (h.mem y x hy).trans ⟨?_, ?_⟩
    · rintro ⟨q, v', u', e, h2, h3, h4, h5, h6⟩
      exact ⟨q, v', u', e, h2, h3, h4, h5, by omega⟩
    · rintro ⟨q, v', u', e', h2, h3, h4, h5, h6⟩
      refine ⟨q, v', u', e', h2, h3, h4, h5, ?_⟩
      by_cases h7 : q < i ∨ (q = i ∧ e' < k)
      · exact h7
      · exfalso
        have h8 : q = i := by omega
        have h9 : e' = k := by omega
        subst h8; subst h9
        rw [hv] at h3
        have : v = v' := by cases h3; rfl
        subst this
        rw [hu] at h5
        have : u = u' := by cases h5; rfl
        subst this
        exact e (D.inj hz h4)
theorem AhTo.all {nx : List (List Int)} {ns : List Int} {rows : List (List Int)} (h : AhTo nx ns ns.length 0 rows) {z : Nat} (hz : z < ns.length) : (∀ x ∈ rows.getD z [], ∃ q : Nat, x = (q : Int) ∧ EdN nx ns q z) ∧ ∀ q, EdN nx ns q z → (q : Int) ∈ rows.getD z [] := by
  refine ⟨fun x hx => ?_, fun q hq => ?_⟩
  · obtain ⟨q, v, u, e, h1, h2, h3, h4, h5⟩ := (h.mem z x hz).1 hx
    exact ⟨q, h1, (List.getElem?_eq_some_iff.1 h2).1, hz, v, u, h2, h3, List.mem_of_getElem? h4⟩
  · obtain ⟨h1, _, v, u, h2, h3, h4⟩ := hq
    obtain ⟨e, he⟩ := List.getElem?_of_mem h4
    exact (h.mem z _ hz).2 ⟨q, v, u, e, rfl, h2, h3, he, .inl h1⟩
end Go.Proofs.YtogjjmbcbnceoaaGreat
