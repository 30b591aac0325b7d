/- Small plain steps of nearest. -/
import Derived.Test.YthedgacidphgnaaDNe1
namespace Go.Proofs.Ythedgacidphgnaa
open Go.RowKit Lt

theorem Lt.NI.nat {m : Nat} {E : Nat → Nat → Prop} {fr : Nat → Nat} {L : Nat} {ov be hi al : List Int} {wt : List (List Int)} (H : NI m E fr L ov be hi al wt) {i : Nat} (hi' : i < m) : ∃ t : Nat, hi[i]? = some (t : Int) := by
  rcases Nat.lt_or_ge i L with h | h
  · exact ⟨i, H.lowH i h hi'⟩
  · obtain ⟨t, h1, _⟩ := H.semi i h hi'
    exact ⟨t, h1⟩
theorem set_nat {hi : List Int} {m z h : Nat} (H : ∀ i, i < m → ∃ t : Nat, hi[i]? = some (t : Int)) : ∀ i, i < m → ∃ t : Nat, (hi.set z (h : Int))[i]? = some (t : Int) := fun i hi' => by
  obtain ⟨t, h1⟩ := H i hi'
  rw [List.getElem?_set]
  by_cases e : z = i
  · subst e
    exact ⟨h, by rw [if_pos rfl, if_pos (List.getElem?_eq_some_iff.1 h1).1]⟩
  · exact ⟨t, by rw [if_neg e]; exact h1⟩
theorem hst_set {fr : Nat → Nat} {z : Nat} {hi : List Int} {x : Int} {q b : Nat} (h : Hst fr (z + 1) (hi.set z x) q b) : Hst fr (z + 1) hi q b := by
  refine ⟨h.1, fun hq => ?_⟩
  obtain ⟨h1, h2, h3⟩ := h.2 hq
  refine ⟨h1, h2, fun u hu ha => ?_⟩
  have := h3 u hu ha
  rw [gN_set (by omega), gN_set (by omega)] at this
  exact this
/-- One node ahead of z is gone through. -/
theorem pi_next {m : Nat} {E : Nat → Nat → Prop} {fr : Nat → Nat} (D : Dfs m E fr) {L : Nat} {ov be hi al : List Int} {wt : List (List Int)} {z : Nat} (H : NI m E fr (z + 1) ov be hi al wt) (hL : L = z + 1) (_hz : z < m) {A : List Int} {h q b c : Nat} (P : PI E fr z hi A h) (he : E q z) (hb : Hst fr L (hi.set z (h : Int)) q b) (hc : (hi.set z (h : Int))[b]? = some (c : Int)) : PI E fr z hi (A ++ [(q : Int)]) (min h c) := by
  subst hL
  have hqm := (D.lt _ _ he).1
  have hlh := H.lh
  refine P.step D H.semi he (hst_set hb) (fun hq => ?_) (fun hq => ?_) (fun hq => ?_) (fun _ _ => rfl)
  · have := hb.1 (by omega)
    subst this
    rw [List.getElem?_set, if_neg (by omega), H.lowH b (by omega) hqm] at hc
    cases hc; rfl
  · have := hb.1 (by omega)
    subst this
    rw [List.getElem?_set, if_pos hq.symm, if_pos (by omega)] at hc
    cases hc; rfl
  · obtain ⟨h1, _, _⟩ := hb.2 (by omega)
    rw [List.getElem?_set, if_neg (by omega)] at hc
    exact (gN_at hc).symm
theorem lens_set {rows : List (List Int)} {k : Nat} : lensA (rows.set k []) ≤ lensA rows := by
  induction rows generalizing k with
  | nil => simp
  | cons r rows ih =>
    rcases k with _ | k
    · simp [lensA]
    · have := ih (k := k)
      simp [lensA] at this ⊢
      omega
theorem modify_set {rows : List (List Int)} {k : Nat} {r : List Int} {x : Int} (h : rows[k]? = some r) : rows.modify k (· ++ [x]) = rows.set k (r ++ [x]) := by
  apply List.ext_getElem?
  intro i
  rw [List.getElem?_modify, List.getElem?_set]
  by_cases e : k = i
  · subst e
    rw [if_pos rfl, if_pos (List.getElem?_eq_some_iff.1 h).1, h]
    simp
  · rw [if_neg e]
    cases rows[i]? <;> simp [e]
theorem getD_get {rows : List (List Int)} {k : Nat} {r : List Int} (h : rows[k]? = some r) : rows.getD k [] = r := by rw [List.getD_eq_getElem?_getD, h]; rfl
/-- Who waits at the place from which z was met. -/
theorem wait_in {m : Nat} {E : Nat → Nat → Prop} {fr : Nat → Nat} {ov be hi al : List Int} {wt : List (List Int)} {z h : Nat} (H : NI m E fr (z + 1) ov be hi al wt) (hz : z < m) (hh : h < m) {p : Nat} {x : Int} (hx : x ∈ (wt.modify h (· ++ [(z : Int)])).getD p []) : ∃ i : Nat, x = (i : Int) ∧ z ≤ i ∧ i < m ∧ gN (hi.set z (h : Int)) i = p := by
  have hlh := H.lh
  have hlw := H.lw
  rw [getD_modify (by omega)] at hx
  have old : x ∈ wt.getD p [] → ∃ i : Nat, x = (i : Int) ∧ z ≤ i ∧ i < m ∧ gN (hi.set z (h : Int)) i = p := fun hx => by
    obtain ⟨i, h1, h2, h3, h4⟩ := H.wts p x hx
    exact ⟨i, h1, by omega, h3, by rw [gN_set (by omega)]; exact h4⟩
  split at hx
  · rename_i e
    rcases List.mem_append.1 hx with h1 | h1
    · exact old h1
    · simp at h1
      exact ⟨z, h1, Nat.le_refl _, hz, by rw [gN_same (by omega)]; exact e⟩
  · exact old hx
theorem qi_start {m : Nat} {fr : Nat → Nat} {z : Nat} {hi al : List Int} (h : al.length = m) : QI m fr z hi al al [] := ⟨h, fun i hi' => (by cases hi'), fun _ _ => rfl⟩
theorem NAt.turnA {w w' : World} {base : Nat} {e : NEnv} {s : NSt} (h : NAt w base e s) {al' : List Int} (ho : w'.ownsRow base 3 1 (slV e.alg e.m) e.m (al'.map intV)) (hg : w.grownBy w' (some e.alg)) : NAt w' base e { s with al := al' } := by
  have h5 : (nsS e s)[5]? = some (rowM e.alg e.m s.al) := rfl
  have hT : Heap w' base ((nsS e s).set 5 (rowM e.alg e.m al')) := h.hp.turn h5 (fun k hk hne => hg.block k hk (fun e => hne (by rw [e]; rfl))) ho (fun g hg' => .inl hg')
  exact ⟨hT, Nat.le_trans h.hb hg.size, h.kl, h.wl, h.akl, h.ahl⟩
end Go.Proofs.Ythedgacidphgnaa
