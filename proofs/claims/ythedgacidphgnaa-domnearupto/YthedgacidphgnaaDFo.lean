/- Trees that hang together, climbed and cut short; the nodes gone through from the last one on; nearest ones by lists. No program. -/
import Derived.Test.YthedgacidphgnaaDWk
namespace Go.Proofs.Ythedgacidphgnaa
namespace Lt

def gN (l : List Int) (i : Nat) : Nat := (l.getD i 0).toNat
theorem gN_at {l : List Int} {i p : Nat} (h : l[i]? = some (p : Int)) : gN l i = p := frF_at h
theorem gN_set {l : List Int} {i j : Nat} {x : Int} (h : i ≠ j) : gN (l.set i x) j = gN l j := by
  unfold gN
  rw [List.getD_eq_getElem?_getD, List.getD_eq_getElem?_getD, List.getElem?_set, if_neg h]
theorem gN_same {l : List Int} {i p : Nat} (h : i < l.length) : gN (l.set i (p : Int)) i = p := gN_at (by rw [List.getElem?_set, if_pos rfl, if_pos h])
/-- Nodes from L on hang at something. -/
structure FI (m : Nat) (fr : Nat → Nat) (L : Nat) (ov be hi : List Int) : Prop where
  lo : ov.length = m
  lb : be.length = m
  lowO : ∀ i, i < L → i < m → ov[i]? = some (-1)
  lowB : ∀ i, i < L → i < m → be[i]? = some (i : Int)
  lnk : ∀ i, L ≤ i → i < m → ∃ o b : Nat, ov[i]? = some (o : Int) ∧ be[i]? = some (b : Int) ∧ o < b ∧ Anc fr o i ∧ Anc fr b i ∧ ∀ u, o < u → Anc fr u i → L ≤ u ∧ gN hi b ≤ gN hi u
theorem FI.hiset {m : Nat} {fr : Nat → Nat} {L : Nat} {ov be hi : List Int} (h : FI m fr L ov be hi) {i : Nat} (hi' : i < L) (x : Int) : FI m fr L ov be (hi.set i x) := by
  refine ⟨h.lo, h.lb, h.lowO, h.lowB, fun j hj hm => ?_⟩
  obtain ⟨o, b, h1, h2, h3, h4, h5, h6⟩ := h.lnk j hj hm
  refine ⟨o, b, h1, h2, h3, h4, h5, fun u hu ha => ?_⟩
  obtain ⟨h7, h8⟩ := h6 u hu ha
  have h9 := (h6 b h3 h5).1
  rw [gN_set (by omega), gN_set (by omega)]
  exact ⟨h7, h8⟩
/-- One more hangs. -/
theorem FI.link {m : Nat} {fr : Nat → Nat} {L : Nat} {ov be hi : List Int} (hf : ∀ i, 0 < i → fr i < i) (h : FI m fr (L + 1) ov be hi) (h0 : 0 < L) (hL : L < m) : FI m fr L (ov.set L (fr L : Int)) be hi := by
  have hfl := hf L h0
  have hlo := h.lo
  refine ⟨by simpa using h.lo, h.lb, fun i hi' hm => ?_, fun i hi' hm => h.lowB i (by omega) hm, fun i hi' hm => ?_⟩
  · rw [List.getElem?_set, if_neg (by omega)]; exact h.lowO i (by omega) hm
  · by_cases e : i = L
    · subst e
      refine ⟨fr i, i, by rw [List.getElem?_set, if_pos rfl, if_pos (by omega)], h.lowB i (by omega) hm, hfl, .up h0 .refl, .refl, fun u hu ha => ?_⟩
      cases ha with
      | refl => exact ⟨Nat.le_refl _, Nat.le_refl _⟩
      | up _ ha => have := ha.le hf; omega
    · obtain ⟨o, b, h1, h2, h3, h4, h5, h6⟩ := h.lnk i (by omega) hm
      refine ⟨o, b, by rw [List.getElem?_set, if_neg (by omega)]; exact h1, h2, h3, h4, h5, fun u hu ha => ?_⟩
      obtain ⟨h7, h8⟩ := h6 u hu ha
      exact ⟨by omega, h8⟩
/-- One is hung further up. -/
theorem FI.pull {m : Nat} {fr : Nat → Nat} {L : Nat} {ov be hi : List Int} (hf : ∀ i, 0 < i → fr i < i) (h : FI m fr L ov be hi) {i up o2 b1 b2 b' : Nat} (hi' : i < m) (h1 : ov[i]? = some (up : Int)) (h2 : ov[up]? = some (o2 : Int)) (h3 : be[i]? = some (b1 : Int)) (h4 : be[up]? = some (b2 : Int)) (hb : b' = if gN hi b2 < gN hi b1 then b2 else b1) :
    FI m fr L (ov.set i (o2 : Int)) (be.set i (b' : Int)) hi := by
  have hlo := h.lo
  have hlb := h.lb
  have hL : L ≤ i := by
    rcases Nat.lt_or_ge i L with hc | hc
    · rw [h.lowO i hc hi'] at h1; cases h1
    · exact hc
  have hum : up < m := by have := (List.getElem?_eq_some_iff.1 h2).1; omega
  have hLu : L ≤ up := by
    rcases Nat.lt_or_ge up L with hc | hc
    · rw [h.lowO up hc hum] at h2; cases h2
    · exact hc
  obtain ⟨o, b, g1, g2, g3, g4, g5, g6⟩ := h.lnk i hL hi'
  rw [h1] at g1; rw [h3] at g2
  have eo : up = o := by cases g1; rfl
  have eb : b1 = b := by cases g2; rfl
  subst eo; subst eb
  obtain ⟨o, b, k1, k2, k3, k4, k5, k6⟩ := h.lnk up hLu hum
  rw [h2] at k1; rw [h4] at k2
  have eo : o2 = o := by cases k1; rfl
  have eb : b2 = b := by cases k2; rfl
  subst eo; subst eb
  have hb2 := k5.le hf
  refine ⟨by simpa using hlo, by simpa using hlb, fun j hj hm => ?_, fun j hj hm => ?_, fun j hj hm => ?_⟩
  · rw [List.getElem?_set, if_neg (by omega)]; exact h.lowO j hj hm
  · rw [List.getElem?_set, if_neg (by omega)]; exact h.lowB j hj hm
  · by_cases e : j = i
    · subst e
      refine ⟨o2, b', by rw [List.getElem?_set, if_pos rfl, if_pos (by omega)], by rw [List.getElem?_set, if_pos rfl, if_pos (by omega)], ?_, k4.trans g4, ?_, fun u hu ha => ?_⟩
      · rw [hb]; split <;> omega
      · rw [hb]
        split
        · exact k5.trans g4
        · exact g5
      · have hmin : gN hi b' ≤ gN hi b1 ∧ gN hi b' ≤ gN hi b2 := by rw [hb]; split <;> omega
        rcases Nat.lt_or_ge up u with hc | hc
        · obtain ⟨h7, h8⟩ := g6 u hc ha
          exact ⟨h7, by omega⟩
        · obtain ⟨h7, h8⟩ := k6 u hu (ha.total hf g4 hc)
          exact ⟨h7, by omega⟩
    · rw [List.getElem?_set, if_neg (fun e2 => e e2.symm), List.getElem?_set, if_neg (fun e2 => e e2.symm)]
      exact h.lnk j hj hm
/-- The way up that is gone: each hangs at the next one. -/
inductive Clb (ov : List Int) (z : Nat) : List Int → Nat → Prop
  | nil : Clb ov z [] z
  | snoc {p : List Int} {i j : Nat} : Clb ov z p i → ov[i]? = some (j : Int) → j < i → Clb ov z (p ++ [(i : Int)]) j
theorem Clb.gt {ov : List Int} {z : Nat} {p : List Int} {i : Nat} (h : Clb ov z p i) : ∀ x ∈ p, (i : Int) < x := by
  induction h with
  | nil => intro x hx; cases hx
  | @snoc p i j _ _ hl ih =>
    intro x hx
    rcases List.mem_append.1 hx with h1 | h1
    · have := ih x h1; omega
    · simp at h1; omega
theorem Clb.set {ov : List Int} {z : Nat} {p : List Int} {i : Nat} (h : Clb ov z p i) {k : Nat} (x : Int) (hk : k ≤ i) : Clb (ov.set k x) z p i := by
  induction h with
  | nil => exact .nil
  | @snoc p i j hc h1 hl ih => exact .snoc (ih (by omega)) (by rw [List.getElem?_set, if_neg (by omega)]; exact h1) hl
theorem Clb.last {ov : List Int} {z : Nat} {p : List Int} {x : Int} {j : Nat} (h : Clb ov z (p ++ [x]) j) : ∃ i : Nat, x = (i : Int) ∧ Clb ov z p i ∧ ov[i]? = some (j : Int) ∧ j < i := by
  generalize hq : p ++ [x] = q at h
  cases h with
  | nil => simp at hq
  | @snoc p' i j hc h1 hl =>
    obtain ⟨rfl, h3⟩ := List.append_inj' hq rfl
    simp at h3
    exact ⟨i, h3, hc, h1, hl⟩
/-- What highest tells. -/
def Hst (fr : Nat → Nat) (L : Nat) (hi : List Int) (z b : Nat) : Prop := (z < L → b = z) ∧ (L ≤ z → L ≤ b ∧ Anc fr b z ∧ ∀ u, L ≤ u → Anc fr u z → gN hi b ≤ gN hi u)
theorem FI.top {m : Nat} {fr : Nat → Nat} {L : Nat} {ov be hi : List Int} (h : FI m fr L ov be hi) {z r b : Nat} (hz : z < m) (h1 : ov[z]? = some (r : Int)) (h2 : be[z]? = some (b : Int)) (hr : ov[r]? = some (-1)) : Hst fr L hi z b := by
  have hlo := h.lo
  have hL : L ≤ z := by
    rcases Nat.lt_or_ge z L with hc | hc
    · rw [h.lowO z hc hz] at h1; cases h1
    · exact hc
  have hrm : r < m := by have := (List.getElem?_eq_some_iff.1 hr).1; omega
  have hrL : r < L := by
    rcases Nat.lt_or_ge r L with hc | hc
    · exact hc
    · obtain ⟨o, b, g1, _⟩ := h.lnk r hc hrm
      rw [hr] at g1; cases g1
  obtain ⟨o, b', g1, g2, g3, g4, g5, g6⟩ := h.lnk z hL hz
  rw [h1] at g1; rw [h2] at g2
  have eo : r = o := by cases g1; rfl
  have eb : b = b' := by cases g2; rfl
  subst eo; subst eb
  exact ⟨fun hc => by omega, fun _ => ⟨(g6 b g3 g5).1, g5, fun u hu ha => (g6 u (by omega) ha).2⟩⟩
/-- Alike: it has the same nearest one. -/
def Alk (fr : Nat → Nat) (L : Nat) (hi : List Int) (i u : Nat) : Prop := gN hi i < u ∧ Anc fr u i ∧ ∀ y, gN hi i < y → Anc fr y i → L ≤ y ∧ gN hi u ≤ gN hi y
structure NI (m : Nat) (E : Nat → Nat → Prop) (fr : Nat → Nat) (L : Nat) (ov be hi al : List Int) (wt : List (List Int)) : Prop where
  fi : FI m fr L ov be hi
  lh : hi.length = m
  lowH : ∀ i, i < L → i < m → hi[i]? = some (i : Int)
  semi : ∀ i, L ≤ i → i < m → ∃ s : Nat, hi[i]? = some (s : Int) ∧ Semi E i s
  la : al.length = m
  lw : wt.length = m
  alk : ∀ i, i < m → ∃ u : Nat, al[i]? = some (u : Int) ∧ (i < L → u = i) ∧ (L ≤ i → Alk fr L hi i u ∨ ((i : Int) ∈ wt.getD (gN hi i) [] ∧ ∀ c, L ≤ c → c ≤ i → fr c ≠ gN hi i))
  wts : ∀ v, ∀ x ∈ wt.getD v [], ∃ i : Nat, x = (i : Int) ∧ L ≤ i ∧ i < m ∧ gN hi i = v
theorem NI.start {m : Nat} {E : Nat → Nat → Prop} {fr : Nat → Nat} {cnt : List Int} (hl : cnt.length = m) (hc : ∀ i, i < m → cnt[i]? = some (i : Int)) : NI m E fr m (List.replicate m (-1)) cnt cnt cnt (List.replicate m []) := by
  refine ⟨⟨by simp, hl, fun i _ hm => by rw [List.getElem?_replicate, if_pos hm], fun i _ hm => hc i hm, fun i h1 h2 => by omega⟩, hl, fun i _ hm => hc i hm, fun i h1 h2 => by omega, hl, by simp, fun i hm => ⟨i, hc i hm, fun _ => rfl, fun h => by omega⟩, fun v x hx => ?_⟩
  rw [List.getD_eq_getElem?_getD, List.getElem?_replicate] at hx
  split at hx <;> simp at hx
/-- While the nodes ahead of z are gone through; h: what is told of z so far. -/
structure PI (E : Nat → Nat → Prop) (fr : Nat → Nat) (z : Nat) (hi : List Int) (A : List Int) (h : Nat) : Prop where
  le : h ≤ z
  sp : h = z ∨ SP E h z
  lo : ∀ v : Nat, (v : Int) ∈ A → v < z → h ≤ v
  up : ∀ v : Nat, (v : Int) ∈ A → z < v → ∀ u, Anc fr u v → z < u → h ≤ gN hi u
theorem PI.start {E : Nat → Nat → Prop} {fr : Nat → Nat} {z : Nat} {hi : List Int} : PI E fr z hi [] z :=
  ⟨Nat.le_refl _, .inl rfl, fun _ h => (by cases h), fun _ h => (by cases h)⟩
theorem PI.step {m : Nat} {E : Nat → Nat → Prop} {fr : Nat → Nat} (D : Dfs m E fr) {z : Nat} {hi hi' A : List Int} {h v b c : Nat} (H : PI E fr z hi A h) (hsemi : ∀ i, z + 1 ≤ i → i < m → ∃ s : Nat, hi[i]? = some (s : Int) ∧ Semi E i s) (he : E v z) (hb : Hst fr (z + 1) hi v b)
    (h1 : v < z → c = v) (h2 : v = z → c = h) (h3 : z < v → c = gN hi b) (hhi : ∀ i, z < i → gN hi' i = gN hi i) : PI E fr z hi' (A ++ [(v : Int)]) (min h c) := by
  rcases Nat.lt_trichotomy v z with hc | hc | hc
  · have := h1 hc
    subst this
    refine ⟨by have := H.le; omega, ?_, fun x hx hxz => ?_, fun x hx hxz u ha hu => ?_⟩
    · rcases Nat.le_total h c with hh | hh
      · rw [Nat.min_eq_left hh]; exact H.sp
      · rw [Nat.min_eq_right hh]; exact .inr ⟨z, he, .inl rfl⟩
    · rcases List.mem_append.1 hx with hx | hx
      · have := H.lo x hx hxz; omega
      · simp at hx; omega
    · rcases List.mem_append.1 hx with hx | hx
      · have := H.up x hx hxz u ha hu
        rw [hhi u hu]; omega
      · simp at hx; omega
  · have := h2 hc
    subst this
    rw [Nat.min_self]
    refine ⟨H.le, H.sp, fun x hx hxz => ?_, fun x hx hxz u ha hu => ?_⟩
    · rcases List.mem_append.1 hx with hx | hx
      · exact H.lo x hx hxz
      · simp at hx; omega
    · rcases List.mem_append.1 hx with hx | hx
      · rw [hhi u hu]; exact H.up x hx hxz u ha hu
      · simp at hx; omega
  · have hcb := h3 hc
    obtain ⟨k1, k2, k3⟩ := hb.2 (by omega)
    have hvm := (D.lt _ _ he).1
    have hbm : b < m := by have := k2.le D.frlt; omega
    obtain ⟨s, e1, e2⟩ := hsemi b k1 hbm
    have e3 := gN_at e1
    refine ⟨by have := H.le; omega, ?_, fun x hx hxz => ?_, fun x hx hxz u ha hu => ?_⟩
    · rcases Nat.le_total h c with hh | hh
      · rw [Nat.min_eq_left hh]; exact H.sp
      · rw [Nat.min_eq_right hh, hcb, e3]; exact .inr (sp_over D he (by omega) k2 e2.1)
    · rcases List.mem_append.1 hx with hx | hx
      · have := H.lo x hx hxz; omega
      · simp at hx; omega
    · rw [hhi u hu]
      rcases List.mem_append.1 hx with hx | hx
      · have := H.up x hx hxz u ha hu; omega
      · have hxv : x = v := by simp at hx; omega
        subst hxv
        have := k3 u (by omega) ha
        omega
theorem PI.semi {m : Nat} {E : Nat → Nat → Prop} {fr : Nat → Nat} (D : Dfs m E fr) {z : Nat} {hi A : List Int} {h : Nat} (H : PI E fr z hi A h) (h0 : 0 < z) (hz : z < m) (hA : ∀ v, E v z → (v : Int) ∈ A) (hsemi : ∀ i, z + 1 ≤ i → i < m → ∃ s : Nat, hi[i]? = some (s : Int) ∧ Semi E i s) : Semi E z h ∧ h < z := by
  have h1 := D.frlt z h0
  have h2 := H.lo (fr z) (hA _ (D.edge z h0 hz)) h1
  refine ⟨semi_of (sd := gN hi) D h0 hz (fun i h3 h4 => ?_) (fun v he hv => H.lo v (hA v he) hv) (fun v u he hv ha hu => H.up v (hA v he) hv u ha hu) (H.sp.resolve_left (by omega)), by omega⟩
  obtain ⟨s, e1, e2⟩ := hsemi i (by omega) h4
  rw [gN_at e1]
  exact e2
/-- Those that wait are set. -/
structure QI (m : Nat) (fr : Nat → Nat) (z : Nat) (hi al0 al R : List Int) : Prop where
  la : al.length = m
  set : ∀ i : Nat, (i : Int) ∈ R → ∃ u : Nat, al[i]? = some (u : Int) ∧ Alk fr z hi i u
  not : ∀ i : Nat, ¬ (i : Int) ∈ R → al[i]? = al0[i]?
theorem alk_of {m : Nat} {E : Nat → Nat → Prop} {fr : Nat → Nat} (D : Dfs m E fr) {z : Nat} {hi : List Int} {i b : Nat} (h0 : 0 < z) (hi1 : z ≤ i) (him : i < m) (hh : gN hi i = fr z) (hb : Hst fr z hi i b) : Alk fr z hi i b := by
  obtain ⟨k1, k2, k3⟩ := hb.2 hi1
  have h1 := D.frlt z h0
  refine ⟨by omega, k2, fun y hy ha => ?_⟩
  have hzy : z ≤ y := by
    rcases Nat.lt_or_ge y z with hc | hc
    · exfalso
      have h2 := D.mid y z i (by omega) hi1 him ha
      cases h2 with
      | refl => omega
      | up _ h2 => have := h2.le D.frlt; omega
    · exact hc
  exact ⟨hzy, k3 y hzy ha⟩
theorem QI.step {m : Nat} {E : Nat → Nat → Prop} {fr : Nat → Nat} (D : Dfs m E fr) {z : Nat} {hi al0 al R : List Int} (H : QI m fr z hi al0 al R) {i b : Nat} (h0 : 0 < z) (hi1 : z ≤ i) (him : i < m) (hh : gN hi i = fr z) (hb : Hst fr z hi i b) : QI m fr z hi al0 (al.set i (b : Int)) (R ++ [(i : Int)]) := by
  have hla := H.la
  refine ⟨by simpa using hla, fun j hj => ?_, fun j hj => ?_⟩
  · by_cases e : i = j
    · subst e
      exact ⟨b, by rw [List.getElem?_set, if_pos rfl, if_pos (by omega)], alk_of D h0 hi1 him hh hb⟩
    · rw [List.getElem?_set, if_neg e]
      refine H.set j ?_
      rcases List.mem_append.1 hj with h1 | h1
      · exact h1
      · simp at h1; omega
  · have h1 : ¬ (j : Int) ∈ R := fun hc => hj (by simp [hc])
    have h2 : i ≠ j := fun e => hj (by simp [e])
    rw [List.getElem?_set, if_neg h2]
    exact H.not j h1
theorem getD_modify {rows : List (List Int)} {k v : Nat} {x : Int} (hk : k < rows.length) : (rows.modify k (· ++ [x])).getD v [] = if k = v then rows.getD v [] ++ [x] else rows.getD v [] := by
  rw [List.getD_eq_getElem?_getD, List.getElem?_modify, List.getD_eq_getElem?_getD]
  by_cases e : k = v
  · subst e
    rw [if_pos rfl, List.getElem?_eq_getElem hk]
    simp
  · rw [if_neg e]
    cases rows[v]? <;> simp [e]
theorem getD_setE {rows : List (List Int)} {k v : Nat} : (rows.set k []).getD v [] = if k = v then [] else rows.getD v [] := by
  rw [List.getD_eq_getElem?_getD, List.getElem?_set, List.getD_eq_getElem?_getD]
  by_cases e : k = v
  · subst e
    rw [if_pos rfl, if_pos rfl]
    split <;> rfl
  · rw [if_neg e, if_neg e]
theorem NI.next {m : Nat} {E : Nat → Nat → Prop} {fr : Nat → Nat} (D : Dfs m E fr) {z : Nat} {ov be hi0 al : List Int} {wt : List (List Int)} (H : NI m E fr (z + 1) ov be hi0 al wt) (h0 : 0 < z) (hz : z < m) {h : Nat} {hi : List Int} (hhi : hi = hi0.set z (h : Int)) (hs : Semi E z h) (hlt : h < z)
    {ov' be' al' : List Int} (hF : FI m fr z ov' be' hi) {R : List Int} (hR : R = (wt.modify h (· ++ [(z : Int)])).getD (fr z) []) (hQ : QI m fr z hi al al' R) : NI m E fr z ov' be' hi al' ((wt.modify h (· ++ [(z : Int)])).set (fr z) []) := by
  have hlh := H.lh
  have hlw := H.lw
  have gz : gN hi z = h := by rw [hhi]; exact gN_same (by omega)
  have go : ∀ i, i ≠ z → gN hi i = gN hi0 i := fun i hi' => by rw [hhi]; exact gN_set (fun e => hi' e.symm)
  have hfz := D.frlt z h0
  have rowR : R = if h = fr z then wt.getD (fr z) [] ++ [(z : Int)] else wt.getD (fr z) [] := by rw [hR, getD_modify (by omega)]
  have memR : ∀ x ∈ R, ∃ i : Nat, x = (i : Int) ∧ z ≤ i := fun x hx => by
    rw [rowR] at hx
    split at hx
    · rcases List.mem_append.1 hx with h1 | h1
      · obtain ⟨i, e1, e2, _⟩ := H.wts _ x h1
        exact ⟨i, e1, by omega⟩
      · simp at h1; exact ⟨z, h1, Nat.le_refl _⟩
    · obtain ⟨i, e1, e2, _⟩ := H.wts _ x hx
      exact ⟨i, e1, by omega⟩
  refine ⟨hF, by rw [hhi]; simpa using hlh, fun i h1 h2 => ?_, fun i h1 h2 => ?_, hQ.la, by simpa using hlw, fun i him => ?_, fun v x hx => ?_⟩
  · rw [hhi, List.getElem?_set, if_neg (by omega)]; exact H.lowH i (by omega) h2
  · by_cases e : i = z
    · subst e
      exact ⟨h, by rw [hhi, List.getElem?_set, if_pos rfl, if_pos (by omega)], hs⟩
    · obtain ⟨s, e1, e2⟩ := H.semi i (by omega) h2
      exact ⟨s, by rw [hhi, List.getElem?_set, if_neg (by omega)]; exact e1, e2⟩
  · by_cases hin : (i : Int) ∈ R
    · obtain ⟨u, h1, h2⟩ := hQ.set i hin
      obtain ⟨i', e1, e2⟩ := memR _ hin
      exact ⟨u, h1, fun hc => by omega, fun _ => .inl h2⟩
    · obtain ⟨u, h1, h2, h3⟩ := H.alk i him
      refine ⟨u, by rw [hQ.not i hin]; exact h1, fun hc => h2 (by omega), fun hzi => ?_⟩
      by_cases e : i = z
      · subst e
        right
        have hne : h ≠ fr i := fun e2 => hin (by rw [rowR, if_pos e2]; simp)
        rw [gz, getD_setE, if_neg (fun e2 => hne e2.symm), getD_modify (by omega), if_pos rfl]
        refine ⟨by simp, fun c hc1 hc2 => ?_⟩
        have : c = i := by omega
        subst this
        exact fun e2 => hne e2.symm
      · rcases h3 (by omega) with h4 | ⟨h4, h5⟩
        · left
          obtain ⟨k1, k2, k3⟩ := h4
          refine ⟨by rw [go i e]; exact k1, k2, fun y hy ha => ?_⟩
          rw [go i e] at hy
          obtain ⟨k4, k5⟩ := k3 y hy ha
          refine ⟨by omega, ?_⟩
          have hu := (k3 u k1 k2).1
          rw [go u (by omega), go y (by omega)]
          exact k5
        · right
          rw [go i e]
          have hne : fr z ≠ gN hi0 i := fun e2 => hin (by
            rw [rowR]
            split
            · rw [e2]; exact List.mem_append_left _ h4
            · rw [e2]; exact h4)
          rw [getD_setE, if_neg hne, getD_modify (by omega)]
          refine ⟨?_, fun c hc1 hc2 => ?_⟩
          · split
            · exact List.mem_append_left _ h4
            · exact h4
          · by_cases e3 : c = z
            · subst e3; exact hne
            · exact h5 c (by omega) hc2
  · rw [getD_setE] at hx
    split at hx
    · cases hx
    · rw [getD_modify (by omega)] at hx
      have old : x ∈ wt.getD v [] → ∃ i : Nat, x = (i : Int) ∧ z ≤ i ∧ i < m ∧ gN hi i = v := fun hx => by
        obtain ⟨i, e1, e2, e3, e4⟩ := H.wts v x hx
        exact ⟨i, e1, by omega, e3, by rw [go i (by omega)]; exact e4⟩
      split at hx
      · rename_i e
        rcases List.mem_append.1 hx with h1 | h1
        · exact old h1
        · simp at h1
          exact ⟨z, h1, Nat.le_refl _, hz, by rw [gz]; exact e⟩
      · exact old hx
theorem child {fr : Nat → Nat} (hf : ∀ i, 0 < i → fr i < i) {a i : Nat} (h : Anc fr a i) (hl : a < i) : ∃ c, 0 < c ∧ c ≤ i ∧ fr c = a := by
  induction h with
  | refl => omega
  | @up b h0 h ih =>
    rcases Nat.lt_or_ge a (fr b) with h1 | h1
    · obtain ⟨c, h2, h3, h4⟩ := ih h1
      have := hf b h0
      exact ⟨c, h2, by omega, h4⟩
    · have := h.le hf
      exact ⟨b, h0, Nat.le_refl _, by omega⟩
/-- Each leads to one that has the same nearest one. -/
structure SI (m : Nat) (E : Nat → Nat → Prop) (hi al : List Int) : Prop where
  la : al.length = m
  zero : 0 < m → al[0]? = some 0
  each : ∀ i, 0 < i → i < m → ∃ u : Nat, al[i]? = some (u : Int) ∧ ((u = i ∧ NearN E i (gN hi i)) ∨ (0 < u ∧ u < i ∧ ∀ k, NearN E u k → NearN E i k))
theorem NI.last {m : Nat} {E : Nat → Nat → Prop} {fr : Nat → Nat} (D : Dfs m E fr) {ov be hi al : List Int} {wt : List (List Int)} (H : NI m E fr 1 ov be hi al wt) : SI m E hi al := by
  have hsd : ∀ i, 0 < i → i < m → Semi E i (gN hi i) := fun i h0 him => by
    obtain ⟨s, e1, e2⟩ := H.semi i (by omega) him
    rw [gN_at e1]; exact e2
  refine ⟨H.la, fun hm => ?_, fun i h0 him => ?_⟩
  · obtain ⟨u, h1, h2, _⟩ := H.alk 0 hm
    rw [h2 (by omega)] at h1
    exact h1
  · obtain ⟨u, h1, _, h3⟩ := H.alk i him
    refine ⟨u, h1, ?_⟩
    have hs := hsd i h0 him
    rcases h3 (by omega) with ⟨k1, k2, k3⟩ | ⟨_, h5⟩
    · have hle := k2.le D.frlt
      by_cases e : u = i
      · subst e
        exact .inl ⟨rfl, near_self D hsd h0 him fun y hy ha => (k3 y hy ha).2⟩
      · exact .inr ⟨by omega, by omega, fun k hk => near_like D hsd h0 him k1 k2 (fun y hy ha => (k3 y hy ha).2) hk⟩
    · exfalso
      obtain ⟨c, h6, h7, h8⟩ := child D.frlt (hs.anc D h0 him) (hs.par D h0 him).2
      exact h5 c h6 h7 h8
theorem SI.step {m : Nat} {E : Nat → Nat → Prop} {hi al : List Int} (H : SI m E hi al) {i j k : Nat} (him : i < m) (h1 : al[i]? = some (j : Int)) (h2 : al[j]? = some (k : Int)) (hne : k ≠ j) : SI m E hi (al.set i (k : Int)) ∧ k < j := by
  have hla := H.la
  have hjm : j < m := by have := (List.getElem?_eq_some_iff.1 h2).1; omega
  have hj0 : 0 < j := by
    rcases Nat.eq_zero_or_pos j with e | e
    · subst e; rw [H.zero (by omega)] at h2; cases h2; exact absurd rfl hne
    · exact e
  obtain ⟨u, g1, g2⟩ := H.each j hj0 hjm
  rw [h2] at g1
  have : k = u := by cases g1; rfl
  subst this
  have g3 := g2.resolve_left (fun hc => hne hc.1)
  have hi0 : 0 < i := by
    rcases Nat.eq_zero_or_pos i with e | e
    · subst e; rw [H.zero (by omega)] at h1
      have : j = 0 := by cases h1; rfl
      omega
    · exact e
  obtain ⟨u, f1, f2⟩ := H.each i hi0 him
  rw [h1] at f1
  have : j = u := by cases f1; rfl
  subst this
  refine ⟨⟨by simpa using hla, fun hm => by rw [List.getElem?_set, if_neg (by omega)]; exact H.zero hm, fun x hx hxm => ?_⟩, g3.2.1⟩
  by_cases e : i = x
  · subst e
    refine ⟨k, by rw [List.getElem?_set, if_pos rfl, if_pos (by omega)], .inr ?_⟩
    rcases f2 with ⟨e1, _⟩ | ⟨f3, f4, f5⟩
    · subst e1
      exact g3
    · exact ⟨g3.1, by omega, fun q hq => f5 q (g3.2.2 q hq)⟩
  · rw [List.getElem?_set, if_neg e]
    exact H.each x hx hxm
theorem SI.near {m : Nat} {E : Nat → Nat → Prop} {hi al : List Int} (H : SI m E hi al) (hset : ∀ i : Nat, i < m → ∀ j k : Nat, al[i]? = some (j : Int) → al[j]? = some (k : Int) → k = j) {i j : Nat} (h0 : 0 < i) (him : i < m) (h1 : al[i]? = some (j : Int)) : j < m ∧ NearN E i (gN hi j) := by
  have hla := H.la
  obtain ⟨u, f1, f2⟩ := H.each i h0 him
  rw [h1] at f1
  have : j = u := by cases f1; rfl
  subst this
  rcases f2 with ⟨rfl, f3⟩ | ⟨f3, f4, f5⟩
  · exact ⟨him, f3⟩
  · have hjm : j < m := by omega
    refine ⟨hjm, f5 _ ?_⟩
    obtain ⟨u, g1, g2⟩ := H.each j f3 hjm
    have := hset i him j u h1 g1
    subst this
    exact (g2.resolve_right (fun hc => by omega)).2
end Lt
end Go.Proofs.Ythedgacidphgnaa
