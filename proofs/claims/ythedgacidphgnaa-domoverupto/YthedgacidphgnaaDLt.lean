/- Nodes by the numbers of a walk: ways that never go below where they begin, half-nearest ones, the nearest ones. No program. -/
namespace Go.Proofs.Ythedgacidphgnaa
namespace Lt

/-- a is b, or is met on the way up from b. -/
inductive Anc (fr : Nat → Nat) (a : Nat) : Nat → Prop
  | refl : Anc fr a a
  | up {b : Nat} : 0 < b → Anc fr a (fr b) → Anc fr a b
/-- What a walk as deep as it can goes by. -/
structure Dfs (m : Nat) (E : Nat → Nat → Prop) (fr : Nat → Nat) : Prop where
  frlt : ∀ i, 0 < i → fr i < i
  edge : ∀ i, 0 < i → i < m → E (fr i) i
  lt : ∀ i j, E i j → i < m ∧ j < m
  fwd : ∀ i j, E i j → i < j → Anc fr i j
  mid : ∀ a b c, a ≤ b → b ≤ c → c < m → Anc fr a c → Anc fr a b

theorem Anc.le {fr : Nat → Nat} (hf : ∀ i, 0 < i → fr i < i) {a b : Nat} (h : Anc fr a b) : a ≤ b := by
  induction h with
  | refl => exact Nat.le_refl _
  | up h0 _ ih => have := hf _ h0; omega
theorem Anc.trans {fr : Nat → Nat} {a b c : Nat} (h1 : Anc fr a b) (h2 : Anc fr b c) : Anc fr a c := by
  induction h2 with
  | refl => exact h1
  | up h0 _ ih => exact .up h0 ih
theorem Anc.total {fr : Nat → Nat} (hf : ∀ i, 0 < i → fr i < i) {a b c : Nat} (h1 : Anc fr a c) (h2 : Anc fr b c) (hab : a ≤ b) : Anc fr a b := by
  induction h2 with
  | refl => exact h1
  | up h0 h ih =>
    cases h1 with
    | refl => have := h.le hf; have := hf _ h0; omega
    | up _ h1 => exact ih h1
theorem Anc.zero {fr : Nat → Nat} (hf : ∀ i, 0 < i → fr i < i) (b : Nat) : Anc fr 0 b := by
  induction b using Nat.strongRecOn with
  | _ b ih =>
    by_cases h0 : b = 0
    · rw [h0]; exact .refl
    · exact .up (by omega) (ih _ (hf b (by omega)))
/-- A way from v that never goes below it. -/
inductive St (E : Nat → Nat → Prop) (v : Nat) : Nat → Prop
  | refl : St E v v
  | step {x y : Nat} : St E v x → E x y → v ≤ y → St E v y
theorem St.anc {m : Nat} {E : Nat → Nat → Prop} {fr : Nat → Nat} (D : Dfs m E fr) {v y : Nat} (h : St E v y) : Anc fr v y := by
  induction h with
  | refl => exact .refl
  | @step x y _ he hv ih =>
    rcases Nat.lt_or_ge x y with hl | hl
    · exact ih.trans (D.fwd _ _ he hl)
    · exact D.mid v y x hv hl (D.lt _ _ he).1 ih
/-- A way from x to w all of whose nodes but w are behind w. -/
inductive Hi (E : Nat → Nat → Prop) (w : Nat) : Nat → Prop
  | base {x : Nat} : E x w → w < x → Hi E w x
  | step {x y : Nat} : E x y → w < x → Hi E w y → Hi E w x
theorem Hi.lt {E : Nat → Nat → Prop} {w x : Nat} (h : Hi E w x) : w < x := by cases h <;> assumption
theorem Hi.st {E : Nat → Nat → Prop} {v w x : Nat} (hv : v < w) (h : Hi E w x) (hs : St E v x) : St E v w := by
  induction h with
  | base he _ => exact .step hs he (by omega)
  | step he _ h ih => exact ih (.step hs he (by have := h.lt; omega))
theorem hi_anc {m : Nat} {E : Nat → Nat → Prop} {fr : Nat → Nat} (D : Dfs m E fr) {x y w : Nat} (he : E x y) (h : y = w ∨ Hi E w y) (hx : x < w) : Anc fr x w := by
  rcases h with rfl | h
  · exact D.fwd _ _ he hx
  · exact (h.st hx (.step .refl he (by have := h.lt; omega))).anc D
theorem Hi.more {E : Nat → Nat → Prop} {w u x : Nat} (h : Hi E u x) (hw : w < u) (hu : Hi E w u) : Hi E w x := by
  induction h with
  | base he hx => exact .step he (by omega) hu
  | step he hx _ ih => exact .step he (by omega) ih
theorem Hi.down {m : Nat} {E : Nat → Nat → Prop} {fr : Nat → Nat} (D : Dfs m E fr) {w u v : Nat} (ha : Anc fr u v) (hv : v < m) (hw : w < u) (h : Hi E w v) : Hi E w u := by
  induction ha with
  | refl => exact h
  | @up b h0 ha ih =>
    have := D.frlt b h0
    have := ha.le D.frlt
    exact ih (by omega) (.step (D.edge b h0 hv) (by omega) h)
/-- A way from v to w between whose ends all nodes are behind w. -/
def SP (E : Nat → Nat → Prop) (v w : Nat) : Prop := ∃ x, E v x ∧ (x = w ∨ Hi E w x)
def Semi (E : Nat → Nat → Prop) (w s : Nat) : Prop := SP E s w ∧ ∀ v, SP E v w → s ≤ v
theorem Semi.par {m : Nat} {E : Nat → Nat → Prop} {fr : Nat → Nat} (D : Dfs m E fr) {w s : Nat} (h : Semi E w s) (h0 : 0 < w) (hw : w < m) : s ≤ fr w ∧ s < w := by
  have h1 := h.2 _ ⟨w, D.edge w h0 hw, .inl rfl⟩
  have h2 := D.frlt w h0
  exact ⟨h1, by omega⟩
theorem Semi.anc {m : Nat} {E : Nat → Nat → Prop} {fr : Nat → Nat} (D : Dfs m E fr) {w s : Nat} (h : Semi E w s) (h0 : 0 < w) (hw : w < m) : Anc fr s w := by
  obtain ⟨x, he, hx⟩ := h.1
  exact hi_anc D he hx (h.par D h0 hw).2
/-- Reached without going on from a node of S. -/
inductive Rc (E : Nat → Nat → Prop) (S : Nat → Prop) : Nat → Prop
  | entry : Rc E S 0
  | step {i j : Nat} : Rc E S i → ¬ S i → E i j → Rc E S j
theorem Rc.down {m : Nat} {E : Nat → Nat → Prop} {fr : Nat → Nat} (D : Dfs m E fr) {S : Nat → Prop} {a b : Nat} (hr : Rc E S a) (ha : Anc fr a b) (hb : b < m) (hs : ∀ u, Anc fr a u → Anc fr u b → u ≠ b → ¬ S u) : Rc E S b := by
  induction ha with
  | refl => exact hr
  | @up b h0 ha ih =>
    have := D.frlt b h0
    refine .step (ih (by omega) fun u h1 h2 h3 => hs u h1 (.up h0 h2) ?_) (hs _ ha (.up h0 .refl) (by omega)) (D.edge b h0 hb)
    have := h2.le D.frlt
    omega
theorem Rc.hi {E : Nat → Nat → Prop} {c w x : Nat} (hc : c ≤ w) (hr : Rc E (· = c) x) (h : Hi E w x) : Rc E (· = c) w := by
  induction h with
  | base he hx => exact .step hr (by omega) he
  | step he hx _ ih => exact ih (.step hr (by omega) he)
theorem Rc.sp {E : Nat → Nat → Prop} {c w s : Nat} (hc : c ≤ w) (hr : Rc E (· = c) s) (hs : s ≠ c) (h : SP E s w) : Rc E (· = c) w := by
  obtain ⟨x, he, rfl | h⟩ := h
  · exact .step hr hs he
  · exact (Rc.step hr hs he).hi hc h
/-- d stands over w. -/
def Dm (E : Nat → Nat → Prop) (d w : Nat) : Prop := d = w ∨ ¬ Rc E (· = d) w
theorem Dm.anc {m : Nat} {E : Nat → Nat → Prop} {fr : Nat → Nat} (D : Dfs m E fr) {d w : Nat} (h : Dm E d w) (hw : w < m) : Anc fr d w := by
  rcases h with rfl | h
  · exact .refl
  · by_cases ha : Anc fr d w
    · exact ha
    · exfalso
      exact h (Rc.down D .entry (.zero D.frlt w) hw fun u _ h2 _ e => ha (e ▸ h2))
theorem Dm.semi {m : Nat} {E : Nat → Nat → Prop} {fr : Nat → Nat} (D : Dfs m E fr) {d w s : Nat} (h : Dm E d w) (hd : d ≠ w) (h0 : 0 < w) (hw : w < m) (hs : Semi E w s) : Anc fr d s := by
  by_cases ha : Anc fr d s
  · exact ha
  · exfalso
    have h1 : Rc E (· = d) s := Rc.down D .entry (.zero D.frlt s) (by have := (hs.par D h0 hw).2; omega) fun u _ h2 _ e => ha (e ▸ h2)
    exact (h.resolve_left hd) (h1.sp ((h.anc D hw).le D.frlt) (fun e => ha (e ▸ .refl)) hs.1)
/-- A way that does not go on from S comes into the row below S at a node whose half-nearest one lies above S. -/
theorem enter {m : Nat} {E : Nat → Nat → Prop} {fr : Nat → Nat} (D : Dfs m E fr) {S w : Nat} (hSw : S < w) {sd : Nat → Nat} (hsd : ∀ i, 0 < i → i < m → Semi E i (sd i))
    (H : ∀ y, S < y → Anc fr y w → Rc E (· = S) y → S ≤ sd y) : ¬ Rc E (· = S) w := by
  have key : ∀ x, Rc E (· = S) x → x < S ∨ x = S ∨ (S < x ∧ ¬ Anc fr x w ∧ ∃ x0, x0 < S ∧ ∀ y, S < y → Anc fr y w → Hi E y x → SP E x0 y) := by
    intro x hx
    induction hx with
    | entry => omega
    | @step i j hi hn he ih =>
      rcases Nat.lt_trichotomy j S with hj | hj | hj
      · exact .inl hj
      · exact .inr (.inl hj)
      · refine .inr (.inr ⟨hj, ?_⟩)
        have hjm := (D.lt _ _ he).2
        have hrj : Rc E (· = S) j := .step hi hn he
        rcases ih with hl | hl | ⟨hl, hna, x0, hx0, hk⟩
        · refine ⟨fun ha => ?_, i, hl, fun y _ _ hy => ⟨j, he, .inr hy⟩⟩
          have h1 := H j hj ha hrj
          have h2 := (hsd j (by omega) hjm).2 i ⟨j, he, .inl rfl⟩
          omega
        · exact absurd hl hn
        · have big : ∀ y, S < y → Anc fr y w → (j = y ∨ Hi E y j) → y < i := fun y hy hya hyj => by
            rcases Nat.lt_trichotomy y i with h | h | h
            · exact h
            · exact absurd (h ▸ hya) hna
            · exact absurd ((hi_anc D he hyj h).trans hya) hna
          refine ⟨fun ha => ?_, x0, hx0, fun y hy hya hyj => hk y hy hya (.step he (big y hy hya (.inr hyj)) hyj)⟩
          have h1 := H j hj ha hrj
          have h2 := (hsd j (by omega) hjm).2 x0 (hk j hj ha (.base he (big j hj ha (.inl rfl))))
          omega
  intro hr
  rcases key w hr with h | h | ⟨_, h, _⟩
  · omega
  · omega
  · exact h .refl
/-- The nearest one over w. -/
def NearN (E : Nat → Nat → Prop) (w k : Nat) : Prop := k ≠ w ∧ Dm E k w ∧ ∀ c, c ≠ w → Dm E c w → Dm E c k
theorem near_self {m : Nat} {E : Nat → Nat → Prop} {fr : Nat → Nat} (D : Dfs m E fr) {sd : Nat → Nat} (hsd : ∀ i, 0 < i → i < m → Semi E i (sd i)) {w : Nat} (h0 : 0 < w) (hw : w < m) (H : ∀ y, sd w < y → Anc fr y w → sd w ≤ sd y) : NearN E w (sd w) := by
  have hs := hsd w h0 hw
  have hl := (hs.par D h0 hw).2
  refine ⟨by omega, .inr (enter D hl hsd fun y h1 h2 _ => H y h1 h2), fun c hc hd => ?_⟩
  by_cases e : c = sd w
  · exact .inl e
  · exact .inr fun hr => (hd.resolve_left hc) (hr.sp ((hd.anc D hw).le D.frlt) (fun e2 => e e2.symm) hs.1)
theorem near_like {m : Nat} {E : Nat → Nat → Prop} {fr : Nat → Nat} (D : Dfs m E fr) {sd : Nat → Nat} (hsd : ∀ i, 0 < i → i < m → Semi E i (sd i)) {w u k : Nat} (h0 : 0 < w) (hw : w < m) (hu : sd w < u) (hua : Anc fr u w) (H : ∀ y, sd w < y → Anc fr y w → sd u ≤ sd y) (hk : NearN E u k) : NearN E w k := by
  have hs := hsd w h0 hw
  have huw := hua.le D.frlt
  have hum : u < m := by omega
  have hsu : Anc fr (sd w) u := (hs.anc D h0 hw).total D.frlt hua (by omega)
  obtain ⟨hku, hkd, hka⟩ := hk
  have hka' := hkd.anc D hum
  have hkle := hka'.le D.frlt
  have hk2 := (hkd.semi D hku (by omega) hum (hsd u (by omega) hum)).le D.frlt
  refine ⟨by omega, .inr (enter D (by omega) hsd fun y hy hya hyr => ?_), fun c hc hd => ?_⟩
  · rcases Nat.lt_or_ge (sd w) y with h | h
    · have := H y h hya
      omega
    · exfalso
      have hyu : Anc fr y u := (hya.total D.frlt (hs.anc D h0 hw) h).trans hsu
      exact (hkd.resolve_left hku) (hyr.down D hyu hum fun v h1 _ _ e => by have := h1.le D.frlt; omega)
  · have hcs := (hd.semi D hc h0 hw hs).le D.frlt
    refine hka c (by omega) (.inr fun hr => (hd.resolve_left hc) (hr.down D hua hw fun v h1 _ _ e => by have := h1.le D.frlt; omega))
/-- Half-nearest ones out of those of the nodes behind. -/
theorem find {m : Nat} {E : Nat → Nat → Prop} {fr : Nat → Nat} (D : Dfs m E fr) {w x : Nat} (h : Hi E w x) : ∃ u v, E v w ∧ w < v ∧ Anc fr u v ∧ w < u ∧ (x = u ∨ Hi E u x) := by
  induction h with
  | @base x he hx => exact ⟨x, x, he, hx, .refl, hx, .inl rfl⟩
  | @step x y he hx _ ih =>
    obtain ⟨u, v, h1, h2, h3, h4, h5⟩ := ih
    have h5' : y = u ∨ Hi E u y := h5
    rcases Nat.lt_trichotomy x u with h | h | h
    · exact ⟨x, v, h1, h2, (hi_anc D he h5' h).trans h3, hx, .inl rfl⟩
    · exact ⟨u, v, h1, h2, h3, h4, .inl h⟩
    · refine ⟨u, v, h1, h2, h3, h4, .inr ?_⟩
      rcases h5' with rfl | h5'
      · exact .base he h
      · exact .step he h h5'
theorem semi_of {m : Nat} {E : Nat → Nat → Prop} {fr : Nat → Nat} (D : Dfs m E fr) {sd : Nat → Nat} {w h : Nat} (h0 : 0 < w) (hw : w < m) (hsd : ∀ i, w < i → i < m → Semi E i (sd i))
    (ha : ∀ v, E v w → v < w → h ≤ v) (hb : ∀ v u, E v w → w < v → Anc fr u v → w < u → h ≤ sd u) (hc : SP E h w) : Semi E w h := by
  refine ⟨hc, fun v hv => ?_⟩
  obtain ⟨x, he, rfl | hx⟩ := hv
  · rcases Nat.lt_or_ge v x with hl | hl
    · exact ha v he hl
    · have := ha _ (D.edge x h0 hw) (D.frlt x h0)
      have := D.frlt x h0
      omega
  · obtain ⟨u, v', h1, h2, h3, h4, h5⟩ := find D hx
    have h6 := hb v' u h1 h2 h3 h4
    have hum : u < m := by have := h3.le D.frlt; have := (D.lt _ _ h1).1; omega
    have h7 := (hsd u h4 hum).2 v ⟨x, he, h5⟩
    omega
theorem sp_over {m : Nat} {E : Nat → Nat → Prop} {fr : Nat → Nat} (D : Dfs m E fr) {w v u s : Nat} (he : E v w) (hu : w < u) (ha : Anc fr u v) (hs : SP E s u) : SP E s w := by
  have hv := ha.le D.frlt
  have hi : Hi E w u := Hi.down D ha (D.lt _ _ he).1 hu (.base he (by omega))
  obtain ⟨x, h1, rfl | h2⟩ := hs
  · exact ⟨_, h1, .inr hi⟩
  · exact ⟨x, h1, .inr (h2.more hu hi)⟩
end Lt
end Go.Proofs.Ythedgacidphgnaa
