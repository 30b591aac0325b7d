/- Nodes by the numbers of a walk: ways that never go below where they begin, half-nearest ones, the nearest ones. No program. -/
import Derived.Test.YtogjjmbcbnceoaaGreatDFrontM
namespace Go.Proofs.YtogjjmbcbnceoaaGreat
namespace Lt

/-- a is b, or is met on the way up from b. -/
inductive Anc (fr : Nat → Nat) (a : Nat) : Nat → Prop
  | refl : Anc fr a a
  | up {b : Nat} : 0 < b → Anc fr a (fr b) → Anc fr a b
/-- What a walk as deep as it can goes by. -/
structure Dfs (m : Nat) (E : Nat → Nat → Prop) (fr : Nat → Nat) : Prop where
  frlt : ∀ i, 0 < i → fr i < i
  edge : ∀ i, 0 < i → i < m → E (fr i) i
  lt : ∀ i j, E i j → i < m ∧ j < m
  fwd : ∀ i j, E i j → i < j → Anc fr i j
  mid : ∀ a b c, a ≤ b → b ≤ c → c < m → Anc fr a c → Anc fr a b

theorem Anc.le {fr : Nat → Nat} (hf : ∀ i, 0 < i → fr i < i) {a b : Nat} (h : Anc fr a b) : a ≤ b := by
  induction h with
  | refl => exact Nat.le_refl _
  | up h0 _ ih => have := hf _ h0; omega
theorem Anc.trans {fr : Nat → Nat} {a b c : Nat} (h1 : Anc fr a b) (h2 : Anc fr b c) : Anc fr a c := by
  induction h2 with
  | refl => exact h1
  | up h0 _ ih => exact .up h0 ih
theorem Anc.total {fr : Nat → Nat} (hf : ∀ i, 0 < i → fr i < i) {a b c : Nat} (h1 : Anc fr a c) (h2 : Anc fr b c) (hab : a ≤ b) : Anc fr a b := by
  induction h2 with
  | refl => exact h1
  | up h0 h ih =>
    cases h1 with
    | refl => have := h.le hf; have := hf _ h0; omega
    | up _ h1 => exact ih h1
theorem Anc.zero {fr : Nat → Nat} (hf : ∀ i, 0 < i → fr i < i) (b : Nat) : Anc fr 0 b := by
  induction b using Nat.strongRecOn with
  | _ b ih =>
    by_cases h0 : b = 0
    · rw [h0]; exact .refl
    · exact .up (by omega) (ih _ (hf b (by omega)))
/-- A way from v that never goes below it. -/
inductive St (E : Nat → Nat → Prop) (v : Nat) : Nat → Prop
  | refl : St E v v
  | step {x y : Nat} : St E v x → E x y → v ≤ y → St E v y
theorem St.anc {m : Nat} {E : Nat → Nat → Prop} {fr : Nat → Nat} (D : Dfs m E fr) {v y : Nat} (h : St E v y) : Anc fr v y := by
  induction h with
  | refl => exact .refl
  | @step x y _ he hv ih =>
    rcases Nat.lt_or_ge x y with hl | hl
    · exact ih.trans (D.fwd _ _ he hl)
    · exact D.mid v y x hv hl (D.lt _ _ he).1 ih
/-- A way from x to w all of whose nodes but w are behind w. -/
inductive Hi (E : Nat → Nat → Prop) (w : Nat) : Nat → Prop
  | base {x : Nat} : E x w → w < x → Hi E w x
  | step {x y : Nat} : E x y → w < x → Hi E w y → Hi E w x
theorem Hi.lt {E : Nat → Nat → Prop} {w x : Nat} (h : Hi E w x) : w < x := by cases h <;> assumption
theorem Hi.st {E : Nat → Nat → Prop} {v w x : Nat} (hv : v < w) (h : Hi E w x) (hs : St E v x) : St E v w := by
  induction h with
  | base he _ => exact .step hs he (by omega)
  | step he _ h ih => exact ih (.step hs he (by have := h.lt; omega))
theorem hi_anc {m : Nat} {E : Nat → Nat → Prop} {fr : Nat → Nat} (D : Dfs m E fr) {x y w : Nat} (he : E x y) (h : y = w ∨ Hi E w y) (hx : x < w) : Anc fr x w := by
  rcases h with rfl | h
  · exact D.fwd _ _ he hx
  · exact (h.st hx (.step .refl he (by have := h.lt; omega))).anc D
theorem Hi.more {E : Nat → Nat → Prop} {w u x : Nat} (h : Hi E u x) (hw : w < u) (hu : Hi E w u) : Hi E w x := by
  induction h with
  | base he hx => exact .step he (by omega) hu
  | step he hx _ ih => exact .step he (by omega) ih
theorem Hi.down {m : Nat} {E : Nat → Nat → Prop} {fr : Nat → Nat} (D : Dfs m E fr) {w u v : Nat} (ha : Anc fr u v) (hv : v < m) (hw : w < u) (h : Hi E w v) : Hi E w u := by
  induction ha with
  | refl => exact h
  | @up b h0 ha ih =>
    have := D.frlt b h0
    have := ha.le D.frlt
    exact ih (by omega) (.step (D.edge b h0 hv) (by omega) h)
/-- A way from v to w between whose ends all nodes are behind w. -/
def SP (E : Nat → Nat → Prop) (v w : Nat) : Prop := ∃ x, E v x ∧ (x = w ∨ Hi E w x)
def Semi (E : Nat → Nat → Prop) (w s : Nat) : Prop := SP E s w ∧ ∀ v, SP E v w → s ≤ v
theorem Semi.par {m : Nat} {E : Nat → Nat → Prop} {fr : Nat → Nat} (D : Dfs m E fr) {w s : Nat} (h : Semi E w s) (h0 : 0 < w) (hw : w < m) : s ≤ fr w ∧ s < w := by
  have h1 := h.2 _ ⟨w, D.edge w h0 hw, .inl rfl⟩
  have h2 := D.frlt w h0
  exact ⟨h1, by omega⟩
theorem Semi.anc {m : Nat} {E : Nat → Nat → Prop} {fr : Nat → Nat} (D : Dfs m E fr) {w s : Nat} (h : Semi E w s) (h0 : 0 < w) (hw : w < m) : Anc fr s w := by
  obtain ⟨x, he, hx⟩ := h.1
  exact hi_anc D he hx (h.par D h0 hw).2
/-- Reached without going on from a node of S. -/
inductive Rc (E : Nat → Nat → Prop) (S : Nat → Prop) : Nat → Prop
  | entry : Rc E S 0
  | step {i j : Nat} : Rc E S i → ¬ S i → E i j → Rc E S j
theorem Rc.down {m : Nat} {E : Nat → Nat → Prop} {fr : Nat → Nat} (D : Dfs m E fr) {S : Nat → Prop} {a b : Nat} (hr : Rc E S a) (ha : Anc fr a b) (hb : b < m) (hs : ∀ u, Anc fr a u → Anc fr u b → u ≠ b → ¬ S u) : Rc E S b := by
  induction ha with
  | refl => exact hr
  | @up b h0 ha ih =>
    have := D.frlt b h0
    refine .step (ih (by omega) fun u h1 h2 h3 => hs u h1 (.up h0 h2) ?_) (hs _ ha (.up h0 .refl) (by omega)) (D.edge b h0 hb)
    have := h2.le D.frlt
    omega
theorem Rc.hi {E : Nat → Nat → Prop} {c w x : Nat} (hc : c ≤ w) (hr : Rc E (· = c) x) (h : Hi E w x) : Rc E (· = c) w := by
  induction h with
  | base he hx => exact .step hr (by omega) he
  | step he hx _ ih => exact ih (.step hr (by omega) he)
theorem Rc.sp {E : Nat → Nat → Prop} {c w s : Nat} (hc : c ≤ w) (hr : Rc E (· = c) s) (hs : s ≠ c) (h : SP E s w) : Rc E (· = c) w := by
  obtain ⟨x, he, rfl | h⟩ := h
  · exact .step hr hs he
  · exact (Rc.step hr hs he).hi hc h
/-- d stands over w. -/
def Dm (E : Nat → Nat → Prop) (d w : Nat) : Prop := d = w ∨ ¬ Rc E (· = d) w
theorem Dm.anc {m : Nat} {E : Nat → Nat → Prop} {fr : Nat → Nat} (D : Dfs m E fr) {d w : Nat} (h : Dm E d w) (hw : w < m) : Anc fr d w := by
  rcases h with rfl | h
  · exact .refl
  · by_cases ha : Anc fr d w
    · exact ha
    · exfalso
      exact h (Rc.down D .entry (.zero D.frlt w) hw fun u _ h2 _ e => ha (e ▸ h2))
theorem Dm.semi {m : Nat} {E : Nat → Nat → Prop} {fr : Nat → Nat} (D : Dfs m E fr) {d w s : Nat} (h : Dm E d w) (hd : d ≠ w) (h0 : 0 < w) (hw : w < m) (hs : Semi E w s) : Anc fr d s := by
  by_cases ha : Anc fr d s
  · exact ha
  · exfalso
    have h1 : Rc E (· = d) s := Rc.down D .entry (.zero D.frlt s) (by have := (hs.par D h0 hw).2; omega) fun u _ h2 _ e => ha (e ▸ h2)
    exact (h.resolve_left hd) (h1.sp ((h.anc D hw).le D.frlt) (fun e => ha (e ▸ .refl)) hs.1)
/-- A way that does not go on from S comes into the row below S at a node whose half-nearest one lies above S. -/
theorem enter {m : Nat} {E : Nat → Nat → Prop} {fr : Nat → Nat} (D : Dfs m E fr) {S w : Nat} (hSw : S < w) {sd : Nat → Nat} (hsd : ∀ i, 0 < i → i < m → Semi E i (sd i))
    (H : ∀ y, S < y → Anc fr y w → Rc E (· = S) y → S ≤ sd y) : ¬ Rc E (· = S) w := by
  have key : ∀ x, Rc E (· = S) x → x < S ∨ x = S ∨ (S < x ∧ ¬ Anc fr x w ∧ ∃ x0, x0 < S ∧ ∀ y, S < y → Anc fr y w → Hi E y x → SP E x0 y) := by
    intro x hx
    induction hx with
    | entry => omega
    | @step i j hi hn he ih =>
      rcases Nat.lt_trichotomy j S with hj | hj | hj
      · exact .inl hj
      · exact .inr (.inl hj)
      · refine .inr (.inr ⟨hj, ?_⟩)
        have hjm := (D.lt _ _ he).2
        have hrj : Rc E (· = S) j := .step hi hn he
        rcases ih with hl | hl | ⟨hl, hna, x0, hx0, hk⟩
        · refine ⟨fun ha => ?_, i, hl, fun y _ _ hy => ⟨j, he, .inr hy⟩⟩
          have h1 := H j hj ha hrj
          have h2 := (hsd j (by omega) hjm).2 i ⟨j, he, .inl rfl⟩
          omega
        · exact absurd hl hn
        · have big : ∀ y, S < y → Anc fr y w → (j = y ∨ Hi E y j) → y < i := fun y hy hya hyj => by
            rcases Nat.lt_trichotomy y i with h | h | h
            · exact h
            · exact absurd (h ▸ hya) hna
            · exact absurd ((hi_anc D he hyj h).trans hya) hna
          refine ⟨fun ha => ?_, x0, hx0, fun y hy hya hyj => hk y hy hya (.step he (big y hy hya (.inr hyj)) hyj)⟩
          have h1 := H j hj ha hrj
          have h2 := (hsd j (by omega) hjm).2 x0 (hk j hj ha (.base he (big j hj ha (.inl rfl))))
          omega
  intro hr
  rcases key w hr with h | h | ⟨_, h, _⟩
  · omega
  · omega
  · exact h .refl
/-- The nearest one over w. -/
def NearN (E : Nat → Nat → Prop) (w k : Nat) : Prop := k ≠ w ∧ Dm E k w ∧ ∀ c, c ≠ w → Dm E c w → Dm E c k
theorem near_self {m : Nat} {E : Nat → Nat → Prop} {fr : Nat → Nat} (D : Dfs m E fr) {sd : Nat → Nat} (hsd : ∀ i, 0 < i → i < m → Semi E i (sd i)) {w : Nat} (h0 : 0 < w) (hw : w < m) (H : ∀ y, sd w < y → Anc fr y w → sd w ≤ sd y) : NearN E w (sd w) := by
  have hs := hsd w h0 hw
  have hl := (hs.par D h0 hw).2
  refine ⟨by omega, .inr (enter D hl hsd fun y h1 h2 _ => H y h1 h2), fun c hc hd => ?_⟩
  by_cases e : c = sd w
  · exact .inl e
  · exact .inr fun hr => (hd.resolve_left hc) (hr.sp ((hd.anc D hw).le D.frlt) (fun e2 => e e2.symm) hs.1)
theorem near_like {m : Nat} {E : Nat → Nat → Prop} {fr : Nat → Nat} (D : Dfs m E fr) {sd : Nat → Nat} (hsd : ∀ i, 0 < i → i < m → Semi E i (sd i)) {w u k : Nat} (h0 : 0 < w) (hw : w < m) (hu : sd w < u) (hua : Anc fr u w) (H : ∀ y, sd w < y → Anc fr y w → sd u ≤ sd y) (hk : NearN E u k) : NearN E w k := by
  have hs := hsd w h0 hw
  have huw := hua.le D.frlt
  have hum : u < m := by omega
  have hsu : Anc fr (sd w) u := (hs.anc D h0 hw).total D.frlt hua (by omega)
  obtain ⟨hku, hkd, hka⟩ := hk
  have hka' := hkd.anc D hum
  have hkle := hka'.le D.frlt
  have hk2 := (hkd.semi D hku (by omega) hum (hsd u (by omega) hum)).le D.frlt
  refine ⟨by omega, .inr (enter D (by omega) hsd fun y hy hya hyr => ?_), fun c hc hd => ?_⟩
  · rcases Nat.lt_or_ge (sd w) y with h | h
    · have := H y h hya
      omega
    · exfalso
      have hyu : Anc fr y u := (hya.total D.frlt (hs.anc D h0 hw) h).trans hsu
      exact (hkd.resolve_left hku) (hyr.down D hyu hum fun v h1 _ _ e => by have := h1.le D.frlt; omega)
  · have hcs := (hd.semi D hc h0 hw hs).le D.frlt
    refine hka c (by omega) (.inr fun hr => (hd.resolve_left hc) (hr.down D hua hw fun v h1 _ _ e => by have := h1.le D.frlt; omega))
/-- Half-nearest ones out of those of the nodes behind. -/
theorem find {m : Nat} {E : Nat → Nat → Prop} {fr : Nat → Nat} (D : Dfs m E fr) {w x : Nat} (h : Hi E w x) : ∃ u v, E v w ∧ w < v ∧ Anc fr u v ∧ w < u ∧ (x = u ∨ Hi E u x) := by
  induction h with
  | @base x he hx => exact ⟨x, x, he, hx, .refl, hx, .inl rfl⟩
  | @step x y he hx _ ih =>
    obtain ⟨u, v, h1, h2, h3, h4, h5⟩ := ih
    have h5' : y = u ∨ Hi E u y := h5
    rcases Nat.lt_trichotomy x u with h | h | h
    · exact ⟨x, v, h1, h2, (hi_anc D he h5' h).trans h3, hx, .inl rfl⟩
    · exact ⟨u, v, h1, h2, h3, h4, .inl h⟩
    · refine ⟨u, v, h1, h2, h3, h4, .inr ?_⟩
      rcases h5' with rfl | h5'
      · exact .base he h
      · exact .step he h h5'
theorem semi_of {m : Nat} {E : Nat → Nat → Prop} {fr : Nat → Nat} (D : Dfs m E fr) {sd : Nat → Nat} {w h : Nat} (h0 : 0 < w) (hw : w < m) (hsd : ∀ i, w < i → i < m → Semi E i (sd i))
    (ha : ∀ v, E v w → v < w → h ≤ v) (hb : ∀ v u, E v w → w < v → Anc fr u v → w < u → h ≤ sd u) (hc : SP E h w) : Semi E w h := by
  refine ⟨hc, fun v hv => ?_⟩
  obtain ⟨x, he, rfl | hx⟩ := hv
  · rcases Nat.lt_or_ge v x with hl | hl
    · exact ha v he hl
    · have := ha _ (D.edge x h0 hw) (D.frlt x h0)
      have := D.frlt x h0
      omega
  · obtain ⟨u, v', h1, h2, h3, h4, h5⟩ := find D hx
    have h6 := hb v' u h1 h2 h3 h4
    have hum : u < m := by have := h3.le D.frlt; have := (D.lt _ _ h1).1; omega
    have h7 := (hsd u h4 hum).2 v ⟨x, he, h5⟩
    omega
theorem sp_over {m : Nat} {E : Nat → Nat → Prop} {fr : Nat → Nat} (D : Dfs m E fr) {w v u s : Nat} (he : E v w) (hu : w < u) (ha : Anc fr u v) (hs : SP E s u) : SP E s w := by
  have hv := ha.le D.frlt
  have hi : Hi E w u := Hi.down D ha (D.lt _ _ he).1 hu (.base he (by omega))
  obtain ⟨x, h1, rfl | h2⟩ := hs
  · exact ⟨_, h1, .inr hi⟩
  · exact ⟨x, h1, .inr (h2.more hu hi)⟩
end Lt
end Go.Proofs.YtogjjmbcbnceoaaGreat
/- A walk as deep as it can go: its lists, step by step; what it is in the end. No program. -/
namespace Go.Proofs.YtogjjmbcbnceoaaGreat
namespace Lt

def frF (fs : List Int) (i : Nat) : Nat := (fs.getD i 0).toNat
theorem frF_old {fs : List Int} {p : Int} {i : Nat} (h : i < fs.length) : frF (fs ++ [p]) i = frF fs i := by
  unfold frF
  rw [List.getD_eq_getElem?_getD, List.getD_eq_getElem?_getD, List.getElem?_append_left h]
theorem frF_new {fs : List Int} {p : Int} : frF (fs ++ [p]) fs.length = p.toNat := by
  unfold frF
  rw [List.getD_eq_getElem?_getD, List.getElem?_append_right (Nat.le_refl _)]
  simp
theorem frF_at {fs : List Int} {i p : Nat} (h : fs[i]? = some (p : Int)) : frF fs i = p := by
  unfold frF
  rw [List.getD_eq_getElem?_getD, h]
  simp
theorem Anc.congr {fr gr : Nat → Nat} {a c : Nat} (hf : ∀ i, 0 < i → i ≤ c → fr i < i) (h : Anc fr a c) (hg : ∀ i, i ≤ c → gr i = fr i) : Anc gr a c := by
  induction h with
  | refl => exact .refl
  | @up b h0 _ ih =>
    have := hf b h0 (Nat.le_refl _)
    refine .up h0 ?_
    rw [hg b (Nat.le_refl _)]
    exact ih (fun i h1 h2 => hf i h1 (by omega)) (fun i h1 => hg i (by omega))
/-- The numbers on the way up. -/
inductive Chn (fs : List Int) : List Nat → Prop
  | nil : Chn fs []
  | one : Chn fs [0]
  | more {s p : Nat} {st : List Nat} : 0 < s → fs[s]? = some (p : Int) → Chn fs (p :: st) → Chn fs (s :: p :: st)
/-- The walk's lists; st: the numbers of those that it has not left. -/
structure WI (nx : List (List Int)) (ns fs gs ps : List Int) (st : List Nat) : Prop where
  pos : 0 < ns.length
  lf : fs.length = ns.length
  lg : gs.length = ns.length
  lp : ps.length = nx.length
  nod : ∀ i, i < ns.length → ∃ v : Nat, ns[i]? = some (v : Int) ∧ v < nx.length ∧ ps[v]? = some (i : Int)
  plc : ∀ v, v < nx.length → ps[v]? = some (-1) ∨ ∃ i : Nat, i < ns.length ∧ ps[v]? = some (i : Int) ∧ ns[i]? = some (v : Int)
  zero : ns[0]? = some 0
  frm0 : fs[0]? = some (-1)
  frm : ∀ i, 0 < i → i < ns.length → ∃ p v : Nat, ∃ u : Int, fs[i]? = some (p : Int) ∧ p < i ∧ ns[p]? = some (v : Int) ∧ ns[i]? = some u ∧ u ∈ nx.getD v []
  chn : Chn fs st
  stl : ∀ s ∈ st, s < ns.length
  sub : ∀ s ∈ st, ∀ j, s ≤ j → j < ns.length → Anc (frF fs) s j
  gon : ∀ i, i < ns.length → ∃ g v : Nat, gs[i]? = some (g : Int) ∧ ns[i]? = some (v : Int) ∧ g ≤ (nx.getD v []).length ∧ (∀ e u, e < g → (nx.getD v [])[e]? = some u → ∃ j : Nat, ps[u.toNat]? = some (j : Int) ∧ (i < j → Anc (frF fs) i j)) ∧ (i ∉ st → g = (nx.getD v []).length)
  mid : ∀ a b c, a ≤ b → b ≤ c → c < ns.length → Anc (frF fs) a c → Anc (frF fs) a b
theorem WI.frlt {nx : List (List Int)} {ns fs gs ps : List Int} {st : List Nat} (h : WI nx ns fs gs ps st) : ∀ i, 0 < i → frF fs i < i := by
  intro i h0
  rcases Nat.lt_or_ge i ns.length with hi | hi
  · obtain ⟨p, v, u, h1, h2, _⟩ := h.frm i h0 hi
    rw [frF_at h1]; exact h2
  · unfold frF
    rw [List.getD_eq_getElem?_getD, List.getElem?_eq_none (by have := h.lf; omega)]
    simpa using h0
/-- One is left. -/
theorem WI.pop {nx : List (List Int)} {ns fs gs ps : List Int} {s : Nat} {st : List Nat} (h : WI nx ns fs gs ps (s :: st)) {g v : Nat} (hg : gs[s]? = some (g : Int)) (hv : ns[s]? = some (v : Int)) (hf : g = (nx.getD v []).length) : WI nx ns fs gs ps st := by
  refine ⟨h.pos, h.lf, h.lg, h.lp, h.nod, h.plc, h.zero, h.frm0, h.frm, ?_, fun x hx => h.stl x (by simp [hx]), fun x hx => h.sub x (by simp [hx]), fun i hi => ?_, h.mid⟩
  · cases h.chn with
    | one => exact .nil
    | more _ _ h1 => exact h1
  · obtain ⟨g', v', h1, h2, h3, h4, h5⟩ := h.gon i hi
    refine ⟨g', v', h1, h2, h3, h4, fun hn => ?_⟩
    by_cases e : i = s
    · subst e
      rw [hg] at h1; rw [hv] at h2
      cases h1; cases h2
      exact hf
    · exact h5 (by simp [e, hn])
/-- An edge that leads to one that was met. -/
theorem WI.look {nx : List (List Int)} {ns fs gs ps : List Int} {s : Nat} {st : List Nat} (h : WI nx ns fs gs ps (s :: st)) {g v : Nat} {u : Int} {j : Nat} (hg : gs[s]? = some (g : Int)) (hv : ns[s]? = some (v : Int)) (hu : (nx.getD v [])[g]? = some u) (hp : ps[u.toNat]? = some (j : Int)) : WI nx ns fs (gs.set s ((g + 1 : Nat) : Int)) ps (s :: st) := by
  have hs := h.stl s (by simp)
  refine ⟨h.pos, h.lf, by simpa using h.lg, h.lp, h.nod, h.plc, h.zero, h.frm0, h.frm, h.chn, h.stl, h.sub, fun i hi => ?_, h.mid⟩
  obtain ⟨g', v', h1, h2, h3, h4, h5⟩ := h.gon i hi
  by_cases e : i = s
  · subst e
    rw [hg] at h1; rw [hv] at h2
    have eg : g' = g := by cases h1; rfl
    have ev : v' = v := by cases h2; rfl
    subst eg; subst ev
    have hlt : g' < (nx.getD v' []).length := (List.getElem?_eq_some_iff.1 hu).1
    refine ⟨g' + 1, v', by rw [List.getElem?_set, if_pos rfl, if_pos (by have := h.lg; omega)], hv, by omega, fun e u' he hu' => ?_, fun hn => by simp at hn⟩
    rcases Nat.lt_or_ge e g' with hl | hl
    · exact h4 e u' hl hu'
    · have : e = g' := by omega
      subst this
      rw [hu] at hu'
      cases hu'
      refine ⟨j, hp, fun hij => h.sub i (by simp) j (by omega) ?_⟩
      have hun : u.toNat < nx.length := by have := (List.getElem?_eq_some_iff.1 hp).1; have := h.lp; omega
      rcases h.plc u.toNat hun with h9 | ⟨i', h9, h8, _⟩
      · rw [hp] at h9; cases h9
      · rw [hp] at h8
        have : j = i' := by cases h8; rfl
        omega
  · exact ⟨g', v', by rw [List.getElem?_set, if_neg (fun e2 => e e2.symm)]; exact h1, h2, h3, h4, h5⟩
/-- An edge that leads to one that was not met: it is met. -/
theorem WI.meet {nx : List (List Int)} {ns fs gs ps : List Int} {s : Nat} {st : List Nat} (h : WI nx ns fs gs ps (s :: st)) {g v t : Nat} (hg : gs[s]? = some (g : Int)) (hv : ns[s]? = some (v : Int)) (hu : (nx.getD v [])[g]? = some (t : Int)) (ht : t < nx.length) (hp : ps[t]? = some (-1)) :
    WI nx (ns ++ [(t : Int)]) (fs ++ [(s : Int)]) (gs.set s ((g + 1 : Nat) : Int) ++ [0]) (ps.set t (ns.length : Int)) (ns.length :: s :: st) := by
  have hs := h.stl s (by simp)
  have hlf := h.lf
  have hlg := h.lg
  have hlp := h.lp
  have hpos := h.pos
  have frn : frF (fs ++ [(s : Int)]) ns.length = s := by rw [← hlf, frF_new]; simp
  have fro : ∀ i, i < ns.length → frF (fs ++ [(s : Int)]) i = frF fs i := fun i hi => frF_old (by omega)
  have anc : ∀ a c, c < ns.length → Anc (frF fs) a c → Anc (frF (fs ++ [(s : Int)])) a c := fun a c hc ha => ha.congr (fun i h0 _ => h.frlt i h0) fun i hi => fro i (by omega)
  have ancB : ∀ a c, c < ns.length → Anc (frF (fs ++ [(s : Int)])) a c → Anc (frF fs) a c := fun a c hc ha => ha.congr (fun i h0 hi => by rw [fro i (by omega)]; exact h.frlt i h0) fun i hi => (fro i (by omega)).symm
  have pso : ∀ (x : Nat) (j : Nat), ps[x]? = some (j : Int) → (ps.set t (ns.length : Int))[x]? = some (j : Int) := fun x j hx => by
    rw [List.getElem?_set]
    by_cases e : t = x
    · subst e; rw [hp] at hx; cases hx
    · rw [if_neg e]; exact hx
  have nso : ∀ (i : Nat) (u : Int), ns[i]? = some u → (ns ++ [(t : Int)])[i]? = some u := fun i u hi => by
    rw [List.getElem?_append_left (List.getElem?_eq_some_iff.1 hi).1]; exact hi
  have nsn : (ns ++ [(t : Int)])[ns.length]? = some (t : Int) := by rw [List.getElem?_append_right (Nat.le_refl _)]; simp
  have fso : ∀ (i : Nat) (u : Int), fs[i]? = some u → (fs ++ [(s : Int)])[i]? = some u := fun i u hi => by
    rw [List.getElem?_append_left (List.getElem?_eq_some_iff.1 hi).1]; exact hi
  have fsn : (fs ++ [(s : Int)])[ns.length]? = some (s : Int) := by rw [← hlf, List.getElem?_append_right (Nat.le_refl _)]; simp
  have anew : ∀ a, Anc (frF fs) a s → Anc (frF (fs ++ [(s : Int)])) a ns.length := fun a ha => .up hpos (by rw [frn]; exact anc a s hs ha)
  have hgl : g < (nx.getD v []).length := (List.getElem?_eq_some_iff.1 hu).1
  have chn : ∀ {l : List Nat}, Chn fs l → Chn (fs ++ [(s : Int)]) l := fun hl => by
    induction hl with
    | nil => exact .nil
    | one => exact .one
    | more h0 h1 _ ih => exact .more h0 (fso _ _ h1) ih
  refine ⟨by simp, by simp [hlf], by simp [hlg], by simpa using hlp, fun i hi => ?_, fun x hx => ?_, nso 0 _ h.zero, fso 0 _ h.frm0, fun i h0 hi => ?_, .more hpos fsn (chn h.chn), fun x hx => ?_, fun x hx j hxj hj => ?_, fun i hi => ?_, fun a b c hab hbc hc ha => ?_⟩
  · simp at hi
    by_cases e : i = ns.length
    · subst e
      exact ⟨t, nsn, ht, by rw [List.getElem?_set, if_pos rfl, if_pos (by omega)]⟩
    · obtain ⟨v', h1, h2, h3⟩ := h.nod i (by omega)
      exact ⟨v', nso i _ h1, h2, pso _ _ h3⟩
  · by_cases e : t = x
    · subst e
      exact .inr ⟨ns.length, by simp, by rw [List.getElem?_set, if_pos rfl, if_pos (by omega)], nsn⟩
    · rw [List.getElem?_set, if_neg e]
      rcases h.plc x hx with h1 | ⟨i, h1, h2, h3⟩
      · exact .inl h1
      · exact .inr ⟨i, by simp; omega, h2, nso _ _ h3⟩
  · simp at hi
    by_cases e : i = ns.length
    · subst e
      exact ⟨s, v, (t : Int), fsn, hs, nso _ _ hv, nsn, List.mem_of_getElem? hu⟩
    · obtain ⟨p, v', u, h1, h2, h3, h4, h5⟩ := h.frm i h0 (by omega)
      exact ⟨p, v', u, fso _ _ h1, h2, nso _ _ h3, nso _ _ h4, h5⟩
  · rcases List.mem_cons.1 hx with rfl | hx
    · simp
    · have := h.stl x hx
      simp; omega
  · simp at hj
    rcases List.mem_cons.1 hx with rfl | hx
    · have : j = ns.length := by omega
      subst this; exact .refl
    · by_cases e : j = ns.length
      · subst e
        exact anew x (h.sub x hx s (by
          have hxs : ∀ {l : List Nat}, Chn fs l → ∀ y, y ∈ l → y ≤ l.headD 0 := fun hl => by
            induction hl with
            | nil => intro y hy; cases hy
            | one => intro y hy; simp at hy; simp [hy]
            | @more s' p st' h0 h1 _ ih =>
              intro y hy
              have hp' : p < s' := by
                have := h.frlt s' h0
                rw [frF_at h1] at this
                exact this
              rcases List.mem_cons.1 hy with rfl | hy
              · simp
              · have := ih y hy
                simp at this ⊢
                omega
          simpa using hxs h.chn x hx) hs)
      · exact anc x j (by omega) (h.sub x hx j hxj (by omega))
  · simp at hi
    by_cases e : i = ns.length
    · subst e
      refine ⟨0, t, ?_, nsn, Nat.zero_le _, fun e u he => by omega, fun hn => by simp at hn⟩
      rw [List.getElem?_append_right (by simp; omega)]
      simp [hlg]
    · obtain ⟨g', v', h1, h2, h3, h4, h5⟩ := h.gon i (by omega)
      by_cases e2 : i = s
      · subst e2
        rw [hg] at h1; rw [hv] at h2
        have eg : g' = g := by cases h1; rfl
        have ev : v' = v := by cases h2; rfl
        subst eg; subst ev
        refine ⟨g' + 1, v', ?_, nso _ _ hv, by omega, fun e u' he hu' => ?_, fun hn => by simp at hn⟩
        · rw [List.getElem?_append_left (by simp; omega), List.getElem?_set, if_pos rfl, if_pos (by omega)]
        · rcases Nat.lt_or_ge e g' with hl | hl
          · obtain ⟨j, h6, h7⟩ := h4 e u' hl hu'
            refine ⟨j, pso _ _ h6, fun hij => anc i j ?_ (h7 hij)⟩
            have hun : u'.toNat < nx.length := by have := (List.getElem?_eq_some_iff.1 h6).1; omega
            rcases h.plc u'.toNat hun with h9 | ⟨i', h9, h8, _⟩
            · rw [h6] at h9; cases h9
            · rw [h6] at h8
              have : j = i' := by cases h8; rfl
              omega
          · have : e = g' := by omega
            subst this
            rw [hu] at hu'
            cases hu'
            exact ⟨ns.length, by rw [Int.toNat_natCast, List.getElem?_set, if_pos rfl, if_pos (by omega)], fun _ => anew i .refl⟩
      · refine ⟨g', v', ?_, nso _ _ h2, h3, fun e u' he hu' => ?_, fun hn => h5 fun hm => hn (by simp at hm ⊢; exact .inr hm)⟩
        · rw [List.getElem?_append_left (by simp; omega), List.getElem?_set, if_neg (fun e3 => e2 e3.symm)]; exact h1
        · obtain ⟨j, h6, h7⟩ := h4 e u' he hu'
          refine ⟨j, pso _ _ h6, fun hij => anc i j ?_ (h7 hij)⟩
          have hun : u'.toNat < nx.length := by have := (List.getElem?_eq_some_iff.1 h6).1; omega
          rcases h.plc u'.toNat hun with h9 | ⟨i', h9, h8, _⟩
          · rw [h6] at h9; cases h9
          · rw [h6] at h8
            have : j = i' := by cases h8; rfl
            omega
  · simp at hc
    by_cases e : c = ns.length
    · subst e
      by_cases eb : b = ns.length
      · rw [eb]; exact ha
      · cases ha with
        | refl => omega
        | up _ ha =>
          rw [frn] at ha
          have ha' := ancB a s hs ha
          have has := ha'.le h.frlt
          rcases Nat.lt_or_ge s b with hsb | hsb
          · exact anc a b (by omega) (ha'.trans (h.sub s (by simp) b (by omega) (by omega)))
          · exact anc a b (by omega) (h.mid a b s hab hsb hs ha')
    · exact anc a b (by omega) (h.mid a b c hab hbc (by omega) (ancB a c (by omega) ha))
/-- The beginning: the entry is met. -/
theorem WI.start {nx : List (List Int)} (hn : 0 < nx.length) : WI nx [0] [-1] [0] ((List.replicate nx.length (-1)).set 0 0) [0] := by
  have anc0 : ∀ a, Anc (frF [-1]) a 0 → a = 0 := fun a ha => by
    cases ha with
    | refl => rfl
    | up h0 _ => omega
  have p0 : ((List.replicate nx.length (-1 : Int)).set 0 0)[0]? = some ((0 : Nat) : Int) := by
    rw [List.getElem?_set, if_pos rfl, if_pos (by simpa using hn)]; rfl
  refine ⟨by simp, rfl, rfl, by simp, fun i hi => ?_, fun v hv => ?_, rfl, rfl, fun i h0 hi => by simp at hi; omega, .one, fun s hs => by simp at hs; simp [hs], fun s hs j hsj hj => ?_, fun i hi => ?_, fun a b c hab hbc hc ha => ?_⟩
  · simp at hi; subst hi
    exact ⟨0, rfl, hn, p0⟩
  · by_cases e : v = 0
    · subst e; exact .inr ⟨0, by simp, p0, rfl⟩
    · left
      rw [List.getElem?_set, if_neg (fun h => e h.symm), List.getElem?_replicate, if_pos hv]
  · simp at hs hj; subst hs; subst hj; exact .refl
  · simp at hi; subst hi
    exact ⟨0, 0, rfl, rfl, Nat.zero_le _, fun e u he => by omega, fun hn => by simp at hn⟩
  · simp at hc; subst hc
    have := anc0 a ha
    subst this
    have : b = 0 := by omega
    subst this
    exact .refl
/-- Edges by numbers. -/
def EdN (nx : List (List Int)) (ns : List Int) (i j : Nat) : Prop := i < ns.length ∧ j < ns.length ∧ ∃ v u : Nat, ns[i]? = some (v : Int) ∧ ns[j]? = some (u : Int) ∧ (u : Int) ∈ nx.getD v []
structure Done (nx : List (List Int)) (ns fs ps : List Int) : Prop where
  pos : 0 < ns.length
  lf : fs.length = ns.length
  lp : ps.length = nx.length
  nod : ∀ i, i < ns.length → ∃ v : Nat, ns[i]? = some (v : Int) ∧ v < nx.length ∧ ps[v]? = some (i : Int)
  plc : ∀ v, v < nx.length → ps[v]? = some (-1) ∨ ∃ i : Nat, i < ns.length ∧ ps[v]? = some (i : Int) ∧ ns[i]? = some (v : Int)
  zero : ns[0]? = some 0
  frm : ∀ i, 0 < i → i < ns.length → ∃ p : Nat, fs[i]? = some (p : Int) ∧ p < i
  all : ∀ i v u : Nat, ns[i]? = some (v : Int) → (u : Int) ∈ nx.getD v [] → ∃ j : Nat, j < ns.length ∧ ps[u]? = some (j : Int) ∧ ns[j]? = some (u : Int)
  dfs : Dfs ns.length (EdN nx ns) (frF fs)
theorem WI.done {nx : List (List Int)} {ns fs gs ps : List Int} (h : WI nx ns fs gs ps []) : Done nx ns fs ps := by
  have edge : ∀ i v u : Nat, ns[i]? = some (v : Int) → (u : Int) ∈ nx.getD v [] → ∃ j : Nat, j < ns.length ∧ ps[u]? = some (j : Int) ∧ ns[j]? = some (u : Int) ∧ (i < j → Anc (frF fs) i j) := by
    intro i v u hi hu
    have hil := (List.getElem?_eq_some_iff.1 hi).1
    obtain ⟨g', v', h1, h2, h3, h4, h5⟩ := h.gon i hil
    rw [hi] at h2
    have ev : v = v' := by cases h2; rfl
    subst ev
    obtain ⟨e, he⟩ := List.getElem?_of_mem hu
    have hel := (List.getElem?_eq_some_iff.1 he).1
    obtain ⟨j, h6, h7⟩ := h4 e _ (by rw [h5 (by simp)]; exact hel) he
    rw [Int.toNat_natCast] at h6
    have hun : u < nx.length := by have := (List.getElem?_eq_some_iff.1 h6).1; have := h.lp; omega
    rcases h.plc u hun with h9 | ⟨i', h9, h8, h10⟩
    · rw [h6] at h9; cases h9
    · rw [h6] at h8
      have : j = i' := by cases h8; rfl
      subst this
      exact ⟨j, h9, h6, h10, h7⟩
  refine ⟨h.pos, h.lf, h.lp, h.nod, h.plc, h.zero, fun i h0 hi => ?_, fun i v u hi hu => ?_, ⟨h.frlt, fun i h0 hi => ?_, fun i j he => ⟨he.1, he.2.1⟩, fun i j he hij => ?_, h.mid⟩⟩
  · obtain ⟨p, _, _, h1, h2, _⟩ := h.frm i h0 hi
    exact ⟨p, h1, h2⟩
  · obtain ⟨j, h1, h2, h3, _⟩ := edge i v u hi hu
    exact ⟨j, h1, h2, h3⟩
  · obtain ⟨p, v, u, h1, h2, h3, h4, h5⟩ := h.frm i h0 hi
    obtain ⟨v', h6, _⟩ := h.nod i hi
    rw [h4] at h6
    cases h6
    rw [frF_at h1]
    exact ⟨by omega, hi, v, v', h3, h4, h5⟩
  · obtain ⟨_, hj, v, u, h1, h2, h3⟩ := he
    obtain ⟨j', h4, h5, h6, h7⟩ := edge i v u h1 h3
    obtain ⟨v', h8, _, h9⟩ := h.nod j hj
    rw [h2] at h8
    have : v' = u := by cases h8; rfl
    subst this
    rw [h5] at h9
    have : j' = j := by cases h9; rfl
    subst this
    exact h7 hij
/-- A node's number. -/
theorem Done.inj {nx : List (List Int)} {ns fs ps : List Int} (h : Done nx ns fs ps) {i j : Nat} {v : Nat} (hi : ns[i]? = some (v : Int)) (hj : ns[j]? = some (v : Int)) : i = j := by
  obtain ⟨v1, h1, _, h2⟩ := h.nod i (List.getElem?_eq_some_iff.1 hi).1
  obtain ⟨v3, h3, _, h4⟩ := h.nod j (List.getElem?_eq_some_iff.1 hj).1
  rw [hi] at h1; rw [hj] at h3
  cases h1; cases h3
  rw [h2] at h4
  cases h4
  rfl
theorem Done.to {nx : List (List Int)} {ns fs ps : List Int} (h : Done nx ns fs ps) {S : Nat → Prop} {v : Nat} (hr : Rch nx S v) : ∃ i, ns[i]? = some (v : Int) ∧ Rc (EdN nx ns) (fun k => ∃ u : Nat, ns[k]? = some (u : Int) ∧ S u) i := by
  induction hr with
  | entry => exact ⟨0, h.zero, .entry⟩
  | @step v u _ hs he ih =>
    obtain ⟨i, h1, h2⟩ := ih
    obtain ⟨j, h3, h4, h5⟩ := h.all i v u h1 he
    refine ⟨j, h5, .step h2 (fun hc => ?_) ⟨(List.getElem?_eq_some_iff.1 h1).1, h3, v, u, h1, h5, he⟩⟩
    obtain ⟨u', h6, h7⟩ := hc
    rw [h1] at h6
    cases h6
    exact hs h7
theorem Done.of {nx : List (List Int)} {ns fs ps : List Int} (h : Done nx ns fs ps) {S : Nat → Prop} {T : Nat → Prop} (hT : ∀ i v : Nat, ns[i]? = some (v : Int) → S v → T i) {i : Nat} (hr : Rc (EdN nx ns) T i) : ∃ v : Nat, ns[i]? = some (v : Int) ∧ Rch nx S v := by
  induction hr with
  | entry => exact ⟨0, h.zero, .entry⟩
  | @step i j _ hs he ih =>
    obtain ⟨v, h1, h2⟩ := ih
    obtain ⟨_, _, v', u, h3, h4, h5⟩ := he
    rw [h1] at h3
    cases h3
    exact ⟨u, h4, .step h2 (fun hc => hs (hT i v h1 hc)) h5⟩
theorem Done.reach {nx : List (List Int)} {ns fs ps : List Int} (h : Done nx ns fs ps) {i : Nat} (hi : i < ns.length) : Rc (EdN nx ns) (fun _ => False) i :=
  Rc.down h.dfs .entry (.zero h.dfs.frlt i) hi fun _ _ _ _ hc => hc
theorem Done.rch {nx : List (List Int)} {ns fs ps : List Int} (h : Done nx ns fs ps) {i v : Nat} (hi : ns[i]? = some (v : Int)) : Rch nx noneS v := by
  obtain ⟨v', h1, h2⟩ := h.of (S := noneS) (fun _ _ _ hc => hc) (h.reach (List.getElem?_eq_some_iff.1 hi).1)
  rw [hi] at h1
  cases h1
  exact h2
theorem Done.num {nx : List (List Int)} {ns fs ps : List Int} (h : Done nx ns fs ps) {v : Nat} (hr : Rch nx noneS v) : ∃ i : Nat, ns[i]? = some (v : Int) := by
  obtain ⟨i, h1, _⟩ := h.to hr
  exact ⟨i, h1⟩
theorem Done.ov {nx : List (List Int)} {ns fs ps : List Int} (h : Done nx ns fs ps) {i j a b : Nat} (hi : ns[i]? = some (a : Int)) (hj : ns[j]? = some (b : Int)) : Ov nx a b ↔ Dm (EdN nx ns) i j := by
  constructor
  · rintro ⟨_, _, rfl | hn⟩
    · exact .inl (h.inj hi hj)
    · refine .inr fun hr => hn ?_
      obtain ⟨v, h1, h2⟩ := h.of (S := (· = a)) (fun k v hk hv => h.inj (by rw [hk, hv]) hi) hr
      rw [hj] at h1
      cases h1
      exact h2
  · intro hd
    refine ⟨h.rch hi, h.rch hj, ?_⟩
    rcases hd with rfl | hn
    · rw [hi] at hj; cases hj; exact .inl rfl
    · refine .inr fun hr => hn ?_
      obtain ⟨j', h1, h2⟩ := h.to hr
      have : j' = j := h.inj h1 hj
      subst this
      have e : (fun k => ∃ u : Nat, ns[k]? = some (u : Int) ∧ u = a) = (· = i) := by
        funext k
        refine propext ⟨fun ⟨u, h3, h4⟩ => h.inj (by rw [h3, h4]) hi, fun e => ⟨a, by rw [e]; exact hi, rfl⟩⟩
      rw [e] at h2
      exact h2
/-- The nearest one by numbers is the nearest one. -/
theorem Done.near {nx : List (List Int)} {ns fs ps : List Int} (h : Done nx ns fs ps) {i k a b : Nat} (hi : ns[i]? = some (b : Int)) (hk : ns[k]? = some (a : Int)) (hn : NearN (EdN nx ns) i k) : Near nx b (a : Int) := by
  refine .inl ⟨a, rfl, fun e => hn.1 (h.inj (by rw [hk, e]) hi), (h.ov hk hi).2 hn.2.1, fun c hc ho => ?_⟩
  obtain ⟨c', h1⟩ := h.num ho.1
  refine (h.ov h1 hk).2 (hn.2.2 c' (fun e => hc ?_) ((h.ov h1 hi).1 ho))
  subst e
  rw [hi] at h1
  cases h1
  rfl
end Lt
end Go.Proofs.YtogjjmbcbnceoaaGreat
/- Trees that hang together, climbed and cut short; the nodes gone through from the last one on; nearest ones by lists. No program. -/
namespace Go.Proofs.YtogjjmbcbnceoaaGreat
namespace Lt

def gN (l : List Int) (i : Nat) : Nat := (l.getD i 0).toNat
theorem gN_at {l : List Int} {i p : Nat} (h : l[i]? = some (p : Int)) : gN l i = p := frF_at h
theorem gN_set {l : List Int} {i j : Nat} {x : Int} (h : i ≠ j) : gN (l.set i x) j = gN l j := by
  unfold gN
  rw [List.getD_eq_getElem?_getD, List.getD_eq_getElem?_getD, List.getElem?_set, if_neg h]
theorem gN_same {l : List Int} {i p : Nat} (h : i < l.length) : gN (l.set i (p : Int)) i = p := gN_at (by rw [List.getElem?_set, if_pos rfl, if_pos h])
/-- Nodes from L on hang at something. -/
structure FI (m : Nat) (fr : Nat → Nat) (L : Nat) (ov be hi : List Int) : Prop where
  lo : ov.length = m
  lb : be.length = m
  lowO : ∀ i, i < L → i < m → ov[i]? = some (-1)
  lowB : ∀ i, i < L → i < m → be[i]? = some (i : Int)
  lnk : ∀ i, L ≤ i → i < m → ∃ o b : Nat, ov[i]? = some (o : Int) ∧ be[i]? = some (b : Int) ∧ o < b ∧ Anc fr o i ∧ Anc fr b i ∧ ∀ u, o < u → Anc fr u i → L ≤ u ∧ gN hi b ≤ gN hi u
theorem FI.hiset {m : Nat} {fr : Nat → Nat} {L : Nat} {ov be hi : List Int} (h : FI m fr L ov be hi) {i : Nat} (hi' : i < L) (x : Int) : FI m fr L ov be (hi.set i x) := by
  refine ⟨h.lo, h.lb, h.lowO, h.lowB, fun j hj hm => ?_⟩
  obtain ⟨o, b, h1, h2, h3, h4, h5, h6⟩ := h.lnk j hj hm
  refine ⟨o, b, h1, h2, h3, h4, h5, fun u hu ha => ?_⟩
  obtain ⟨h7, h8⟩ := h6 u hu ha
  have h9 := (h6 b h3 h5).1
  rw [gN_set (by omega), gN_set (by omega)]
  exact ⟨h7, h8⟩
/-- One more hangs. -/
theorem FI.link {m : Nat} {fr : Nat → Nat} {L : Nat} {ov be hi : List Int} (hf : ∀ i, 0 < i → fr i < i) (h : FI m fr (L + 1) ov be hi) (h0 : 0 < L) (hL : L < m) : FI m fr L (ov.set L (fr L : Int)) be hi := by
  have hfl := hf L h0
  have hlo := h.lo
  refine ⟨by simpa using h.lo, h.lb, fun i hi' hm => ?_, fun i hi' hm => h.lowB i (by omega) hm, fun i hi' hm => ?_⟩
  · rw [List.getElem?_set, if_neg (by omega)]; exact h.lowO i (by omega) hm
  · by_cases e : i = L
    · subst e
      refine ⟨fr i, i, by rw [List.getElem?_set, if_pos rfl, if_pos (by omega)], h.lowB i (by omega) hm, hfl, .up h0 .refl, .refl, fun u hu ha => ?_⟩
      cases ha with
      | refl => exact ⟨Nat.le_refl _, Nat.le_refl _⟩
      | up _ ha => have := ha.le hf; omega
    · obtain ⟨o, b, h1, h2, h3, h4, h5, h6⟩ := h.lnk i (by omega) hm
      refine ⟨o, b, by rw [List.getElem?_set, if_neg (by omega)]; exact h1, h2, h3, h4, h5, fun u hu ha => ?_⟩
      obtain ⟨h7, h8⟩ := h6 u hu ha
      exact ⟨by omega, h8⟩
/-- One is hung further up. -/
theorem FI.pull {m : Nat} {fr : Nat → Nat} {L : Nat} {ov be hi : List Int} (hf : ∀ i, 0 < i → fr i < i) (h : FI m fr L ov be hi) {i up o2 b1 b2 b' : Nat} (hi' : i < m) (h1 : ov[i]? = some (up : Int)) (h2 : ov[up]? = some (o2 : Int)) (h3 : be[i]? = some (b1 : Int)) (h4 : be[up]? = some (b2 : Int)) (hb : b' = if gN hi b2 < gN hi b1 then b2 else b1) :
    FI m fr L (ov.set i (o2 : Int)) (be.set i (b' : Int)) hi := by
  have hlo := h.lo
  have hlb := h.lb
  have hL : L ≤ i := by
    rcases Nat.lt_or_ge i L with hc | hc
    · rw [h.lowO i hc hi'] at h1; cases h1
    · exact hc
  have hum : up < m := by have := (List.getElem?_eq_some_iff.1 h2).1; omega
  have hLu : L ≤ up := by
    rcases Nat.lt_or_ge up L with hc | hc
    · rw [h.lowO up hc hum] at h2; cases h2
    · exact hc
  obtain ⟨o, b, g1, g2, g3, g4, g5, g6⟩ := h.lnk i hL hi'
  rw [h1] at g1; rw [h3] at g2
  have eo : up = o := by cases g1; rfl
  have eb : b1 = b := by cases g2; rfl
  subst eo; subst eb
  obtain ⟨o, b, k1, k2, k3, k4, k5, k6⟩ := h.lnk up hLu hum
  rw [h2] at k1; rw [h4] at k2
  have eo : o2 = o := by cases k1; rfl
  have eb : b2 = b := by cases k2; rfl
  subst eo; subst eb
  have hb2 := k5.le hf
  refine ⟨by simpa using hlo, by simpa using hlb, fun j hj hm => ?_, fun j hj hm => ?_, fun j hj hm => ?_⟩
  · rw [List.getElem?_set, if_neg (by omega)]; exact h.lowO j hj hm
  · rw [List.getElem?_set, if_neg (by omega)]; exact h.lowB j hj hm
  · by_cases e : j = i
    · subst e
      refine ⟨o2, b', by rw [List.getElem?_set, if_pos rfl, if_pos (by omega)], by rw [List.getElem?_set, if_pos rfl, if_pos (by omega)], ?_, k4.trans g4, ?_, fun u hu ha => ?_⟩
      · rw [hb]; split <;> omega
      · rw [hb]
        split
        · exact k5.trans g4
        · exact g5
      · have hmin : gN hi b' ≤ gN hi b1 ∧ gN hi b' ≤ gN hi b2 := by rw [hb]; split <;> omega
        rcases Nat.lt_or_ge up u with hc | hc
        · obtain ⟨h7, h8⟩ := g6 u hc ha
          exact ⟨h7, by omega⟩
        · obtain ⟨h7, h8⟩ := k6 u hu (ha.total hf g4 hc)
          exact ⟨h7, by omega⟩
    · rw [List.getElem?_set, if_neg (fun e2 => e e2.symm), List.getElem?_set, if_neg (fun e2 => e e2.symm)]
      exact h.lnk j hj hm
/-- The way up that is gone: each hangs at the next one. -/
inductive Clb (ov : List Int) (z : Nat) : List Int → Nat → Prop
  | nil : Clb ov z [] z
  | snoc {p : List Int} {i j : Nat} : Clb ov z p i → ov[i]? = some (j : Int) → j < i → Clb ov z (p ++ [(i : Int)]) j
theorem Clb.gt {ov : List Int} {z : Nat} {p : List Int} {i : Nat} (h : Clb ov z p i) : ∀ x ∈ p, (i : Int) < x := by
  induction h with
  | nil => intro x hx; cases hx
  | @snoc p i j _ _ hl ih =>
    intro x hx
    rcases List.mem_append.1 hx with h1 | h1
    · have := ih x h1; omega
    · simp at h1; omega
theorem Clb.set {ov : List Int} {z : Nat} {p : List Int} {i : Nat} (h : Clb ov z p i) {k : Nat} (x : Int) (hk : k ≤ i) : Clb (ov.set k x) z p i := by
  induction h with
  | nil => exact .nil
  | @snoc p i j hc h1 hl ih => exact .snoc (ih (by omega)) (by rw [List.getElem?_set, if_neg (by omega)]; exact h1) hl
theorem Clb.last {ov : List Int} {z : Nat} {p : List Int} {x : Int} {j : Nat} (h : Clb ov z (p ++ [x]) j) : ∃ i : Nat, x = (i : Int) ∧ Clb ov z p i ∧ ov[i]? = some (j : Int) ∧ j < i := by
  generalize hq : p ++ [x] = q at h
  cases h with
  | nil => simp at hq
  | @snoc p' i j hc h1 hl =>
    obtain ⟨rfl, h3⟩ := List.append_inj' hq rfl
    simp at h3
    exact ⟨i, h3, hc, h1, hl⟩
/-- What highest tells. -/
def Hst (fr : Nat → Nat) (L : Nat) (hi : List Int) (z b : Nat) : Prop := (z < L → b = z) ∧ (L ≤ z → L ≤ b ∧ Anc fr b z ∧ ∀ u, L ≤ u → Anc fr u z → gN hi b ≤ gN hi u)
theorem FI.top {m : Nat} {fr : Nat → Nat} {L : Nat} {ov be hi : List Int} (h : FI m fr L ov be hi) {z r b : Nat} (hz : z < m) (h1 : ov[z]? = some (r : Int)) (h2 : be[z]? = some (b : Int)) (hr : ov[r]? = some (-1)) : Hst fr L hi z b := by
  have hlo := h.lo
  have hL : L ≤ z := by
    rcases Nat.lt_or_ge z L with hc | hc
    · rw [h.lowO z hc hz] at h1; cases h1
    · exact hc
  have hrm : r < m := by have := (List.getElem?_eq_some_iff.1 hr).1; omega
  have hrL : r < L := by
    rcases Nat.lt_or_ge r L with hc | hc
    · exact hc
    · obtain ⟨o, b, g1, _⟩ := h.lnk r hc hrm
      rw [hr] at g1; cases g1
  obtain ⟨o, b', g1, g2, g3, g4, g5, g6⟩ := h.lnk z hL hz
  rw [h1] at g1; rw [h2] at g2
  have eo : r = o := by cases g1; rfl
  have eb : b = b' := by cases g2; rfl
  subst eo; subst eb
  exact ⟨fun hc => by omega, fun _ => ⟨(g6 b g3 g5).1, g5, fun u hu ha => (g6 u (by omega) ha).2⟩⟩
/-- Alike: it has the same nearest one. -/
def Alk (fr : Nat → Nat) (L : Nat) (hi : List Int) (i u : Nat) : Prop := gN hi i < u ∧ Anc fr u i ∧ ∀ y, gN hi i < y → Anc fr y i → L ≤ y ∧ gN hi u ≤ gN hi y
structure NI (m : Nat) (E : Nat → Nat → Prop) (fr : Nat → Nat) (L : Nat) (ov be hi al : List Int) (wt : List (List Int)) : Prop where
  fi : FI m fr L ov be hi
  lh : hi.length = m
  lowH : ∀ i, i < L → i < m → hi[i]? = some (i : Int)
  semi : ∀ i, L ≤ i → i < m → ∃ s : Nat, hi[i]? = some (s : Int) ∧ Semi E i s
  la : al.length = m
  lw : wt.length = m
  alk : ∀ i, i < m → ∃ u : Nat, al[i]? = some (u : Int) ∧ (i < L → u = i) ∧ (L ≤ i → Alk fr L hi i u ∨ ((i : Int) ∈ wt.getD (gN hi i) [] ∧ ∀ c, L ≤ c → c ≤ i → fr c ≠ gN hi i))
  wts : ∀ v, ∀ x ∈ wt.getD v [], ∃ i : Nat, x = (i : Int) ∧ L ≤ i ∧ i < m ∧ gN hi i = v
theorem NI.start {m : Nat} {E : Nat → Nat → Prop} {fr : Nat → Nat} {cnt : List Int} (hl : cnt.length = m) (hc : ∀ i, i < m → cnt[i]? = some (i : Int)) : NI m E fr m (List.replicate m (-1)) cnt cnt cnt (List.replicate m []) := by
  refine ⟨⟨by simp, hl, fun i _ hm => by rw [List.getElem?_replicate, if_pos hm], fun i _ hm => hc i hm, fun i h1 h2 => by omega⟩, hl, fun i _ hm => hc i hm, fun i h1 h2 => by omega, hl, by simp, fun i hm => ⟨i, hc i hm, fun _ => rfl, fun h => by omega⟩, fun v x hx => ?_⟩
  rw [List.getD_eq_getElem?_getD, List.getElem?_replicate] at hx
  split at hx <;> simp at hx
/-- While the nodes ahead of z are gone through; h: what is told of z so far. -/
structure PI (E : Nat → Nat → Prop) (fr : Nat → Nat) (z : Nat) (hi : List Int) (A : List Int) (h : Nat) : Prop where
  le : h ≤ z
  sp : h = z ∨ SP E h z
  lo : ∀ v : Nat, (v : Int) ∈ A → v < z → h ≤ v
  up : ∀ v : Nat, (v : Int) ∈ A → z < v → ∀ u, Anc fr u v → z < u → h ≤ gN hi u
theorem PI.start {E : Nat → Nat → Prop} {fr : Nat → Nat} {z : Nat} {hi : List Int} : PI E fr z hi [] z :=
  ⟨Nat.le_refl _, .inl rfl, fun _ h => (by cases h), fun _ h => (by cases h)⟩
theorem PI.step {m : Nat} {E : Nat → Nat → Prop} {fr : Nat → Nat} (D : Dfs m E fr) {z : Nat} {hi hi' A : List Int} {h v b c : Nat} (H : PI E fr z hi A h) (hsemi : ∀ i, z + 1 ≤ i → i < m → ∃ s : Nat, hi[i]? = some (s : Int) ∧ Semi E i s) (he : E v z) (hb : Hst fr (z + 1) hi v b)
    (h1 : v < z → c = v) (h2 : v = z → c = h) (h3 : z < v → c = gN hi b) (hhi : ∀ i, z < i → gN hi' i = gN hi i) : PI E fr z hi' (A ++ [(v : Int)]) (min h c) := by
  rcases Nat.lt_trichotomy v z with hc | hc | hc
  · have := h1 hc
    subst this
    refine ⟨by have := H.le; omega, ?_, fun x hx hxz => ?_, fun x hx hxz u ha hu => ?_⟩
    · rcases Nat.le_total h c with hh | hh
      · rw [Nat.min_eq_left hh]; exact H.sp
      · rw [Nat.min_eq_right hh]; exact .inr ⟨z, he, .inl rfl⟩
    · rcases List.mem_append.1 hx with hx | hx
      · have := H.lo x hx hxz; omega
      · simp at hx; omega
    · rcases List.mem_append.1 hx with hx | hx
      · have := H.up x hx hxz u ha hu
        rw [hhi u hu]; omega
      · simp at hx; omega
  · have := h2 hc
    subst this
    rw [Nat.min_self]
    refine ⟨H.le, H.sp, fun x hx hxz => ?_, fun x hx hxz u ha hu => ?_⟩
    · rcases List.mem_append.1 hx with hx | hx
      · exact H.lo x hx hxz
      · simp at hx; omega
    · rcases List.mem_append.1 hx with hx | hx
      · rw [hhi u hu]; exact H.up x hx hxz u ha hu
      · simp at hx; omega
  · have hcb := h3 hc
    obtain ⟨k1, k2, k3⟩ := hb.2 (by omega)
    have hvm := (D.lt _ _ he).1
    have hbm : b < m := by have := k2.le D.frlt; omega
    obtain ⟨s, e1, e2⟩ := hsemi b k1 hbm
    have e3 := gN_at e1
    refine ⟨by have := H.le; omega, ?_, fun x hx hxz => ?_, fun x hx hxz u ha hu => ?_⟩
    · rcases Nat.le_total h c with hh | hh
      · rw [Nat.min_eq_left hh]; exact H.sp
      · rw [Nat.min_eq_right hh, hcb, e3]; exact .inr (sp_over D he (by omega) k2 e2.1)
    · rcases List.mem_append.1 hx with hx | hx
      · have := H.lo x hx hxz; omega
      · simp at hx; omega
    · rw [hhi u hu]
      rcases List.mem_append.1 hx with hx | hx
      · have := H.up x hx hxz u ha hu; omega
      · have hxv : x = v := by simp at hx; omega
        subst hxv
        have := k3 u (by omega) ha
        omega
theorem PI.semi {m : Nat} {E : Nat → Nat → Prop} {fr : Nat → Nat} (D : Dfs m E fr) {z : Nat} {hi A : List Int} {h : Nat} (H : PI E fr z hi A h) (h0 : 0 < z) (hz : z < m) (hA : ∀ v, E v z → (v : Int) ∈ A) (hsemi : ∀ i, z + 1 ≤ i → i < m → ∃ s : Nat, hi[i]? = some (s : Int) ∧ Semi E i s) : Semi E z h ∧ h < z := by
  have h1 := D.frlt z h0
  have h2 := H.lo (fr z) (hA _ (D.edge z h0 hz)) h1
  refine ⟨semi_of (sd := gN hi) D h0 hz (fun i h3 h4 => ?_) (fun v he hv => H.lo v (hA v he) hv) (fun v u he hv ha hu => H.up v (hA v he) hv u ha hu) (H.sp.resolve_left (by omega)), by omega⟩
  obtain ⟨s, e1, e2⟩ := hsemi i (by omega) h4
  rw [gN_at e1]
  exact e2
/-- Those that wait are set. -/
structure QI (m : Nat) (fr : Nat → Nat) (z : Nat) (hi al0 al R : List Int) : Prop where
  la : al.length = m
  set : ∀ i : Nat, (i : Int) ∈ R → ∃ u : Nat, al[i]? = some (u : Int) ∧ Alk fr z hi i u
  not : ∀ i : Nat, ¬ (i : Int) ∈ R → al[i]? = al0[i]?
theorem alk_of {m : Nat} {E : Nat → Nat → Prop} {fr : Nat → Nat} (D : Dfs m E fr) {z : Nat} {hi : List Int} {i b : Nat} (h0 : 0 < z) (hi1 : z ≤ i) (him : i < m) (hh : gN hi i = fr z) (hb : Hst fr z hi i b) : Alk fr z hi i b := by
  obtain ⟨k1, k2, k3⟩ := hb.2 hi1
  have h1 := D.frlt z h0
  refine ⟨by omega, k2, fun y hy ha => ?_⟩
  have hzy : z ≤ y := by
    rcases Nat.lt_or_ge y z with hc | hc
    · exfalso
      have h2 := D.mid y z i (by omega) hi1 him ha
      cases h2 with
      | refl => omega
      | up _ h2 => have := h2.le D.frlt; omega
    · exact hc
  exact ⟨hzy, k3 y hzy ha⟩
theorem QI.step {m : Nat} {E : Nat → Nat → Prop} {fr : Nat → Nat} (D : Dfs m E fr) {z : Nat} {hi al0 al R : List Int} (H : QI m fr z hi al0 al R) {i b : Nat} (h0 : 0 < z) (hi1 : z ≤ i) (him : i < m) (hh : gN hi i = fr z) (hb : Hst fr z hi i b) : QI m fr z hi al0 (al.set i (b : Int)) (R ++ [(i : Int)]) := by
  have hla := H.la
  refine ⟨by simpa using hla, fun j hj => ?_, fun j hj => ?_⟩
  · by_cases e : i = j
    · subst e
      exact ⟨b, by rw [List.getElem?_set, if_pos rfl, if_pos (by omega)], alk_of D h0 hi1 him hh hb⟩
    · rw [List.getElem?_set, if_neg e]
      refine H.set j ?_
      rcases List.mem_append.1 hj with h1 | h1
      · exact h1
      · simp at h1; omega
  · have h1 : ¬ (j : Int) ∈ R := fun hc => hj (by simp [hc])
    have h2 : i ≠ j := fun e => hj (by simp [e])
    rw [List.getElem?_set, if_neg h2]
    exact H.not j h1
theorem getD_modify {rows : List (List Int)} {k v : Nat} {x : Int} (hk : k < rows.length) : (rows.modify k (· ++ [x])).getD v [] = if k = v then rows.getD v [] ++ [x] else rows.getD v [] := by
  rw [List.getD_eq_getElem?_getD, List.getElem?_modify, List.getD_eq_getElem?_getD]
  by_cases e : k = v
  · subst e
    rw [if_pos rfl, List.getElem?_eq_getElem hk]
    simp
  · rw [if_neg e]
    cases rows[v]? <;> simp [e]
theorem getD_setE {rows : List (List Int)} {k v : Nat} : (rows.set k []).getD v [] = if k = v then [] else rows.getD v [] := by
  rw [List.getD_eq_getElem?_getD, List.getElem?_set, List.getD_eq_getElem?_getD]
  by_cases e : k = v
  · subst e
    rw [if_pos rfl, if_pos rfl]
    split <;> rfl
  · rw [if_neg e, if_neg e]
theorem NI.next {m : Nat} {E : Nat → Nat → Prop} {fr : Nat → Nat} (D : Dfs m E fr) {z : Nat} {ov be hi0 al : List Int} {wt : List (List Int)} (H : NI m E fr (z + 1) ov be hi0 al wt) (h0 : 0 < z) (hz : z < m) {h : Nat} {hi : List Int} (hhi : hi = hi0.set z (h : Int)) (hs : Semi E z h) (hlt : h < z)
    {ov' be' al' : List Int} (hF : FI m fr z ov' be' hi) {R : List Int} (hR : R = (wt.modify h (· ++ [(z : Int)])).getD (fr z) []) (hQ : QI m fr z hi al al' R) : NI m E fr z ov' be' hi al' ((wt.modify h (· ++ [(z : Int)])).set (fr z) []) := by
  have hlh := H.lh
  have hlw := H.lw
  have gz : gN hi z = h := by rw [hhi]; exact gN_same (by omega)
  have go : ∀ i, i ≠ z → gN hi i = gN hi0 i := fun i hi' => by rw [hhi]; exact gN_set (fun e => hi' e.symm)
  have hfz := D.frlt z h0
  have rowR : R = if h = fr z then wt.getD (fr z) [] ++ [(z : Int)] else wt.getD (fr z) [] := by rw [hR, getD_modify (by omega)]
  have memR : ∀ x ∈ R, ∃ i : Nat, x = (i : Int) ∧ z ≤ i := fun x hx => by
    rw [rowR] at hx
    split at hx
    · rcases List.mem_append.1 hx with h1 | h1
      · obtain ⟨i, e1, e2, _⟩ := H.wts _ x h1
        exact ⟨i, e1, by omega⟩
      · simp at h1; exact ⟨z, h1, Nat.le_refl _⟩
    · obtain ⟨i, e1, e2, _⟩ := H.wts _ x hx
      exact ⟨i, e1, by omega⟩
  refine ⟨hF, by rw [hhi]; simpa using hlh, fun i h1 h2 => ?_, fun i h1 h2 => ?_, hQ.la, by simpa using hlw, fun i him => ?_, fun v x hx => ?_⟩
  · rw [hhi, List.getElem?_set, if_neg (by omega)]; exact H.lowH i (by omega) h2
  · by_cases e : i = z
    · subst e
      exact ⟨h, by rw [hhi, List.getElem?_set, if_pos rfl, if_pos (by omega)], hs⟩
    · obtain ⟨s, e1, e2⟩ := H.semi i (by omega) h2
      exact ⟨s, by rw [hhi, List.getElem?_set, if_neg (by omega)]; exact e1, e2⟩
  · by_cases hin : (i : Int) ∈ R
    · obtain ⟨u, h1, h2⟩ := hQ.set i hin
      obtain ⟨i', e1, e2⟩ := memR _ hin
      exact ⟨u, h1, fun hc => by omega, fun _ => .inl h2⟩
    · obtain ⟨u, h1, h2, h3⟩ := H.alk i him
      refine ⟨u, by rw [hQ.not i hin]; exact h1, fun hc => h2 (by omega), fun hzi => ?_⟩
      by_cases e : i = z
      · subst e
        right
        have hne : h ≠ fr i := fun e2 => hin (by rw [rowR, if_pos e2]; simp)
        rw [gz, getD_setE, if_neg (fun e2 => hne e2.symm), getD_modify (by omega), if_pos rfl]
        refine ⟨by simp, fun c hc1 hc2 => ?_⟩
        have : c = i := by omega
        subst this
        exact fun e2 => hne e2.symm
      · rcases h3 (by omega) with h4 | ⟨h4, h5⟩
        · left
          obtain ⟨k1, k2, k3⟩ := h4
          refine ⟨by rw [go i e]; exact k1, k2, fun y hy ha => ?_⟩
          rw [go i e] at hy
          obtain ⟨k4, k5⟩ := k3 y hy ha
          refine ⟨by omega, ?_⟩
          have hu := (k3 u k1 k2).1
          rw [go u (by omega), go y (by omega)]
          exact k5
        · right
          rw [go i e]
          have hne : fr z ≠ gN hi0 i := fun e2 => hin (by
            rw [rowR]
            split
            · rw [e2]; exact List.mem_append_left _ h4
            · rw [e2]; exact h4)
          rw [getD_setE, if_neg hne, getD_modify (by omega)]
          refine ⟨?_, fun c hc1 hc2 => ?_⟩
          · split
            · exact List.mem_append_left _ h4
            · exact h4
          · by_cases e3 : c = z
            · subst e3; exact hne
            · exact h5 c (by omega) hc2
  · rw [getD_setE] at hx
    split at hx
    · cases hx
    · rw [getD_modify (by omega)] at hx
      have old : x ∈ wt.getD v [] → ∃ i : Nat, x = (i : Int) ∧ z ≤ i ∧ i < m ∧ gN hi i = v := fun hx => by
        obtain ⟨i, e1, e2, e3, e4⟩ := H.wts v x hx
        exact ⟨i, e1, by omega, e3, by rw [go i (by omega)]; exact e4⟩
      split at hx
      · rename_i e
        rcases List.mem_append.1 hx with h1 | h1
        · exact old h1
        · simp at h1
          exact ⟨z, h1, Nat.le_refl _, hz, by rw [gz]; exact e⟩
      · exact old hx
theorem child {fr : Nat → Nat} (hf : ∀ i, 0 < i → fr i < i) {a i : Nat} (h : Anc fr a i) (hl : a < i) : ∃ c, 0 < c ∧ c ≤ i ∧ fr c = a := by
  induction h with
  | refl => omega
  | @up b h0 h ih =>
    rcases Nat.lt_or_ge a (fr b) with h1 | h1
    · obtain ⟨c, h2, h3, h4⟩ := ih h1
      have := hf b h0
      exact ⟨c, h2, by omega, h4⟩
    · have := h.le hf
      exact ⟨b, h0, Nat.le_refl _, by omega⟩
/-- Each leads to one that has the same nearest one. -/
structure SI (m : Nat) (E : Nat → Nat → Prop) (hi al : List Int) : Prop where
  la : al.length = m
  zero : 0 < m → al[0]? = some 0
  each : ∀ i, 0 < i → i < m → ∃ u : Nat, al[i]? = some (u : Int) ∧ ((u = i ∧ NearN E i (gN hi i)) ∨ (0 < u ∧ u < i ∧ ∀ k, NearN E u k → NearN E i k))
theorem NI.last {m : Nat} {E : Nat → Nat → Prop} {fr : Nat → Nat} (D : Dfs m E fr) {ov be hi al : List Int} {wt : List (List Int)} (H : NI m E fr 1 ov be hi al wt) : SI m E hi al := by
  have hsd : ∀ i, 0 < i → i < m → Semi E i (gN hi i) := fun i h0 him => by
    obtain ⟨s, e1, e2⟩ := H.semi i (by omega) him
    rw [gN_at e1]; exact e2
  refine ⟨H.la, fun hm => ?_, fun i h0 him => ?_⟩
  · obtain ⟨u, h1, h2, _⟩ := H.alk 0 hm
    rw [h2 (by omega)] at h1
    exact h1
  · obtain ⟨u, h1, _, h3⟩ := H.alk i him
    refine ⟨u, h1, ?_⟩
    have hs := hsd i h0 him
    rcases h3 (by omega) with ⟨k1, k2, k3⟩ | ⟨_, h5⟩
    · have hle := k2.le D.frlt
      by_cases e : u = i
      · subst e
        exact .inl ⟨rfl, near_self D hsd h0 him fun y hy ha => (k3 y hy ha).2⟩
      · exact .inr ⟨by omega, by omega, fun k hk => near_like D hsd h0 him k1 k2 (fun y hy ha => (k3 y hy ha).2) hk⟩
    · exfalso
      obtain ⟨c, h6, h7, h8⟩ := child D.frlt (hs.anc D h0 him) (hs.par D h0 him).2
      exact h5 c h6 h7 h8
theorem SI.step {m : Nat} {E : Nat → Nat → Prop} {hi al : List Int} (H : SI m E hi al) {i j k : Nat} (him : i < m) (h1 : al[i]? = some (j : Int)) (h2 : al[j]? = some (k : Int)) (hne : k ≠ j) : SI m E hi (al.set i (k : Int)) ∧ k < j := by
  have hla := H.la
  have hjm : j < m := by have := (List.getElem?_eq_some_iff.1 h2).1; omega
  have hj0 : 0 < j := by
    rcases Nat.eq_zero_or_pos j with e | e
    · subst e; rw [H.zero (by omega)] at h2; cases h2; exact absurd rfl hne
    · exact e
  obtain ⟨u, g1, g2⟩ := H.each j hj0 hjm
  rw [h2] at g1
  have : k = u := by cases g1; rfl
  subst this
  have g3 := g2.resolve_left (fun hc => hne hc.1)
  have hi0 : 0 < i := by
    rcases Nat.eq_zero_or_pos i with e | e
    · subst e; rw [H.zero (by omega)] at h1
      have : j = 0 := by cases h1; rfl
      omega
    · exact e
  obtain ⟨u, f1, f2⟩ := H.each i hi0 him
  rw [h1] at f1
  have : j = u := by cases f1; rfl
  subst this
  refine ⟨⟨by simpa using hla, fun hm => by rw [List.getElem?_set, if_neg (by omega)]; exact H.zero hm, fun x hx hxm => ?_⟩, g3.2.1⟩
  by_cases e : i = x
  · subst e
    refine ⟨k, by rw [List.getElem?_set, if_pos rfl, if_pos (by omega)], .inr ?_⟩
    rcases f2 with ⟨e1, _⟩ | ⟨f3, f4, f5⟩
    · subst e1
      exact g3
    · exact ⟨g3.1, by omega, fun q hq => f5 q (g3.2.2 q hq)⟩
  · rw [List.getElem?_set, if_neg e]
    exact H.each x hx hxm
theorem SI.near {m : Nat} {E : Nat → Nat → Prop} {hi al : List Int} (H : SI m E hi al) (hset : ∀ i : Nat, i < m → ∀ j k : Nat, al[i]? = some (j : Int) → al[j]? = some (k : Int) → k = j) {i j : Nat} (h0 : 0 < i) (him : i < m) (h1 : al[i]? = some (j : Int)) : j < m ∧ NearN E i (gN hi j) := by
  have hla := H.la
  obtain ⟨u, f1, f2⟩ := H.each i h0 him
  rw [h1] at f1
  have : j = u := by cases f1; rfl
  subst this
  rcases f2 with ⟨rfl, f3⟩ | ⟨f3, f4, f5⟩
  · exact ⟨him, f3⟩
  · have hjm : j < m := by omega
    refine ⟨hjm, f5 _ ?_⟩
    obtain ⟨u, g1, g2⟩ := H.each j f3 hjm
    have := hset i him j u h1 g1
    subst this
    exact (g2.resolve_right (fun hc => by omega)).2
end Lt
end Go.Proofs.YtogjjmbcbnceoaaGreat
