/- Nets: what is reached, what stands over what, the nearest one. No program. -/
namespace Go.Proofs.YtogjjmbcbnceoaaGreat

/-- A proposition as a truth. -/
noncomputable def dec (p : Prop) : Bool := @decide p (Classical.propDecidable p)
theorem dec_iff {p : Prop} : dec p = true ↔ p := by unfold dec; exact @decide_eq_true_iff p (Classical.propDecidable p)
theorem dec_true {p : Prop} (h : p) : dec p = true := dec_iff.2 h
theorem dec_false {p : Prop} (h : ¬ p) : dec p = false := by
  rcases hd : dec p with _ | _
  · rfl
  · exact absurd (dec_iff.1 hd) h
theorem dec_congr {p q : Prop} (h : p ↔ q) : dec p = dec q := by rw [propext h]

/-- Reached from the entry by edges, none of which leads from a node of S. -/
inductive Rch (nx : List (List Int)) (S : Nat → Prop) : Nat → Prop
  | entry : Rch nx S 0
  | step {i j : Nat} : Rch nx S i → ¬ S i → (j : Int) ∈ nx.getD i [] → Rch nx S j
abbrev noneS : Nat → Prop := fun _ => False
/-- May be a net. -/
def May (nx : List (List Int)) : Prop := 0 < nx.length ∧ ∀ r ∈ nx, ∀ x ∈ r, 0 ≤ x ∧ x < (nx.length : Int)
theorem May.lt {nx : List (List Int)} (h : May nx) {i j : Nat} (he : (j : Int) ∈ nx.getD i []) : i < nx.length ∧ j < nx.length := by
  rcases Nat.lt_or_ge i nx.length with hi | hi
  · have e : nx.getD i [] = nx[i] := by simp [List.getD, List.getElem?_eq_getElem hi]
    rw [e] at he
    have := (h.2 _ (List.getElem_mem hi) _ he).2
    exact ⟨hi, by omega⟩
  · simp [List.getD, List.getElem?_eq_none hi] at he
theorem Rch.lt {nx : List (List Int)} {S : Nat → Prop} (h : May nx) {j : Nat} (hr : Rch nx S j) : j < nx.length := by
  cases hr with
  | entry => exact h.1
  | step _ _ he => exact (h.lt he).2
theorem Rch.mono {nx : List (List Int)} {S T : Nat → Prop} (h : ∀ i, T i → S i) {j : Nat} (hr : Rch nx S j) : Rch nx T j := by
  induction hr with
  | entry => exact .entry
  | step _ hs he ih => exact .step ih (fun ht => hs (h _ ht)) he
theorem Rch.any {nx : List (List Int)} {S : Nat → Prop} {j : Nat} (hr : Rch nx S j) : Rch nx noneS j := hr.mono (fun _ h => h.elim)
/-- A way either does not go on from b, or comes to it. -/
theorem Rch.split {nx : List (List Int)} {S : Nat → Prop} (b : Nat) {j : Nat} (hr : Rch nx S j) : Rch nx (fun i => S i ∨ i = b) j ∨ Rch nx S b := by
  induction hr with
  | entry => exact .inl .entry
  | @step i j hi hs he ih =>
    rcases ih with h | h
    · by_cases e : i = b
      · subst e; exact .inr hi
      · exact .inl (.step h (fun hc => hc.elim hs e) he)
    · exact .inr h
/-- a stands over b. -/
def Ov (nx : List (List Int)) (a b : Nat) : Prop := Rch nx noneS a ∧ Rch nx noneS b ∧ (a = b ∨ ¬ Rch nx (· = a) b)
theorem Ov.refl {nx : List (List Int)} {a : Nat} (h : Rch nx noneS a) : Ov nx a a := ⟨h, h, .inl rfl⟩
theorem Ov.trans {nx : List (List Int)} {a b c : Nat} (h1 : Ov nx a b) (h2 : Ov nx b c) : Ov nx a c := by
  refine ⟨h1.1, h2.2.1, ?_⟩
  by_cases hac : a = c
  · exact .inl hac
  · rcases h1.2.2 with rfl | n1
    · exact h2.2.2
    · rcases h2.2.2 with rfl | n2
      · exact .inr n1
      · refine .inr fun hr => ?_
        rcases hr.split b with h | h
        · exact n2 (h.mono fun i hi => .inr hi)
        · exact n1 h
theorem Ov.anti {nx : List (List Int)} {a b : Nat} (h1 : Ov nx a b) (h2 : Ov nx b a) : a = b := by
  by_cases hab : a = b
  · exact hab
  · exfalso
    have n1 := h1.2.2.resolve_left hab
    have n2 := h2.2.2.resolve_left (fun e => hab e.symm)
    rcases h1.1.split b with h | h
    · exact n2 (h.mono fun i hi => .inr hi)
    · rcases h.split a with h | h
      · exact n1 (h.mono fun i hi => .inr hi)
      · rcases h.split b with h | h
        · exact n2 (h.mono fun i hi => .inr hi)
        · rcases h1.2.1.split a with h | h
          · exact n1 (h.mono fun i hi => .inr hi)
          · have key : ∀ j, Rch nx noneS j → Rch nx (fun i => i = a ∨ i = b) j ∨ Rch nx (fun i => i = a ∨ i = b) a ∨ Rch nx (fun i => i = a ∨ i = b) b := by
              intro j hj
              induction hj with
              | entry => exact .inl .entry
              | @step i j hi hs he ih =>
                rcases ih with h | h
                · by_cases e1 : i = a
                  · subst e1; exact .inr (.inl h)
                  · by_cases e2 : i = b
                    · subst e2; exact .inr (.inr h)
                    · exact .inl (.step h (fun hc => hc.elim e1 e2) he)
                · exact .inr h
            rcases key a h with h | h | h
            · exact n2 (h.mono fun i hi => .inr hi)
            · exact n2 (h.mono fun i hi => .inr hi)
            · exact n1 (h.mono fun i hi => .inl hi)
theorem Ov.chain {nx : List (List Int)} {a b c : Nat} (h1 : Ov nx a c) (h2 : Ov nx b c) : Ov nx a b ∨ Ov nx b a := by
  by_cases hab : a = b
  · subst hab; exact .inl (.refl h1.1)
  · by_cases e1 : Rch nx (· = a) b
    · by_cases e2 : Rch nx (· = b) a
      · exfalso
        have key : ∀ j, Rch nx noneS j → Rch nx (· = a) j ∨ Rch nx (· = b) j := by
          intro j hj
          induction hj with
          | entry => exact .inl .entry
          | @step i j hi hs he ih =>
            rcases ih with h | h
            · by_cases e : i = a
              · subst e; exact .inr (.step e2 hab he)
              · exact .inl (.step h e he)
            · by_cases e : i = b
              · subst e; exact .inl (.step e1 (fun e => hab e.symm) he)
              · exact .inr (.step h e he)
        rcases h1.2.2 with rfl | n1
        · rcases h2.2.2 with rfl | n2
          · exact hab rfl
          · exact n2 e2
        · rcases h2.2.2 with rfl | n2
          · exact n1 e1
          · rcases key c h1.2.1 with h | h
            · exact n1 h
            · exact n2 h
      · exact .inr ⟨h2.1, h1.1, .inr e2⟩
    · exact .inl ⟨h1.1, h2.1, .inr e1⟩
theorem Ov.entry {nx : List (List Int)} {b : Nat} (h : Rch nx noneS b) : Ov nx 0 b := by
  refine ⟨.entry, h, ?_⟩
  by_cases e : 0 = b
  · exact .inl e
  · refine .inr fun hr => ?_
    have key : ∀ j, Rch nx (· = 0) j → j = 0 := by
      intro j hj
      induction hj with
      | entry => rfl
      | step _ hs _ ih => exact absurd ih hs
    exact e (key b hr).symm
theorem Ov.top {nx : List (List Int)} {a : Nat} (h : Ov nx a 0) : a = 0 := by
  rcases h.2.2 with e | n
  · exact e
  · exact absurd .entry n
/-- What stands strictly over a node stands over all that lead to it. -/
theorem Ov.ahead {nx : List (List Int)} {a b i : Nat} (h : Ov nx a b) (hab : a ≠ b) (hi : Rch nx noneS i) (he : (b : Int) ∈ nx.getD i []) : Ov nx a i := by
  refine ⟨h.1, hi, ?_⟩
  by_cases e : a = i
  · exact .inl e
  · exact .inr fun hr => (h.2.2.resolve_left hab) (.step hr (fun e2 => e e2.symm) he)
/-- The nearest one over a node. -/
def Near (nx : List (List Int)) (b : Nat) (d : Int) : Prop :=
  (∃ k : Nat, d = (k : Int) ∧ k ≠ b ∧ Ov nx k b ∧ ∀ c, c ≠ b → Ov nx c b → Ov nx c k) ∨ (d = -1 ∧ ∀ c, c ≠ b → ¬ Ov nx c b)
theorem Near.uniq {nx : List (List Int)} {b : Nat} {d e : Int} (h1 : Near nx b d) (h2 : Near nx b e) : d = e := by
  rcases h1 with ⟨k, rfl, hk, ho, ha⟩ | ⟨rfl, hn⟩
  · rcases h2 with ⟨m, rfl, hm, ho2, ha2⟩ | ⟨_, hn⟩
    · have := (ha2 k hk ho).anti (ha m hm ho2)
      rw [this]
    · exact absurd ho (hn k hk)
  · rcases h2 with ⟨m, rfl, hm, ho2, ha2⟩ | ⟨rfl, _⟩
    · exact absurd ho2 (hn m hm)
    · rfl
/-- As the document finds it: of the nodes up to k. -/
noncomputable def nearF (nx : List (List Int)) (b : Nat) : Nat → Int
  | 0 => -1
  | k + 1 => if dec (k ≠ b ∧ Ov nx k b ∧ (nearF nx b k < 0 ∨ Ov nx (nearF nx b k).toNat k)) then (k : Int) else nearF nx b k
theorem nearF_is (nx : List (List Int)) (b : Nat) : ∀ n, (∃ k : Nat, nearF nx b n = (k : Int) ∧ k < n ∧ k ≠ b ∧ Ov nx k b ∧ ∀ c, c < n → c ≠ b → Ov nx c b → Ov nx c k) ∨ (nearF nx b n = -1 ∧ ∀ c, c < n → c ≠ b → ¬ Ov nx c b)
  | 0 => .inr ⟨rfl, fun c hc => by omega⟩
  | n + 1 => by
    unfold nearF
    rcases nearF_is nx b n with ⟨k, e, hk, hkb, ho, ha⟩ | ⟨e, hn⟩
    · rw [e]
      by_cases hc : n ≠ b ∧ Ov nx n b ∧ ((k : Int) < 0 ∨ Ov nx ((k : Int)).toNat n)
      · rw [dec_true hc]
        refine .inl ⟨n, rfl, by omega, hc.1, hc.2.1, fun c hcn hcb hoc => ?_⟩
        rcases Nat.lt_or_ge c n with h | h
        · have h3 : Ov nx k n := by
            rcases hc.2.2 with h0 | h0
            · omega
            · simpa using h0
          exact (ha c h hcb hoc).trans h3
        · have : c = n := by omega
          subst this; exact .refl hoc.1
      · rw [dec_false hc]
        refine .inl ⟨k, rfl, by omega, hkb, ho, fun c hcn hcb hoc => ?_⟩
        rcases Nat.lt_or_ge c n with h | h
        · exact ha c h hcb hoc
        · have : c = n := by omega
          subst this
          rcases ho.chain hoc with h3 | h3
          · exact absurd ⟨hcb, hoc, .inr (by simpa using h3)⟩ hc
          · exact h3
    · rw [e]
      by_cases hc : n ≠ b ∧ Ov nx n b ∧ ((-1 : Int) < 0 ∨ Ov nx ((-1 : Int)).toNat n)
      · rw [dec_true hc]
        refine .inl ⟨n, rfl, by omega, hc.1, hc.2.1, fun c hcn hcb hoc => ?_⟩
        rcases Nat.lt_or_ge c n with h | h
        · exact absurd hoc (hn c h hcb)
        · have : c = n := by omega
          subst this; exact .refl hoc.1
      · rw [dec_false hc]
        refine .inr ⟨rfl, fun c hcn hcb hoc => ?_⟩
        rcases Nat.lt_or_ge c n with h | h
        · exact hn c h hcb hoc
        · have : c = n := by omega
          subst this
          exact hc ⟨hcb, hoc, .inl (by omega)⟩
/-- The tree, as a list. -/
noncomputable def treeL (nx : List (List Int)) : List Int := (List.range nx.length).map fun b => nearF nx b nx.length
theorem treeL_len (nx : List (List Int)) : (treeL nx).length = nx.length := by simp [treeL]
theorem treeL_get {nx : List (List Int)} {b : Nat} (hb : b < nx.length) : (treeL nx).getD b 0 = nearF nx b nx.length := by
  simp [treeL, List.getD, List.getElem?_map, List.getElem?_range hb]
theorem near_is {nx : List (List Int)} (h : May nx) (b : Nat) : Near nx b (nearF nx b nx.length) := by
  rcases nearF_is nx b nx.length with ⟨k, e, hk, hkb, ho, ha⟩ | ⟨e, hn⟩
  · exact .inl ⟨k, e, hkb, ho, fun c hcb hoc => ha c (hoc.1.lt h) hcb hoc⟩
  · exact .inr ⟨e, fun c hcb hoc => hn c (hoc.1.lt h) hcb hoc⟩
/-- Whoever tells the nearest ones tells the tree. -/
theorem treeL_uniq {nx : List (List Int)} (h : May nx) {t : List Int} (hl : t.length = nx.length) (hn : ∀ b, b < nx.length → Near nx b (t.getD b 0)) : t = treeL nx := by
  apply List.ext_getElem
  · rw [hl, treeL_len]
  · intro i h1 h2
    have e1 : t.getD i 0 = t[i] := by simp [List.getD, List.getElem?_eq_getElem h1]
    have e2 : (treeL nx).getD i 0 = (treeL nx)[i] := by simp [List.getD, List.getElem?_eq_getElem h2]
    rw [← e1, ← e2, treeL_get (by omega)]
    exact (hn i (by omega)).uniq (near_is h i)
theorem near_none {nx : List (List Int)} {b : Nat} (h : ¬ Rch nx noneS b) : Near nx b (-1) := .inr ⟨rfl, fun _ _ ho => h ho.2.1⟩
theorem near_entry (nx : List (List Int)) : Near nx 0 (-1) := .inr ⟨rfl, fun _ hc ho => hc ho.top⟩
/-- Going up a list. -/
def overF (t : List Int) (a : Int) : Nat → Int → Bool
  | 0, _ => false
  | f + 1, b => if a = b then true else if 0 ≤ t.getD b.toNat 0 ∧ t.getD b.toNat 0 < (t.length : Int) then overF t a f (t.getD b.toNat 0) else false
def overL (t : List Int) (a b : Int) : Bool := if (0 ≤ a ∧ a < (t.length : Int)) ∧ (0 ≤ b ∧ b < (t.length : Int)) then overF t a (t.length + 1) b else false
/-- How many stand over a node. -/
noncomputable def cntO (nx : List (List Int)) (b n : Nat) : Nat := ((List.range n).filter fun a => dec (Ov nx a b)).length
theorem filter_lt {α : Type} {p q : α → Bool} : ∀ {l : List α} {x : α}, (∀ y ∈ l, p y = true → q y = true) → x ∈ l → q x = true → p x = false → (l.filter p).length < (l.filter q).length
  | a :: l, x, hpq, hx, hq, hp => by
    have hle : (l.filter p).length ≤ (l.filter q).length := by
      clear hx hp hq
      induction l with
      | nil => simp
      | cons b l ih =>
        have h1 := hpq b (by simp)
        have h2 := ih (fun y hy => hpq y (by simp at hy ⊢; rcases hy with h | h <;> simp [h]))
        simp only [List.filter_cons]
        rcases hpb : p b with _ | _
        · rcases hqb : q b with _ | _
          · simpa using h2
          · simp; omega
        · rw [h1 hpb]; simpa using h2
    rcases List.mem_cons.1 hx with rfl | hx
    · simp only [List.filter_cons, hp, hq]
      simp; omega
    · have h2 := filter_lt (p := p) (q := q) (l := l) (fun y hy => hpq y (by simp [hy])) hx hq hp
      have h1 := hpq a (by simp)
      simp only [List.filter_cons]
      rcases hpa : p a with _ | _
      · rcases hqa : q a with _ | _
        · simpa using h2
        · simp; omega
      · rw [h1 hpa]; simpa using h2
theorem cnt_near {nx : List (List Int)} (h : May nx) {b k : Nat} (hkb : k ≠ b) (ho : Ov nx k b) : cntO nx k nx.length < cntO nx b nx.length := by
  unfold cntO
  refine filter_lt (x := b) (fun y _ hy => dec_true ((dec_iff.1 hy).trans ho)) (List.mem_range.2 (ho.2.1.lt h)) (dec_true (.refl ho.2.1)) (dec_false fun hc => hkb (ho.anti hc))
theorem overF_is {nx : List (List Int)} (h : May nx) {a : Nat} : ∀ (f b : Nat), Rch nx noneS b → cntO nx b nx.length ≤ f → overF (treeL nx) (a : Int) f (b : Int) = dec (Ov nx a b)
  | 0, b, hb, hc => by
    exfalso
    have : 0 < cntO nx b nx.length := by
      unfold cntO
      exact List.length_pos_of_mem (List.mem_filter.2 ⟨List.mem_range.2 (hb.lt h), dec_true (.refl hb)⟩)
    omega
  | f + 1, b, hb, hc => by
    unfold overF
    by_cases e : (a : Int) = b
    · have e' : a = b := by omega
      subst e'
      rw [if_pos rfl, dec_true (.refl hb)]
    · rw [if_neg e, Int.toNat_natCast, treeL_get (hb.lt h), treeL_len]
      rcases near_is h b with ⟨k, e2, hkb, ho, ha⟩ | ⟨e2, hn⟩
      · rw [e2, if_pos ⟨by omega, by have := ho.1.lt h; omega⟩]
        rw [overF_is h f k ho.1 (by have := cnt_near h hkb ho; omega)]
        refine dec_congr ⟨fun hx => hx.trans ho, fun hx => ha a (fun e3 => e (by omega)) hx⟩
      · rw [e2, if_neg (by omega)]
        exact (dec_false (hn a (fun e3 => e (by omega)))).symm
theorem cnt_le (nx : List (List Int)) (b n : Nat) : cntO nx b n ≤ n := by
  unfold cntO
  exact Nat.le_trans (List.length_filter_le _ _) (by simp)
/-- Over, by the tree, is standing over. -/
theorem overL_is {nx : List (List Int)} (h : May nx) {a b : Nat} (ha : a < nx.length) (hb : Rch nx noneS b) : overL (treeL nx) (a : Int) (b : Int) = dec (Ov nx a b) := by
  unfold overL
  rw [treeL_len, if_pos ⟨⟨by omega, by omega⟩, by omega, by have := hb.lt h; omega⟩]
  exact overF_is h _ b hb (by have := cnt_le nx b nx.length; omega)
theorem overL_none {nx : List (List Int)} (h : May nx) {a b : Nat} (ha : a < nx.length) (hbn : b < nx.length) (hb : ¬ Rch nx noneS b) : overL (treeL nx) (a : Int) (b : Int) = decide (a = b) := by
  unfold overL
  rw [treeL_len, if_pos ⟨⟨by omega, by omega⟩, by omega, by omega⟩]
  unfold overF
  by_cases e : a = b
  · subst e; simp
  · rw [if_neg (by omega), Int.toNat_natCast, treeL_get hbn, (near_is h b).uniq (near_none hb), if_neg (by omega)]
    simp [e]
end Go.Proofs.YtogjjmbcbnceoaaGreat
/- Going through a net by nodes that wait: what is met is what is reached. No program. -/
namespace Go.Proofs.YtogjjmbcbnceoaaGreat

def cntF (met : List Bool) : Nat := met.count false
theorem cntF_set {met : List Bool} {k : Nat} (h : met.getD k true = false) : cntF (met.set k true) + 1 = cntF met := by
  unfold cntF
  have hk : k < met.length := by
    rcases Nat.lt_or_ge k met.length with h1 | h1
    · exact h1
    · simp [List.getD, List.getElem?_eq_none h1] at h
  have he : met[k] = false := by simpa [List.getD, List.getElem?_eq_getElem hk] using h
  rw [List.count_set hk, he]
  have : 0 < met.count false := List.count_pos_iff.2 (he ▸ List.getElem_mem hk)
  simp; omega
theorem getD_setB {met : List Bool} {k i : Nat} {b : Bool} (hk : k < met.length) : (met.set k true).getD i b = if k = i then true else met.getD i b := by
  simp only [List.getD, List.getElem?_set]
  by_cases e : k = i
  · subst e; simp [hk]
  · simp [e]
theorem getD_of {α : Type} {l : List α} {i : Nat} (h : i < l.length) (d : α) : l.getD i d = l[i] := by
  unfold List.getD
  rw [List.getElem?_eq_getElem h]
  rfl
theorem getD_at {l : List Int} {q : Nat} (hq : q < l.length) : l.getD q 0 = l[q] := by
  unfold List.getD
  rw [List.getElem?_eq_getElem hq]
  rfl
theorem getD_mem {l : List Int} {q : Nat} (hq : q < l.length) : l.getD q 0 ∈ l := by
  rw [getD_at hq]
  exact List.getElem_mem hq
/-- What is reached, as a row. -/
noncomputable def reachL (nx : List (List Int)) (S : Nat → Prop) : List Bool := (List.range nx.length).map fun j => dec (Rch nx S j)
theorem reachL_len (nx : List (List Int)) (S : Nat → Prop) : (reachL nx S).length = nx.length := by simp [reachL]
theorem reachL_get {nx : List (List Int)} {S : Nat → Prop} {j : Nat} (hj : j < nx.length) (b : Bool) : (reachL nx S).getD j b = dec (Rch nx S j) := by
  simp [reachL, List.getD, List.getElem?_map, List.getElem?_range hj]
theorem reachL_of {nx : List (List Int)} {S : Nat → Prop} {met : List Bool} (hl : met.length = nx.length) (h : ∀ j, j < nx.length → (met.getD j false = true ↔ Rch nx S j)) : met = reachL nx S := by
  apply List.ext_getElem
  · rw [hl, reachL_len]
  · intro i h1 h2
    have e1 : met.getD i false = met[i] := by simp [List.getD, List.getElem?_eq_getElem h1]
    have e2 : (reachL nx S).getD i false = (reachL nx S)[i] := by simp [List.getD, List.getElem?_eq_getElem h2]
    rw [← e1, ← e2, reachL_get (by omega)]
    have := h i (by omega)
    rcases hm : met.getD i false with _ | _
    · rw [dec_false (fun hr => by rw [this.2 hr] at hm; cases hm)]
    · rw [dec_true (this.1 hm)]
/-- Ahead of a node that waits. -/
structure RI (nx : List (List Int)) (S : Nat → Prop) (met : List Bool) (wait : List Int) : Prop where
  len : met.length = nx.length
  ent : met.getD 0 false = true
  snd : ∀ j, met.getD j false = true → Rch nx S j
  wt : ∀ x ∈ wait, ∃ i : Nat, x = (i : Int) ∧ i < nx.length ∧ met.getD i false = true
  cls : ∀ i, met.getD i false = true → (i : Int) ∈ wait ∨ S i ∨ ∀ x ∈ nx.getD i [], met.getD x.toNat false = true
  cnt : cntF met + wait.length ≤ nx.length
/-- Within a node's row, k of which have been gone through. -/
structure RJ (nx : List (List Int)) (S : Nat → Prop) (i : Nat) (k : Nat) (met : List Bool) (wait : List Int) : Prop where
  len : met.length = nx.length
  ent : met.getD 0 false = true
  snd : ∀ j, met.getD j false = true → Rch nx S j
  wt : ∀ x ∈ wait, ∃ i : Nat, x = (i : Int) ∧ i < nx.length ∧ met.getD i false = true
  cls : ∀ j, j ≠ i → met.getD j false = true → (j : Int) ∈ wait ∨ S j ∨ ∀ x ∈ nx.getD j [], met.getD x.toNat false = true
  cnt : cntF met + wait.length < nx.length
  lt : i < nx.length
  met_ : met.getD i false = true
  no : ¬ S i
  row : ∀ j, j < k → met.getD ((nx.getD i []).getD j 0).toNat false = true
theorem RI.start {nx : List (List Int)} {S : Nat → Prop} (h : May nx) : RI nx S ((List.replicate nx.length false).set 0 true) [0] := by
  have hl : 0 < (List.replicate nx.length false).length := by simpa using h.1
  have h1 : ∀ j, ((List.replicate nx.length false).set 0 true).getD j false = true → j = 0 := by
    intro j hj
    rw [getD_setB hl] at hj
    by_cases e : 0 = j
    · exact e.symm
    · rw [if_neg e] at hj
      simp [List.getD, List.getElem?_replicate] at hj
      split at hj <;> simp at hj
  refine ⟨by simp, by rw [getD_setB hl, if_pos rfl], fun j hj => by rw [h1 j hj]; exact .entry, ?_, fun i hi => .inl (by rw [h1 i hi]; simp), ?_⟩
  · intro x hx
    simp at hx
    exact ⟨0, by simpa using hx, h.1, by rw [getD_setB hl, if_pos rfl]⟩
  · have := cntF_set (met := List.replicate nx.length false) (k := 0) (by simp [List.getD, h.1])
    have e : cntF (List.replicate nx.length false) = nx.length := by simp [cntF]
    simp only [List.length_cons, List.length_nil]
    omega
theorem RI.done {nx : List (List Int)} {S : Nat → Prop} (hm : May nx) {met : List Bool} (h : RI nx S met []) : met = reachL nx S := by
  refine reachL_of h.len fun j _ => ⟨h.snd j, fun hr => ?_⟩
  induction hr with
  | entry => exact h.ent
  | @step i j hi hs he ih =>
    rcases h.cls i (ih (hm.lt he).1) with h1 | h1 | h1
    · simp at h1
    · exact absurd h1 hs
    · simpa using h1 _ he
/-- A node is taken out of those that wait, from wherever it stands. -/
theorem RI.skip {nx : List (List Int)} {S : Nat → Prop} {met : List Bool} {wait wait' : List Int} {i : Nat} (h : RI nx S met wait) (hp : ∀ x, x ∈ wait ↔ x = (i : Int) ∨ x ∈ wait') (hl : wait.length = wait'.length + 1) (hs : S i) : RI nx S met wait' := by
  refine ⟨h.len, h.ent, h.snd, fun x hx => h.wt x ((hp x).2 (.inr hx)), fun j hj => ?_, by have := h.cnt; omega⟩
  rcases h.cls j hj with h1 | h1
  · rcases (hp _).1 h1 with h2 | h2
    · have : j = i := by omega
      subst this; exact .inr (.inl hs)
    · exact .inl h2
  · exact .inr h1
theorem RI.take {nx : List (List Int)} {S : Nat → Prop} {met : List Bool} {wait wait' : List Int} {i : Nat} (h : RI nx S met wait) (hp : ∀ x, x ∈ wait ↔ x = (i : Int) ∨ x ∈ wait') (hl : wait.length = wait'.length + 1) (hs : ¬ S i) : RJ nx S i 0 met wait' := by
  obtain ⟨i', e, hi, hm⟩ := h.wt i ((hp _).2 (.inl rfl))
  have : i = i' := by omega
  subst this
  refine ⟨h.len, h.ent, h.snd, fun x hx => h.wt x ((hp x).2 (.inr hx)), fun j hj hmj => ?_, by have := h.cnt; omega, hi, hm, hs, fun j hj => by omega⟩
  rcases h.cls j hmj with h1 | h1
  · rcases (hp _).1 h1 with h2 | h2
    · exact absurd (by omega) hj
    · exact .inl h2
  · exact .inr h1
theorem RJ.old {nx : List (List Int)} {S : Nat → Prop} {met : List Bool} {wait : List Int} {i k : Nat} (h : RJ nx S i k met wait) (hm : met.getD ((nx.getD i []).getD k 0).toNat false = true) : RJ nx S i (k + 1) met wait :=
  ⟨h.len, h.ent, h.snd, h.wt, h.cls, h.cnt, h.lt, h.met_, h.no, fun j hj => by
    rcases Nat.lt_or_ge j k with h1 | h1
    · exact h.row j h1
    · have : j = k := by omega
      subst this; exact hm⟩
theorem RJ.new {nx : List (List Int)} {S : Nat → Prop} (hM : May nx) {met : List Bool} {wait : List Int} {i k : Nat} (h : RJ nx S i k met wait) (hk : k < (nx.getD i []).length) {t : Nat} (ht : (nx.getD i []).getD k 0 = (t : Int)) (hm : met.getD t true = false) : RJ nx S i (k + 1) (met.set t true) (wait ++ [(t : Int)]) := by
  have hmem : (t : Int) ∈ nx.getD i [] := by
    rw [← ht]
    exact getD_mem hk
  have htn := (hM.lt hmem).2
  have hg : ∀ j b, (met.set t true).getD j b = if t = j then true else met.getD j b := fun j b => getD_setB (by rw [h.len]; exact htn)
  have up : ∀ j, met.getD j false = true → (met.set t true).getD j false = true := fun j hj => by rw [hg]; split; rfl; exact hj
  refine ⟨by simp [h.len], up 0 h.ent, fun j hj => ?_, fun x hx => ?_, fun j hji hj => ?_, ?_, h.lt, up i h.met_, h.no, fun j hj => ?_⟩
  · rw [hg] at hj
    by_cases e : t = j
    · subst e; exact .step (h.snd i h.met_) h.no hmem
    · rw [if_neg e] at hj; exact h.snd j hj
  · rcases List.mem_append.1 hx with hx | hx
    · obtain ⟨j, e, h1, h2⟩ := h.wt x hx
      exact ⟨j, e, h1, up j h2⟩
    · simp at hx
      exact ⟨t, hx, htn, by rw [hg, if_pos rfl]⟩
  · rw [hg] at hj
    by_cases e : t = j
    · subst e; exact .inl (by simp)
    · rw [if_neg e] at hj
      rcases h.cls j hji hj with h1 | h1 | h1
      · exact .inl (by simp [h1])
      · exact .inr (.inl h1)
      · exact .inr (.inr fun x hx => up _ (h1 x hx))
  · have := cntF_set hm
    have := h.cnt
    simp only [List.length_append, List.length_singleton]
    omega
  · rcases Nat.lt_or_ge j k with h1 | h1
    · exact up _ (h.row j h1)
    · have : j = k := by omega
      subst this
      rw [ht, Int.toNat_natCast, hg, if_pos rfl]
theorem RJ.done {nx : List (List Int)} {S : Nat → Prop} {met : List Bool} {wait : List Int} {i k : Nat} (h : RJ nx S i k met wait) (hk : (nx.getD i []).length ≤ k) : RI nx S met wait := by
  refine ⟨h.len, h.ent, h.snd, h.wt, fun j hj => ?_, by have := h.cnt; omega⟩
  by_cases e : j = i
  · subst e
    refine .inr (.inr fun x hx => ?_)
    obtain ⟨q, hq, rfl⟩ := List.mem_iff_getElem.1 hx
    have := h.row q (by omega)
    rw [getD_at hq] at this
    exact this
  · exact h.cls j e hj
end Go.Proofs.YtogjjmbcbnceoaaGreat
/- Trees that are mended by going over all nodes, till nothing changes. No program. -/
namespace Go.Proofs.YtogjjmbcbnceoaaGreat

/-- a is b, or is met on the way up from b. -/
inductive Anc (T : Nat → Nat) : Nat → Nat → Prop
  | refl (b : Nat) : Anc T b b
  | up {a b : Nat} : b ≠ 0 → Anc T a (T b) → Anc T a b
theorem Anc.trans {T : Nat → Nat} {a b c : Nat} (h1 : Anc T a b) (h2 : Anc T b c) : Anc T a c := by
  induction h2 with
  | refl => exact h1
  | up h _ ih => exact .up h ih
/-- The way up goes down in numbers, within a set. -/
def Down (num T : Nat → Nat) (D : Nat → Prop) : Prop := ∀ b, D b → b ≠ 0 → D (T b) ∧ num (T b) < num b
theorem Anc.low {num T : Nat → Nat} {D : Nat → Prop} (hd : Down num T D) {a b : Nat} (h : Anc T a b) (hb : D b) : D a ∧ (a = b ∨ num a < num b) := by
  induction h with
  | refl => exact ⟨hb, .inl rfl⟩
  | up h0 _ ih =>
    obtain ⟨h1, h2⟩ := hd _ hb h0
    obtain ⟨h3, h4⟩ := ih h1
    refine ⟨h3, .inr ?_⟩
    rcases h4 with rfl | h4 <;> omega
theorem Anc.le {num T : Nat → Nat} {D : Nat → Prop} (hd : Down num T D) {a b : Nat} (h : Anc T a b) (hb : D b) : num a ≤ num b := by
  rcases (h.low hd hb).2 with rfl | h <;> omega
/-- The step above, of another one than b itself. -/
theorem Anc.pred {T : Nat → Nat} {a b : Nat} (h : Anc T a b) (hn : a ≠ b) : b ≠ 0 ∧ Anc T a (T b) := by
  cases h with
  | refl => exact absurd rfl hn
  | up h0 h1 => exact ⟨h0, h1⟩
/-- Two of those above one node: one is above the other. -/
theorem Anc.chain {T : Nat → Nat} {a b c : Nat} (h1 : Anc T a c) (h2 : Anc T b c) : Anc T a b ∨ Anc T b a := by
  induction h1 with
  | refl => exact .inr h2
  | up h0 h1 ih =>
    cases h2 with
    | refl => exact .inl (.up h0 h1)
    | up _ h2 => exact ih h2
/-- What is above one node and no lower than another one above it is above that. -/
theorem Anc.among {num T : Nat → Nat} {D : Nat → Prop} (hd : Down num T D) {a b c : Nat} (hc : D c) (h1 : Anc T a c) (h2 : Anc T b c) (hl : num a ≤ num b) : Anc T a b := by
  rcases h1.chain h2 with h | h
  · exact h
  · rcases (h.low hd (h1.low hd hc).1).2 with e | e
    · rw [e]; exact .refl _
    · omega
theorem Anc.congr {num T T' : Nat → Nat} {D : Nat → Prop} (hd : Down num T D) {k : Nat} (he : ∀ c, D c → c ≠ 0 → num c < k → T' c = T c) {a b : Nat} (h : Anc T a b) (hb : D b) (hk : num b < k) : Anc T' a b := by
  induction h with
  | refl => exact .refl _
  | @up b h0 _ ih =>
    obtain ⟨h1, h2⟩ := hd _ hb h0
    refine .up h0 ?_
    rw [he b hb h0 hk]
    exact ih h1 (by omega)
/-- The lowest one above all of a row. -/
def Meets (T : Nat → Nat) (P : Nat → Prop) (m : Nat) : Prop := (∀ p, P p → Anc T m p) ∧ ∀ c, (∀ p, P p → Anc T c p) → Anc T c m
theorem Meets.one (T : Nat → Nat) (a : Nat) : Meets T (· = a) a := ⟨fun _ h => h ▸ .refl _, fun _ h => h a rfl⟩
theorem Meets.more {T : Nat → Nat} {P : Nat → Prop} {m a x : Nat} (h : Meets T P m) (hx : Meets T (fun p => p = m ∨ p = a) x) : Meets T (fun p => P p ∨ p = a) x := by
  refine ⟨fun p hp => ?_, fun c hc => hx.2 c fun p hp => ?_⟩
  · rcases hp with hp | rfl
    · exact (hx.1 m (.inl rfl)).trans (h.1 p hp)
    · exact hx.1 _ (.inr rfl)
  · rcases hp with rfl | rfl
    · exact h.2 c fun p hp => hc p (.inl hp)
    · exact hc _ (.inr rfl)
theorem Meets.congr {T : Nat → Nat} {P Q : Nat → Prop} {m : Nat} (h : Meets T P m) (he : ∀ p, P p ↔ Q p) : Meets T Q m :=
  ⟨fun p hp => h.1 p ((he p).2 hp), fun c hc => h.2 c fun p hp => hc p ((he p).1 hp)⟩
/-- Two fingers that go up: each is above its own, and below all that is above both. -/
structure Fing (T : Nat → Nat) (a b x y : Nat) : Prop where
  xa : Anc T x a
  yb : Anc T y b
  cx : ∀ c, Anc T c a → Anc T c b → Anc T c x
  cy : ∀ c, Anc T c a → Anc T c b → Anc T c y
theorem Fing.start (T : Nat → Nat) (a b : Nat) : Fing T a b a b := ⟨.refl _, .refl _, fun _ h _ => h, fun _ _ h => h⟩
theorem Fing.done {T : Nat → Nat} {a b x : Nat} (h : Fing T a b x x) : Meets T (fun p => p = a ∨ p = b) x := by
  refine ⟨fun p hp => ?_, fun c hc => h.cx c (hc a (.inl rfl)) (hc b (.inr rfl))⟩
  rcases hp with rfl | rfl
  · exact h.xa
  · exact h.yb
theorem Fing.left {num T : Nat → Nat} {D : Nat → Prop} (hd : Down num T D) {a b x y : Nat} (h : Fing T a b x y) (ha : D a) (hb : D b) (h0 : ∀ z, D z → Anc T 0 z) (hl : num y < num x) : x ≠ 0 ∧ Fing T a b (T x) y := by
  have hx : D x := (h.xa.low hd ha).1
  have hy : D y := (h.yb.low hd hb).1
  have hx0 : x ≠ 0 := by
    rintro rfl
    have := (h0 y hy).le hd hy
    omega
  refine ⟨hx0, ?_, h.yb, fun c h1 h2 => ?_, h.cy⟩
  · exact Anc.trans (.up hx0 (.refl _)) h.xa
  · have h3 := h.cx c h1 h2
    have h4 := (h.cy c h1 h2).le hd hy
    have : c ≠ x := by rintro rfl; omega
    exact (h3.pred this).2
theorem Fing.right {num T : Nat → Nat} {D : Nat → Prop} (hd : Down num T D) {a b x y : Nat} (h : Fing T a b x y) (ha : D a) (hb : D b) (h0 : ∀ z, D z → Anc T 0 z) (hl : num x < num y) : y ≠ 0 ∧ Fing T a b x (T y) := by
  have h' : Fing T b a y x := ⟨h.yb, h.xa, fun c h1 h2 => h.cy c h2 h1, fun c h1 h2 => h.cx c h2 h1⟩
  obtain ⟨h1, h2⟩ := h'.left hd hb ha h0 hl
  exact ⟨h1, ⟨h2.yb, h2.xa, fun c k1 k2 => h2.cy c k2 k1, fun c k1 k2 => h2.cx c k2 k1⟩⟩
theorem top_of {num T : Nat → Nat} {D : Nat → Prop} (hd : Down num T D) : ∀ (k z : Nat), num z < k → D z → Anc T 0 z
  | 0, _, h, _ => by omega
  | k + 1, z, h, hz => by
    by_cases e : z = 0
    · rw [e]; exact .refl _
    · obtain ⟨h1, h2⟩ := hd z hz e
      exact .up e (top_of hd k (T z) (by omega) h1)
/-- While all nodes are gone over: those ahead of b are new. -/
def mix (num T T' : Nat → Nat) (b : Nat) : Nat → Nat := fun c => if num c < num b then T' c else T c
/-- What stands ahead (by number) is above; what is above all that lead to b is above its own. -/
structure Held (num : Nat → Nat) (R : Nat → Prop) (E : Nat → Nat → Prop) (T : Nat → Nat) : Prop where
  down : Down num T R
  fwd : ∀ b, R b → b ≠ 0 → ∀ p, R p → E p b → num p < num b → Anc T (T b) p
  all : ∀ b, R b → b ≠ 0 → ∀ x, (∀ p, R p → E p b → Anc T x p) → Anc T x (T b)
/-- Once over all nodes. -/
structure Swept (num : Nat → Nat) (R : Nat → Prop) (E : Nat → Nat → Prop) (T T' : Nat → Nat) : Prop where
  down : Down num T' R
  meet : ∀ b, R b → b ≠ 0 → Meets (mix num T T' b) (fun p => R p ∧ E p b) (T' b)
theorem mix_down {num : Nat → Nat} {R : Nat → Prop} {T T' : Nat → Nat} (h1 : Down num T R) (h2 : Down num T' R) (b : Nat) : Down num (mix num T T' b) R := by
  intro c hc h0
  unfold mix
  split
  · exact h2 c hc h0
  · exact h1 c hc h0
theorem mix_new {num : Nat → Nat} {R : Nat → Prop} {T T' : Nat → Nat} (h1 : Down num T R) (h2 : Down num T' R) {b x p : Nat} (hp : R p) (hl : num p < num b) : Anc (mix num T T' b) x p ↔ Anc T' x p := by
  refine ⟨fun h => h.congr (mix_down h1 h2 b) (k := num b) (fun c _ _ hc => ?_) hp hl, fun h => h.congr h2 (k := num b) (fun c _ _ hc => ?_) hp hl⟩
  · unfold mix; rw [if_pos hc]
  · unfold mix; rw [if_pos hc]
/-- What has changed goes up in the new tree, and what is above is fewer. -/
theorem swept_up {num : Nat → Nat} {R : Nat → Prop} {E : Nat → Nat → Prop} {T T' : Nat → Nat} (hinj : ∀ a b, R a → R b → num a = num b → a = b) (hP : ∀ b, R b → b ≠ 0 → ∃ p, R p ∧ E p b ∧ num p < num b) (h : Held num R E T) (s : Swept num R E T T') :
    ∀ (k b : Nat), num b < k → R b → b ≠ 0 → Anc T' (T' b) (T b)
  | 0, _, hk, _, _ => by omega
  | k + 1, b, hk, hb, h0 => by
    have V : ∀ c, num c < num b → R c → c ≠ 0 → Anc T' (T' c) (T c) := fun c hc hr hc0 => swept_up hinj hP h s k c (by omega) hr hc0
    -- fewer above, of nodes ahead of b
    have less : ∀ (m c : Nat), num c < m → num c < num b → R c → ∀ x, Anc T' x c → Anc T x c := by
      intro m
      induction m with
      | zero => intro c hc; omega
      | succ m ih =>
        intro c hc hcb hr x hx
        by_cases e : x = c
        · rw [e]; exact .refl _
        · obtain ⟨c0, hx⟩ := hx.pred e
          have h1 := hx.trans (V c hcb hr c0)
          obtain ⟨h2, h3⟩ := h.down c hr c0
          exact .up c0 (ih (T c) (by omega) (by omega) h2 x h1)
    -- of any node, in the mixed tree
    have lessM : ∀ (m p : Nat), num p < m → R p → ∀ x, Anc (mix num T T' b) x p → Anc T x p := by
      intro m
      induction m with
      | zero => intro p hp; omega
      | succ m ih =>
        intro p hp hr x hx
        by_cases hpb : num p < num b
        · exact less (num p + 1) p (by omega) hpb hr x ((mix_new h.down s.down hr hpb).1 hx)
        · by_cases e : x = p
          · rw [e]; exact .refl _
          · obtain ⟨p0, hx⟩ := hx.pred e
            have e2 : mix num T T' b p = T p := by unfold mix; rw [if_neg hpb]
            rw [e2] at hx
            obtain ⟨h2, h3⟩ := h.down p hr p0
            exact .up p0 (ih (T p) (by omega) h2 x hx)
    obtain ⟨p0, hr0, he0, hl0⟩ := hP b hb h0
    have hm := s.meet b hb h0
    have hx0 : Anc T' (T' b) p0 := (mix_new h.down s.down hr0 hl0).1 (hm.1 p0 ⟨hr0, he0⟩)
    have hT : Anc T (T' b) (T b) := h.all b hb h0 (T' b) fun p hr he => lessM (num p + 1) p (by omega) hr _ (hm.1 p ⟨hr, he⟩)
    obtain ⟨hTr, hTn⟩ := h.down b hb h0
    have hle : num (T' b) ≤ num (T b) := hT.le h.down hTr
    -- along the way up from p0
    have W : ∀ (m c : Nat), num c < m → num c < num b → R c → Anc T (T b) c → Anc T' (T' b) c → Anc T' (T' b) (T b) := by
      intro m
      induction m with
      | zero => intro c hc; omega
      | succ m ih =>
        intro c hc hcb hr hy hx
        by_cases e : T b = c
        · rw [e]; exact hx
        · obtain ⟨c0, hy⟩ := hy.pred e
          obtain ⟨h2, h3⟩ := h.down c hr c0
          have hlt : num (T b) < num c := by
            have := hy.le h.down h2
            omega
          have e2 : T' b ≠ c := by
            intro e3; rw [e3] at hle; omega
          obtain ⟨_, hx⟩ := hx.pred e2
          exact ih (T c) (by omega) (by omega) h2 hy (hx.trans (V c hcb hr c0))
    exact W (num p0 + 1) p0 (by omega) hl0 hr0 (h.fwd b hb h0 p0 hr0 he0 hl0) hx0
theorem swept_held {num : Nat → Nat} {R : Nat → Prop} {E : Nat → Nat → Prop} {T T' : Nat → Nat} (hinj : ∀ a b, R a → R b → num a = num b → a = b) (hP : ∀ b, R b → b ≠ 0 → ∃ p, R p ∧ E p b ∧ num p < num b) (h : Held num R E T) (s : Swept num R E T T') : Held num R E T' := by
  have V : ∀ c, R c → c ≠ 0 → Anc T' (T' c) (T c) := fun c hr hc0 => swept_up hinj hP h s (num c + 1) c (by omega) hr hc0
  refine ⟨s.down, fun b hb h0 p hp he hl => ?_, fun b hb h0 x hx => ?_⟩
  · exact (mix_new h.down s.down hp hl).1 ((s.meet b hb h0).1 p ⟨hp, he⟩)
  · obtain ⟨p0, hr0, he0, hl0⟩ := hP b hb h0
    have hxb : num x < num b := by have := (hx p0 hr0 he0).le s.down hr0; omega
    have M : ∀ (m p : Nat), num p < m → R p → Anc T' x p → Anc (mix num T T' b) x p := by
      intro m
      induction m with
      | zero => intro p hp; omega
      | succ m ih =>
        intro p hp hr hxp
        by_cases hpb : num p < num b
        · exact (mix_new h.down s.down hr hpb).2 hxp
        · have e : x ≠ p := by rintro rfl; omega
          obtain ⟨p0, hxp⟩ := hxp.pred e
          obtain ⟨h2, h3⟩ := h.down p hr p0
          refine .up p0 ?_
          have e2 : mix num T T' b p = T p := by unfold mix; rw [if_neg hpb]
          rw [e2]
          exact ih (T p) (by omega) h2 (hxp.trans (V p hr p0))
    obtain ⟨h1, h2⟩ := s.down b hb h0
    exact (mix_new h.down s.down h1 h2).1 ((s.meet b hb h0).2 x fun p hp => M (num p + 1) p (by omega) hp.1 (hx p hp.1 hp.2))
/-- The first time over all nodes: those ahead alone are there. -/
theorem first_held {num : Nat → Nat} {R : Nat → Prop} {E : Nat → Nat → Prop} {T : Nat → Nat} (hd : Down num T R) (hm : ∀ b, R b → b ≠ 0 → Meets T (fun p => R p ∧ E p b ∧ num p < num b) (T b)) : Held num R E T :=
  ⟨hd, fun b hb h0 p hp he hl => (hm b hb h0).1 p ⟨hp, he, hl⟩, fun b hb h0 x hx => (hm b hb h0).2 x fun p hp => hx p hp.1 hp.2.1⟩
/-- No number is greater than it was. -/
theorem swept_le {num : Nat → Nat} {R : Nat → Prop} {E : Nat → Nat → Prop} {T T' : Nat → Nat} (hinj : ∀ a b, R a → R b → num a = num b → a = b) (hP : ∀ b, R b → b ≠ 0 → ∃ p, R p ∧ E p b ∧ num p < num b) (h : Held num R E T) (s : Swept num R E T T') {b : Nat} (hb : R b) (h0 : b ≠ 0) : num (T' b) ≤ num (T b) ∧ (num (T' b) = num (T b) → T' b = T b) := by
  have hv := swept_up hinj hP h s (num b + 1) b (by omega) hb h0
  have h1 := h.down b hb h0
  have h2 := s.down b hb h0
  exact ⟨hv.le s.down h1.1, fun e => hinj _ _ h2.1 h1.1 e⟩
/-- Each one strictly over a node stands over its own. -/
def Over1 (nx : List (List Int)) (D : Nat → Prop) (T : Nat → Nat) : Prop := ∀ b, D b → b ≠ 0 → ∀ c, Ov nx c b → c ≠ b → Ov nx c (T b)
theorem over_anc {nx : List (List Int)} {num T : Nat → Nat} {D : Nat → Prop} (hd : Down num T D) (hi : Over1 nx D T) : ∀ (k p : Nat), num p < k → D p → ∀ c, Ov nx c p → Anc T c p
  | 0, _, h, _, _, _ => by omega
  | k + 1, p, h, hp, c, hc => by
    by_cases e : c = p
    · rw [e]; exact .refl _
    · have p0 : p ≠ 0 := by rintro rfl; exact e hc.top
      obtain ⟨h1, h2⟩ := hd p hp p0
      exact .up p0 (over_anc hd hi k (T p) (by omega) h1 c (hi p hp p0 c hc e))
theorem over_up {nx : List (List Int)} {num T : Nat → Nat} {D : Nat → Prop} (hd : Down num T D) (hi : Over1 nx D T) {m p c : Nat} (hm : Anc T m p) (hp : D p) (hc : Ov nx c p) (hcm : Anc T c m) : Ov nx c m := by
  induction hm with
  | refl => exact hc
  | @up p h0 hm ih =>
    obtain ⟨h1, h2⟩ := hd p hp h0
    have e : c ≠ p := by
      rintro rfl
      have h3 := (hm.low hd h1)
      have h4 := hcm.le hd h3.1
      have h5 := hm.le hd h1
      omega
    exact ih h1 (hi p hp h0 c hc e)
/-- What meets those that lead to b keeps it. -/
theorem over_meet {nx : List (List Int)} {num T : Nat → Nat} {D P : Nat → Prop} (hd : Down num T D) (hi : Over1 nx D T) {b m p0 : Nat} (hP : ∀ p, P p → D p ∧ Rch nx noneS p ∧ (b : Int) ∈ nx.getD p []) (h0 : P p0) (hm : Meets T P m) {c : Nat} (hc : Ov nx c b) (hcb : c ≠ b) : Ov nx c m := by
  have h1 : ∀ p, P p → Ov nx c p := fun p hp => hc.ahead hcb (hP p hp).2.1 (hP p hp).2.2
  have h2 : Anc T c m := hm.2 c fun p hp => over_anc hd hi (num p + 1) p (by omega) (hP p hp).1 c (h1 p hp)
  exact over_up hd hi (hm.1 p0 h0) (hP p0 h0).1 (h1 p0 h0) h2
/-- A tree that nothing changes any more is that of the nearest ones. -/
theorem near_of {nx : List (List Int)} {num T : Nat → Nat} (hd : Down num T (Rch nx noneS)) (hi : Over1 nx (Rch nx noneS) T)
    (hm : ∀ b, Rch nx noneS b → b ≠ 0 → Meets T (fun p => Rch nx noneS p ∧ (b : Int) ∈ nx.getD p []) (T b)) {b : Nat} (hb : Rch nx noneS b) (h0 : b ≠ 0) : Near nx b (T b : Nat) := by
  have key : ∀ a j, Rch nx (· = a) j → ∀ (k : Nat), k = j → a ≠ j → ¬ Anc T a j := by
    intro a j hj
    induction hj with
    | entry => intro k _ hn ha; exact (ha.pred hn).1 rfl
    | @step i j hi' hs he ih =>
      intro k _ hn ha
      obtain ⟨j0, ha⟩ := ha.pred hn
      have hir : Rch nx noneS i := hi'.any
      have hjr : Rch nx noneS j := .step hir (fun h => h) he
      have h2 := ha.trans ((hm j hjr j0).1 i ⟨hir, he⟩)
      exact ih i rfl (fun e => hs e.symm) h2
  obtain ⟨h1, h2⟩ := hd b hb h0
  have hne : T b ≠ b := by intro e; rw [e] at h2; omega
  refine .inl ⟨T b, rfl, hne, ⟨h1, hb, .inr fun hr => key (T b) b hr b rfl hne (.up h0 (.refl _))⟩, fun c hcb hc => hi b hb h0 c hc hcb⟩
end Go.Proofs.YtogjjmbcbnceoaaGreat
/- Fronts and joins of nets, marks. No program. -/
namespace Go.Proofs.YtogjjmbcbnceoaaGreat

/-- b is in a's front. -/
def Fr (nx : List (List Int)) (a b : Nat) : Prop := (∃ c, Ov nx a c ∧ (b : Int) ∈ nx.getD c []) ∧ ¬ (a ≠ b ∧ Ov nx a b)
theorem Fr.lt {nx : List (List Int)} (hm : May nx) {a b : Nat} (h : Fr nx a b) : a < nx.length ∧ b < nx.length := by
  obtain ⟨⟨c, h1, h2⟩, _⟩ := h
  exact ⟨h1.1.lt hm, (hm.lt h2).2⟩
theorem Fr.reached {nx : List (List Int)} {a b : Nat} (h : Fr nx a b) : Rch nx noneS a ∧ Rch nx noneS b := by
  obtain ⟨⟨c, h1, h2⟩, _⟩ := h
  exact ⟨h1.1, .step h1.2.1 (fun h => h) h2⟩
/-- Nodes of a kind, rising. -/
noncomputable def nodesL (n : Nat) (p : Nat → Prop) : List Int := ((List.range n).filter fun b => dec (p b)).map fun b : Nat => (b : Int)
theorem mem_nodesL {n : Nat} {p : Nat → Prop} {x : Int} : x ∈ nodesL n p ↔ ∃ b : Nat, x = (b : Int) ∧ b < n ∧ p b := by
  unfold nodesL
  rw [List.mem_map]
  refine ⟨fun ⟨b, h, e⟩ => ?_, fun ⟨b, e, h1, h2⟩ => ⟨b, List.mem_filter.2 ⟨List.mem_range.2 h1, dec_true h2⟩, e.symm⟩⟩
  obtain ⟨h1, h2⟩ := List.mem_filter.1 h
  exact ⟨b, e.symm, List.mem_range.1 h1, dec_iff.1 h2⟩
theorem nodesL_up (n : Nat) (p : Nat → Prop) : (nodesL n p).Pairwise (· < ·) := by
  unfold nodesL
  rw [List.pairwise_map]
  refine List.Pairwise.imp (fun h => ?_) ((List.pairwise_lt_range (n := n)).filter _)
  omega
theorem nodesL_congr {n : Nat} {p q : Nat → Prop} (h : ∀ b, b < n → (p b ↔ q b)) : nodesL n p = nodesL n q := by
  unfold nodesL
  congr 1
  refine List.filter_congr fun b hb => ?_
  exact dec_congr (h b (List.mem_range.1 hb))
theorem nodesL_succ (n : Nat) (p : Nat → Prop) : nodesL (n + 1) p = nodesL n p ++ (if dec (p n) then [(n : Int)] else []) := by
  unfold nodesL
  rw [List.range_succ, List.filter_append, List.map_append]
  congr 1
  by_cases h : p n
  · simp [dec_true h]
  · simp [dec_false h]
theorem nodesL_len (n : Nat) (p : Nat → Prop) : (nodesL n p).length ≤ n := by
  unfold nodesL
  rw [List.length_map]
  exact Nat.le_trans (List.length_filter_le _ _) (by simp)
noncomputable def frontL (nx : List (List Int)) (a : Nat) : List Int := nodesL nx.length (Fr nx a)
noncomputable def frontsL (nx : List (List Int)) : List (List Int) := (List.range nx.length).map (frontL nx)
theorem frontsL_len (nx : List (List Int)) : (frontsL nx).length = nx.length := by simp [frontsL]
theorem frontsL_get {nx : List (List Int)} {a : Nat} (h : a < nx.length) : (frontsL nx).getD a [] = frontL nx a := by
  simp [frontsL, List.getD, List.getElem?_map, List.getElem?_range h]
/-- The joins of some nodes. -/
inductive Jn (nx : List (List Int)) (F : Nat → Prop) : Nat → Prop
  | base {a b : Nat} : F a → Fr nx a b → Jn nx F b
  | step {a b : Nat} : Jn nx F a → Fr nx a b → Jn nx F b
theorem Jn.of {nx : List (List Int)} {F : Nat → Prop} {a b : Nat} (h : F a ∨ Jn nx F a) (hf : Fr nx a b) : Jn nx F b := h.elim (fun h => .base h hf) (fun h => .step h hf)
theorem Jn.from_ {nx : List (List Int)} {F : Nat → Prop} {b : Nat} (h : Jn nx F b) : ∃ a, (F a ∨ Jn nx F a) ∧ Fr nx a b := by
  cases h with
  | base h hf => exact ⟨_, .inl h, hf⟩
  | step h hf => exact ⟨_, .inr h, hf⟩
theorem Jn.mono {nx : List (List Int)} {F G : Nat → Prop} (h : ∀ a, F a → G a) {b : Nat} (hj : Jn nx F b) : Jn nx G b := by
  induction hj with
  | base h1 hf => exact .base (h _ h1) hf
  | step _ hf ih => exact .step ih hf
/-- Joins of what they are the joins of, and of themselves. -/
theorem Jn.both {nx : List (List Int)} {F : Nat → Prop} {b : Nat} : Jn nx (fun a => F a ∨ Jn nx F a) b ↔ Jn nx F b := by
  refine ⟨fun h => ?_, fun h => h.mono fun _ h => .inl h⟩
  induction h with
  | base h1 hf => exact .of h1 hf
  | step _ hf ih => exact .step ih hf
theorem Jn.least {nx : List (List Int)} {F Q : Nat → Prop} (hq : ∀ a b, F a ∨ Q a → Fr nx a b → Q b) {b : Nat} (h : Jn nx F b) : Q b := by
  induction h with
  | base h1 hf => exact hq _ _ (.inl h1) hf
  | step _ hf ih => exact hq _ _ (.inr ih) hf
theorem Jn.reached {nx : List (List Int)} {F : Nat → Prop} {b : Nat} (h : Jn nx F b) : Rch nx noneS b := by
  obtain ⟨a, _, hf⟩ := h.from_
  exact hf.reached.2
noncomputable def joinL (nx : List (List Int)) (F : Nat → Prop) : List Int := nodesL nx.length (Jn nx F)
/-- Marks. -/
def Mk (nx : List (List Int)) (F : Nat → Prop) (i : Nat) : Prop := i = 0 ∨ F i ∨ Jn nx F i
/-- The last mark on the way to i. -/
def Last (nx : List (List Int)) (M : Nat → Prop) (i d : Nat) : Prop := M d ∧ Ov nx d i ∧ ∀ c, M c → Ov nx c i → Ov nx c d
theorem Last.uniq {nx : List (List Int)} {M : Nat → Prop} {i d e : Nat} (h1 : Last nx M i d) (h2 : Last nx M i e) : d = e := (h2.2.2 d h1.1 h1.2.1).anti (h1.2.2 e h2.1 h2.2.1)
/-- The stage's theorem, edge by edge. -/
theorem Last.edge {nx : List (List Int)} {F : Nat → Prop} {a b d : Nat} (h : Last nx (Mk nx F) a d) (ha : Rch nx noneS a) (he : (b : Int) ∈ nx.getD a []) (hb : ¬ Mk nx F b) : Last nx (Mk nx F) b d := by
  have hbr : Rch nx noneS b := .step ha (fun h => h) he
  have hb0 : b ≠ 0 := fun e => hb (.inl e)
  have hd : d ≠ b ∧ Ov nx d b := by
    apply Classical.byContradiction
    intro hn
    have hf : Fr nx d b := ⟨⟨a, h.2.1, he⟩, hn⟩
    rcases h.1 with rfl | hm
    · exact hn ⟨fun e => hb0 e.symm, Ov.entry hbr⟩
    · exact hb (.inr (.inr (.of hm hf)))
  refine ⟨h.1, hd.2, fun c hc ho => h.2.2 c hc (ho.ahead (fun e => hb (e ▸ hc)) ha he)⟩
/-- Going up a tree to a mark. -/
def upF (t : List Int) (mk : List Int) : Nat → Int → Int
  | 0, _ => -1
  | f + 1, i => if 0 ≤ i ∧ i < (t.length : Int) then (if mk.getD i.toNat 0 ≠ 0 then i else upF t mk f (t.getD i.toNat 0)) else -1
theorem upF_is {nx : List (List Int)} (h : May nx) {M : Nat → Prop} {mk : List Int} (hmk : ∀ i, i < nx.length → (mk.getD i 0 ≠ 0 ↔ M i)) (h0 : M 0) : ∀ (f i : Nat), Rch nx noneS i → cntO nx i nx.length ≤ f → ∃ d : Nat, upF (treeL nx) mk f (i : Int) = (d : Int) ∧ Last nx M i d
  | 0, i, hi, hc => by
    exfalso
    have : 0 < cntO nx i nx.length := by
      unfold cntO
      exact List.length_pos_of_mem (List.mem_filter.2 ⟨List.mem_range.2 (hi.lt h), dec_true (.refl hi)⟩)
    omega
  | f + 1, i, hi, hc => by
    unfold upF
    have hil := hi.lt h
    rw [treeL_len, if_pos ⟨by omega, by omega⟩, Int.toNat_natCast]
    by_cases hm : M i
    · rw [if_pos ((hmk i hil).2 hm)]
      exact ⟨i, rfl, hm, .refl hi, fun c _ ho => ho⟩
    · rw [if_neg (fun hh => hm ((hmk i hil).1 hh)), treeL_get hil]
      rcases near_is h i with ⟨k, e2, hkb, ho, ha⟩ | ⟨e2, hn⟩
      · rw [e2]
        obtain ⟨d, e3, hd⟩ := upF_is h hmk h0 f k ho.1 (by have := cnt_near h hkb ho; omega)
        refine ⟨d, e3, hd.1, hd.2.1.trans ho, fun c hc hoc => hd.2.2 c hc (ha c (fun e => hm (e ▸ hc)) hoc)⟩
      · exfalso
        have : (0 : Nat) ≠ i := fun e => hm (e ▸ h0)
        exact hn 0 this (.entry hi)
/-- As the document finds joins: rounds over all nodes. -/
def markRow (m : List Bool) (row : List Int) : List Bool := row.foldl (fun m x => m.set x.toNat true) m
def stepJ (fs : List (List Int)) (from_ : List Int) (m : List Bool) (a : Nat) : List Bool := if m.getD a false || decide ((a : Int) ∈ from_) then markRow m (fs.getD a []) else m
def roundJ (fs : List (List Int)) (from_ : List Int) (m : List Bool) (k : Nat) : List Bool := (List.range k).foldl (stepJ fs from_) m
def roundsJ (fs : List (List Int)) (from_ : List Int) (n : Nat) (m : List Bool) : Nat → List Bool
  | 0 => m
  | r + 1 => roundJ fs from_ (roundsJ fs from_ n m r) n
theorem markRow_len : ∀ (row : List Int) (m : List Bool), (markRow m row).length = m.length
  | [], _ => rfl
  | x :: row, m => by unfold markRow; rw [List.foldl_cons]; exact (markRow_len row _).trans (by simp)
theorem markRow_get : ∀ (row : List Int) (m : List Bool) (j : Nat), j < m.length → ((markRow m row).getD j false = true ↔ m.getD j false = true ∨ ∃ x ∈ row, x.toNat = j)
  | [], m, j, _ => by simp [markRow]
  | x :: row, m, j, hj => by
    have ih := markRow_get row (m.set x.toNat true) j (by simpa using hj)
    have e : markRow m (x :: row) = markRow (m.set x.toNat true) row := rfl
    rw [e, ih]
    by_cases ex : x.toNat = j
    · have : (m.set x.toNat true).getD j false = true := by rw [getD_setB (by omega), if_pos ex]
      simp only [this, true_or, true_iff]
      exact .inr ⟨x, by simp, ex⟩
    · have : (m.set x.toNat true).getD j false = m.getD j false := by
        simp only [List.getD, List.getElem?_set, if_neg ex]
      rw [this]
      simp [ex]
theorem stepJ_len (fs : List (List Int)) (from_ : List Int) (m : List Bool) (a : Nat) : (stepJ fs from_ m a).length = m.length := by
  unfold stepJ
  split
  · exact markRow_len _ _
  · rfl
theorem roundJ_succ (fs : List (List Int)) (from_ : List Int) (m : List Bool) (k : Nat) : roundJ fs from_ m (k + 1) = stepJ fs from_ (roundJ fs from_ m k) k := by
  unfold roundJ
  rw [List.range_succ, List.foldl_append]
  rfl
theorem roundJ_len (fs : List (List Int)) (from_ : List Int) (m : List Bool) : ∀ k, (roundJ fs from_ m k).length = m.length
  | 0 => rfl
  | k + 1 => by rw [roundJ_succ, stepJ_len, roundJ_len fs from_ m k]
theorem stepJ_up (fs : List (List Int)) (from_ : List Int) (m : List Bool) (a : Nat) {j : Nat} (hj : j < m.length) (h : m.getD j false = true) : (stepJ fs from_ m a).getD j false = true := by
  unfold stepJ
  split
  · exact (markRow_get _ _ j hj).2 (.inl h)
  · exact h
theorem roundJ_up (fs : List (List Int)) (from_ : List Int) (m : List Bool) {j : Nat} (hj : j < m.length) : ∀ k k', k ≤ k' → (roundJ fs from_ m k).getD j false = true → (roundJ fs from_ m k').getD j false = true
  | k, 0, h, hh => by
    have : k = 0 := by omega
    subst this; exact hh
  | k, k' + 1, h, hh => by
    by_cases e : k = k' + 1
    · subst e; exact hh
    · rw [roundJ_succ]
      exact stepJ_up fs from_ _ _ (by rw [roundJ_len]; exact hj) (roundJ_up fs from_ m hj k k' (by omega) hh)
/-- A round that changes nothing: the fronts of all that are in are in. -/
theorem roundJ_closed {nx : List (List Int)} (hm : May nx) {from_ : List Int} {m : List Bool} (hl : m.length = nx.length) (he : ∀ j, j < nx.length → (roundJ (frontsL nx) from_ m nx.length).getD j false = true → m.getD j false = true) {a b : Nat} (ha : (a : Int) ∈ from_ ∨ m.getD a false = true) (hf : Fr nx a b) : m.getD b false = true := by
  obtain ⟨h1, h2⟩ := hf.lt hm
  refine he b h2 (roundJ_up _ _ _ (by omega) (a + 1) nx.length (by omega) ?_)
  rw [roundJ_succ]
  have hin : ((roundJ (frontsL nx) from_ m a).getD a false || decide ((a : Int) ∈ from_)) = true := by
    rcases ha with ha | ha
    · simp [ha]
    · have := roundJ_up (frontsL nx) from_ m (j := a) (by omega) 0 a (by omega) ha
      rw [this]; rfl
  unfold stepJ
  rw [if_pos hin, markRow_get _ _ b (by rw [roundJ_len]; omega), frontsL_get h1]
  exact .inr ⟨(b : Int), mem_nodesL.2 ⟨b, rfl, h2, hf⟩, by simp⟩
theorem roundJ_sound {nx : List (List Int)} (hm : May nx) {from_ : List Int} {m : List Bool} (hl : m.length = nx.length) (h : ∀ j, m.getD j false = true → Jn nx (fun a => (a : Int) ∈ from_) j) : ∀ k, k ≤ nx.length → ∀ j, (roundJ (frontsL nx) from_ m k).getD j false = true → Jn nx (fun a => (a : Int) ∈ from_) j
  | 0, _, j, hj => h j hj
  | k + 1, hk, j, hj => by
    have ih := roundJ_sound hm hl h k (by omega)
    rw [roundJ_succ] at hj
    unfold stepJ at hj
    split at hj
    · rename_i hc
      have hjl : j < (roundJ (frontsL nx) from_ m k).length := by
        rcases Nat.lt_or_ge j (roundJ (frontsL nx) from_ m k).length with h1 | h1
        · exact h1
        · have : (markRow (roundJ (frontsL nx) from_ m k) ((frontsL nx).getD k [])).getD j false = false := by
            simp [List.getD, List.getElem?_eq_none (show (markRow (roundJ (frontsL nx) from_ m k) ((frontsL nx)[k]?.getD [])).length ≤ j by rw [markRow_len]; exact h1)]
          rw [this] at hj; cases hj
      rcases (markRow_get _ _ j hjl).1 hj with h1 | ⟨x, hx, hxj⟩
      · exact ih j h1
      · rw [frontsL_get (by omega)] at hx
        obtain ⟨b, rfl, _, hf⟩ := mem_nodesL.1 hx
        have : b = j := by simpa using hxj
        subst this
        refine .of ?_ hf
        rcases Bool.or_eq_true _ _ ▸ hc with h1 | h1
        · exact .inr (ih k h1)
        · exact .inl (by simpa using h1)
    · exact ih j hj
theorem count_le_of {m m' : List Bool} (hl : m.length = m'.length) (h : ∀ j, j < m.length → m.getD j false = true → m'.getD j false = true) : m.count true ≤ m'.count true ∧ (m.count true = m'.count true → m = m') := by
  induction m generalizing m' with
  | nil =>
    cases m' with
    | nil => exact ⟨Nat.le_refl _, fun _ => rfl⟩
    | cons => simp at hl
  | cons a m ih =>
    cases m' with
    | nil => simp at hl
    | cons a' m' =>
      obtain ⟨h1, h2⟩ := ih (m' := m') (by simpa using hl) (fun j hj hh => by simpa using h (j + 1) (by simpa using hj) (by simpa using hh))
      have h0 : a = true → a' = true := fun e => by simpa [e] using h 0 (by simp)
      cases a with
      | false =>
        cases a' with
        | false => exact ⟨by simpa using h1, fun e => by rw [h2 (by simpa using e)]⟩
        | true => exact ⟨by simp; omega, fun e => by simp at e; omega⟩
      | true =>
        have := h0 rfl
        subst this
        exact ⟨by simpa using h1, fun e => by rw [h2 (by simpa using e)]⟩
theorem roundsJ_len (fs : List (List Int)) (from_ : List Int) (n : Nat) (m : List Bool) : ∀ r, (roundsJ fs from_ n m r).length = m.length
  | 0 => rfl
  | r + 1 => by unfold roundsJ; rw [roundJ_len, roundsJ_len fs from_ n m r]
/-- As many rounds as there are nodes, and one: nothing changes any more. -/
theorem roundsJ_still (fs : List (List Int)) (from_ : List Int) (n : Nat) (m : List Bool) : ∀ r, (∃ q, q ≤ r ∧ roundJ fs from_ (roundsJ fs from_ n m q) n = roundsJ fs from_ n m q) ∨ r < (roundsJ fs from_ n m (r + 1)).count true + 1
  | 0 => .inr (by omega)
  | r + 1 => by
    rcases roundsJ_still fs from_ n m r with ⟨q, hq, e⟩ | h
    · exact .inl ⟨q, by omega, e⟩
    · obtain ⟨h1, h2⟩ := count_le_of (m := roundsJ fs from_ n m (r + 1)) (m' := roundJ fs from_ (roundsJ fs from_ n m (r + 1)) n) (by rw [roundJ_len]) (fun j hj hh => roundJ_up fs from_ _ hj 0 n (by omega) hh)
      by_cases e : (roundsJ fs from_ n m (r + 1)).count true = (roundJ fs from_ (roundsJ fs from_ n m (r + 1)) n).count true
      · exact .inl ⟨r + 1, Nat.le_refl _, (h2 e).symm⟩
      · right
        show r + 1 < (roundJ fs from_ (roundsJ fs from_ n m (r + 1)) n).count true + 1
        omega
theorem roundsJ_stay (fs : List (List Int)) (from_ : List Int) (n : Nat) (m : List Bool) {q : Nat} (e : roundJ fs from_ (roundsJ fs from_ n m q) n = roundsJ fs from_ n m q) : ∀ d, roundsJ fs from_ n m (q + d) = roundsJ fs from_ n m q
  | 0 => rfl
  | d + 1 => by
    show roundJ fs from_ (roundsJ fs from_ n m (q + d)) n = _
    rw [roundsJ_stay fs from_ n m e d, e]
theorem roundsJ_is {nx : List (List Int)} (hm : May nx) (from_ : List Int) {j : Nat} : (roundsJ (frontsL nx) from_ nx.length (List.replicate nx.length false) (nx.length + 1)).getD j false = true ↔ Jn nx (fun a => (a : Int) ∈ from_) j := by
  have hl : ∀ r, (roundsJ (frontsL nx) from_ nx.length (List.replicate nx.length false) r).length = nx.length := fun r => by rw [roundsJ_len]; simp
  have snd : ∀ r, ∀ j, (roundsJ (frontsL nx) from_ nx.length (List.replicate nx.length false) r).getD j false = true → Jn nx (fun a => (a : Int) ∈ from_) j := by
    intro r
    induction r with
    | zero =>
      intro j h
      exfalso
      have : (List.replicate nx.length false).getD j false = true := h
      simp [List.getD, List.getElem?_replicate] at this
      split at this <;> simp at this
    | succ r ih => exact roundJ_sound hm (hl r) ih nx.length (Nat.le_refl _)
  refine ⟨snd _ j, fun hJ => ?_⟩
  have key : ∃ q, q ≤ nx.length + 1 ∧ roundJ (frontsL nx) from_ (roundsJ (frontsL nx) from_ nx.length (List.replicate nx.length false) q) nx.length = roundsJ (frontsL nx) from_ nx.length (List.replicate nx.length false) q := by
    rcases roundsJ_still (frontsL nx) from_ nx.length (List.replicate nx.length false) nx.length with ⟨q, hq, e⟩ | h
    · exact ⟨q, by omega, e⟩
    · have h1 : (roundsJ (frontsL nx) from_ nx.length (List.replicate nx.length false) (nx.length + 1)).count true ≤ nx.length := by
        refine Nat.le_trans List.count_le_length ?_
        rw [hl]; exact Nat.le_refl _
      refine ⟨nx.length + 1, Nat.le_refl _, ?_⟩
      obtain ⟨h2, h3⟩ := count_le_of (m := roundsJ (frontsL nx) from_ nx.length (List.replicate nx.length false) (nx.length + 1)) (m' := roundJ (frontsL nx) from_ (roundsJ (frontsL nx) from_ nx.length (List.replicate nx.length false) (nx.length + 1)) nx.length) (by rw [roundJ_len]) (fun j hj hh => roundJ_up (frontsL nx) from_ _ hj 0 nx.length (by omega) hh)
      have h4 : (roundJ (frontsL nx) from_ (roundsJ (frontsL nx) from_ nx.length (List.replicate nx.length false) (nx.length + 1)) nx.length).count true ≤ nx.length := by
        refine Nat.le_trans List.count_le_length ?_
        rw [roundJ_len, hl]; exact Nat.le_refl _
      exact (h3 (by omega)).symm
  obtain ⟨q, hq, e⟩ := key
  have hst : roundsJ (frontsL nx) from_ nx.length (List.replicate nx.length false) (nx.length + 1) = roundsJ (frontsL nx) from_ nx.length (List.replicate nx.length false) q := by
    have := roundsJ_stay (frontsL nx) from_ nx.length (List.replicate nx.length false) e (nx.length + 1 - q)
    rwa [show q + (nx.length + 1 - q) = nx.length + 1 by omega] at this
  rw [hst]
  exact hJ.least (Q := fun b => (roundsJ (frontsL nx) from_ nx.length (List.replicate nx.length false) q).getD b false = true) fun a b hab hf => roundJ_closed hm (hl q) (fun j _ hh => by rw [e] at hh; exact hh) hab hf
end Go.Proofs.YtogjjmbcbnceoaaGreat
