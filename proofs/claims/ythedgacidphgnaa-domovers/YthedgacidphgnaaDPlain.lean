/- Nets: what is reached, what stands over what, the nearest one. No program. -/
namespace Go.Proofs.Ythedgacidphgnaa

/-- A proposition as a truth. -/
noncomputable def dec (p : Prop) : Bool := @decide p (Classical.propDecidable p)
theorem dec_iff {p : Prop} : dec p = true ↔ p := by unfold dec; exact @decide_eq_true_iff p (Classical.propDecidable p)
theorem dec_true {p : Prop} (h : p) : dec p = true := dec_iff.2 h
theorem dec_false {p : Prop} (h : ¬ p) : dec p = false := by
  rcases hd : dec p with _ | _
  · rfl
  · exact absurd (dec_iff.1 hd) h
theorem dec_congr {p q : Prop} (h : p ↔ q) : dec p = dec q := by rw [propext h]

/-- Reached from the entry by edges, none of which leads from a node of S. -/
inductive Rch (nx : List (List Int)) (S : Nat → Prop) : Nat → Prop
  | entry : Rch nx S 0
  | step {i j : Nat} : Rch nx S i → ¬ S i → (j : Int) ∈ nx.getD i [] → Rch nx S j
abbrev noneS : Nat → Prop := fun _ => False
/-- May be a net. -/
def May (nx : List (List Int)) : Prop := 0 < nx.length ∧ ∀ r ∈ nx, ∀ x ∈ r, 0 ≤ x ∧ x < (nx.length : Int)
theorem May.lt {nx : List (List Int)} (h : May nx) {i j : Nat} (he : (j : Int) ∈ nx.getD i []) : i < nx.length ∧ j < nx.length := by
  rcases Nat.lt_or_ge i nx.length with hi | hi
  · have e : nx.getD i [] = nx[i] := by simp [List.getD, List.getElem?_eq_getElem hi]
    rw [e] at he
    have := (h.2 _ (List.getElem_mem hi) _ he).2
    exact ⟨hi, by omega⟩
  · simp [List.getD, List.getElem?_eq_none hi] at he
theorem Rch.lt {nx : List (List Int)} {S : Nat → Prop} (h : May nx) {j : Nat} (hr : Rch nx S j) : j < nx.length := by
  cases hr with
  | entry => exact h.1
  | step _ _ he => exact (h.lt he).2
theorem Rch.mono {nx : List (List Int)} {S T : Nat → Prop} (h : ∀ i, T i → S i) {j : Nat} (hr : Rch nx S j) : Rch nx T j := by
  induction hr with
  | entry => exact .entry
  | step _ hs he ih => exact .step ih (fun ht => hs (h _ ht)) he
theorem Rch.any {nx : List (List Int)} {S : Nat → Prop} {j : Nat} (hr : Rch nx S j) : Rch nx noneS j := hr.mono (fun _ h => h.elim)
/-- A way either does not go on from b, or comes to it. -/
theorem Rch.split {nx : List (List Int)} {S : Nat → Prop} (b : Nat) {j : Nat} (hr : Rch nx S j) : Rch nx (fun i => S i ∨ i = b) j ∨ Rch nx S b := by
  induction hr with
  | entry => exact .inl .entry
  | @step i j hi hs he ih =>
    rcases ih with h | h
    · by_cases e : i = b
      · subst e; exact .inr hi
      · exact .inl (.step h (fun hc => hc.elim hs e) he)
    · exact .inr h
/-- a stands over b. -/
def Ov (nx : List (List Int)) (a b : Nat) : Prop := Rch nx noneS a ∧ Rch nx noneS b ∧ (a = b ∨ ¬ Rch nx (· = a) b)
theorem Ov.refl {nx : List (List Int)} {a : Nat} (h : Rch nx noneS a) : Ov nx a a := ⟨h, h, .inl rfl⟩
theorem Ov.trans {nx : List (List Int)} {a b c : Nat} (h1 : Ov nx a b) (h2 : Ov nx b c) : Ov nx a c := by
  refine ⟨h1.1, h2.2.1, ?_⟩
  by_cases hac : a = c
  · exact .inl hac
  · rcases h1.2.2 with rfl | n1
    · exact h2.2.2
    · rcases h2.2.2 with rfl | n2
      · exact .inr n1
      · refine .inr fun hr => ?_
        rcases hr.split b with h | h
        · exact n2 (h.mono fun i hi => .inr hi)
        · exact n1 h
theorem Ov.anti {nx : List (List Int)} {a b : Nat} (h1 : Ov nx a b) (h2 : Ov nx b a) : a = b := by
  by_cases hab : a = b
  · exact hab
  · exfalso
    have n1 := h1.2.2.resolve_left hab
    have n2 := h2.2.2.resolve_left (fun e => hab e.symm)
    rcases h1.1.split b with h | h
    · exact n2 (h.mono fun i hi => .inr hi)
    · rcases h.split a with h | h
      · exact n1 (h.mono fun i hi => .inr hi)
      · rcases h.split b with h | h
        · exact n2 (h.mono fun i hi => .inr hi)
        · rcases h1.2.1.split a with h | h
          · exact n1 (h.mono fun i hi => .inr hi)
          · have key : ∀ j, Rch nx noneS j → Rch nx (fun i => i = a ∨ i = b) j ∨ Rch nx (fun i => i = a ∨ i = b) a ∨ Rch nx (fun i => i = a ∨ i = b) b := by
              intro j hj
              induction hj with
              | entry => exact .inl .entry
              | @step i j hi hs he ih =>
                rcases ih with h | h
                · by_cases e1 : i = a
                  · subst e1; exact .inr (.inl h)
                  · by_cases e2 : i = b
                    · subst e2; exact .inr (.inr h)
                    · exact .inl (.step h (fun hc => hc.elim e1 e2) he)
                · exact .inr h
            rcases key a h with h | h | h
            · exact n2 (h.mono fun i hi => .inr hi)
            · exact n2 (h.mono fun i hi => .inr hi)
            · exact n1 (h.mono fun i hi => .inl hi)
theorem Ov.chain {nx : List (List Int)} {a b c : Nat} (h1 : Ov nx a c) (h2 : Ov nx b c) : Ov nx a b ∨ Ov nx b a := by
  by_cases hab : a = b
  · subst hab; exact .inl (.refl h1.1)
  · by_cases e1 : Rch nx (· = a) b
    · by_cases e2 : Rch nx (· = b) a
      · exfalso
        have key : ∀ j, Rch nx noneS j → Rch nx (· = a) j ∨ Rch nx (· = b) j := by
          intro j hj
          induction hj with
          | entry => exact .inl .entry
          | @step i j hi hs he ih =>
            rcases ih with h | h
            · by_cases e : i = a
              · subst e; exact .inr (.step e2 hab he)
              · exact .inl (.step h e he)
            · by_cases e : i = b
              · subst e; exact .inl (.step e1 (fun e => hab e.symm) he)
              · exact .inr (.step h e he)
        rcases h1.2.2 with rfl | n1
        · rcases h2.2.2 with rfl | n2
          · exact hab rfl
          · exact n2 e2
        · rcases h2.2.2 with rfl | n2
          · exact n1 e1
          · rcases key c h1.2.1 with h | h
            · exact n1 h
            · exact n2 h
      · exact .inr ⟨h2.1, h1.1, .inr e2⟩
    · exact .inl ⟨h1.1, h2.1, .inr e1⟩
theorem Ov.entry {nx : List (List Int)} {b : Nat} (h : Rch nx noneS b) : Ov nx 0 b := by
  refine ⟨.entry, h, ?_⟩
  by_cases e : 0 = b
  · exact .inl e
  · refine .inr fun hr => ?_
    have key : ∀ j, Rch nx (· = 0) j → j = 0 := by
      intro j hj
      induction hj with
      | entry => rfl
      | step _ hs _ ih => exact absurd ih hs
    exact e (key b hr).symm
theorem Ov.top {nx : List (List Int)} {a : Nat} (h : Ov nx a 0) : a = 0 := by
  rcases h.2.2 with e | n
  · exact e
  · exact absurd .entry n
/-- What stands strictly over a node stands over all that lead to it. -/
theorem Ov.ahead {nx : List (List Int)} {a b i : Nat} (h : Ov nx a b) (hab : a ≠ b) (hi : Rch nx noneS i) (he : (b : Int) ∈ nx.getD i []) : Ov nx a i := by
  refine ⟨h.1, hi, ?_⟩
  by_cases e : a = i
  · exact .inl e
  · exact .inr fun hr => (h.2.2.resolve_left hab) (.step hr (fun e2 => e e2.symm) he)
/-- The nearest one over a node. -/
def Near (nx : List (List Int)) (b : Nat) (d : Int) : Prop :=
  (∃ k : Nat, d = (k : Int) ∧ k ≠ b ∧ Ov nx k b ∧ ∀ c, c ≠ b → Ov nx c b → Ov nx c k) ∨ (d = -1 ∧ ∀ c, c ≠ b → ¬ Ov nx c b)
theorem Near.uniq {nx : List (List Int)} {b : Nat} {d e : Int} (h1 : Near nx b d) (h2 : Near nx b e) : d = e := by
  rcases h1 with ⟨k, rfl, hk, ho, ha⟩ | ⟨rfl, hn⟩
  · rcases h2 with ⟨m, rfl, hm, ho2, ha2⟩ | ⟨_, hn⟩
    · have := (ha2 k hk ho).anti (ha m hm ho2)
      rw [this]
    · exact absurd ho (hn k hk)
  · rcases h2 with ⟨m, rfl, hm, ho2, ha2⟩ | ⟨rfl, _⟩
    · exact absurd ho2 (hn m hm)
    · rfl
/-- As the document finds it: of the nodes up to k. -/
noncomputable def nearF (nx : List (List Int)) (b : Nat) : Nat → Int
  | 0 => -1
  | k + 1 => if dec (k ≠ b ∧ Ov nx k b ∧ (nearF nx b k < 0 ∨ Ov nx (nearF nx b k).toNat k)) then (k : Int) else nearF nx b k
theorem nearF_is (nx : List (List Int)) (b : Nat) : ∀ n, (∃ k : Nat, nearF nx b n = (k : Int) ∧ k < n ∧ k ≠ b ∧ Ov nx k b ∧ ∀ c, c < n → c ≠ b → Ov nx c b → Ov nx c k) ∨ (nearF nx b n = -1 ∧ ∀ c, c < n → c ≠ b → ¬ Ov nx c b)
  | 0 => .inr ⟨rfl, fun c hc => by omega⟩
  | n + 1 => by
    unfold nearF
    rcases nearF_is nx b n with ⟨k, e, hk, hkb, ho, ha⟩ | ⟨e, hn⟩
    · rw [e]
      by_cases hc : n ≠ b ∧ Ov nx n b ∧ ((k : Int) < 0 ∨ Ov nx ((k : Int)).toNat n)
      · rw [dec_true hc]
        refine .inl ⟨n, rfl, by omega, hc.1, hc.2.1, fun c hcn hcb hoc => ?_⟩
        rcases Nat.lt_or_ge c n with h | h
        · have h3 : Ov nx k n := by
            rcases hc.2.2 with h0 | h0
            · omega
            · simpa using h0
          exact (ha c h hcb hoc).trans h3
        · have : c = n := by omega
          subst this; exact .refl hoc.1
      · rw [dec_false hc]
        refine .inl ⟨k, rfl, by omega, hkb, ho, fun c hcn hcb hoc => ?_⟩
        rcases Nat.lt_or_ge c n with h | h
        · exact ha c h hcb hoc
        · have : c = n := by omega
          subst this
          rcases ho.chain hoc with h3 | h3
          · exact absurd ⟨hcb, hoc, .inr (by simpa using h3)⟩ hc
          · exact h3
    · rw [e]
      by_cases hc : n ≠ b ∧ Ov nx n b ∧ ((-1 : Int) < 0 ∨ Ov nx ((-1 : Int)).toNat n)
      · rw [dec_true hc]
        refine .inl ⟨n, rfl, by omega, hc.1, hc.2.1, fun c hcn hcb hoc => ?_⟩
        rcases Nat.lt_or_ge c n with h | h
        · exact absurd hoc (hn c h hcb)
        · have : c = n := by omega
          subst this; exact .refl hoc.1
      · rw [dec_false hc]
        refine .inr ⟨rfl, fun c hcn hcb hoc => ?_⟩
        rcases Nat.lt_or_ge c n with h | h
        · exact hn c h hcb hoc
        · have : c = n := by omega
          subst this
          exact hc ⟨hcb, hoc, .inl (by omega)⟩
/-- The tree, as a list. -/
noncomputable def treeL (nx : List (List Int)) : List Int := (List.range nx.length).map fun b => nearF nx b nx.length
theorem treeL_len (nx : List (List Int)) : (treeL nx).length = nx.length := by simp [treeL]
theorem treeL_get {nx : List (List Int)} {b : Nat} (hb : b < nx.length) : (treeL nx).getD b 0 = nearF nx b nx.length := by
  simp [treeL, List.getD, List.getElem?_map, List.getElem?_range hb]
theorem near_is {nx : List (List Int)} (h : May nx) (b : Nat) : Near nx b (nearF nx b nx.length) := by
  rcases nearF_is nx b nx.length with ⟨k, e, hk, hkb, ho, ha⟩ | ⟨e, hn⟩
  · exact .inl ⟨k, e, hkb, ho, fun c hcb hoc => ha c (hoc.1.lt h) hcb hoc⟩
  · exact .inr ⟨e, fun c hcb hoc => hn c (hoc.1.lt h) hcb hoc⟩
/-- Whoever tells the nearest ones tells the tree. -/
theorem treeL_uniq {nx : List (List Int)} (h : May nx) {t : List Int} (hl : t.length = nx.length) (hn : ∀ b, b < nx.length → Near nx b (t.getD b 0)) : t = treeL nx := by
  apply List.ext_getElem
  · rw [hl, treeL_len]
  · intro i h1 h2
    have e1 : t.getD i 0 = t[i] := by simp [List.getD, List.getElem?_eq_getElem h1]
    have e2 : (treeL nx).getD i 0 = (treeL nx)[i] := by simp [List.getD, List.getElem?_eq_getElem h2]
    rw [← e1, ← e2, treeL_get (by omega)]
    exact (hn i (by omega)).uniq (near_is h i)
theorem near_none {nx : List (List Int)} {b : Nat} (h : ¬ Rch nx noneS b) : Near nx b (-1) := .inr ⟨rfl, fun _ _ ho => h ho.2.1⟩
theorem near_entry (nx : List (List Int)) : Near nx 0 (-1) := .inr ⟨rfl, fun _ hc ho => hc ho.top⟩
/-- Going up a list. -/
def overF (t : List Int) (a : Int) : Nat → Int → Bool
  | 0, _ => false
  | f + 1, b => if a = b then true else if 0 ≤ t.getD b.toNat 0 ∧ t.getD b.toNat 0 < (t.length : Int) then overF t a f (t.getD b.toNat 0) else false
def overL (t : List Int) (a b : Int) : Bool := if (0 ≤ a ∧ a < (t.length : Int)) ∧ (0 ≤ b ∧ b < (t.length : Int)) then overF t a (t.length + 1) b else false
/-- How many stand over a node. -/
noncomputable def cntO (nx : List (List Int)) (b n : Nat) : Nat := ((List.range n).filter fun a => dec (Ov nx a b)).length
theorem filter_lt {α : Type} {p q : α → Bool} : ∀ {l : List α} {x : α}, (∀ y ∈ l, p y = true → q y = true) → x ∈ l → q x = true → p x = false → (l.filter p).length < (l.filter q).length
  | a :: l, x, hpq, hx, hq, hp => by
    have hle : (l.filter p).length ≤ (l.filter q).length := by
      clear hx hp hq
      induction l with
      | nil => simp
      | cons b l ih =>
        have h1 := hpq b (by simp)
        have h2 := ih (fun y hy => hpq y (by simp at hy ⊢; rcases hy with h | h <;> simp [h]))
        simp only [List.filter_cons]
        rcases hpb : p b with _ | _
        · rcases hqb : q b with _ | _
          · simpa using h2
          · simp; omega
        · rw [h1 hpb]; simpa using h2
    rcases List.mem_cons.1 hx with rfl | hx
    · simp only [List.filter_cons, hp, hq]
      simp; omega
    · have h2 := filter_lt (p := p) (q := q) (l := l) (fun y hy => hpq y (by simp [hy])) hx hq hp
      have h1 := hpq a (by simp)
      simp only [List.filter_cons]
      rcases hpa : p a with _ | _
      · rcases hqa : q a with _ | _
        · simpa using h2
        · simp; omega
      · rw [h1 hpa]; simpa using h2
theorem cnt_near {nx : List (List Int)} (h : May nx) {b k : Nat} (hkb : k ≠ b) (ho : Ov nx k b) : cntO nx k nx.length < cntO nx b nx.length := by
  unfold cntO
  refine filter_lt (x := b) (fun y _ hy => dec_true ((dec_iff.1 hy).trans ho)) (List.mem_range.2 (ho.2.1.lt h)) (dec_true (.refl ho.2.1)) (dec_false fun hc => hkb (ho.anti hc))
theorem overF_is {nx : List (List Int)} (h : May nx) {a : Nat} : ∀ (f b : Nat), Rch nx noneS b → cntO nx b nx.length ≤ f → overF (treeL nx) (a : Int) f (b : Int) = dec (Ov nx a b)
  | 0, b, hb, hc => by
    exfalso
    have : 0 < cntO nx b nx.length := by
      unfold cntO
      exact List.length_pos_of_mem (List.mem_filter.2 ⟨List.mem_range.2 (hb.lt h), dec_true (.refl hb)⟩)
    omega
  | f + 1, b, hb, hc => by
    unfold overF
    by_cases e : (a : Int) = b
    · have e' : a = b := by omega
      subst e'
      rw [if_pos rfl, dec_true (.refl hb)]
    · rw [if_neg e, Int.toNat_natCast, treeL_get (hb.lt h), treeL_len]
      rcases near_is h b with ⟨k, e2, hkb, ho, ha⟩ | ⟨e2, hn⟩
      · rw [e2, if_pos ⟨by omega, by have := ho.1.lt h; omega⟩]
        rw [overF_is h f k ho.1 (by have := cnt_near h hkb ho; omega)]
        refine dec_congr ⟨fun hx => hx.trans ho, fun hx => ha a (fun e3 => e (by omega)) hx⟩
      · rw [e2, if_neg (by omega)]
        exact (dec_false (hn a (fun e3 => e (by omega)))).symm
theorem cnt_le (nx : List (List Int)) (b n : Nat) : cntO nx b n ≤ n := by
  unfold cntO
  exact Nat.le_trans (List.length_filter_le _ _) (by simp)
/-- Over, by the tree, is standing over. -/
theorem overL_is {nx : List (List Int)} (h : May nx) {a b : Nat} (ha : a < nx.length) (hb : Rch nx noneS b) : overL (treeL nx) (a : Int) (b : Int) = dec (Ov nx a b) := by
  unfold overL
  rw [treeL_len, if_pos ⟨⟨by omega, by omega⟩, by omega, by have := hb.lt h; omega⟩]
  exact overF_is h _ b hb (by have := cnt_le nx b nx.length; omega)
theorem overL_none {nx : List (List Int)} (h : May nx) {a b : Nat} (ha : a < nx.length) (hbn : b < nx.length) (hb : ¬ Rch nx noneS b) : overL (treeL nx) (a : Int) (b : Int) = decide (a = b) := by
  unfold overL
  rw [treeL_len, if_pos ⟨⟨by omega, by omega⟩, by omega, by omega⟩]
  unfold overF
  by_cases e : a = b
  · subst e; simp
  · rw [if_neg (by omega), Int.toNat_natCast, treeL_get hbn, (near_is h b).uniq (near_none hb), if_neg (by omega)]
    simp [e]
end Go.Proofs.Ythedgacidphgnaa
