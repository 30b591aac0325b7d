/- Fronts, gathered by climbing: plain. -/
import Derived.Test.YtogjjmbcbnceoaaGreatDFrontM
import Derived.Test.YtogjjmbcbnceoaaGreatDOkM
namespace Go.Proofs.YtogjjmbcbnceoaaGreat

theorem getD_mod {rows : List (List Int)} {k : Nat} {f : List Int → List Int} (h : k < rows.length) (z : Nat) : (rows.modify k f).getD z [] = if k = z then f (rows.getD z []) else rows.getD z [] := by
  rw [List.getD_eq_getElem?_getD, List.getD_eq_getElem?_getD, List.getElem?_modify]
  by_cases e : k = z
  · subst e
    rw [List.getElem?_eq_getElem h]
    simp
  · simp [e]
/-- Who leads to each node: the reached nodes below i, and k edges of node i. -/
structure AhdTo (nx : List (List Int)) (i k : Nat) (rows : List (List Int)) : Prop where
  len : rows.length = nx.length
  mem : ∀ (z : Nat) (x : Int), z < nx.length → (x ∈ rows.getD z [] ↔ ∃ q e : Nat, x = (q : Int) ∧ Rch nx noneS q ∧ (nx.getD q [])[e]? = some (z : Int) ∧ (q < i ∨ (q = i ∧ e < k)))
theorem AhdTo.start (nx : List (List Int)) : AhdTo nx 0 0 (List.replicate nx.length []) := by
  refine ⟨by simp, fun z x hz => ⟨fun h => ?_, fun ⟨q, e, _, _, _, h⟩ => by omega⟩⟩
  rw [List.getD_eq_getElem?_getD, List.getElem?_replicate, if_pos hz] at h
  simp at h
theorem AhdTo.skip {nx : List (List Int)} {i : Nat} {rows : List (List Int)} (h : AhdTo nx i 0 rows) (hr : ¬ Rch nx noneS i) : AhdTo nx (i + 1) 0 rows := by
  refine ⟨h.len, fun z x hz => (h.mem z x hz).trans ⟨?_, ?_⟩⟩
  · rintro ⟨q, e, h1, h2, h3, h4⟩
    exact ⟨q, e, h1, h2, h3, by omega⟩
  · rintro ⟨q, e, h1, h2, h3, h4⟩
    refine ⟨q, e, h1, h2, h3, ?_⟩
    have : q ≠ i := fun hq => hr (hq ▸ h2)
    omega
theorem AhdTo.row {nx : List (List Int)} {i k : Nat} {rows : List (List Int)} (h : AhdTo nx i k rows) (hk : k = (nx.getD i []).length) : AhdTo nx (i + 1) 0 rows := by
  refine ⟨h.len, fun z x hz => (h.mem z x hz).trans ⟨?_, ?_⟩⟩
  · rintro ⟨q, e, h1, h2, h3, h4⟩
    exact ⟨q, e, h1, h2, h3, by omega⟩
  · rintro ⟨q, e, h1, h2, h3, h4⟩
    refine ⟨q, e, h1, h2, h3, ?_⟩
    rcases Nat.lt_or_ge q i with h6 | h6
    · exact .inl h6
    · have : q = i := by omega
      subst this
      have := (List.getElem?_eq_some_iff.1 h3).1
      exact .inr ⟨rfl, by omega⟩
theorem AhdTo.step {nx : List (List Int)} {i k : Nat} {rows : List (List Int)} (h : AhdTo nx i k rows) (hr : Rch nx noneS i) {u : Nat} (hu : (nx.getD i [])[k]? = some (u : Int)) (hul : u < nx.length) : AhdTo nx i (k + 1) (rows.modify u (· ++ [(i : Int)])) := by
  have hlen := h.len
  refine ⟨by simpa using hlen, fun z x hz => ?_⟩
  rw [getD_mod (by omega)]
  by_cases e : u = z
  · subst e
    rw [if_pos rfl, List.mem_append]
    constructor
    · rintro (h1 | h1)
      · obtain ⟨q, e, h2, h3, h4, h5⟩ := (h.mem u x hz).1 h1
        exact ⟨q, e, h2, h3, h4, by omega⟩
      · simp at h1
        exact ⟨i, k, h1, hr, hu, .inr ⟨rfl, by omega⟩⟩
    · rintro ⟨q, e, h2, h3, h4, h5⟩
      by_cases h7 : q < i ∨ (q = i ∧ e < k)
      · exact .inl ((h.mem u x hz).2 ⟨q, e, h2, h3, h4, h7⟩)
      · have : q = i := by omega
        subst this
        right; simp [h2]
  · rw [if_neg e]
    refine (h.mem z x hz).trans ⟨?_, ?_⟩
    · rintro ⟨q, e, h2, h3, h4, h5⟩
      exact ⟨q, e, h2, h3, h4, by omega⟩
    · rintro ⟨q, e', h2, h3, h4, h5⟩
      refine ⟨q, e', h2, h3, h4, ?_⟩
      by_cases h7 : q < i ∨ (q = i ∧ e' < k)
      · exact h7
      · exfalso
        have h8 : q = i := by omega
        have h9 : e' = k := by omega
        subst h8; subst h9
        rw [hu] at h4
        cases h4
        exact e rfl
theorem AhdTo.all {nx : List (List Int)} {rows : List (List Int)} (h : AhdTo nx nx.length 0 rows) {z : Nat} (hz : z < nx.length) (x : Int) : x ∈ rows.getD z [] ↔ ∃ q : Nat, x = (q : Int) ∧ Rch nx noneS q ∧ (z : Int) ∈ nx.getD q [] := by
  rw [h.mem z x hz]
  constructor
  · rintro ⟨q, e, h1, h2, h3, _⟩
    exact ⟨q, h1, h2, List.mem_of_getElem? h3⟩
  · rintro ⟨q, h1, h2, h3⟩
    obtain ⟨e, he⟩ := List.getElem?_of_mem h3
    refine ⟨q, e, h1, h2, he, .inl ?_⟩
    rcases Nat.lt_or_ge q nx.length with h4 | h4
    · exact h4
    · rw [List.getD_eq_getElem?_getD, List.getElem?_eq_none h4] at he
      simp at he
/-- Fronts by the nodes below b, and b for some. -/
structure FrTo (nx : List (List Int)) (b : Nat) (G : Nat → Prop) (rows : List (List Int)) : Prop where
  len : rows.length = nx.length
  row : ∀ a, a < nx.length → rows.getD a [] = nodesL b (Fr nx a) ++ (if dec (G a) then [(b : Int)] else [])
theorem FrTo.congr {nx : List (List Int)} {b : Nat} {G G' : Nat → Prop} {rows : List (List Int)} (h : FrTo nx b G rows) (hg : ∀ a, a < nx.length → (G a ↔ G' a)) : FrTo nx b G' rows :=
  ⟨h.len, fun a ha => by rw [h.row a ha, dec_congr (hg a ha)]⟩
theorem FrTo.start (nx : List (List Int)) : FrTo nx 0 (fun _ => False) (List.replicate nx.length []) := by
  refine ⟨by simp, fun a ha => ?_⟩
  rw [List.getD_eq_getElem?_getD, List.getElem?_replicate, if_pos ha, dec_false (fun h => h)]
  simp [nodesL]
theorem FrTo.small {nx : List (List Int)} {b : Nat} {G : Nat → Prop} {rows : List (List Int)} (h : FrTo nx b G rows) {a : Nat} (ha : a < nx.length) : (rows.getD a []).length ≤ b + 1 := by
  rw [h.row a ha, List.length_append]
  have := nodesL_len b (Fr nx a)
  split <;> simp <;> omega
/-- Some of the nodes that lead to b. -/
def Fk (nx : List (List Int)) (row : List Int) (b k : Nat) (a : Nat) : Prop := ∃ j c : Nat, j < k ∧ row[j]? = some (c : Int) ∧ Ov nx a c ∧ ¬ (a ≠ b ∧ Ov nx a b)
theorem FrTo.begin {nx : List (List Int)} {b : Nat} {rows : List (List Int)} (row : List Int) (h : FrTo nx b (fun _ => False) rows) : FrTo nx b (Fk nx row b 0) rows :=
  h.congr fun a _ => ⟨fun h => h.elim, fun ⟨j, _, hj, _⟩ => by omega⟩
theorem FrTo.next {nx : List (List Int)} {b : Nat} {rows row : List (List Int)} (hA : AhdTo nx nx.length 0 row) (hb : b < nx.length) (h : FrTo nx b (Fk nx (row.getD b []) b (row.getD b []).length) rows) : FrTo nx (b + 1) (fun _ => False) rows := by
  refine ⟨h.len, fun a ha => ?_⟩
  rw [h.row a ha, nodesL_succ, dec_false (p := False) (fun h => h)]
  have e : Fk nx (row.getD b []) b (row.getD b []).length a ↔ Fr nx a b := by
    constructor
    · rintro ⟨j, c, hj, hc, ho, hn⟩
      obtain ⟨q, e1, e2, e3⟩ := (hA.all hb _).1 (List.mem_of_getElem? hc)
      have : c = q := by omega
      subst this
      exact ⟨⟨c, ho, e3⟩, hn⟩
    · rintro ⟨⟨c, ho, he⟩, hn⟩
      have hm : (c : Int) ∈ row.getD b [] := (hA.all hb _).2 ⟨c, rfl, ho.2.1, he⟩
      obtain ⟨j, hj⟩ := List.getElem?_of_mem hm
      exact ⟨j, c, (List.getElem?_eq_some_iff.1 hj).1, hj, ho, hn⟩
  rw [dec_congr e]
  simp
theorem FrTo.done {nx : List (List Int)} {rows : List (List Int)} (h : FrTo nx nx.length (fun _ => False) rows) : rows = frontsL nx := by
  refine List.ext_getElem (by rw [h.len, frontsL_len]) fun a h1 h2 => ?_
  have ha : a < nx.length := by rw [← h.len]; exact h1
  have e1 := h.row a ha
  rw [getD_of h1, dec_false (p := False) (fun h => h)] at e1
  have e2 := frontsL_get ha
  rw [getD_of h2] at e2
  rw [e1, e2]
  simp [frontL]
def endsB (l : List Int) (y : Int) : Bool := decide (0 < l.length) && decide (l.getD (l.length - 1) 0 = y)
theorem FrTo.ends {nx : List (List Int)} {b : Nat} {G : Nat → Prop} {rows : List (List Int)} (h : FrTo nx b G rows) {a : Nat} (ha : a < nx.length) : endsB (rows.getD a []) (b : Int) = dec (G a) := by
  rw [h.row a ha]
  unfold endsB
  rcases hd : dec (G a) with _ | _
  · simp only [Bool.false_eq_true, if_false, List.append_nil]
    rcases Nat.eq_zero_or_pos (nodesL b (Fr nx a)).length with h0 | h0
    · simp [h0]
    · rw [decide_eq_false (p := _ = (b : Int)), Bool.and_false]
      intro e
      have hm : (nodesL b (Fr nx a)).getD ((nodesL b (Fr nx a)).length - 1) 0 ∈ nodesL b (Fr nx a) := getD_mem (by omega)
      rw [e] at hm
      obtain ⟨c, e1, e2, _⟩ := mem_nodesL.1 hm
      omega
  · simp
/-- Climbing: who has b by now. -/
def Cg (nx : List (List Int)) (row : List Int) (b k c : Nat) (a : Int) (x : Nat) : Prop := Fk nx row b k x ∨ (Ov nx x c ∧ ¬ (x ≠ b ∧ Ov nx x b) ∧ ¬ ∃ p : Nat, a = (p : Int) ∧ Ov nx x p)
/-- Where one is. -/
def Ci (nx : List (List Int)) (b c : Nat) (a : Int) : Prop := (∃ p : Nat, a = (p : Int) ∧ Ov nx p c ∧ ((∃ q : Nat, (treeL nx).getD b 0 = (q : Int) ∧ Ov nx q p) ∨ (treeL nx).getD b 0 = -1)) ∨ (a = -1 ∧ (treeL nx).getD b 0 = -1)
theorem tree_is {nx : List (List Int)} (h : May nx) {b : Nat} (hb : b < nx.length) : Near nx b ((treeL nx).getD b 0) := by rw [treeL_get hb]; exact near_is h b
theorem Ci.start {nx : List (List Int)} (h : May nx) {b c : Nat} (hc : Rch nx noneS c) (he : (b : Int) ∈ nx.getD c []) : Ci nx b c (c : Int) := by
  have hb := (h.lt he).2
  refine .inl ⟨c, rfl, .refl hc, ?_⟩
  rcases tree_is h hb with ⟨q, e, hq, ho, _⟩ | ⟨e, _⟩
  · exact .inl ⟨q, e, ho.ahead hq hc he⟩
  · exact .inr e
theorem Cg.start {nx : List (List Int)} {row : List Int} {b k c : Nat} (x : Nat) : Cg nx row b k c (c : Int) x ↔ Fk nx row b k x := by
  constructor
  · rintro (h | ⟨h1, _, h3⟩)
    · exact h
    · exact absurd ⟨c, rfl, h1⟩ h3
  · exact .inl
/-- One is at a node, and may go on. -/
theorem Ci.node {nx : List (List Int)} (h : May nx) {b c : Nat} {a : Int} (hc : Ci nx b c a) (hn : a ≠ (treeL nx).getD b 0) (hb : b < nx.length) : ∃ p : Nat, a = (p : Int) ∧ p < nx.length ∧ Rch nx noneS p ∧ Ov nx p c ∧ ¬ (p ≠ b ∧ Ov nx p b) ∧ Ci nx b c ((treeL nx).getD p 0) := by
  rcases hc with ⟨p, rfl, ho, hq⟩ | ⟨rfl, e⟩
  · have hp := ho.1.lt h
    refine ⟨p, rfl, hp, ho.1, ho, ?_, ?_⟩
    · rintro ⟨hpb, hob⟩
      rcases tree_is h hb with ⟨q, e, hqb, hoq, ha⟩ | ⟨e, hno⟩
      · rcases hq with ⟨q', e', hq'⟩ | e'
        · rw [e] at e'
          have : q = q' := by omega
          subst this
          have := (ha p hpb hob).anti hq'
          rw [this, e] at hn
          exact hn rfl
        · omega
      · exact hno p hpb hob
    · rcases tree_is h hp with ⟨r, e, hrp, hor, ha⟩ | ⟨e, hno⟩
      · refine .inl ⟨r, e, hor.trans ho, ?_⟩
        rcases hq with ⟨q, e', hq'⟩ | e'
        · refine .inl ⟨q, e', ha q (fun hqp => ?_) hq'⟩
          rw [e', hqp] at hn
          exact hn rfl
        · exact .inr e'
      · refine .inr ⟨e, ?_⟩
        rcases hq with ⟨q, e', hq'⟩ | e'
        · exfalso
          refine hno q (fun hqp => ?_) hq'
          rw [e', hqp] at hn
          exact hn rfl
        · exact e'
  · exact absurd e.symm hn
/-- One more has b. -/
theorem FrTo.climb {nx : List (List Int)} (h : May nx) {row : List Int} {b k c p : Nat} {rows : List (List Int)} (hF : FrTo nx b (Cg nx row b k c (p : Int)) rows) (hp : p < nx.length) (hpc : Ov nx p c) (hs : ¬ (p ≠ b ∧ Ov nx p b)) (hn : ¬ Cg nx row b k c (p : Int) p) : FrTo nx b (Cg nx row b k c ((treeL nx).getD p 0)) (rows.modify p (· ++ [(b : Int)])) := by
  refine ⟨by simpa using hF.len, fun x hx => ?_⟩
  rw [getD_mod (by rw [hF.len]; exact hp)]
  by_cases e : p = x
  · subst e
    rw [if_pos rfl, hF.row p hx, dec_false hn]
    have : Cg nx row b k c ((treeL nx).getD p 0) p := by
      refine .inr ⟨hpc, hs, ?_⟩
      rintro ⟨r, e1, e2⟩
      rcases tree_is h hx with ⟨r', e', hrp, hor, _⟩ | ⟨e', _⟩
      · rw [e'] at e1
        have : r' = r := by omega
        subst this
        exact hrp (hor.anti e2)
      · omega
    rw [dec_true this]
    simp
  · rw [if_neg e, hF.row x hx]
    have : Cg nx row b k c (p : Int) x ↔ Cg nx row b k c ((treeL nx).getD p 0) x := by
      constructor
      · rintro (h1 | ⟨h1, h2, h3⟩)
        · exact .inl h1
        · refine .inr ⟨h1, h2, ?_⟩
          rintro ⟨r, e1, e2⟩
          rcases tree_is h hp with ⟨r', e', hrp, hor, _⟩ | ⟨e', _⟩
          · rw [e'] at e1
            have : r' = r := by omega
            subst this
            exact h3 ⟨p, rfl, e2.trans hor⟩
          · omega
      · rintro (h1 | ⟨h1, h2, h3⟩)
        · exact .inl h1
        · refine .inr ⟨h1, h2, ?_⟩
          rintro ⟨r, e1, e2⟩
          have : p = r := by omega
          subst this
          rcases tree_is h hp with ⟨r', e', hrp, hor, ha⟩ | ⟨e', hno⟩
          · exact h3 ⟨r', e', ha x (fun hh => e hh.symm) e2⟩
          · exact hno x (fun hh => e hh.symm) e2
    rw [dec_congr this]
/-- The nearest one over b is met. -/
theorem FrTo.top {nx : List (List Int)} (h : May nx) {row : List Int} {b k c : Nat} {rows : List (List Int)} (hb : b < nx.length) (hk : row[k]? = some (c : Int)) (hF : FrTo nx b (Cg nx row b k c ((treeL nx).getD b 0)) rows) : FrTo nx b (Fk nx row b (k + 1)) rows := by
  refine hF.congr fun x _ => ⟨?_, ?_⟩
  · rintro (⟨j, c', h1, h2, h3⟩ | ⟨h1, h2, _⟩)
    · exact ⟨j, c', by omega, h2, h3⟩
    · exact ⟨k, c, by omega, hk, h1, h2⟩
  · rintro ⟨j, c', h1, h2, h3, h4⟩
    by_cases e : j < k
    · exact .inl ⟨j, c', e, h2, h3, h4⟩
    · have : j = k := by omega
      subst this
      rw [hk] at h2
      have : c = c' := by cases h2; rfl
      subst this
      refine .inr ⟨h3, h4, ?_⟩
      rintro ⟨q, e1, e2⟩
      rcases tree_is h hb with ⟨q', e', hqb, hoq, _⟩ | ⟨e', _⟩
      · rw [e'] at e1
        have : q' = q := by omega
        subst this
        refine h4 ⟨fun hxb => ?_, e2.trans hoq⟩
        subst hxb
        exact hqb (hoq.anti e2)
      · omega
/-- One is met that has b. -/
theorem FrTo.met {nx : List (List Int)} {row : List Int} {b k c p : Nat} {rows : List (List Int)} (hk : row[k]? = some (c : Int)) (hF : FrTo nx b (Cg nx row b k c (p : Int)) rows) (hp : Rch nx noneS p) (hm : Cg nx row b k c (p : Int) p) : FrTo nx b (Fk nx row b (k + 1)) rows := by
  have hm' : Fk nx row b k p := hm.resolve_right fun h => h.2.2 ⟨p, rfl, .refl hp⟩
  refine hF.congr fun x _ => ⟨?_, ?_⟩
  · rintro (⟨j, c', h1, h2, h3⟩ | ⟨h1, h2, _⟩)
    · exact ⟨j, c', by omega, h2, h3⟩
    · exact ⟨k, c, by omega, hk, h1, h2⟩
  · rintro ⟨j, c', h1, h2, h3, h4⟩
    by_cases e : j < k
    · exact .inl ⟨j, c', e, h2, h3, h4⟩
    · have : j = k := by omega
      subst this
      rw [hk] at h2
      have : c = c' := by cases h2; rfl
      subst this
      by_cases e2 : Ov nx x p
      · obtain ⟨j', c2, k1, k2, k3, k4⟩ := hm'
        exact .inl ⟨j', c2, k1, k2, e2.trans k3, h4⟩
      · exact .inr ⟨h3, h4, fun ⟨q, e1, e3⟩ => e2 (by have : p = q := by omega
                                                      subst this; exact e3)⟩
noncomputable def mA (nx : List (List Int)) (a : Int) : Nat := if 0 ≤ a then cntO nx a.toNat nx.length + 1 else 0
theorem mA_nat (nx : List (List Int)) (p : Nat) : mA nx (p : Int) = cntO nx p nx.length + 1 := by
  unfold mA
  rw [if_pos (by omega), Int.toNat_natCast]
theorem mA_lt {nx : List (List Int)} (h : May nx) {p : Nat} (hp : p < nx.length) : mA nx ((treeL nx).getD p 0) < mA nx (p : Int) := by
  rcases tree_is h hp with ⟨r, e, hrp, hor, _⟩ | ⟨e, _⟩
  · rw [e, mA_nat, mA_nat]
    have := cnt_near h hrp hor
    omega
  · rw [e, mA_nat]
    unfold mA
    rw [if_neg (by omega)]
    omega
end Go.Proofs.YtogjjmbcbnceoaaGreat
/- Joins, by depths: plain. -/
namespace Go.Proofs.YtogjjmbcbnceoaaGreat

theorem putA_at {rows : List (List Int)} {i to : Int} {j : Nat} (hj : j < rows.length) : (putA i rows to).getD j [] = rows.getD j [] ++ (if (j : Int) = to then [i] else []) := by
  unfold putA
  split
  · rename_i h
    have h1 := inB_iff.1 h
    rw [getD_mod (by omega)]
    by_cases e : to.toNat = j
    · rw [if_pos e, if_pos (by omega)]
    · rw [if_neg e, if_neg (by omega)]; simp
  · rename_i h
    rw [if_neg (fun e => h (inB_iff.2 (by omega)))]
    simp
/-- What stands under a place: each once. -/
theorem underF_row {j : Nat} : ∀ (t : List Int) (i0 : Nat) (rows : List (List Int)), j < rows.length → (∀ x ∈ rows.getD j [], x < (i0 : Int)) → (rows.getD j []).Nodup →
    ((underF t i0 rows).getD j []).Nodup ∧ ∀ x, x ∈ (underF t i0 rows).getD j [] ↔ x ∈ rows.getD j [] ∨ ∃ q : Nat, x = ((i0 + q : Nat) : Int) ∧ q < t.length ∧ t.getD q 0 = (j : Int)
  | [], i0, rows, _, _, hn => by
    unfold underF
    exact ⟨hn, fun x => ⟨.inl, fun h => h.elim id fun ⟨q, _, h2, _⟩ => by simp at h2⟩⟩
  | y :: t, i0, rows, hj, hl, hn => by
    unfold underF
    have hp := putA_at (i := (i0 : Int)) (to := y) hj
    obtain ⟨h1, h2⟩ := underF_row t (i0 + 1) (putA (i0 : Int) rows y) (by rw [putA_len]; exact hj) (fun x hx => by
      rw [hp, List.mem_append] at hx
      rcases hx with hx | hx
      · have := hl x hx; omega
      · split at hx
        · simp at hx; omega
        · simp at hx) (by
      rw [hp, List.nodup_append]
      refine ⟨hn, by split <;> simp, fun a ha b hb e => ?_⟩
      split at hb
      · simp at hb
        have := hl a ha
        omega
      · simp at hb)
    refine ⟨h1, fun x => ?_⟩
    rw [h2, hp, List.mem_append]
    constructor
    · rintro ((h | h) | ⟨q, h1, h2, h3⟩)
      · exact .inl h
      · split at h
        · rename_i he
          simp at h
          exact .inr ⟨0, by simpa using h, by simp, by simpa using he.symm⟩
        · simp at h
      · exact .inr ⟨q + 1, by rw [h1]; congr 1; omega, by simpa using h2, by simpa using h3⟩
    · rintro (h | ⟨q, h1, h2, h3⟩)
      · exact .inl (.inl h)
      · rcases q with _ | q
        · refine .inl (.inr ?_)
          have e : (j : Int) = y := by simpa using h3.symm
          rw [if_pos e]
          simpa using h1
        · exact .inr ⟨q, by rw [h1]; congr 1; omega, by simpa using h2, by simpa using h3⟩
noncomputable def undL (nx : List (List Int)) : List (List Int) := underT (treeL nx)
theorem undL_len (nx : List (List Int)) : (undL nx).length = nx.length := by unfold undL; rw [underT_len, treeL_len]
/-- p is the nearest one over x. -/
def Par (nx : List (List Int)) (x p : Nat) : Prop := x < nx.length ∧ (treeL nx).getD x 0 = (p : Int)
theorem undL_row {nx : List (List Int)} {p : Nat} (hp : p < nx.length) : ((undL nx).getD p []).Nodup ∧ ∀ x : Int, x ∈ (undL nx).getD p [] ↔ ∃ y : Nat, x = (y : Int) ∧ Par nx y p := by
  unfold undL underT
  have e0 : (List.replicate (treeL nx).length ([] : List Int)).getD p [] = [] := by
    rw [List.getD_eq_getElem?_getD, List.getElem?_replicate]
    split <;> rfl
  obtain ⟨h1, h2⟩ := underF_row (j := p) (treeL nx) 0 (List.replicate (treeL nx).length []) (by rw [List.length_replicate, treeL_len]; exact hp) (by rw [e0]; simp) (by rw [e0]; simp)
  refine ⟨h1, fun x => ?_⟩
  rw [h2, e0]
  constructor
  · rintro (h | ⟨q, h3, h4, h5⟩)
    · simp at h
    · exact ⟨q, by simpa using h3, by rw [← treeL_len nx]; exact h4, h5⟩
  · rintro ⟨y, rfl, h4, h5⟩
    exact .inr ⟨y, by simp, by rw [treeL_len]; exact h4, h5⟩
theorem Par.near {nx : List (List Int)} (h : May nx) {x p : Nat} (hp : Par nx x p) : p ≠ x ∧ Ov nx p x ∧ ∀ c, c ≠ x → Ov nx c x → Ov nx c p := by
  rcases tree_is h hp.1 with ⟨k, e, h1, h2, h3⟩ | ⟨e, _⟩
  · rw [hp.2] at e
    have : p = k := by omega
    subst this
    exact ⟨h1, h2, h3⟩
  · rw [hp.2] at e
    omega
theorem Par.uniq {nx : List (List Int)} {x p q : Nat} (hp : Par nx x p) (hq : Par nx x q) : p = q := by
  have := hp.2.symm.trans hq.2
  omega
theorem Par.of {nx : List (List Int)} (h : May nx) {x : Nat} (hr : Rch nx noneS x) (h0 : x ≠ 0) : ∃ p, Par nx x p := by
  have hx := hr.lt h
  rcases tree_is h hx with ⟨k, e, _⟩ | ⟨_, hn⟩
  · exact ⟨k, hx, e⟩
  · exact absurd (.entry hr) (hn 0 (fun e => h0 e.symm))
theorem filt1 {P Q : Nat → Prop} {x : Nat} (hn : ¬ P x) : ∀ (l : List Nat), l.Nodup → x ∈ l → (∀ c ∈ l, Q c ↔ c = x ∨ P c) → (l.filter fun c => dec (Q c)).length = (l.filter fun c => dec (P c)).length + 1
  | [], _, hx, _ => by simp at hx
  | c :: l, hd, hx, hq => by
    have hcl := (List.nodup_cons.1 hd)
    by_cases e : c = x
    · subst e
      have h1 : dec (Q c) = true := dec_true ((hq c (by simp)).2 (.inl rfl))
      have h2 : dec (P c) = false := dec_false hn
      rw [List.filter_cons, List.filter_cons, if_pos h1, h2, if_neg (by simp)]
      have : l.filter (fun c => dec (Q c)) = l.filter fun c => dec (P c) := List.filter_congr fun y hy => dec_congr ((hq y (by simp [hy])).trans ⟨fun h => h.resolve_left fun e => hcl.1 (e ▸ hy), .inr⟩)
      rw [this]
      rfl
    · have hx' : x ∈ l := (List.mem_cons.1 hx).resolve_left fun h => e h.symm
      have ih := filt1 hn l hcl.2 hx' (fun y hy => hq y (by simp [hy]))
      have h1 : dec (Q c) = dec (P c) := dec_congr ((hq c (by simp)).trans ⟨fun h => h.resolve_left e, .inr⟩)
      rw [List.filter_cons, List.filter_cons, h1]
      split
      · simp [ih]
      · exact ih
/-- How many stand strictly over a node. -/
noncomputable def dep (nx : List (List Int)) (x : Nat) : Int := if dec (Rch nx noneS x) then (cntO nx x nx.length : Int) - 1 else -1
theorem dep_r {nx : List (List Int)} {x : Nat} (h : Rch nx noneS x) : dep nx x = (cntO nx x nx.length : Int) - 1 := by unfold dep; rw [dec_true h]; rfl
theorem dep_no {nx : List (List Int)} {x : Nat} (h : ¬ Rch nx noneS x) : dep nx x = -1 := by unfold dep; rw [dec_false h]; rfl
theorem cnt_pos {nx : List (List Int)} (h : May nx) {x : Nat} (hr : Rch nx noneS x) : 0 < cntO nx x nx.length :=
  List.length_pos_of_mem (List.mem_filter.2 ⟨List.mem_range.2 (hr.lt h), dec_true (.refl hr)⟩)
theorem dep_in {nx : List (List Int)} (h : May nx) {x : Nat} (hr : Rch nx noneS x) : 0 ≤ dep nx x ∧ dep nx x < nx.length := by
  have h1 := cnt_pos h hr
  have h2 := cnt_le nx x nx.length
  rw [dep_r hr]
  omega
theorem dep_iff {nx : List (List Int)} (h : May nx) {x : Nat} : dep nx x ≠ -1 ↔ Rch nx noneS x := by
  constructor
  · intro hn
    by_cases hr : Rch nx noneS x
    · exact hr
    · exact absurd (dep_no hr) hn
  · intro hr
    have := (dep_in h hr).1
    omega
theorem dep_par {nx : List (List Int)} (h : May nx) {x p : Nat} (hp : Par nx x p) : dep nx x = dep nx p + 1 := by
  obtain ⟨h1, h2, h3⟩ := hp.near h
  rw [dep_r h2.2.1, dep_r h2.1]
  have := filt1 (P := fun c => Ov nx c p) (Q := fun c => Ov nx c x) (x := x) (fun ho => h1 (h2.anti ho)) (List.range nx.length) List.nodup_range (List.mem_range.2 hp.1) (fun c _ => ⟨fun hc => by
    by_cases e : c = x
    · exact .inl e
    · exact .inr (h3 c e hc), fun hc => hc.elim (fun e => by rw [e]; exact .refl h2.2.1) (fun hc => hc.trans h2)⟩)
  unfold cntO
  omega
theorem dep_zero {nx : List (List Int)} (h : May nx) : dep nx 0 = 0 := by
  rw [dep_r .entry]
  have := filt1 (P := fun _ => False) (Q := fun c => Ov nx c 0) (x := 0) (fun h => h) (List.range nx.length) List.nodup_range (List.mem_range.2 h.1) (fun c _ => ⟨fun hc => .inl hc.top, fun hc => hc.elim (fun e => by rw [e]; exact .refl .entry) (fun h => h.elim)⟩)
  unfold cntO
  rw [this, List.filter_eq_nil_iff.2 (fun a _ => by rw [dec_false (fun h => h)]; simp)]
  rfl
theorem dep_lt {nx : List (List Int)} (h : May nx) {a b : Nat} (ho : Ov nx a b) (hn : a ≠ b) : dep nx a < dep nx b := by
  have := cnt_near h hn ho
  rw [dep_r ho.1, dep_r ho.2.1]
  omega
theorem dep_le {nx : List (List Int)} (h : May nx) {a b : Nat} (ho : Ov nx a b) : dep nx a ≤ dep nx b := by
  by_cases e : a = b
  · rw [e]; exact Int.le_refl _
  · exact Int.le_of_lt (dep_lt h ho e)
theorem fr_dep {nx : List (List Int)} (h : May nx) {a b : Nat} : Fr nx a b ↔ ∃ c, Ov nx a c ∧ (b : Int) ∈ nx.getD c [] ∧ dep nx b ≤ dep nx a := by
  constructor
  · intro hf
    obtain ⟨⟨c, ho, he⟩, hn⟩ := hf
    refine ⟨c, ho, he, ?_⟩
    have hb : Rch nx noneS b := ho.2.1.step (fun h => h) he
    by_cases h0 : b = 0
    · rw [h0, dep_zero h]
      exact (dep_in h ho.1).1
    · obtain ⟨p, hp⟩ := Par.of h hb h0
      obtain ⟨h1, h2, h3⟩ := hp.near h
      have hpc : Ov nx p c := h2.ahead h1 ho.2.1 he
      rw [dep_par h hp]
      have hpa : Ov nx p a ∧ p ≠ a := by
        rcases hpc.chain ho with h4 | h4
        · refine ⟨h4, fun e => ?_⟩
          subst e
          exact hn ⟨h1, h2⟩
        · exfalso
          by_cases e : a = b
          · subst e
            exact h1 (h2.anti h4)
          · exact hn ⟨e, h4.trans h2⟩
      have := dep_lt h hpa.1 hpa.2
      omega
  · rintro ⟨c, ho, he, hd⟩
    refine ⟨⟨c, ho, he⟩, fun ⟨hne, hob⟩ => ?_⟩
    have := dep_lt h hob hne
    omega
/-- Below a node, but for what is not to be gone through: a row of nodes as it grows; i of them are through, and k of those under the next one. -/
structure Wk (nx : List (List Int)) (K : Nat → Prop) (top i k : Nat) (row : List Int) : Prop where
  nd : row.Nodup
  fst : row[0]? = some (top : Int)
  nod : ∀ x ∈ row, ∃ y : Nat, x = (y : Int) ∧ y < nx.length ∧ Ov nx top y
  src : ∀ (j : Nat) (x : Nat), row[j]? = some (x : Int) → j = 0 ∨ (¬ K x ∧ ∃ j' k' p : Nat, j' < j ∧ row[j']? = some (p : Int) ∧ ((undL nx).getD p [])[k']? = some (x : Int) ∧ (j' < i ∨ (j' = i ∧ k' < k)))
  all : ∀ (j k' p x : Nat), row[j]? = some (p : Int) → ((undL nx).getD p [])[k']? = some (x : Int) → (j < i ∨ (j = i ∧ k' < k)) → ¬ K x → (x : Int) ∈ row
theorem Wk.start {nx : List (List Int)} (h : May nx) {K : Nat → Prop} {top : Nat} (ht : Rch nx noneS top) : Wk nx K top 0 0 [(top : Int)] := by
  refine ⟨by simp, rfl, fun x hx => ⟨top, by simpa using hx, ht.lt h, .refl ht⟩, fun j x hj => .inl ?_, fun j k' p x hj _ hk _ => by omega⟩
  have := (List.getElem?_eq_some_iff.1 hj).1
  simpa using this
theorem nodup_at {l : List Int} (h : l.Nodup) {i j : Nat} {x : Int} (hi : l[i]? = some x) (hj : l[j]? = some x) : i = j := by
  exact (List.getElem?_inj (List.getElem?_eq_some_iff.1 hi).1 h).1 (hi.trans hj.symm)
theorem Wk.len {nx : List (List Int)} {K : Nat → Prop} {top i k : Nat} {row : List Int} (h : Wk nx K top i k row) : row.length ≤ nx.length := by
  have h1 : row.length ≤ ((List.range nx.length).map fun b : Nat => (b : Int)).length := by
    refine List.Nodup.length_le_of_subset h.nd fun x hx => ?_
    obtain ⟨y, e, hy, _⟩ := h.nod x hx
    exact List.mem_map.2 ⟨y, List.mem_range.2 hy, e.symm⟩
  simpa using h1
/-- One that is not to be gone through. -/
theorem Wk.pass {nx : List (List Int)} {K : Nat → Prop} {top i k : Nat} {row : List Int} (h : Wk nx K top i k row) {p x : Nat} (hp : row[i]? = some (p : Int)) (hx : ((undL nx).getD p [])[k]? = some (x : Int)) (hK : K x) : Wk nx K top i (k + 1) row := by
  refine ⟨h.nd, h.fst, h.nod, fun j y hj => (h.src j y hj).imp id fun ⟨h1, j', k', q, h2, h3, h4, h5⟩ => ⟨h1, j', k', q, h2, h3, h4, by omega⟩, fun j k' q y h1 h2 h3 h4 => ?_⟩
  by_cases e : j < i ∨ (j = i ∧ k' < k)
  · exact h.all j k' q y h1 h2 e h4
  · exfalso
    have e1 : j = i := by omega
    have e2 : k' = k := by omega
    subst e1; subst e2
    rw [hp] at h1
    have : p = q := by cases h1; rfl
    subst this
    rw [hx] at h2
    have : x = y := by cases h2; rfl
    subst this
    exact h4 hK
/-- What is next under the node at hand is not in the row yet. -/
theorem Wk.fresh {nx : List (List Int)} (hm : May nx) {K : Nat → Prop} {top i k : Nat} {row : List Int} (h : Wk nx K top i k row) {p x : Nat} (hp : row[i]? = some (p : Int)) (hx : ((undL nx).getD p [])[k]? = some (x : Int)) : Par nx x p ∧ p < nx.length ∧ Ov nx top p ∧ (x : Int) ∉ row := by
  obtain ⟨q, e, hpl, hot⟩ := h.nod _ (List.mem_of_getElem? hp)
  have : p = q := by omega
  subst this
  obtain ⟨hnd, hmem⟩ := undL_row hpl
  obtain ⟨y, e2, hpar⟩ := (hmem _).1 (List.mem_of_getElem? hx)
  have : x = y := by omega
  subst this
  refine ⟨hpar, hpl, hot, fun hin => ?_⟩
  obtain ⟨h1, h2, h3⟩ := hpar.near hm
  obtain ⟨j, hj⟩ := List.getElem?_of_mem hin
  rcases h.src j x hj with h0 | ⟨_, j', k', q, hjj, hq, hqx, hw⟩
  · subst h0
    rw [h.fst] at hj
    have : top = x := by cases hj; rfl
    subst this
    exact h1 (h2.anti hot)
  · obtain ⟨q', e3, hql, _⟩ := h.nod _ (List.mem_of_getElem? hq)
    have : q = q' := by omega
    subst this
    obtain ⟨y, e4, hpar2⟩ := ((undL_row hql).2 _).1 (List.mem_of_getElem? hqx)
    have : x = y := by omega
    subst this
    have : p = q := hpar.uniq hpar2
    subst this
    have := nodup_at h.nd hp hq
    subst this
    have := nodup_at hnd hx hqx
    omega
theorem Wk.push {nx : List (List Int)} (hm : May nx) {K : Nat → Prop} {top i k : Nat} {row : List Int} (h : Wk nx K top i k row) {p x : Nat} (hp : row[i]? = some (p : Int)) (hx : ((undL nx).getD p [])[k]? = some (x : Int)) (hK : ¬ K x) : Wk nx K top i (k + 1) (row ++ [(x : Int)]) := by
  obtain ⟨hpar, hpl, hot, hnew⟩ := h.fresh hm hp hx
  obtain ⟨h1, h2, h3⟩ := hpar.near hm
  have hil := (List.getElem?_eq_some_iff.1 hp).1
  have old : ∀ {j : Nat} {y : Int}, row[j]? = some y → (row ++ [(x : Int)])[j]? = some y := fun {j y} hj => by
    rw [List.getElem?_append_left (List.getElem?_eq_some_iff.1 hj).1]; exact hj
  have back : ∀ {j : Nat} {y : Int}, (row ++ [(x : Int)])[j]? = some y → row[j]? = some y ∨ (j = row.length ∧ y = (x : Int)) := fun {j y} hj => by
    rw [List.getElem?_append] at hj
    split at hj
    · exact .inl hj
    · rename_i hh
      have h9 := (List.getElem?_eq_some_iff.1 hj).1
      simp at h9
      have e : j = row.length := by omega
      subst e
      simp at hj
      exact .inr ⟨rfl, hj.symm⟩
  refine ⟨?_, old h.fst, fun y hy => ?_, fun j y hj => ?_, fun j k' q y hj hy hw hn => ?_⟩
  · rw [List.nodup_append]
    refine ⟨h.nd, by simp, fun a ha b hb e => ?_⟩
    simp at hb
    subst hb
    subst e
    exact hnew ha
  · rcases List.mem_append.1 hy with hy | hy
    · exact h.nod y hy
    · simp at hy
      exact ⟨x, hy, hpar.1, hot.trans h2⟩
  · rcases back hj with hj | ⟨rfl, e⟩
    · exact (h.src j y hj).imp id fun ⟨g1, j', k', q, g2, g3, g4, g5⟩ => ⟨g1, j', k', q, g2, old g3, g4, by omega⟩
    · have : y = x := by omega
      subst this
      exact .inr ⟨hK, i, k, p, hil, old hp, hx, .inr ⟨rfl, by omega⟩⟩
  · rcases back hj with hj | ⟨rfl, e⟩
    · by_cases e : j < i ∨ (j = i ∧ k' < k)
      · exact List.mem_append.2 (.inl (h.all j k' q y hj hy e hn))
      · have e1 : j = i := by omega
        have e2 : k' = k := by omega
        subst e1; subst e2
        rw [hp] at hj
        have : p = q := by cases hj; rfl
        subst this
        rw [hx] at hy
        have : x = y := by cases hy; rfl
        subst this
        simp
    · omega
theorem Wk.row {nx : List (List Int)} {K : Nat → Prop} {top i k : Nat} {row : List Int} (h : Wk nx K top i k row) {p : Nat} (hp : row[i]? = some (p : Int)) (hk : k = ((undL nx).getD p []).length) : Wk nx K top (i + 1) 0 row := by
  refine ⟨h.nd, h.fst, h.nod, fun j y hj => (h.src j y hj).imp id fun ⟨h1, j', k', q, h2, h3, h4, h5⟩ => ⟨h1, j', k', q, h2, h3, h4, by omega⟩, fun j k' q y h1 h2 h3 h4 => ?_⟩
  refine h.all j k' q y h1 h2 ?_ h4
  rcases Nat.lt_or_ge j i with e | e
  · exact .inl e
  · have : j = i := by omega
    subst this
    rw [hp] at h1
    have : p = q := by cases h1; rfl
    subst this
    have := (List.getElem?_eq_some_iff.1 h2).1
    exact .inr ⟨rfl, by omega⟩
/-- All that stands under the node, where what is not to be gone through has nothing under it that is. -/
theorem Wk.done {nx : List (List Int)} (hm : May nx) {K : Nat → Prop} {top i : Nat} {row : List Int} (h : Wk nx K top i 0 row) (hi : row.length ≤ i) (hK : ∀ x p, K p → Par nx x p → K x) (x : Nat) : (x : Int) ∈ row ↔ x = top ∨ (Ov nx top x ∧ ¬ K x) := by
  constructor
  · intro hx
    obtain ⟨j, hj⟩ := List.getElem?_of_mem hx
    obtain ⟨y, e, _, ho⟩ := h.nod _ hx
    have : x = y := by omega
    subst this
    rcases h.src j x hj with h0 | ⟨hn, _⟩
    · subst h0
      rw [h.fst] at hj
      left
      cases hj
      rfl
    · exact .inr ⟨ho, hn⟩
  · have htop : (top : Int) ∈ row := List.mem_of_getElem? h.fst
    have key : ∀ (c x : Nat), cntO nx x nx.length ≤ c → Ov nx top x → ¬ K x → (x : Int) ∈ row := by
      intro c
      induction c with
      | zero =>
        intro x hc ho _
        have := cnt_pos hm ho.2.1
        omega
      | succ c ih =>
        intro x hc ho hn
        by_cases e : x = top
        · rw [e]; exact htop
        · have h0 : x ≠ 0 := fun e0 => by subst e0; exact e ho.top.symm
          obtain ⟨p, hp⟩ := Par.of hm ho.2.1 h0
          obtain ⟨h1, h2, h3⟩ := hp.near hm
          have hop := h3 top (fun e2 => e e2.symm) ho
          have hc2 := cnt_near hm h1 h2
          have hpr : (p : Int) ∈ row := by
            refine ih p (by omega) hop fun hKp => hn (hK x p hKp hp)
          obtain ⟨j, hj⟩ := List.getElem?_of_mem hpr
          obtain ⟨k, hk⟩ := List.getElem?_of_mem (((undL_row (h2.1.lt hm)).2 (x : Int)).2 ⟨x, rfl, hp⟩)
          refine h.all j k p x hj hk (.inl ?_) hn
          have := (List.getElem?_eq_some_iff.1 hj).1
          omega
    rintro (rfl | ⟨ho, hn⟩)
    · exact htop
    · exact key _ x (Nat.le_refl _) ho hn
end Go.Proofs.YtogjjmbcbnceoaaGreat
/- Joins, by depths: what holds of those that wait, have gone and are found. Plain. -/
namespace Go.Proofs.YtogjjmbcbnceoaaGreat

noncomputable def depL (nx : List (List Int)) : List Int := (List.range nx.length).map (dep nx)
theorem depL_len (nx : List (List Int)) : (depL nx).length = nx.length := by simp [depL]
theorem depL_get {nx : List (List Int)} {x : Nat} (hx : x < nx.length) : (depL nx).getD x 0 = dep nx x := by
  rw [getD_of (by rw [depL_len]; exact hx)]
  simp [depL]
def waitB (dl : List Int) (wt : List Bool) (x : Nat) : Bool := !wt.getD x false && decide (dl.getD x 0 ≠ -1)
def waitW (dl : List Int) (wt : List Bool) (x : Nat) : List Bool := if waitB dl wt x then wt.set x true else wt
def waitR (dl : List Int) (wt : List Bool) (rows : List (List Int)) (x : Nat) : List (List Int) := if waitB dl wt x then rows.modify (dl.getD x 0).toNat (· ++ [(x : Int)]) else rows
theorem getD_sb {l : List Bool} {x y : Nat} (h : x < l.length) : (l.set x true).getD y false = true ↔ y = x ∨ l.getD y false = true := by
  rw [getD_setB h]
  split
  · rename_i e; simp [e]
  · rename_i e
    exact ⟨.inr, fun h => h.resolve_left fun e2 => e e2.symm⟩
structure JI (nx : List (List Int)) (F : Nat → Prop) (d : Int) (P Dn : List Nat) (pd : List Int) (wt gn jn : List Bool) (rows : List (List Int)) : Prop where
  lw : wt.length = nx.length
  lg : gn.length = nx.length
  lj : jn.length = nx.length
  lr : rows.length = nx.length
  gone : ∀ c, c < nx.length → (gn.getD c false = true ↔ ∃ t ∈ P, Ov nx t c)
  done : ∀ t ∈ Dn, ∀ b, Fr nx t b → jn.getD b false = true
  sound : ∀ b, jn.getD b false = true → Jn nx F b
  wait : ∀ x, x < nx.length → (wt.getD x false = true ↔ Rch nx noneS x ∧ (F x ∨ jn.getD x false = true))
  place : ∀ x, x < nx.length → (wt.getD x false = true ↔ x ∈ P ∨ (x : Int) ∈ pd ∨ (x : Int) ∈ rows.getD (dep nx x).toNat [])
  keyd : ∀ k x, x ∈ rows.getD k [] → ∃ y : Nat, x = (y : Int) ∧ Rch nx noneS y ∧ dep nx y = (k : Int)
  pdd : ∀ x ∈ pd, ∃ y : Nat, x = (y : Int) ∧ Rch nx noneS y ∧ dep nx y = d
  low : ∀ k, rows.getD k [] ≠ [] → (k : Int) ≤ d
  high : ∀ t ∈ P, Rch nx noneS t ∧ d ≤ dep nx t
  ndP : P.Nodup
  ndd : pd.Nodup
  ndr : ∀ k, (rows.getD k []).Nodup
  pP : ∀ t ∈ P, (t : Int) ∉ pd
  pR : ∀ t ∈ P, ∀ k, (t : Int) ∉ rows.getD k []
  dR : ∀ x ∈ pd, ∀ k, x ∉ rows.getD k []
theorem getD_repB (n x : Nat) : (List.replicate n false).getD x false = false := by
  rw [List.getD_eq_getElem?_getD, List.getElem?_replicate]
  split <;> rfl
theorem getD_repL (n x : Nat) : (List.replicate n ([] : List Int)).getD x [] = [] := by
  rw [List.getD_eq_getElem?_getD, List.getElem?_replicate]
  split <;> rfl
theorem JI.start (nx : List (List Int)) : JI nx (fun _ => False) (nx.length : Int) [] [] [] (List.replicate nx.length false) (List.replicate nx.length false) (List.replicate nx.length false) (List.replicate nx.length []) := by
  refine ⟨by simp, by simp, by simp, by simp, fun c _ => ?_, fun t ht => by simp at ht, fun b hb => ?_, fun x _ => ?_, fun x _ => ?_, fun k x hx => ?_, fun x hx => by simp at hx, fun k hk => ?_, fun t ht => by simp at ht, by simp, by simp, fun k => ?_, fun t ht => by simp at ht, fun t ht => by simp at ht, fun x hx => by simp at hx⟩
  · rw [getD_repB]; simp
  · rw [getD_repB] at hb; simp at hb
  · rw [getD_repB]; simp
  · rw [getD_repB, getD_repL]; simp
  · rw [getD_repL] at hx; simp at hx
  · rw [getD_repL] at hk; simp at hk
  · rw [getD_repL]; simp
/-- One is asked to wait. -/
theorem JI.put {nx : List (List Int)} (hm : May nx) {F F' : Nat → Prop} {d : Int} {P Dn : List Nat} {pd : List Int} {wt gn jn jn' : List Bool} {rows : List (List Int)} (h : JI nx F d P Dn pd wt gn jn rows) {x : Nat} (hx : x < nx.length)
    (hFJ : ∀ y, y < nx.length → y ≠ x → (F' y ∨ jn'.getD y false = true ↔ F y ∨ jn.getD y false = true)) (hin : F' x ∨ jn'.getD x false = true) (hd : Rch nx noneS x → dep nx x ≤ d) (hs : ∀ b, jn'.getD b false = true → Jn nx F' b) (hj : ∀ b, jn.getD b false = true → jn'.getD b false = true) (hl : jn'.length = nx.length) :
    JI nx F' d P Dn pd (waitW (depL nx) wt x) gn jn' (waitR (depL nx) wt rows x) := by
  have hc : waitB (depL nx) wt x = true ↔ wt.getD x false = false ∧ Rch nx noneS x := by
    unfold waitB
    rw [depL_get hx, Bool.and_eq_true, decide_eq_true_iff, dep_iff hm]
    simp
  unfold waitW waitR
  by_cases hcc : waitB (depL nx) wt x = true
  · rw [if_pos hcc, if_pos hcc, depL_get hx]
    obtain ⟨hw0, hr⟩ := hc.1 hcc
    obtain ⟨hd0, hdn⟩ := dep_in hm hr
    have hwl : x < wt.length := by rw [h.lw]; exact hx
    have hkl : (dep nx x).toNat < rows.length := by rw [h.lr]; omega
    have hnot := fun hh => Bool.false_ne_true (hw0.symm.trans ((h.place x hx).2 hh))
    have mem : ∀ (k : Nat) (y : Int), y ∈ (rows.modify (dep nx x).toNat (· ++ [(x : Int)])).getD k [] ↔ y ∈ rows.getD k [] ∨ (y = (x : Int) ∧ k = (dep nx x).toNat) := fun k y => by
      rw [getD_mod hkl]
      split
      · rename_i e; subst e; rw [List.mem_append]; simp
      · rename_i e
        exact ⟨.inl, fun hh => hh.elim id fun hh => absurd hh.2.symm e⟩
    have xno : ∀ k, (x : Int) ∉ rows.getD k [] := fun k hk => by
      obtain ⟨y, e1, _, e3⟩ := h.keyd k _ hk
      have : x = y := by omega
      subst this
      refine hnot (.inr (.inr ?_))
      rw [e3]
      simpa using hk
    refine ⟨by simpa using h.lw, h.lg, hl, by simpa using h.lr, h.gone, fun t ht b hb => hj b (h.done t ht b hb), hs, fun y hy => ?_, fun y hy => ?_, fun k y hy => ?_, h.pdd, fun k hk => ?_, h.high, h.ndP, h.ndd, fun k => ?_, h.pP, fun t ht k hk => ?_, fun y hy k hk => ?_⟩
    · rw [getD_sb hwl]
      by_cases e : y = x
      · subst e; exact ⟨fun _ => ⟨hr, hin⟩, fun _ => .inl rfl⟩
      · rw [h.wait y hy, hFJ y hy e]
        exact ⟨fun hh => hh.resolve_left e, .inr⟩
    · rw [getD_sb hwl, h.place y hy, mem]
      by_cases e : y = x
      · subst e; simp
      · constructor
        · rintro (hh | hh | hh | hh)
          · exact absurd hh e
          · exact .inl hh
          · exact .inr (.inl hh)
          · exact .inr (.inr (.inl hh))
        · rintro (hh | hh | hh | hh)
          · exact .inr (.inl hh)
          · exact .inr (.inr (.inl hh))
          · exact .inr (.inr (.inr hh))
          · omega
    · rcases (mem k y).1 hy with hh | ⟨e1, e2⟩
      · exact h.keyd k y hh
      · exact ⟨x, e1, hr, by omega⟩
    · rw [getD_mod hkl] at hk
      split at hk
      · rename_i e
        have := hd hr
        omega
      · exact h.low k hk
    · rw [getD_mod hkl]
      split
      · rename_i e
        subst e
        rw [List.nodup_append]
        refine ⟨h.ndr _, by simp, fun a ha b hb e => ?_⟩
        simp at hb
        subst hb
        subst e
        exact xno _ ha
      · exact h.ndr k
    · rcases (mem k _).1 hk with hh | ⟨e1, e2⟩
      · exact h.pR t ht k hh
      · have : t = x := by omega
        subst this
        exact hnot (.inl ht)
    · rcases (mem k _).1 hk with hh | ⟨e1, e2⟩
      · exact h.dR y hy k hh
      · subst e1
        exact hnot (.inr (.inl hy))
  · rw [if_neg hcc, if_neg hcc]
    refine ⟨h.lw, h.lg, hl, h.lr, h.gone, fun t ht b hb => hj b (h.done t ht b hb), hs, fun y hy => ?_, h.place, h.keyd, h.pdd, h.low, h.high, h.ndP, h.ndd, h.ndr, h.pP, h.pR, h.dR⟩
    by_cases e : y = x
    · subst e
      rcases hw : wt.getD y false with _ | _
      · have hr : ¬ Rch nx noneS y := fun hr => hcc (hc.2 ⟨hw, hr⟩)
        exact ⟨fun hh => by simp at hh, fun hh => absurd hh.1 hr⟩
      · exact ⟨fun _ => ⟨((h.wait y hy).1 hw).1, hin⟩, fun _ => rfl⟩
    · rw [h.wait y hy, hFJ y hy e]
theorem JI.see {nx : List (List Int)} (hm : May nx) {F : Nat → Prop} {P Dn : List Nat} {pd : List Int} {wt gn jn : List Bool} {rows : List (List Int)} (h : JI nx F (nx.length : Int) P Dn pd wt gn jn rows) {x : Nat} (hx : x < nx.length) : JI nx (fun y => F y ∨ y = x) (nx.length : Int) P Dn pd (waitW (depL nx) wt x) gn jn (waitR (depL nx) wt rows x) :=
  h.put hm hx (fun _ _ hy => ⟨fun hh => hh.elim (fun hh => hh.elim .inl fun e => absurd e hy) .inr, fun hh => hh.elim (fun hh => .inl (.inl hh)) .inr⟩) (.inl (.inr rfl)) (fun hr => Int.le_of_lt (dep_in hm hr).2) (fun b hb => (h.sound b hb).mono fun _ => .inl) (fun _ hb => hb) h.lj
theorem JI.cast {nx : List (List Int)} {F F' : Nat → Prop} {d : Int} {P Dn : List Nat} {pd : List Int} {wt gn jn : List Bool} {rows : List (List Int)} (h : JI nx F d P Dn pd wt gn jn rows) (hF : ∀ y, F y ↔ F' y) : JI nx F' d P Dn pd wt gn jn rows := by
  have : F = F' := funext fun y => propext (hF y)
  subst this
  exact h
/-- A node is found to be a join. -/
theorem JI.mark {nx : List (List Int)} (hm : May nx) {F : Nat → Prop} {d : Int} {t : Nat} {P Dn : List Nat} {pd : List Int} {wt gn jn : List Bool} {rows : List (List Int)} (h : JI nx F d (t :: P) Dn pd wt gn jn rows) (htd : dep nx t = d) {c b : Nat} (ho : Ov nx t c) (he : (b : Int) ∈ nx.getD c []) (hd : dep nx b ≤ dep nx t) : JI nx F d (t :: P) Dn pd (waitW (depL nx) wt b) gn (jn.set b true) (waitR (depL nx) wt rows b) := by
  have hb := (hm.lt he).2
  have hbl : b < jn.length := by rw [h.lj]; exact hb
  have htl := ho.1.lt hm
  refine h.put hm hb (fun _ _ hy => ?_) (.inr ((getD_sb hbl).2 (.inl rfl))) (fun _ => by omega) (fun y hy => ?_) (fun y hy => (getD_sb hbl).2 (.inr hy)) (by simpa using h.lj)
  · rw [getD_sb hbl]
    exact ⟨fun hh => hh.imp id fun hh => hh.resolve_left hy, fun hh => hh.imp id .inr⟩
  · rcases (getD_sb hbl).1 hy with rfl | hh
    · have hw := (h.place t htl).2 (.inl (by simp))
      exact Jn.of (((h.wait t htl).1 hw).2.imp id (h.sound t)) ((fr_dep hm).2 ⟨c, ho, he, hd⟩)
    · exact h.sound y hh
theorem getD_setL {rows : List (List Int)} {k : Nat} {r : List Int} (h : k < rows.length) (z : Nat) : (rows.set k r).getD z [] = if k = z then r else rows.getD z [] := by
  rw [List.getD_eq_getElem?_getD, List.getD_eq_getElem?_getD, List.getElem?_set]
  split
  · rename_i e; subst e; first | rfl | (rw [if_pos h]; rfl)
  · rfl
/-- Those of one depth are taken. -/
theorem JI.take {nx : List (List Int)} {F : Nat → Prop} {k : Nat} {P Dn : List Nat} {wt gn jn : List Bool} {rows : List (List Int)} (h : JI nx F (k : Int) P Dn [] wt gn jn rows) (hk : k < nx.length) : JI nx F (k : Int) P Dn (rows.getD k []) wt gn jn (rows.set k []) := by
  have hkl : k < rows.length := by rw [h.lr]; exact hk
  have mem : ∀ (j : Nat) (y : Int), y ∈ (rows.set k []).getD j [] ↔ y ∈ rows.getD j [] ∧ j ≠ k := fun j y => by
    rw [getD_setL hkl]
    split
    · rename_i e; subst e; simp
    · rename_i e; exact ⟨fun hh => ⟨hh, fun e2 => e e2.symm⟩, fun hh => hh.1⟩
  refine ⟨h.lw, h.lg, h.lj, by simpa using h.lr, h.gone, h.done, h.sound, h.wait, fun y hy => ?_, fun j y hy => h.keyd j y ((mem j y).1 hy).1, fun y hy => h.keyd k y hy, fun j hj => ?_, h.high, h.ndP, h.ndr k, fun j => ?_, fun t ht => h.pR t ht k, fun t ht j hj => h.pR t ht j ((mem j _).1 hj).1, fun y hy j hj => ?_⟩
  · rw [h.place y hy, mem]
    constructor
    · rintro (hh | hh | hh)
      · exact .inl hh
      · simp at hh
      · by_cases e : (dep nx y).toNat = k
        · rw [e] at hh; exact .inr (.inl hh)
        · exact .inr (.inr ⟨hh, e⟩)
    · rintro (hh | hh | hh)
      · exact .inl hh
      · obtain ⟨z, e1, _, e3⟩ := h.keyd k _ hh
        have : y = z := by omega
        subst this
        exact .inr (.inr (by rw [e3]; simpa using hh))
      · exact .inr (.inr hh.1)
  · rw [getD_setL hkl] at hj
    split at hj
    · simp at hj
    · exact h.low j hj
  · rw [getD_setL hkl]
    split
    · simp
    · exact h.ndr j
  · obtain ⟨h1, h2⟩ := (mem j y).1 hj
    obtain ⟨z, e1, _, e3⟩ := h.keyd j y h1
    obtain ⟨z', e1', _, e3'⟩ := h.keyd k y hy
    have : z = z' := by omega
    subst this
    omega
/-- The next one of them is gone through. -/
theorem JI.top {nx : List (List Int)} {F : Nat → Prop} {d : Int} {P Dn : List Nat} {x : Nat} {pd : List Int} {wt gn gn' jn : List Bool} {rows : List (List Int)} (h : JI nx F d P Dn ((x : Int) :: pd) wt gn jn rows) (hl : gn'.length = nx.length) (hg : ∀ c, c < nx.length → (gn'.getD c false = true ↔ gn.getD c false = true ∨ Ov nx x c)) : JI nx F d (x :: P) Dn pd wt gn' jn rows := by
  obtain ⟨y, e1, hr, hd⟩ := h.pdd (x : Int) (by simp)
  have : x = y := by omega
  subst this
  have hnd := List.nodup_cons.1 h.ndd
  refine ⟨h.lw, hl, h.lj, h.lr, fun c hc => ?_, h.done, h.sound, h.wait, fun z hz => ?_, h.keyd, fun z hz => h.pdd z (by simp [hz]), h.low, fun t ht => ?_, ?_, hnd.2, h.ndr, fun t ht hp => ?_, fun t ht k hk => ?_, fun z hz k => h.dR z (by simp [hz]) k⟩
  · rw [hg c hc, h.gone c hc]
    constructor
    · rintro (⟨t, ht, ho⟩ | ho)
      · exact ⟨t, by simp [ht], ho⟩
      · exact ⟨x, by simp, ho⟩
    · rintro ⟨t, ht, ho⟩
      rcases List.mem_cons.1 ht with rfl | ht
      · exact .inr ho
      · exact .inl ⟨t, ht, ho⟩
  · rw [h.place z hz, List.mem_cons, List.mem_cons]
    constructor
    · rintro (hh | (hh | hh) | hh)
      · exact .inl (.inr hh)
      · exact .inl (.inl (by omega))
      · exact .inr (.inl hh)
      · exact .inr (.inr hh)
    · rintro ((hh | hh) | hh | hh)
      · exact .inr (.inl (.inl (by omega)))
      · exact .inl hh
      · exact .inr (.inl (.inr hh))
      · exact .inr (.inr hh)
  · rcases List.mem_cons.1 ht with rfl | ht
    · exact ⟨hr, by omega⟩
    · exact h.high t ht
  · exact List.nodup_cons.2 ⟨fun hx => h.pP x hx (by simp), h.ndP⟩
  · rcases List.mem_cons.1 ht with rfl | ht
    · exact hnd.1 hp
    · exact h.pP t ht (by simp [hp])
  · rcases List.mem_cons.1 ht with rfl | ht
    · exact h.dR _ (by simp) k hk
    · exact h.pR t ht k hk
/-- Its front is found. -/
theorem JI.gathered {nx : List (List Int)} (hm : May nx) {F : Nat → Prop} {d : Int} {P : List Nat} {x : Nat} {pd : List Int} {wt gn jn : List Bool} {rows : List (List Int)} (h : JI nx F d (x :: P) P pd wt gn jn rows) (hx : dep nx x = d)
    (hf : ∀ c b : Nat, (c = x ∨ (Ov nx x c ∧ ¬ ∃ t ∈ P, Ov nx t c)) → (b : Int) ∈ nx.getD c [] → dep nx b ≤ dep nx x → jn.getD b false = true) : JI nx F d (x :: P) (x :: P) pd wt gn jn rows := by
  refine ⟨h.lw, h.lg, h.lj, h.lr, h.gone, fun t ht b hb => ?_, h.sound, h.wait, h.place, h.keyd, h.pdd, h.low, h.high, h.ndP, h.ndd, h.ndr, h.pP, h.pR, h.dR⟩
  rcases List.mem_cons.1 ht with rfl | ht
  · obtain ⟨c, ho, he, hd⟩ := (fr_dep hm).1 hb
    by_cases e : ∃ t' ∈ P, Ov nx t' c
    · obtain ⟨t', ht', ho'⟩ := e
      have := (h.high t' (by simp [ht'])).2
      exact h.done t' ht' b ((fr_dep hm).2 ⟨c, ho', he, by omega⟩)
    · exact hf c b (.inr ⟨ho, e⟩) he hd
  · exact h.done t ht b hb
theorem JI.lower {nx : List (List Int)} {F : Nat → Prop} {k : Nat} {P Dn : List Nat} {wt gn jn : List Bool} {rows : List (List Int)} (h : JI nx F (k : Int) P Dn [] wt gn jn rows) (he : rows.getD k [] = []) : JI nx F ((k : Int) - 1) P Dn [] wt gn jn rows :=
  ⟨h.lw, h.lg, h.lj, h.lr, h.gone, h.done, h.sound, h.wait, h.place, h.keyd, fun x hx => by simp at hx, fun j hj => by
    have h1 := h.low j hj
    have : j ≠ k := fun e => hj (e ▸ he)
    omega, fun t ht => ⟨(h.high t ht).1, by have := (h.high t ht).2; omega⟩, h.ndP, h.ndd, h.ndr, h.pP, h.pR, h.dR⟩
theorem JI.begin {nx : List (List Int)} (hm : May nx) {F : Nat → Prop} {Dn : List Nat} {wt gn jn : List Bool} {rows : List (List Int)} (h : JI nx F (nx.length : Int) [] Dn [] wt gn jn rows) : JI nx F ((nx.length : Int) - 1) [] Dn [] wt gn jn rows :=
  ⟨h.lw, h.lg, h.lj, h.lr, h.gone, h.done, h.sound, h.wait, h.place, h.keyd, fun x hx => by simp at hx, fun j hj => by
    obtain ⟨x, hx⟩ := List.exists_mem_of_ne_nil _ hj
    obtain ⟨y, _, hr, e⟩ := h.keyd j x hx
    have := (dep_in hm hr).2
    omega, fun t ht => by simp at ht, h.ndP, h.ndd, h.ndr, h.pP, h.pR, h.dR⟩
theorem JI.final {nx : List (List Int)} (hm : May nx) {F : Nat → Prop} {d : Int} {P : List Nat} {wt gn jn : List Bool} {rows : List (List Int)} (h : JI nx F d P P [] wt gn jn rows) (he : ∀ k, rows.getD k [] = []) (b : Nat) : jn.getD b false = true ↔ Jn nx F b := by
  refine ⟨h.sound b, fun hj => ?_⟩
  refine hj.least (Q := fun b => jn.getD b false = true) fun a b ha hf => ?_
  have hr := hf.reached.1
  have hal := hr.lt hm
  have hw := (h.wait a hal).2 ⟨hr, ha⟩
  rcases (h.place a hal).1 hw with hp | hp | hp
  · exact h.done a hp b hf
  · simp at hp
  · rw [he] at hp; simp at hp
theorem JI.count {nx : List (List Int)} (hm : May nx) {F : Nat → Prop} {d : Int} {P Dn : List Nat} {pd : List Int} {wt gn jn : List Bool} {rows : List (List Int)} (h : JI nx F d P Dn pd wt gn jn rows) : P.length ≤ nx.length := by
  have h1 : P.length ≤ (List.range nx.length).length := List.Nodup.length_le_of_subset h.ndP fun x hx => List.mem_range.2 ((h.high x hx).1.lt hm)
  simpa using h1
/-- Marks so far. -/
def MkTo (nx : List (List Int)) (x : Nat) (fr : List Int) (i k : Nat) (jn : List Bool) : Prop := ∀ j e c b : Nat, fr[j]? = some (c : Int) → (nx.getD c [])[e]? = some (b : Int) → (j < i ∨ (j = i ∧ e < k)) → dep nx b ≤ dep nx x → jn.getD b false = true
theorem MkTo.start (nx : List (List Int)) (x : Nat) (fr : List Int) (jn : List Bool) : MkTo nx x fr 0 0 jn := fun j e c b _ _ h _ => by omega
theorem MkTo.step {nx : List (List Int)} {x : Nat} {fr : List Int} {i k : Nat} {jn jn' : List Bool} (h : MkTo nx x fr i k jn) {c b : Nat} (hc : fr[i]? = some (c : Int)) (hb : (nx.getD c [])[k]? = some (b : Int)) (hj : ∀ y, jn.getD y false = true → jn'.getD y false = true) (hn : dep nx b ≤ dep nx x → jn'.getD b false = true) : MkTo nx x fr i (k + 1) jn' := fun j e c' b' h1 h2 h3 h4 => by
  by_cases h5 : j < i ∨ (j = i ∧ e < k)
  · exact hj b' (h j e c' b' h1 h2 h5 h4)
  · have e1 : j = i := by omega
    have e2 : e = k := by omega
    subst e1; subst e2
    rw [hc] at h1
    have : c = c' := by cases h1; rfl
    subst this
    rw [hb] at h2
    have : b = b' := by cases h2; rfl
    subst this
    exact hn h4
theorem MkTo.row {nx : List (List Int)} {x : Nat} {fr : List Int} {i k : Nat} {jn : List Bool} (h : MkTo nx x fr i k jn) {c : Nat} (hc : fr[i]? = some (c : Int)) (hk : k = (nx.getD c []).length) : MkTo nx x fr (i + 1) 0 jn := fun j e c' b' h1 h2 h3 h4 => by
  refine h j e c' b' h1 h2 ?_ h4
  rcases Nat.lt_or_ge j i with h6 | h6
  · exact .inl h6
  · have : j = i := by omega
    subst this
    rw [hc] at h1
    have : c = c' := by cases h1; rfl
    subst this
    have := (List.getElem?_eq_some_iff.1 h2).1
    exact .inr ⟨rfl, by omega⟩
theorem MkTo.done {nx : List (List Int)} {x : Nat} {fr : List Int} {jn : List Bool} (h : MkTo nx x fr fr.length 0 jn) {c b : Nat} (hc : (c : Int) ∈ fr) (hb : (b : Int) ∈ nx.getD c []) (hd : dep nx b ≤ dep nx x) : jn.getD b false = true := by
  obtain ⟨j, hj⟩ := List.getElem?_of_mem hc
  obtain ⟨e, he⟩ := List.getElem?_of_mem hb
  exact h j e c b hj he (.inl (List.getElem?_eq_some_iff.1 hj).1) hd
end Go.Proofs.YtogjjmbcbnceoaaGreat
