/- A walk as deep as it can go: its lists, step by step; what it is in the end. No program. -/
import Derived.Test.YthedgacidphgnaaDLt
import Derived.Test.YthedgacidphgnaaDPlain
namespace Go.Proofs.Ythedgacidphgnaa
namespace Lt

def frF (fs : List Int) (i : Nat) : Nat := (fs.getD i 0).toNat
theorem frF_old {fs : List Int} {p : Int} {i : Nat} (h : i < fs.length) : frF (fs ++ [p]) i = frF fs i := by
  unfold frF
  rw [List.getD_eq_getElem?_getD, List.getD_eq_getElem?_getD, List.getElem?_append_left h]
theorem frF_new {fs : List Int} {p : Int} : frF (fs ++ [p]) fs.length = p.toNat := by
  unfold frF
  rw [List.getD_eq_getElem?_getD, List.getElem?_append_right (Nat.le_refl _)]
  simp
theorem frF_at {fs : List Int} {i p : Nat} (h : fs[i]? = some (p : Int)) : frF fs i = p := by
  unfold frF
  rw [List.getD_eq_getElem?_getD, h]
  simp
theorem Anc.congr {fr gr : Nat → Nat} {a c : Nat} (hf : ∀ i, 0 < i → i ≤ c → fr i < i) (h : Anc fr a c) (hg : ∀ i, i ≤ c → gr i = fr i) : Anc gr a c := by
  induction h with
  | refl => exact .refl
  | @up b h0 _ ih =>
    have := hf b h0 (Nat.le_refl _)
    refine .up h0 ?_
    rw [hg b (Nat.le_refl _)]
    exact ih (fun i h1 h2 => hf i h1 (by omega)) (fun i h1 => hg i (by omega))
/-- The numbers on the way up. -/
inductive Chn (fs : List Int) : List Nat → Prop
  | nil : Chn fs []
  | one : Chn fs [0]
  | more {s p : Nat} {st : List Nat} : 0 < s → fs[s]? = some (p : Int) → Chn fs (p :: st) → Chn fs (s :: p :: st)
/-- The walk's lists; st: the numbers of those that it has not left. -/
structure WI (nx : List (List Int)) (ns fs gs ps : List Int) (st : List Nat) : Prop where
  pos : 0 < ns.length
  lf : fs.length = ns.length
  lg : gs.length = ns.length
  lp : ps.length = nx.length
  nod : ∀ i, i < ns.length → ∃ v : Nat, ns[i]? = some (v : Int) ∧ v < nx.length ∧ ps[v]? = some (i : Int)
  plc : ∀ v, v < nx.length → ps[v]? = some (-1) ∨ ∃ i : Nat, i < ns.length ∧ ps[v]? = some (i : Int) ∧ ns[i]? = some (v : Int)
  zero : ns[0]? = some 0
  frm0 : fs[0]? = some (-1)
  frm : ∀ i, 0 < i → i < ns.length → ∃ p v : Nat, ∃ u : Int, fs[i]? = some (p : Int) ∧ p < i ∧ ns[p]? = some (v : Int) ∧ ns[i]? = some u ∧ u ∈ nx.getD v []
  chn : Chn fs st
  stl : ∀ s ∈ st, s < ns.length
  sub : ∀ s ∈ st, ∀ j, s ≤ j → j < ns.length → Anc (frF fs) s j
  gon : ∀ i, i < ns.length → ∃ g v : Nat, gs[i]? = some (g : Int) ∧ ns[i]? = some (v : Int) ∧ g ≤ (nx.getD v []).length ∧ (∀ e u, e < g → (nx.getD v [])[e]? = some u → ∃ j : Nat, ps[u.toNat]? = some (j : Int) ∧ (i < j → Anc (frF fs) i j)) ∧ (i ∉ st → g = (nx.getD v []).length)
  mid : ∀ a b c, a ≤ b → b ≤ c → c < ns.length → Anc (frF fs) a c → Anc (frF fs) a b
theorem WI.frlt {nx : List (List Int)} {ns fs gs ps : List Int} {st : List Nat} (h : WI nx ns fs gs ps st) : ∀ i, 0 < i → frF fs i < i := by
  intro i h0
  rcases Nat.lt_or_ge i ns.length with hi | hi
  · obtain ⟨p, v, u, h1, h2, _⟩ := h.frm i h0 hi
    rw [frF_at h1]; exact h2
  · unfold frF
    rw [List.getD_eq_getElem?_getD, List.getElem?_eq_none (by have := h.lf; omega)]
    simpa using h0
/-- One is left. -/
theorem WI.pop {nx : List (List Int)} {ns fs gs ps : List Int} {s : Nat} {st : List Nat} (h : WI nx ns fs gs ps (s :: st)) {g v : Nat} (hg : gs[s]? = some (g : Int)) (hv : ns[s]? = some (v : Int)) (hf : g = (nx.getD v []).length) : WI nx ns fs gs ps st := by
  refine ⟨h.pos, h.lf, h.lg, h.lp, h.nod, h.plc, h.zero, h.frm0, h.frm, ?_, fun x hx => h.stl x (by simp [hx]), fun x hx => h.sub x (by simp [hx]), fun i hi => ?_, h.mid⟩
  · cases h.chn with
    | one => exact .nil
    | more _ _ h1 => exact h1
  · obtain ⟨g', v', h1, h2, h3, h4, h5⟩ := h.gon i hi
    refine ⟨g', v', h1, h2, h3, h4, fun hn => ?_⟩
    by_cases e : i = s
    · subst e
      rw [hg] at h1; rw [hv] at h2
      cases h1; cases h2
      exact hf
    · exact h5 (by simp [e, hn])
/-- An edge that leads to one that was met. -/
theorem WI.look {nx : List (List Int)} {ns fs gs ps : List Int} {s : Nat} {st : List Nat} (h : WI nx ns fs gs ps (s :: st)) {g v : Nat} {u : Int} {j : Nat} (hg : gs[s]? = some (g : Int)) (hv : ns[s]? = some (v : Int)) (hu : (nx.getD v [])[g]? = some u) (hp : ps[u.toNat]? = some (j : Int)) : WI nx ns fs (gs.set s ((g + 1 : Nat) : Int)) ps (s :: st) := by
  have hs := h.stl s (by simp)
  refine ⟨h.pos, h.lf, by simpa using h.lg, h.lp, h.nod, h.plc, h.zero, h.frm0, h.frm, h.chn, h.stl, h.sub, fun i hi => ?_, h.mid⟩
  obtain ⟨g', v', h1, h2, h3, h4, h5⟩ := h.gon i hi
  by_cases e : i = s
  · subst e
    rw [hg] at h1; rw [hv] at h2
    have eg : g' = g := by cases h1; rfl
    have ev : v' = v := by cases h2; rfl
    subst eg; subst ev
    have hlt : g' < (nx.getD v' []).length := (List.getElem?_eq_some_iff.1 hu).1
    refine ⟨g' + 1, v', by rw [List.getElem?_set, if_pos rfl, if_pos (by have := h.lg; omega)], hv, by omega, fun e u' he hu' => ?_, fun hn => by simp at hn⟩
    rcases Nat.lt_or_ge e g' with hl | hl
    · exact h4 e u' hl hu'
    · have : e = g' := by omega
      subst this
      rw [hu] at hu'
      cases hu'
      refine ⟨j, hp, fun hij => h.sub i (by simp) j (by omega) ?_⟩
      have hun : u.toNat < nx.length := by have := (List.getElem?_eq_some_iff.1 hp).1; have := h.lp; omega
      rcases h.plc u.toNat hun with h9 | ⟨i', h9, h8, _⟩
      · rw [hp] at h9; cases h9
      · rw [hp] at h8
        have : j = i' := by cases h8; rfl
        omega
  · exact ⟨g', v', by rw [List.getElem?_set, if_neg (fun e2 => e e2.symm)]; exact h1, h2, h3, h4, h5⟩
/-- An edge that leads to one that was not met: it is met. -/
theorem WI.meet {nx : List (List Int)} {ns fs gs ps : List Int} {s : Nat} {st : List Nat} (h : WI nx ns fs gs ps (s :: st)) {g v t : Nat} (hg : gs[s]? = some (g : Int)) (hv : ns[s]? = some (v : Int)) (hu : (nx.getD v [])[g]? = some (t : Int)) (ht : t < nx.length) (hp : ps[t]? = some (-1)) :
    WI nx (ns ++ [(t : Int)]) (fs ++ [(s : Int)]) (gs.set s ((g + 1 : Nat) : Int) ++ [0]) (ps.set t (ns.length : Int)) (ns.length :: s :: st) := by
  have hs := h.stl s (by simp)
  have hlf := h.lf
  have hlg := h.lg
  have hlp := h.lp
  have hpos := h.pos
  have frn : frF (fs ++ [(s : Int)]) ns.length = s := by rw [← hlf, frF_new]; simp
  have fro : ∀ i, i < ns.length → frF (fs ++ [(s : Int)]) i = frF fs i := fun i hi => frF_old (by omega)
  have anc : ∀ a c, c < ns.length → Anc (frF fs) a c → Anc (frF (fs ++ [(s : Int)])) a c := fun a c hc ha => ha.congr (fun i h0 _ => h.frlt i h0) fun i hi => fro i (by omega)
  have ancB : ∀ a c, c < ns.length → Anc (frF (fs ++ [(s : Int)])) a c → Anc (frF fs) a c := fun a c hc ha => ha.congr (fun i h0 hi => by rw [fro i (by omega)]; exact h.frlt i h0) fun i hi => (fro i (by omega)).symm
  have pso : ∀ (x : Nat) (j : Nat), ps[x]? = some (j : Int) → (ps.set t (ns.length : Int))[x]? = some (j : Int) := fun x j hx => by
    rw [List.getElem?_set]
    by_cases e : t = x
    · subst e; rw [hp] at hx; cases hx
    · rw [if_neg e]; exact hx
  have nso : ∀ (i : Nat) (u : Int), ns[i]? = some u → (ns ++ [(t : Int)])[i]? = some u := fun i u hi => by
    rw [List.getElem?_append_left (List.getElem?_eq_some_iff.1 hi).1]; exact hi
  have nsn : (ns ++ [(t : Int)])[ns.length]? = some (t : Int) := by rw [List.getElem?_append_right (Nat.le_refl _)]; simp
  have fso : ∀ (i : Nat) (u : Int), fs[i]? = some u → (fs ++ [(s : Int)])[i]? = some u := fun i u hi => by
    rw [List.getElem?_append_left (List.getElem?_eq_some_iff.1 hi).1]; exact hi
  have fsn : (fs ++ [(s : Int)])[ns.length]? = some (s : Int) := by rw [← hlf, List.getElem?_append_right (Nat.le_refl _)]; simp
  have anew : ∀ a, Anc (frF fs) a s → Anc (frF (fs ++ [(s : Int)])) a ns.length := fun a ha => .up hpos (by rw [frn]; exact anc a s hs ha)
  have hgl : g < (nx.getD v []).length := (List.getElem?_eq_some_iff.1 hu).1
  have chn : ∀ {l : List Nat}, Chn fs l → Chn (fs ++ [(s : Int)]) l := fun hl => by
    induction hl with
    | nil => exact .nil
    | one => exact .one
    | more h0 h1 _ ih => exact .more h0 (fso _ _ h1) ih
  refine ⟨by simp, by simp [hlf], by simp [hlg], by simpa using hlp, fun i hi => ?_, fun x hx => ?_, nso 0 _ h.zero, fso 0 _ h.frm0, fun i h0 hi => ?_, .more hpos fsn (chn h.chn), fun x hx => ?_, fun x hx j hxj hj => ?_, fun i hi => ?_, fun a b c hab hbc hc ha => ?_⟩
  · simp at hi
    by_cases e : i = ns.length
    · subst e
      exact ⟨t, nsn, ht, by rw [List.getElem?_set, if_pos rfl, if_pos (by omega)]⟩
    · obtain ⟨v', h1, h2, h3⟩ := h.nod i (by omega)
      exact ⟨v', nso i _ h1, h2, pso _ _ h3⟩
  · by_cases e : t = x
    · subst e
      exact .inr ⟨ns.length, by simp, by rw [List.getElem?_set, if_pos rfl, if_pos (by omega)], nsn⟩
    · rw [List.getElem?_set, if_neg e]
      rcases h.plc x hx with h1 | ⟨i, h1, h2, h3⟩
      · exact .inl h1
      · exact .inr ⟨i, by simp; omega, h2, nso _ _ h3⟩
  · simp at hi
    by_cases e : i = ns.length
    · subst e
      exact ⟨s, v, (t : Int), fsn, hs, nso _ _ hv, nsn, List.mem_of_getElem? hu⟩
    · obtain ⟨p, v', u, h1, h2, h3, h4, h5⟩ := h.frm i h0 (by omega)
      exact ⟨p, v', u, fso _ _ h1, h2, nso _ _ h3, nso _ _ h4, h5⟩
  · rcases List.mem_cons.1 hx with rfl | hx
    · simp
    · have := h.stl x hx
      simp; omega
  · simp at hj
    rcases List.mem_cons.1 hx with rfl | hx
    · have : j = ns.length := by omega
      subst this; exact .refl
    · by_cases e : j = ns.length
      · subst e
        exact anew x (h.sub x hx s (by
          have hxs : ∀ {l : List Nat}, Chn fs l → ∀ y, y ∈ l → y ≤ l.headD 0 := fun hl => by
            induction hl with
            | nil => intro y hy; cases hy
            | one => intro y hy; simp at hy; simp [hy]
            | @more s' p st' h0 h1 _ ih =>
              intro y hy
              have hp' : p < s' := by
                have := h.frlt s' h0
                rw [frF_at h1] at this
                exact this
              rcases List.mem_cons.1 hy with rfl | hy
              · simp
              · have := ih y hy
                simp at this ⊢
                omega
          simpa using hxs h.chn x hx) hs)
      · exact anc x j (by omega) (h.sub x hx j hxj (by omega))
  · simp at hi
    by_cases e : i = ns.length
    · subst e
      refine ⟨0, t, ?_, nsn, Nat.zero_le _, fun e u he => by omega, fun hn => by simp at hn⟩
      rw [List.getElem?_append_right (by simp; omega)]
      simp [hlg]
    · obtain ⟨g', v', h1, h2, h3, h4, h5⟩ := h.gon i (by omega)
      by_cases e2 : i = s
      · subst e2
        rw [hg] at h1; rw [hv] at h2
        have eg : g' = g := by cases h1; rfl
        have ev : v' = v := by cases h2; rfl
        subst eg; subst ev
        refine ⟨g' + 1, v', ?_, nso _ _ hv, by omega, fun e u' he hu' => ?_, fun hn => by simp at hn⟩
        · rw [List.getElem?_append_left (by simp; omega), List.getElem?_set, if_pos rfl, if_pos (by omega)]
        · rcases Nat.lt_or_ge e g' with hl | hl
          · obtain ⟨j, h6, h7⟩ := h4 e u' hl hu'
            refine ⟨j, pso _ _ h6, fun hij => anc i j ?_ (h7 hij)⟩
            have hun : u'.toNat < nx.length := by have := (List.getElem?_eq_some_iff.1 h6).1; omega
            rcases h.plc u'.toNat hun with h9 | ⟨i', h9, h8, _⟩
            · rw [h6] at h9; cases h9
            · rw [h6] at h8
              have : j = i' := by cases h8; rfl
              omega
          · have : e = g' := by omega
            subst this
            rw [hu] at hu'
            cases hu'
            exact ⟨ns.length, by rw [Int.toNat_natCast, List.getElem?_set, if_pos rfl, if_pos (by omega)], fun _ => anew i .refl⟩
      · refine ⟨g', v', ?_, nso _ _ h2, h3, fun e u' he hu' => ?_, fun hn => h5 fun hm => hn (by simp at hm ⊢; exact .inr hm)⟩
        · rw [List.getElem?_append_left (by simp; omega), List.getElem?_set, if_neg (fun e3 => e2 e3.symm)]; exact h1
        · obtain ⟨j, h6, h7⟩ := h4 e u' he hu'
          refine ⟨j, pso _ _ h6, fun hij => anc i j ?_ (h7 hij)⟩
          have hun : u'.toNat < nx.length := by have := (List.getElem?_eq_some_iff.1 h6).1; omega
          rcases h.plc u'.toNat hun with h9 | ⟨i', h9, h8, _⟩
          · rw [h6] at h9; cases h9
          · rw [h6] at h8
            have : j = i' := by cases h8; rfl
            omega
  · simp at hc
    by_cases e : c = ns.length
    · subst e
      by_cases eb : b = ns.length
      · rw [eb]; exact ha
      · cases ha with
        | refl => omega
        | up _ ha =>
          rw [frn] at ha
          have ha' := ancB a s hs ha
          have has := ha'.le h.frlt
          rcases Nat.lt_or_ge s b with hsb | hsb
          · exact anc a b (by omega) (ha'.trans (h.sub s (by simp) b (by omega) (by omega)))
          · exact anc a b (by omega) (h.mid a b s hab hsb hs ha')
    · exact anc a b (by omega) (h.mid a b c hab hbc (by omega) (ancB a c (by omega) ha))
/-- The beginning: the entry is met. -/
theorem WI.start {nx : List (List Int)} (hn : 0 < nx.length) : WI nx [0] [-1] [0] ((List.replicate nx.length (-1)).set 0 0) [0] := by
  have anc0 : ∀ a, Anc (frF [-1]) a 0 → a = 0 := fun a ha => by
    cases ha with
    | refl => rfl
    | up h0 _ => omega
  have p0 : ((List.replicate nx.length (-1 : Int)).set 0 0)[0]? = some ((0 : Nat) : Int) := by
    rw [List.getElem?_set, if_pos rfl, if_pos (by simpa using hn)]; rfl
  refine ⟨by simp, rfl, rfl, by simp, fun i hi => ?_, fun v hv => ?_, rfl, rfl, fun i h0 hi => by simp at hi; omega, .one, fun s hs => by simp at hs; simp [hs], fun s hs j hsj hj => ?_, fun i hi => ?_, fun a b c hab hbc hc ha => ?_⟩
  · simp at hi; subst hi
    exact ⟨0, rfl, hn, p0⟩
  · by_cases e : v = 0
    · subst e; exact .inr ⟨0, by simp, p0, rfl⟩
    · left
      rw [List.getElem?_set, if_neg (fun h => e h.symm), List.getElem?_replicate, if_pos hv]
  · simp at hs hj; subst hs; subst hj; exact .refl
  · simp at hi; subst hi
    exact ⟨0, 0, rfl, rfl, Nat.zero_le _, fun e u he => by omega, fun hn => by simp at hn⟩
  · simp at hc; subst hc
    have := anc0 a ha
    subst this
    have : b = 0 := by omega
    subst this
    exact .refl
/-- Edges by numbers. -/
def EdN (nx : List (List Int)) (ns : List Int) (i j : Nat) : Prop := i < ns.length ∧ j < ns.length ∧ ∃ v u : Nat, ns[i]? = some (v : Int) ∧ ns[j]? = some (u : Int) ∧ (u : Int) ∈ nx.getD v []
structure Done (nx : List (List Int)) (ns fs ps : List Int) : Prop where
  pos : 0 < ns.length
  lf : fs.length = ns.length
  lp : ps.length = nx.length
  nod : ∀ i, i < ns.length → ∃ v : Nat, ns[i]? = some (v : Int) ∧ v < nx.length ∧ ps[v]? = some (i : Int)
  plc : ∀ v, v < nx.length → ps[v]? = some (-1) ∨ ∃ i : Nat, i < ns.length ∧ ps[v]? = some (i : Int) ∧ ns[i]? = some (v : Int)
  zero : ns[0]? = some 0
  frm : ∀ i, 0 < i → i < ns.length → ∃ p : Nat, fs[i]? = some (p : Int) ∧ p < i
  all : ∀ i v u : Nat, ns[i]? = some (v : Int) → (u : Int) ∈ nx.getD v [] → ∃ j : Nat, j < ns.length ∧ ps[u]? = some (j : Int) ∧ ns[j]? = some (u : Int)
  dfs : Dfs ns.length (EdN nx ns) (frF fs)
theorem WI.done {nx : List (List Int)} {ns fs gs ps : List Int} (h : WI nx ns fs gs ps []) : Done nx ns fs ps := by
  have edge : ∀ i v u : Nat, ns[i]? = some (v : Int) → (u : Int) ∈ nx.getD v [] → ∃ j : Nat, j < ns.length ∧ ps[u]? = some (j : Int) ∧ ns[j]? = some (u : Int) ∧ (i < j → Anc (frF fs) i j) := by
    intro i v u hi hu
    have hil := (List.getElem?_eq_some_iff.1 hi).1
    obtain ⟨g', v', h1, h2, h3, h4, h5⟩ := h.gon i hil
    rw [hi] at h2
    have ev : v = v' := by cases h2; rfl
    subst ev
    obtain ⟨e, he⟩ := List.getElem?_of_mem hu
    have hel := (List.getElem?_eq_some_iff.1 he).1
    obtain ⟨j, h6, h7⟩ := h4 e _ (by rw [h5 (by simp)]; exact hel) he
    rw [Int.toNat_natCast] at h6
    have hun : u < nx.length := by have := (List.getElem?_eq_some_iff.1 h6).1; have := h.lp; omega
    rcases h.plc u hun with h9 | ⟨i', h9, h8, h10⟩
    · rw [h6] at h9; cases h9
    · rw [h6] at h8
      have : j = i' := by cases h8; rfl
      subst this
      exact ⟨j, h9, h6, h10, h7⟩
  refine ⟨h.pos, h.lf, h.lp, h.nod, h.plc, h.zero, fun i h0 hi => ?_, fun i v u hi hu => ?_, ⟨h.frlt, fun i h0 hi => ?_, fun i j he => ⟨he.1, he.2.1⟩, fun i j he hij => ?_, h.mid⟩⟩
  · obtain ⟨p, _, _, h1, h2, _⟩ := h.frm i h0 hi
    exact ⟨p, h1, h2⟩
  · obtain ⟨j, h1, h2, h3, _⟩ := edge i v u hi hu
    exact ⟨j, h1, h2, h3⟩
  · obtain ⟨p, v, u, h1, h2, h3, h4, h5⟩ := h.frm i h0 hi
    obtain ⟨v', h6, _⟩ := h.nod i hi
    rw [h4] at h6
    cases h6
    rw [frF_at h1]
    exact ⟨by omega, hi, v, v', h3, h4, h5⟩
  · obtain ⟨_, hj, v, u, h1, h2, h3⟩ := he
    obtain ⟨j', h4, h5, h6, h7⟩ := edge i v u h1 h3
    obtain ⟨v', h8, _, h9⟩ := h.nod j hj
    rw [h2] at h8
    have : v' = u := by cases h8; rfl
    subst this
    rw [h5] at h9
    have : j' = j := by cases h9; rfl
    subst this
    exact h7 hij
/-- A node's number. -/
theorem Done.inj {nx : List (List Int)} {ns fs ps : List Int} (h : Done nx ns fs ps) {i j : Nat} {v : Nat} (hi : ns[i]? = some (v : Int)) (hj : ns[j]? = some (v : Int)) : i = j := by
  obtain ⟨v1, h1, _, h2⟩ := h.nod i (List.getElem?_eq_some_iff.1 hi).1
  obtain ⟨v3, h3, _, h4⟩ := h.nod j (List.getElem?_eq_some_iff.1 hj).1
  rw [hi] at h1; rw [hj] at h3
  cases h1; cases h3
  rw [h2] at h4
  cases h4
  rfl
theorem Done.to {nx : List (List Int)} {ns fs ps : List Int} (h : Done nx ns fs ps) {S : Nat → Prop} {v : Nat} (hr : Rch nx S v) : ∃ i, ns[i]? = some (v : Int) ∧ Rc (EdN nx ns) (fun k => ∃ u : Nat, ns[k]? = some (u : Int) ∧ S u) i := by
  induction hr with
  | entry => exact ⟨0, h.zero, .entry⟩
  | @step v u _ hs he ih =>
    obtain ⟨i, h1, h2⟩ := ih
    obtain ⟨j, h3, h4, h5⟩ := h.all i v u h1 he
    refine ⟨j, h5, .step h2 (fun hc => ?_) ⟨(List.getElem?_eq_some_iff.1 h1).1, h3, v, u, h1, h5, he⟩⟩
    obtain ⟨u', h6, h7⟩ := hc
    rw [h1] at h6
    cases h6
    exact hs h7
theorem Done.of {nx : List (List Int)} {ns fs ps : List Int} (h : Done nx ns fs ps) {S : Nat → Prop} {T : Nat → Prop} (hT : ∀ i v : Nat, ns[i]? = some (v : Int) → S v → T i) {i : Nat} (hr : Rc (EdN nx ns) T i) : ∃ v : Nat, ns[i]? = some (v : Int) ∧ Rch nx S v := by
  induction hr with
  | entry => exact ⟨0, h.zero, .entry⟩
  | @step i j _ hs he ih =>
    obtain ⟨v, h1, h2⟩ := ih
    obtain ⟨_, _, v', u, h3, h4, h5⟩ := he
    rw [h1] at h3
    cases h3
    exact ⟨u, h4, .step h2 (fun hc => hs (hT i v h1 hc)) h5⟩
theorem Done.reach {nx : List (List Int)} {ns fs ps : List Int} (h : Done nx ns fs ps) {i : Nat} (hi : i < ns.length) : Rc (EdN nx ns) (fun _ => False) i :=
  Rc.down h.dfs .entry (.zero h.dfs.frlt i) hi fun _ _ _ _ hc => hc
theorem Done.rch {nx : List (List Int)} {ns fs ps : List Int} (h : Done nx ns fs ps) {i v : Nat} (hi : ns[i]? = some (v : Int)) : Rch nx noneS v := by
  obtain ⟨v', h1, h2⟩ := h.of (S := noneS) (fun _ _ _ hc => hc) (h.reach (List.getElem?_eq_some_iff.1 hi).1)
  rw [hi] at h1
  cases h1
  exact h2
theorem Done.num {nx : List (List Int)} {ns fs ps : List Int} (h : Done nx ns fs ps) {v : Nat} (hr : Rch nx noneS v) : ∃ i : Nat, ns[i]? = some (v : Int) := by
  obtain ⟨i, h1, _⟩ := h.to hr
  exact ⟨i, h1⟩
theorem Done.ov {nx : List (List Int)} {ns fs ps : List Int} (h : Done nx ns fs ps) {i j a b : Nat} (hi : ns[i]? = some (a : Int)) (hj : ns[j]? = some (b : Int)) : Ov nx a b ↔ Dm (EdN nx ns) i j := by
  constructor
  · rintro ⟨_, _, rfl | hn⟩
    · exact .inl (h.inj hi hj)
    · refine .inr fun hr => hn ?_
      obtain ⟨v, h1, h2⟩ := h.of (S := (· = a)) (fun k v hk hv => h.inj (by rw [hk, hv]) hi) hr
      rw [hj] at h1
      cases h1
      exact h2
  · intro hd
    refine ⟨h.rch hi, h.rch hj, ?_⟩
    rcases hd with rfl | hn
    · rw [hi] at hj; cases hj; exact .inl rfl
    · refine .inr fun hr => hn ?_
      obtain ⟨j', h1, h2⟩ := h.to hr
      have : j' = j := h.inj h1 hj
      subst this
      have e : (fun k => ∃ u : Nat, ns[k]? = some (u : Int) ∧ u = a) = (· = i) := by
        funext k
        refine propext ⟨fun ⟨u, h3, h4⟩ => h.inj (by rw [h3, h4]) hi, fun e => ⟨a, by rw [e]; exact hi, rfl⟩⟩
      rw [e] at h2
      exact h2
/-- The nearest one by numbers is the nearest one. -/
theorem Done.near {nx : List (List Int)} {ns fs ps : List Int} (h : Done nx ns fs ps) {i k a b : Nat} (hi : ns[i]? = some (b : Int)) (hk : ns[k]? = some (a : Int)) (hn : NearN (EdN nx ns) i k) : Near nx b (a : Int) := by
  refine .inl ⟨a, rfl, fun e => hn.1 (h.inj (by rw [hk, e]) hi), (h.ov hk hi).2 hn.2.1, fun c hc ho => ?_⟩
  obtain ⟨c', h1⟩ := h.num ho.1
  refine (h.ov h1 hk).2 (hn.2.2 c' (fun e => hc ?_) ((h.ov h1 hi).1 ho))
  subst e
  rw [hi] at h1
  cases h1
  rfl
end Lt
end Go.Proofs.Ythedgacidphgnaa
