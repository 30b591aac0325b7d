/- What is needed, found by who waits: plain. -/
import Derived.Test.YtajaijilfclhpaaGreatDoorNPlM
import Derived.Test.YtajaijilfclhpaaGreatDoorGBoxM
namespace Go.Proofs.YtajaijilfclhpaaGreatDoor

/-- A setting: what it asks, and the same variable's setting that was laid ahead. -/
structure Sg where
 av : Value
 args : List Int
 older : Nat
structure Ak where
 need : List Bool
 newest : List Nat
 sets : List Sg
 wait : List Int
/-- Number k lies on the way from number n. -/
inductive On (S : List Sg) : Nat → Nat → Prop
 | here {n : Nat} {s : Sg} : S[n]? = some s → On S (n + 1) (n + 1)
 | next {n k : Nat} {s : Sg} : S[n]? = some s → On S s.older k → On S (n + 1) k
theorem On.zero {S : List Sg} {k : Nat} : ¬ On S 0 k := fun h => by cases h
theorem On.inv {S : List Sg} {n k : Nat} {s : Sg} (hs : S[n]? = some s) (h : On S (n + 1) k) : k = n + 1 ∨ On S s.older k := by
 cases h with
 | here => exact .inl rfl
 | next h1 h2 => rw [hs] at h1; cases h1; exact .inr h2
theorem On.more {S : List Sg} (T : List Sg) {n k : Nat} (h : On S n k) : On (S ++ T) n k := by
 have e : ∀ {n : Nat} {s : Sg}, S[n]? = some s → (S ++ T)[n]? = some s := fun {n s} h => by
  rw [List.getElem?_append_left (List.getElem?_eq_some_iff.1 h).1]; exact h
 induction h with
 | here h1 => exact .here (e h1)
 | next h1 _ ih => exact .next (e h1) ih
def Older (S : List Sg) : Prop := ∀ (n : Nat) (s : Sg), S[n]? = some s → s.older ≤ n
theorem On.less {S : List Sg} (ho : Older S) {T : List Sg} {n k : Nat} (h : On (S ++ T) n k) (hn : n ≤ S.length) : On S n k := by
 have e : ∀ {n : Nat} {s : Sg}, n < S.length → (S ++ T)[n]? = some s → S[n]? = some s := fun {n s} hl h => by
  rw [List.getElem?_append_left hl] at h; exact h
 induction h with
 | here h1 => exact .here (e (by omega) h1)
 | next h1 _ ih =>
  have h2 := e (by omega) h1
  exact .next h2 (ih (by have := ho _ _ h2; omega))
theorem On.le {S : List Sg} (ho : Older S) {n k : Nat} (h : On S n k) : k ≤ n := by
 induction h with
 | here => omega
 | next h1 _ ih => have := ho _ _ h1; omega
def Ak.top (s : Ak) (v : Int) : Nat := s.newest.getD v.toNat 0
def Ak.mark (s : Ak) (v : Int) : Ak := if atB s.need v then s else { s with need := s.need.set v.toNat true, wait := s.wait ++ [v] }
def Ak.ask (s : Ak) (l : List Int) : Ak := l.foldl Ak.mark s
def Ak.push (s : Ak) (av : Value) (x : In) : Ak := { s with sets := s.sets ++ [⟨av, x.args, s.top x.dst⟩], newest := s.newest.set x.dst.toNat (s.sets.length + 1) }
def Ak.lay (s : Ak) (av : Value) (x : In) : Ak := if staysK x.kind then s.ask x.args else if 0 < x.args.length then s.push av x else s
def Ak.mu (s : Ak) : Nat := 2 * cntN s.need + s.wait.length
theorem atB_len {out : List Bool} {a : Int} (h : atB out a = true) : a.toNat < out.length := by
 unfold atB at h
 rcases Nat.lt_or_ge a.toNat out.length with h1 | h1
 ·exact h1
 ·rw [List.getD_eq_getElem?_getD, List.getElem?_eq_none h1] at h; cases h
theorem atB_set {out : List Bool} {a : Int} {v : Nat} (h : atB out a = true) : atB (out.set v true) a = true := by
 have hl := atB_len h
 unfold atB at h ⊢
 rw [List.getD_eq_getElem?_getD, List.getElem?_set]
 by_cases e : v = a.toNat
 ·subst e; rw [if_pos rfl, if_pos hl]; rfl
 ·rw [if_neg e, ← List.getD_eq_getElem?_getD]; exact h
theorem atB_new {out : List Bool} {a : Int} (h : a.toNat < out.length) : atB (out.set a.toNat true) a = true := by
 unfold atB
 rw [List.getD_eq_getElem?_getD, List.getElem?_set, if_pos rfl, if_pos h]; rfl
theorem mark_sets (s : Ak) (v : Int) : (s.mark v).sets = s.sets ∧ (s.mark v).newest = s.newest := by
 unfold Ak.mark; split <;> exact ⟨rfl, rfl⟩
theorem mark_mono {s : Ak} {v a : Int} (h : atB s.need a = true) : atB (s.mark v).need a = true := by
 unfold Ak.mark; split
 ·exact h
 ·exact atB_set h
theorem mark_at {s : Ak} {v : Int} (h : v.toNat < s.need.length) : atB (s.mark v).need v = true := by
 unfold Ak.mark; split
 ·assumption
 ·exact atB_new h
theorem mark_len (s : Ak) (v : Int) : (s.mark v).need.length = s.need.length := by
 unfold Ak.mark; split <;> simp
theorem mark_mu {s : Ak} {v : Int} (h : v.toNat < s.need.length) : (s.mark v).mu ≤ s.mu ∧ (s.mark v).wait.length + cntN (s.mark v).need ≤ s.wait.length + cntN s.need := by
 unfold Ak.mark; split
 ·exact ⟨Nat.le_refl _, Nat.le_refl _⟩
 ·rename_i h1
  have h2 : s.need[v.toNat]? = some false := by
   have : s.need.getD v.toNat false = false := by unfold atB at h1; simpa using h1
   rw [List.getD_eq_getElem?_getD, List.getElem?_eq_getElem h] at this
   rw [List.getElem?_eq_getElem h]
   simpa using this
  have h3 := cnt_set h2
  unfold Ak.mu
  simp only [List.length_append, List.length_cons, List.length_nil]
  omega
theorem mark_wait {s : Ak} {v a : Int} (h : a ∈ (s.mark v).wait) : a ∈ s.wait ∨ a = v := by
 unfold Ak.mark at h; split at h
 ·exact .inl h
 ·rcases List.mem_append.1 h with h | h
  ·exact .inl h
  ·exact .inr (List.mem_singleton.1 h)
theorem mark_keep {s : Ak} {v a : Int} (h : a ∈ s.wait) : a ∈ (s.mark v).wait := by
 unfold Ak.mark; split
 ·exact h
 ·exact List.mem_append.2 (.inl h)
/-- What is marked now and was not waits. -/
theorem mark_new {s : Ak} {v : Int} (h0 : 0 ≤ v) {a : Nat} (h : (s.mark v).need.getD a false = true) : s.need.getD a false = true ∨ (a : Int) ∈ (s.mark v).wait := by
 unfold Ak.mark at h ⊢; split at h
 ·exact .inl h
 ·rename_i h1
  rw [if_neg h1]
  by_cases e : v.toNat = a
  ·refine .inr (List.mem_append.2 (.inr (List.mem_singleton.2 ?_)))
   omega
  ·dsimp only at h
   rw [List.getD_eq_getElem?_getD, List.getElem?_set, if_neg e, ← List.getD_eq_getElem?_getD] at h
   exact .inl h
/-- What stands while instructions are laid and waiting ones are gone through: bs are behind, and xs of the next block. -/
structure AkI (G : Gr) (bs : List Bl) (xs : List In) (s : Ak) : Prop where
 snd : Snd G s.need
 nl : s.newest.length = G.vars.length
 wt : ∀ v ∈ s.wait, 0 ≤ v ∧ v < G.vars.length ∧ atB s.need v = true
 room : s.wait.length + cntN s.need ≤ G.vars.length
 old : Older s.sets
 tops : ∀ v : Nat, s.newest.getD v 0 ≤ s.sets.length
 rng : ∀ (n : Nat) (t : Sg), s.sets[n]? = some t → ∀ a ∈ t.args, 0 ≤ a ∧ a < G.vars.length
 good : ∀ (v k : Nat) (t : Sg), On s.sets (s.newest.getD v 0) (k + 1) → s.sets[k]? = some t → NeedP G (v : Int) → ∀ a ∈ t.args, NeedP G a
 all : ∀ x : In, ((∃ b ∈ bs, x ∈ b.ins) ∨ x ∈ xs) → staysK x.kind = false → 0 < x.args.length → ∃ k t, s.sets[k]? = some t ∧ t.args = x.args ∧ On s.sets (s.top x.dst) (k + 1)
 act : ∀ x : In, ((∃ b ∈ bs, x ∈ b.ins) ∨ x ∈ xs) → staysK x.kind = true → ∀ a ∈ x.args, atB s.need a = true
 tms : ∀ b ∈ bs, asksT b.tm = true → atB s.need b.tm.arg = true
/-- Who is needed waits. -/
def Wts (s : Ak) : Prop := ∀ v : Nat, s.need.getD v false = true → (v : Int) ∈ s.wait
/-- All that a variable's settings ask is needed. -/
def Cl (s : Ak) (v : Nat) : Prop := ∀ (k : Nat) (t : Sg), On s.sets (s.newest.getD v 0) (k + 1) → s.sets[k]? = some t → ∀ a ∈ t.args, atB s.need a = true
/-- Who is needed waits, or its settings were gone through; c is the one whose turn it is. -/
def Stl (s : Ak) (c : Int) : Prop := ∀ v : Nat, s.need.getD v false = true → (v : Int) ∈ s.wait ∨ (v : Int) = c ∨ Cl s v
theorem AkI.mark {G : Gr} {bs : List Bl} {xs : List In} {s : Ak} (h : AkI G bs xs s) {a : Int} (hn : NeedP G a) (h0 : 0 ≤ a) (h1 : a < G.vars.length) : AkI G bs xs (s.mark a) := by
 obtain ⟨e1, e2⟩ := mark_sets s a
 have hl : a.toNat < s.need.length := by rw [h.snd.1]; omega
 refine ⟨?_, by rw [e2]; exact h.nl, fun v hv => ?_, ?_, by rw [e1]; exact h.old, by rw [e1, e2]; exact h.tops, by rw [e1]; exact h.rng, by rw [e1, e2]; exact h.good, fun x hx hk hp => ?_, fun x hx hk q hq => mark_mono (h.act x hx hk q hq), fun b hb ht => mark_mono (h.tms b hb ht)⟩
 ·unfold Ak.mark; split
  ·exact h.snd
  ·exact h.snd.mark hn h0
 ·rcases mark_wait hv with hv | rfl
  ·obtain ⟨g1, g2, g3⟩ := h.wt v hv
   exact ⟨g1, g2, mark_mono g3⟩
  ·exact ⟨h0, h1, mark_at hl⟩
 ·have := (mark_mu hl).2
  have := h.room
  omega
 ·unfold Ak.top; rw [e1, e2]; exact h.all x hx hk hp
theorem Wts.mark {s : Ak} (h : Wts s) {a : Int} (h0 : 0 ≤ a) : Wts (s.mark a) := fun v hv => by
 rcases mark_new h0 hv with h1 | h1
 ·exact mark_keep (h v h1)
 ·exact h1
theorem Cl.mark {s : Ak} {v : Nat} (h : Cl s v) (a : Int) : Cl (s.mark a) v := fun k t h1 h2 q hq => by
 obtain ⟨e1, e2⟩ := mark_sets s a
 rw [e1] at h1 h2; rw [e2] at h1
 exact mark_mono (h k t h1 h2 q hq)
theorem Stl.mark {s : Ak} {c : Int} (h : Stl s c) {a : Int} (h0 : 0 ≤ a) : Stl (s.mark a) c := fun v hv => by
 rcases mark_new h0 hv with h1 | h1
 ·rcases h v h1 with h2 | h2 | h2
  ·exact .inl (mark_keep h2)
  ·exact .inr (.inl h2)
  ·exact .inr (.inr (h2.mark a))
 ·exact .inl h1
/-- More is asked: what of it is known while it goes on. -/
structure AskI (s t : Ak) (l : List Int) : Prop where
 sets : t.sets = s.sets
 newest : t.newest = s.newest
 mono : ∀ a, atB s.need a = true → atB t.need a = true
 all : ∀ a ∈ l, atB t.need a = true
 len : t.need.length = s.need.length
 mu : t.mu ≤ s.mu
 sum : t.wait.length + cntN t.need ≤ s.wait.length + cntN s.need
theorem ask_askI : ∀ (l : List Int) (s : Ak), (∀ a ∈ l, a.toNat < s.need.length) → AskI s (s.ask l) l
 | [], s, _ => ⟨rfl, rfl, fun _ h => h, (fun _ h => by cases h), rfl, Nat.le_refl _, Nat.le_refl _⟩
 | a :: l, s, h => by
  have ha := h a (List.mem_cons_self ..)
  have h1 := ask_askI l (s.mark a) (fun b hb => by rw [mark_len]; exact h b (List.mem_cons_of_mem _ hb))
  obtain ⟨e1, e2⟩ := mark_sets s a
  have h2 := mark_mu ha
  refine ⟨h1.sets.trans e1, h1.newest.trans e2, fun b hb => h1.mono b (mark_mono hb), fun b hb => ?_, h1.len.trans (mark_len s a), Nat.le_trans h1.mu h2.1, Nat.le_trans h1.sum h2.2⟩
  rcases List.mem_cons.1 hb with rfl | hb
  ·exact h1.mono _ (mark_at ha)
  ·exact h1.all b hb
theorem ask_snoc (s : Ak) (l : List Int) (a : Int) : s.ask (l ++ [a]) = (s.ask l).mark a := by unfold Ak.ask; rw [List.foldl_append]; rfl
theorem AkI.ask {G : Gr} {bs : List Bl} {xs : List In} : ∀ {l : List Int} {s : Ak}, AkI G bs xs s → (∀ a ∈ l, NeedP G a ∧ 0 ≤ a ∧ a < G.vars.length) → AkI G bs xs (s.ask l)
 | [], _, h, _ => h
 | a :: l, _, h, hl => AkI.ask (l := l) (h.mark (hl a (List.mem_cons_self ..)).1 (hl a (List.mem_cons_self ..)).2.1 (hl a (List.mem_cons_self ..)).2.2) fun b hb => hl b (List.mem_cons_of_mem _ hb)
theorem Wts.ask : ∀ {l : List Int} {s : Ak}, Wts s → (∀ a ∈ l, 0 ≤ a) → Wts (s.ask l)
 | [], _, h, _ => h
 | a :: l, _, h, hl => Wts.ask (l := l) (h.mark (hl a (List.mem_cons_self ..))) fun b hb => hl b (List.mem_cons_of_mem _ hb)
theorem Stl.ask {c : Int} : ∀ {l : List Int} {s : Ak}, Stl s c → (∀ a ∈ l, 0 ≤ a) → Stl (s.ask l) c
 | [], _, h, _ => h
 | a :: l, _, h, hl => Stl.ask (l := l) (h.mark (hl a (List.mem_cons_self ..))) fun b hb => hl b (List.mem_cons_of_mem _ hb)
/-- An instruction is laid. -/
theorem AkI.lay {G : Gr} (hR : InR G) {bs : List Bl} {xs : List In} {s : Ak} (h : AkI G bs xs s) (hw : Wts s) {b : Bl} (hb : b ∈ G.blocks) {x : In} (hx : x ∈ b.ins) (av : Value) : AkI G bs (xs ++ [x]) (s.lay av x) ∧ Wts (s.lay av x) := by
 unfold Ak.lay
 by_cases hk : staysK x.kind = true
 ·rw [if_pos hk]
  have hn : ∀ a ∈ x.args, NeedP G a ∧ 0 ≤ a ∧ a < G.vars.length := fun a ha => ⟨.stay hb hx hk ha, hR.arg b hb x hx (by rw [hk]; rfl) a ha⟩
  have h1 := h.ask hn
  have h2 := ask_askI x.args s (fun a ha => by rw [h.snd.1]; have := (hn a ha).2; omega)
  refine ⟨⟨h1.snd, h1.nl, h1.wt, h1.room, h1.old, h1.tops, h1.rng, h1.good, fun y hy hk' hp => ?_, fun y hy hk' a ha => ?_, h1.tms⟩, hw.ask fun a ha => (hn a ha).2.1⟩
  ·rcases hy with hy | hy
   ·exact h1.all y (.inl hy) hk' hp
   ·rcases List.mem_append.1 hy with hy | hy
    ·exact h1.all y (.inr hy) hk' hp
    ·rw [List.mem_singleton.1 hy, hk] at hk'; cases hk'
  ·rcases hy with hy | hy
   ·exact h1.act y (.inl hy) hk' a ha
   ·rcases List.mem_append.1 hy with hy | hy
    ·exact h1.act y (.inr hy) hk' a ha
    ·rw [List.mem_singleton.1 hy] at ha; exact h2.all a ha
 ·rw [if_neg hk]
  have hk0 : staysK x.kind = false := by simpa using hk
  by_cases hp : 0 < x.args.length
  ·rw [if_pos hp]
   have hd := hR.dst b hb x hx hk0
   have hsk : setsK x.kind = true := by
    unfold staysK at hk0
    unfold setsK
    simp only [Bool.or_eq_false_iff] at hk0
    rw [hk0.1.1.1, hk0.1.1.2, hk0.2]
    rfl
   have hdl : x.dst.toNat < s.newest.length := by rw [h.nl]; omega
   have hnew : ∀ v : Nat, (s.push av x).newest.getD v 0 = if x.dst.toNat = v then s.sets.length + 1 else s.newest.getD v 0 := fun v => by
    show (s.newest.set _ _).getD v 0 = _
    rw [List.getD_eq_getElem?_getD, List.getElem?_set]
    by_cases e : x.dst.toNat = v
    ·rw [if_pos e, if_pos hdl, if_pos e]; rfl
    ·rw [if_neg e, if_neg e, List.getD_eq_getElem?_getD]
   have hlast : (s.push av x).sets[s.sets.length]? = some ⟨av, x.args, s.top x.dst⟩ := by
    show (s.sets ++ [_])[s.sets.length]? = _
    simp
   have hget : ∀ (n : Nat) (t : Sg), (s.push av x).sets[n]? = some t → s.sets[n]? = some t ∨ (n = s.sets.length ∧ t = ⟨av, x.args, s.top x.dst⟩) := fun n t ht => by
    rcases Nat.lt_or_ge n s.sets.length with hlt | hge
    ·refine .inl ?_
     have ht2 : (s.sets ++ [⟨av, x.args, s.top x.dst⟩])[n]? = some t := ht
     rw [List.getElem?_append_left hlt] at ht2
     exact ht2
    ·have hlt := (List.getElem?_eq_some_iff.1 ht).1
     have hlt2 : n < (s.sets ++ [(⟨av, x.args, s.top x.dst⟩ : Sg)]).length := hlt
     simp at hlt2
     have e : n = s.sets.length := by omega
     subst e
     rw [hlast] at ht
     cases ht
     exact .inr ⟨rfl, rfl⟩
   have htop : s.top x.dst ≤ s.sets.length := h.tops _
   refine ⟨⟨h.snd, ?_, h.wt, h.room, fun n t ht => ?_, fun v => ?_, fun n t ht a ha => ?_, fun v k t ho ht hn a ha => ?_, fun y hy hk' hq => ?_, fun y hy hk' a ha => ?_, h.tms⟩, hw⟩
   ·show (s.newest.set _ _).length = _
    rw [List.length_set]; exact h.nl
   ·rcases hget n t ht with h1 | ⟨e1, e2⟩
    ·exact h.old n t h1
    ·subst e1 e2; exact htop
   ·rw [hnew]
    show _ ≤ (s.sets ++ [_]).length
    rw [List.length_append]
    split
    ·simp
    ·have := h.tops v; omega
   ·rcases hget n t ht with h1 | ⟨e1, e2⟩
    ·exact h.rng n t h1 a ha
    ·subst e2
     exact hR.arg b hb x hx (by rw [hsk]; simp) a ha
   ·rw [hnew] at ho
    by_cases e : x.dst.toNat = v
    ·rw [if_pos e] at ho
     have hnx : NeedP G x.dst := by
      have : (v : Int) = x.dst := by omega
      rw [← this]; exact hn
     rcases ho.inv hlast with e1 | ho
     ·have e2 : k = s.sets.length := by omega
      subst e2
      rw [hlast] at ht
      cases ht
      exact .sets hb hx hsk hnx ha
     ·have h4 : On s.sets (s.top x.dst) (k + 1) := On.less h.old ho htop
      have hle := h4.le h.old
      rcases hget k t ht with h1 | ⟨e1, e2⟩
      ·refine h.good v k t ?_ h1 hn a ha
       have e5 : s.newest.getD v 0 = s.top x.dst := by unfold Ak.top; rw [e]
       rw [e5]; exact h4
      ·omega
    ·rw [if_neg e] at ho
     have h4 := On.less h.old ho (h.tops v)
     have hle := h4.le h.old
     have := h.tops v
     rcases hget k t ht with h1 | ⟨e1, e2⟩
     ·exact h.good v k t h4 h1 hn a ha
     ·omega
   ·have hold : ∀ y : In, ((∃ b ∈ bs, y ∈ b.ins) ∨ y ∈ xs) → staysK y.kind = false → 0 < y.args.length → ∃ k t, (s.push av x).sets[k]? = some t ∧ t.args = y.args ∧ On (s.push av x).sets ((s.push av x).top y.dst) (k + 1) := fun y hy hk' hq => by
     obtain ⟨k, t, h1, h2, h3⟩ := h.all y hy hk' hq
     have hlt := (List.getElem?_eq_some_iff.1 h1).1
     refine ⟨k, t, ?_, h2, ?_⟩
     ·show (s.sets ++ [_])[k]? = _
      rw [List.getElem?_append_left hlt]; exact h1
     ·have e5 : (s.push av x).top y.dst = if x.dst.toNat = y.dst.toNat then s.sets.length + 1 else s.top y.dst := hnew _
      rw [e5]
      by_cases e : x.dst.toNat = y.dst.toNat
      ·rw [if_pos e]
       refine .next hlast ?_
       have e6 : s.top x.dst = s.top y.dst := by unfold Ak.top; rw [e]
       show On _ (s.top x.dst) _
       rw [e6]
       exact h3.more _
      ·rw [if_neg e]
       exact h3.more _
    rcases hy with hy | hy
    ·exact hold y (.inl hy) hk' hq
    ·rcases List.mem_append.1 hy with hy | hy
     ·exact hold y (.inr hy) hk' hq
     ·rw [List.mem_singleton.1 hy]
      refine ⟨s.sets.length, _, hlast, rfl, ?_⟩
      have e5 : (s.push av x).top x.dst = if x.dst.toNat = x.dst.toNat then s.sets.length + 1 else s.top x.dst := hnew _
      rw [e5, if_pos rfl]
      exact .here hlast
   ·rcases hy with hy | hy
    ·exact h.act y (.inl hy) hk' a ha
    ·rcases List.mem_append.1 hy with hy | hy
     ·exact h.act y (.inr hy) hk' a ha
     ·rw [List.mem_singleton.1 hy, hk0] at hk'; cases hk'
  ·rw [if_neg hp]
   refine ⟨⟨h.snd, h.nl, h.wt, h.room, h.old, h.tops, h.rng, h.good, fun y hy hk' hq => ?_, fun y hy hk' a ha => ?_, h.tms⟩, hw⟩
   ·rcases hy with hy | hy
    ·exact h.all y (.inl hy) hk' hq
    ·rcases List.mem_append.1 hy with hy | hy
     ·exact h.all y (.inr hy) hk' hq
     ·rw [List.mem_singleton.1 hy] at hq; exact absurd hq hp
   ·rcases hy with hy | hy
    ·exact h.act y (.inl hy) hk' a ha
    ·rcases List.mem_append.1 hy with hy | hy
     ·exact h.act y (.inr hy) hk' a ha
     ·rw [List.mem_singleton.1 hy, hk0] at hk'; cases hk'
theorem lay_sets (s : Ak) (av : Value) (x : In) : (s.lay av x).sets.length ≤ s.sets.length + 1 ∧ ∀ t ∈ (s.lay av x).sets, t ∈ s.sets ∨ (t.av = av ∧ t.args = x.args) := by
 have ha : ∀ (l : List Int) (s : Ak), (s.ask l).sets = s.sets := fun l => by
  induction l with
  | nil => intro s; rfl
  | cons a l ih => intro s; show ((s.mark a).ask l).sets = _; rw [ih]; exact (mark_sets s a).1
 unfold Ak.lay
 split
 ·rw [ha]; exact ⟨by omega, fun t ht => .inl ht⟩
 ·split
  ·refine ⟨?_, fun t ht => ?_⟩
   ·show (s.sets ++ [_]).length ≤ _
    simp
   ·have ht' : t ∈ s.sets ++ [(⟨av, x.args, s.top x.dst⟩ : Sg)] := ht
    rcases List.mem_append.1 ht' with h1 | h1
    ·exact .inl h1
    ·rw [List.mem_singleton.1 h1]; exact .inr ⟨rfl, rfl⟩
  ·exact ⟨by omega, fun t ht => .inl ht⟩
/-- A block's end asks. -/
theorem AkI.term {G : Gr} (hR : InR G) {bs : List Bl} {s : Ak} {b : Bl} (hb : b ∈ G.blocks) (h : AkI G bs b.ins s) (hw : Wts s) : AkI G (bs ++ [b]) [] (if asksT b.tm then s.mark b.tm.arg else s) ∧ Wts (if asksT b.tm then s.mark b.tm.arg else s) := by
 have hsp : ∀ {t : Ak} (x : In), AkI G bs b.ins t → ((∃ c ∈ bs ++ [b], x ∈ c.ins) ∨ x ∈ ([] : List In)) → ((∃ c ∈ bs, x ∈ c.ins) ∨ x ∈ b.ins) := fun x _ hx => by
  rcases hx with ⟨c, hc, hx⟩ | hx
  ·rcases List.mem_append.1 hc with hc | hc
   ·exact .inl ⟨c, hc, hx⟩
   ·rw [List.mem_singleton.1 hc] at hx; exact .inr hx
  ·cases hx
 by_cases ht : asksT b.tm = true
 ·rw [if_pos ht]
  have hr := hR.term b hb ht
  have h1 := h.mark (.term hb ht) hr.1 hr.2
  refine ⟨⟨h1.snd, h1.nl, h1.wt, h1.room, h1.old, h1.tops, h1.rng, h1.good, fun x hx => h1.all x (hsp x h1 hx), fun x hx => h1.act x (hsp x h1 hx), fun c hc hct => ?_⟩, hw.mark hr.1⟩
  rcases List.mem_append.1 hc with hc | hc
  ·exact h1.tms c hc hct
  ·rw [List.mem_singleton.1 hc]
   exact mark_at (by rw [h.snd.1]; omega)
 ·rw [if_neg ht]
  refine ⟨⟨h.snd, h.nl, h.wt, h.room, h.old, h.tops, h.rng, h.good, fun x hx => h.all x (hsp x h hx), fun x hx => h.act x (hsp x h hx), fun c hc hct => ?_⟩, hw⟩
  rcases List.mem_append.1 hc with hc | hc
  ·exact h.tms c hc hct
  ·rw [List.mem_singleton.1 hc] at hct; exact absurd hct ht
def Ak.new (m : Nat) : Ak := ⟨List.replicate m false, List.replicate m 0, [], []⟩
theorem cnt_rep (m : Nat) : cntN (List.replicate m false) = m := by unfold cntN; simp
theorem rep_false {m v : Nat} : (List.replicate m false).getD v false = false := by
 rw [List.getD_eq_getElem?_getD, List.getElem?_replicate]; split <;> rfl
theorem AkI.new (G : Gr) : AkI G [] [] (Ak.new G.vars.length) ∧ Wts (Ak.new G.vars.length) := by
 have h0 : ∀ v : Nat, (List.replicate G.vars.length 0).getD v 0 = 0 := fun v => by
  rw [List.getD_eq_getElem?_getD, List.getElem?_replicate]; split <;> rfl
 refine ⟨⟨⟨by simp [Ak.new], fun v hv => ?_⟩, by simp [Ak.new], (fun v hv => by cases hv), ?_, (fun n t ht => by simp [Ak.new] at ht), fun v => ?_, (fun n t ht => by simp [Ak.new] at ht), (fun v k t _ ht => by simp [Ak.new] at ht), (fun x hx => ?_), (fun x hx => ?_), (fun b hb => by cases hb)⟩, fun v hv => ?_⟩
 ·have hv' : (List.replicate G.vars.length false).getD v false = true := hv
  rw [rep_false] at hv'; cases hv'
 ·show 0 + cntN (List.replicate _ false) ≤ _
  rw [cnt_rep]; omega
 ·show (List.replicate G.vars.length 0).getD v 0 ≤ _
  rw [h0]; exact Nat.zero_le _
 ·rcases hx with ⟨_, hb, _⟩ | hx
  ·cases hb
  ·cases hx
 ·rcases hx with ⟨_, hb, _⟩ | hx
  ·cases hb
  ·cases hx
 ·have hv' : (List.replicate G.vars.length false).getD v false = true := hv
  rw [rep_false] at hv'; cases hv'
/-- The last one that waits is taken. -/
theorem AkI.pop {G : Gr} {bs : List Bl} {s : Ak} (h : AkI G bs [] s) (c0 : Int) (hc0 : ¬ (0 ≤ c0)) (hs : Stl s c0) {l : List Int} {v : Int} (hw : s.wait = l ++ [v]) : AkI G bs [] { s with wait := l } ∧ Stl { s with wait := l } v ∧ NeedP G v ∧ 0 ≤ v ∧ v < G.vars.length ∧ ({ s with wait := l } : Ak).mu < s.mu := by
 have hv := h.wt v (by rw [hw]; simp)
 refine ⟨⟨h.snd, h.nl, fun u hu => h.wt u (by rw [hw]; exact List.mem_append.2 (.inl hu)), ?_, h.old, h.tops, h.rng, h.good, h.all, h.act, h.tms⟩, fun u hu => ?_, ?_, hv.1, hv.2.1, ?_⟩
 ·have := h.room
  rw [hw] at this
  simp only [List.length_append, List.length_cons, List.length_nil] at this
  dsimp only
  omega
 ·rcases hs u hu with h1 | h1 | h1
  ·rw [hw] at h1
   rcases List.mem_append.1 h1 with h1 | h1
   ·exact .inl h1
   ·exact .inr (.inl (List.mem_singleton.1 h1))
  ·omega
  ·exact .inr (.inr h1)
 ·have := h.snd.2 v.toNat hv.2.2
  rw [Int.toNat_of_nonneg hv.1] at this
  exact this
 ·unfold Ak.mu
  rw [hw]
  simp
/-- How the way along the settings of one variable stands: n is the next number. -/
structure WayI (s : Ak) (v : Int) (n : Nat) : Prop where
 le : n ≤ s.sets.length
 on : ∀ k, On s.sets n k → On s.sets (s.top v) k
 rest : ∀ (k : Nat) (t : Sg), On s.sets (s.top v) (k + 1) → s.sets[k]? = some t → On s.sets n (k + 1) ∨ ∀ a ∈ t.args, atB s.need a = true
theorem WayI.start {G : Gr} {bs : List Bl} {s : Ak} (h : AkI G bs [] s) (v : Int) : WayI s v (s.top v) := ⟨h.tops _, fun _ h => h, fun _ _ h _ => .inl h⟩
theorem WayI.step {G : Gr} {bs : List Bl} {s : Ak} (h : AkI G bs [] s) {v : Int} (h0 : 0 ≤ v) (hn : NeedP G v) (hst : Stl s v) {n : Nat} (hw : WayI s v (n + 1)) {t : Sg} (ht : s.sets[n]? = some t) :
  AkI G bs [] (s.ask t.args) ∧ Stl (s.ask t.args) v ∧ WayI (s.ask t.args) v t.older ∧ t.older ≤ n ∧ (∀ a ∈ t.args, 0 ≤ a ∧ a < G.vars.length) ∧ (s.ask t.args).mu ≤ s.mu ∧ (s.ask t.args).sets = s.sets ∧ (s.ask t.args).newest = s.newest := by
 have hr := h.rng n t ht
 have ht0 := hw.on _ (.here ht)
 have hg : ∀ a ∈ t.args, NeedP G a := h.good v.toNat n t ht0 ht (by rw [Int.toNat_of_nonneg h0]; exact hn)
 have h1 := h.ask fun a ha => ⟨hg a ha, hr a ha⟩
 have h2 := ask_askI t.args s fun a ha => by rw [h.snd.1]; have := hr a ha; omega
 have ho := h.old n t ht
 have hlt := (List.getElem?_eq_some_iff.1 ht).1
 have etop : (s.ask t.args).top v = s.top v := by unfold Ak.top; rw [h2.newest]
 refine ⟨h1, hst.ask fun a ha => (hr a ha).1, ⟨by rw [h2.sets]; omega, fun k hk => ?_, fun k u hk hu => ?_⟩, ho, hr, h2.mu, h2.sets, h2.newest⟩
 ·rw [h2.sets] at hk ⊢
  rw [etop]
  exact hw.on k (.next ht hk)
 ·rw [h2.sets] at hk hu ⊢
  rw [etop] at hk
  rcases hw.rest k u hk hu with h3 | h3
  ·rcases h3.inv ht with e | h4
   ·have e2 : k = n := by omega
    subst e2
    rw [ht] at hu
    cases hu
    exact .inr h2.all
   ·exact .inl h4
  ·exact .inr fun a ha => h2.mono a (h3 a ha)
theorem WayI.done {s : Ak} {v : Int} (_ : 0 ≤ v) (hst : Stl s v) (hw : WayI s v 0) : Stl s (-1) := fun u hu => by
 rcases hst u hu with h1 | h1 | h1
 ·exact .inl h1
 ·refine .inr (.inr fun k t ho ht => ?_)
  have e : s.newest.getD u 0 = s.top v := by unfold Ak.top; rw [← h1, Int.toNat_natCast]
  rw [e] at ho
  rcases hw.rest k t ho ht with h3 | h3
  ·exact absurd h3 On.zero
  ·exact h3
 ·exact .inr (.inr h1)
theorem Wts.stl {s : Ak} (h : Wts s) : Stl s (-1) := fun v hv => .inl (h v hv)
theorem AkI.done {G : Gr} {s : Ak} (_ : InR G) (h : AkI G G.blocks [] s) (hs : Stl s (-1)) (hw : s.wait = []) : s.need = needL G := by
 refine need_all h.snd fun b hb a ha => ?_
 unfold askB at ha
 rcases List.mem_append.1 ha with ha | ha
 ·by_cases ht : asksT b.tm = true
  ·rw [if_pos ht] at ha
   rw [List.mem_singleton.1 ha]
   exact h.tms b hb ht
  ·rw [if_neg ht] at ha
   cases ha
 ·obtain ⟨x, hx, ha⟩ := List.mem_flatMap.1 ha
  unfold askI at ha
  by_cases hk : (staysK x.kind || (setsK x.kind && atB s.need x.dst)) = true
  ·rw [if_pos hk] at ha
   cases h1 : staysK x.kind
   ·rw [h1] at hk
    simp only [Bool.false_or, Bool.and_eq_true] at hk
    have hp : 0 < x.args.length := List.length_pos_of_mem ha
    obtain ⟨k, t, e1, e2, e3⟩ := h.all x (.inl ⟨b, hb, hx⟩) h1 hp
    rcases hs x.dst.toNat hk.2 with h4 | h4 | h4
    ·rw [hw] at h4; cases h4
    ·omega
    ·exact h4 k t e3 e1 a (by rw [e2]; exact ha)
   ·exact h.act x (.inl ⟨b, hb, hx⟩) h1 a ha
  ·rw [if_neg hk] at ha
   cases ha
end Go.Proofs.YtajaijilfclhpaaGreatDoor
