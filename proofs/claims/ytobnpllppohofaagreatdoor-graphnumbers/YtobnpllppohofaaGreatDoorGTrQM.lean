/- What the walk through a graph leaves: each block once, closed under edges, each from one ahead. Plain. -/
import Derived.Test.YtobnpllppohofaaGreatDoorGBoxM
namespace Go.Proofs.YtobnpllppohofaaGreatDoor

structure Wt (ts : List Tm) (a : Nat) (met m : List Bool) (E : List Int) : Prop where
 len : m.length = met.length
 mono : ∀ k, met.getD k true = true → m.getD k true = true
 nat : ∀ x ∈ E, ∃ k : Nat, x = (k : Int) ∧ k < met.length
 mem : ∀ k : Nat, (k : Int) ∈ E ↔ (met.getD k true = false ∧ m.getD k true = true)
 closed : ∀ k : Nat, (k : Int) ∈ E → ∀ y ∈ namedT (ts.getD k default), inB y met.length = true → m.getD y.toNat true = true
 nodup : E.Nodup
 par : ∀ k : Nat, (k : Int) ∈ E → ∃ p : Nat, (p = a ∨ (p : Int) ∈ E) ∧ (k : Int) ∈ namedT (ts.getD p default)
theorem Wt.refl (ts : List Tm) (a : Nat) (met : List Bool) : Wt ts a met met [] :=
 ⟨rfl, fun _ h => h, by simp, fun k => by simp, by simp, by simp, by simp⟩
theorem getD_set {l : List Bool} {i k : Nat} {b : Bool} (hi : i < l.length) : (l.set i b).getD k true = if i = k then b else l.getD k true := by
 simp only [List.getD, List.getElem?_set]
 by_cases h : i = k
 ·subst h; simp [hi]
 ·simp [h]
theorem lt_of_getD {l : List Bool} {k : Nat} (h : l.getD k true = false) : k < l.length := by
 rcases Nat.lt_or_ge k l.length with h1 | h1
 ·exact h1
 ·simp [List.getD, List.getElem?_eq_none h1] at h
/-- One more block, and what is left from it. -/
theorem Wt.step {ts : List Tm} {a : Nat} {met m m2 : List Bool} {E D : List Int} {to : Nat} (h : Wt ts a met m E) (hto : m.getD to true = false) (hn : (to : Int) ∈ namedT (ts.getD a default))
  (g : Wt ts to (m.set to true) m2 D) (hc : ∀ y ∈ namedT (ts.getD to default), inB y met.length = true → m2.getD y.toNat true = true) : Wt ts a met m2 (E ++ D ++ [(to : Int)]) := by
 have hl := lt_of_getD hto
 have gs : ∀ k, (m.set to true).getD k true = if to = k then true else m.getD k true := fun k => getD_set hl
 have hm2 : m2.getD to true = true := g.mono to (by rw [gs]; simp)
 have hmm : ∀ k, m.getD k true = true → m2.getD k true = true := fun k hk => g.mono k (by rw [gs]; split <;> simp_all)
 have hmt : met.getD to true = false := by
  cases e : met.getD to true with
  | false => rfl
  | true => rw [h.mono to e] at hto; cases hto
 refine ⟨by rw [g.len]; simpa using h.len, fun k hk => hmm k (h.mono k hk), ?_, ?_, ?_, ?_, ?_⟩
 ·intro x hx
  simp only [List.mem_append, List.mem_singleton] at hx
  rcases hx with (hx | hx) | hx
  ·exact h.nat x hx
  ·obtain ⟨k, rfl, hk⟩ := g.nat x hx
   exact ⟨k, rfl, by simpa [h.len] using hk⟩
  ·exact ⟨to, hx, by rw [← h.len]; exact hl⟩
 ·intro k
  simp only [List.mem_append, List.mem_singleton, h.mem k, g.mem k, gs, Int.natCast_inj]
  constructor
  ·rintro ((⟨h1, h2⟩ | ⟨h1, h2⟩) | rfl)
   ·exact ⟨h1, hmm k h2⟩
   ·split at h1
    ·cases h1
    ·refine ⟨?_, h2⟩
     cases e : met.getD k true with
     | false => rfl
     | true => rw [h.mono k e] at h1; cases h1
   ·exact ⟨hmt, hm2⟩
  ·rintro ⟨h1, h2⟩
   by_cases e : k = to
   ·exact .inr e
   ·left
    cases e1 : m.getD k true with
    | true => exact .inl ⟨h1, rfl⟩
    | false => exact .inr ⟨by rw [if_neg (fun x => e x.symm)], h2⟩
 ·intro k hk y hy hb
  simp only [List.mem_append, List.mem_singleton, Int.natCast_inj] at hk
  rcases hk with (hk | hk) | rfl
  ·exact hmm _ (h.closed k hk y hy hb)
  ·exact g.closed k hk y hy (by simpa [h.len] using hb)
  ·exact hc y hy hb
 ·have hE : ∀ x ∈ E, ∃ k : Nat, x = (k : Int) ∧ m.getD k true = true := fun x hx => by
   obtain ⟨k, rfl, _⟩ := h.nat x hx
   exact ⟨k, rfl, ((h.mem k).1 hx).2⟩
  have hD : ∀ x ∈ D, ∃ k : Nat, x = (k : Int) ∧ to ≠ k ∧ m.getD k true = false := fun x hx => by
   obtain ⟨k, rfl, _⟩ := g.nat x hx
   have := ((g.mem k).1 hx).1
   rw [gs] at this
   split at this
   ·cases this
   ·exact ⟨k, rfl, by assumption, this⟩
  rw [List.nodup_append, List.nodup_append]
  refine ⟨⟨h.nodup, g.nodup, ?_⟩, by simp, ?_⟩
  ·rintro x hx y hy rfl
   obtain ⟨k, rfl, hk⟩ := hE x hx
   obtain ⟨j, e, _, hj⟩ := hD _ hy
   obtain rfl : k = j := by omega
   rw [hk] at hj; cases hj
  ·rintro x hx y hy rfl
   simp only [List.mem_singleton] at hy
   rcases List.mem_append.1 hx with hx | hx
   ·obtain ⟨k, e, hk⟩ := hE x hx
    obtain rfl : k = to := by omega
    rw [hk] at hto; cases hto
   ·obtain ⟨k, e, hk, _⟩ := hD x hx
    omega
 ·intro k hk
  simp only [List.mem_append, List.mem_singleton, Int.natCast_inj] at hk ⊢
  rcases hk with (hk | hk) | rfl
  ·obtain ⟨p, hp, hq⟩ := h.par k hk
   exact ⟨p, hp.imp id fun z => .inl (.inl z), hq⟩
  ·obtain ⟨p, hp, hq⟩ := g.par k hk
   rcases hp with rfl | hp
   ·exact ⟨p, .inr (.inr rfl), hq⟩
   ·exact ⟨p, .inr (.inl (.inr hp)), hq⟩
  ·exact ⟨a, .inl rfl, hn⟩
theorem cntF_mono {m m' : List Bool} (hl : m'.length = m.length) (h : ∀ k, m.getD k true = true → m'.getD k true = true) : cntF m' ≤ cntF m := by
 induction m generalizing m' with
 | nil => cases m' <;> simp_all
 | cons b m ih =>
  match m', hl with
  | b' :: m', hl =>
   have h0 := h 0
   have i := ih (m' := m') (by simpa using hl) (fun k hk => by simpa using h (k + 1) (by simpa using hk))
   unfold cntF at i ⊢
   simp only [List.count_cons]
   simp at h0
   cases b <;> cases b' <;> simp_all <;> omega
def DfsOk (ts : List Tm) (f : Nat) : Prop := ∀ (a : Nat) (met : List Bool) (left : List Int), met.length = ts.length → a < ts.length → met.getD a true = true → cntF met ≤ f →
 ∃ D m, dfs ts f a met left = (m, left ++ D ++ [(a : Int)]) ∧ Wt ts a met m D ∧ ∀ y ∈ namedT (ts.getD a default), inB y met.length = true → m.getD y.toNat true = true
theorem fold_ok {ts : List Tm} {f a : Nat} (ih : DfsOk ts f) {met : List Bool} {left : List Int} (hl : met.length = ts.length) (hf : cntF met ≤ f + 1) :
  ∀ (ys : List Int) (m : List Bool) (E : List Int), (∀ y ∈ ys, y ∈ namedT (ts.getD a default)) → Wt ts a met m E →
   ∃ E2 m2, ys.foldl (stepW (dfs ts f)) (m, left ++ E) = (m2, left ++ E2) ∧ Wt ts a met m2 E2 ∧ (∀ k, m.getD k true = true → m2.getD k true = true) ∧ ∀ y ∈ ys, inB y met.length = true → m2.getD y.toNat true = true
 | [], m, E, _, h => ⟨E, m, rfl, h, fun _ hk => hk, by simp⟩
 | y :: ys, m, E, hs, h => by
  rw [List.foldl_cons]
  by_cases hb : inB y m.length && !(m.getD y.toNat true)
  ·simp only [stepW, hb, if_true]
   simp only [Bool.and_eq_true, Bool.not_eq_true'] at hb
   obtain ⟨hb1, hb2⟩ := hb
   have hyk : ((y.toNat : Nat) : Int) = y := by rw [inB_iff] at hb1; omega
   have hlt := lt_of_getD hb2
   have hc := cntF_set hb2
   have hcm := cntF_mono h.len h.mono
   obtain ⟨D, m1, he, hw, hn⟩ := ih y.toNat (m.set y.toNat true) (left ++ E) (by simpa [h.len] using hl) (by rw [← hl, ← h.len]; exact hlt) (by rw [getD_set hlt]; simp) (by omega)
   have h2 : Wt ts a met m1 (E ++ D ++ [((y.toNat : Nat) : Int)]) := h.step hb2 (by rw [hyk]; exact hs y (by simp)) hw (fun z hz hzb => hn z hz (by simpa [h.len] using hzb))
   rw [he, show left ++ E ++ D ++ [((y.toNat : Nat) : Int)] = left ++ (E ++ D ++ [((y.toNat : Nat) : Int)]) by simp]
   obtain ⟨E2, m2, e2, w2, mo, al⟩ := fold_ok ih hl hf ys m1 _ (fun z hz => hs z (by simp [hz])) h2
   have hm1 : ∀ k, m.getD k true = true → m1.getD k true = true := fun k hk => hw.mono k (by rw [getD_set hlt]; split <;> simp_all)
   refine ⟨E2, m2, e2, w2, fun k hk => mo k (hm1 k hk), ?_⟩
   intro z hz hzb
   rcases List.mem_cons.1 hz with rfl | hz
   ·exact mo _ (hw.mono _ (by rw [getD_set hlt]; simp))
   ·exact al z hz hzb
  ·have e : stepW (dfs ts f) (m, left ++ E) y = (m, left ++ E) := by unfold stepW; rw [if_neg hb]
   rw [e]
   obtain ⟨E2, m2, e2, w2, mo, al⟩ := fold_ok ih hl hf ys m E (fun z hz => hs z (by simp [hz])) h
   refine ⟨E2, m2, e2, w2, mo, ?_⟩
   intro z hz hzb
   rcases List.mem_cons.1 hz with rfl | hz
   ·refine mo _ ?_
    rw [← h.len] at hzb
    rw [hzb] at hb
    simpa using hb
   ·exact al z hz hzb
theorem dfs_ok (ts : List Tm) : ∀ f, DfsOk ts f
 | 0 => fun a met left hl ha hm hc => by
  have all : ∀ k, met.getD k true = true := fun k => by
   cases e : met.getD k true with
   | true => rfl
   | false =>
    have := cntF_set e
    omega
  exact ⟨[], met, by simp [dfs], Wt.refl _ _ _, fun y _ _ => all _⟩
 | f + 1 => fun a met left hl ha hm hc => by
  obtain ⟨E, m, e, w, mo, al⟩ := fold_ok (dfs_ok ts f) (left := left) hl hc (namedT (ts.getD a default)) met [] (fun _ h => h) (Wt.refl _ _ _)
  simp only [List.append_nil] at e
  refine ⟨E, m, ?_, w, al⟩
  simp only [dfs, e]
theorem nodup_rev {l : List Int} (h : l.Nodup) : l.reverse.Nodup := by
 unfold List.Nodup at *
 rw [List.pairwise_reverse]
 exact h.imp fun h => h.symm
structure Ordered (ts : List Tm) (O : List Int) : Prop where
 nat : ∀ x ∈ O, ∃ k : Nat, x = (k : Int) ∧ k < ts.length
 zero : 0 < ts.length → (0 : Int) ∈ O
 closed : ∀ k : Nat, (k : Int) ∈ O → ∀ y ∈ namedT (ts.getD k default), inB y ts.length = true → y ∈ O
 par : ∀ k : Nat, (k : Int) ∈ O → k ≠ 0 → ∃ p : Nat, (p : Int) ∈ O ∧ (k : Int) ∈ namedT (ts.getD p default)
 nodup : O.Nodup
theorem order_ok (ts : List Tm) : Ordered ts (orderT ts) := by
 unfold orderT
 by_cases h0 : ts.length = 0
 ·rw [if_pos h0]; exact ⟨by simp, fun h => absurd h0 (by omega), by simp, by simp, by simp⟩
 ·rw [if_neg h0]
  have h0' : 0 < ts.length := by omega
  obtain ⟨D, m, e, w, al⟩ := dfs_ok ts ts.length 0 ((List.replicate ts.length false).set 0 true) [] (by simp) h0' (by rw [getD_set (by simpa using h0')]; simp) (by
   unfold cntF
   refine Nat.le_trans List.count_le_length ?_
   simp)
  rw [e]
  have hm : ∀ k, ((List.replicate ts.length false).set 0 true).getD k true = decide (k = 0 ∨ ts.length ≤ k) := fun k => by
   rw [getD_set (by simpa using h0')]
   by_cases e : 0 = k
   ·subst e; simp
   ·rw [if_neg e]
    simp only [List.getD, List.getElem?_replicate]
    by_cases hk : k < ts.length
    ·simp [hk]; omega
    ·simp [hk]; omega
  have mem : ∀ k : Nat, (k : Int) ∈ D ++ [((0 : Nat) : Int)] ↔ k < ts.length ∧ m.getD k true = true := fun k => by
   simp only [List.mem_append, List.mem_singleton, w.mem k, hm, Int.natCast_inj]
   constructor
   ·rintro (⟨h1, h2⟩ | rfl)
    ·simp at h1; exact ⟨by omega, h2⟩
    ·exact ⟨h0', w.mono 0 (by rw [hm]; simp)⟩
   ·rintro ⟨h1, h2⟩
    by_cases e : k = 0
    ·exact .inr e
    ·exact .inl ⟨by simp; omega, h2⟩
  have hlen : ((List.replicate ts.length false).set 0 true).length = ts.length := by simp
  rw [hlen] at al
  have hnat := w.nat
  have hcl := w.closed
  rw [hlen] at hnat hcl
  simp only [List.nil_append]
  refine ⟨?_, fun _ => by simp, ?_, ?_, ?_⟩
  ·intro x hx
   simp only [List.mem_reverse, List.mem_append, List.mem_singleton] at hx
   rcases hx with hx | rfl
   ·exact hnat x hx
   ·exact ⟨0, rfl, h0'⟩
  ·intro k hk y hy hb
   rw [List.mem_reverse] at hk ⊢
   have hy2 : m.getD y.toNat true = true := by
    simp only [List.mem_append, List.mem_singleton, Int.natCast_inj] at hk
    rcases hk with hk | rfl
    ·exact hcl k hk y hy hb
    ·exact al y hy hb
   rw [inB_iff] at hb
   have := (mem y.toNat).2 ⟨by omega, hy2⟩
   rwa [show ((y.toNat : Nat) : Int) = y by omega] at this
  ·intro k hk hk0
   rw [List.mem_reverse, List.mem_append, List.mem_singleton] at hk
   rcases hk with hk | hk
   ·obtain ⟨p, hp, hq⟩ := w.par k hk
    refine ⟨p, ?_, hq⟩
    rw [List.mem_reverse, List.mem_append, List.mem_singleton]
    rcases hp with rfl | hp
    ·exact .inr rfl
    ·exact .inl hp
   ·omega
  ·refine nodup_rev ?_
   rw [List.nodup_append]
   refine ⟨w.nodup, by simp, ?_⟩
   rintro x hx y hy rfl
   simp only [List.mem_singleton] at hy
   subst hy
   have := ((w.mem 0).1 hx).1
   rw [hm] at this
   simp at this
end Go.Proofs.YtobnpllppohofaaGreatDoor
/- What stands ahead of a block: rising, just those with an edge to it, as many in all as there are edges. Plain. -/
namespace Go.Proofs.YtobnpllppohofaaGreatDoor

theorem putA_get {i : Int} {rows : List (List Int)} {to : Int} {j : Nat} (hj : j < rows.length) : (putA i rows to).getD j [] = rows.getD j [] ++ (if (j : Int) = to then [i] else []) := by
 unfold putA
 by_cases hb : inB to rows.length = true
 ·rw [if_pos hb]
  rw [inB_iff] at hb
  simp only [List.getD, List.getElem?_modify, List.getElem?_eq_getElem hj]
  by_cases e : (j : Int) = to
  ·have : to.toNat = j := by omega
   simp [e, this]
  ·have : to.toNat ≠ j := by omega
   simp [e, this]
 ·rw [if_neg hb]
  have e : ¬ (j : Int) = to := by
   rw [inB_iff] at hb
   omega
  simp [e]
theorem putsA_get {i : Int} {j : Nat} : ∀ {l : List Int} {rows : List (List Int)}, l.Nodup → j < rows.length → (putsA i rows l).getD j [] = rows.getD j [] ++ (if (j : Int) ∈ l then [i] else [])
 | [], rows, _, _ => by simp [putsA]
 | a :: l, rows, hn, hj => by
  unfold putsA
  rw [List.foldl_cons]
  have := putsA_get (i := i) (l := l) (rows := putA i rows a) (List.nodup_cons.1 hn).2 (by rw [putA_len]; exact hj)
  unfold putsA at this
  rw [this, putA_get hj]
  have hna := (List.nodup_cons.1 hn).1
  by_cases e : (j : Int) = a
  ·subst e
   simp [hna]
  ·simp [e]
def rowF (j : Nat) : List Tm → Nat → List Int
 | [], _ => []
 | t :: ts, i => (if (j : Int) ∈ nextT t then [(i : Int)] else []) ++ rowF j ts (i + 1)
theorem aheadF_get {j : Nat} : ∀ {ts : List Tm} {i : Nat} {rows : List (List Int)}, j < rows.length → (aheadF ts i rows).getD j [] = rows.getD j [] ++ rowF j ts i
 | [], _, _, _ => by simp [aheadF, rowF]
 | t :: ts, i, rows, hj => by
  unfold aheadF rowF
  rw [aheadF_get (by rw [putsA_len]; exact hj), putsA_get (next_nodup t) hj, List.append_assoc]
theorem aheadT_get {ts : List Tm} {j : Nat} (hj : j < ts.length) : (aheadT ts).getD j [] = rowF j ts 0 := by
 unfold aheadT
 rw [aheadF_get (by simpa using hj)]
 simp [List.getD, hj]
theorem rowF_mem {j : Nat} : ∀ {ts : List Tm} {i : Nat} {x : Int}, x ∈ rowF j ts i ↔ ∃ k : Nat, x = ((i + k : Nat) : Int) ∧ k < ts.length ∧ (j : Int) ∈ nextT (ts.getD k default)
 | [], _, _ => by simp [rowF]
 | t :: ts, i, x => by
  unfold rowF
  rw [List.mem_append, rowF_mem]
  constructor
  ·rintro (h | ⟨k, rfl, hk, hm⟩)
   ·split at h
    ·simp only [List.mem_singleton] at h
     exact ⟨0, by simpa using h, by simp, by simpa using by assumption⟩
    ·simp at h
   ·exact ⟨k + 1, by omega, by simpa using hk, by simpa using hm⟩
  ·rintro ⟨k, rfl, hk, hm⟩
   match k, hk, hm with
   | 0, _, hm =>
    left
    have : (j : Int) ∈ nextT t := by simpa using hm
    rw [if_pos this]; simp
   | k + 1, hk, hm => exact .inr ⟨k, by omega, by simpa using hk, by simpa using hm⟩
theorem rowF_lt {j : Nat} : ∀ {ts : List Tm} {i : Nat}, (rowF j ts i).Pairwise (· < ·)
 | [], _ => by simp [rowF]
 | t :: ts, i => by
  unfold rowF
  split
  ·rw [List.cons_append, List.nil_append, List.pairwise_cons]
   refine ⟨fun x hx => ?_, rowF_lt⟩
   obtain ⟨k, rfl, _⟩ := rowF_mem.1 hx
   omega
  ·simpa using rowF_lt
theorem mem_ahead {ts : List Tm} {j : Nat} (hj : j < ts.length) {x : Int} : x ∈ (aheadT ts).getD j [] ↔ ∃ k : Nat, x = (k : Int) ∧ k < ts.length ∧ (j : Int) ∈ nextT (ts.getD k default) := by
 rw [aheadT_get hj, rowF_mem]
 simp
theorem ahead_lt {ts : List Tm} {j : Nat} (hj : j < ts.length) : ((aheadT ts).getD j []).Pairwise (· < ·) := by rw [aheadT_get hj]; exact rowF_lt
/-- All edges. -/
def lensA (rows : List (List Int)) : Nat := (rows.map List.length).sum
def edgesT (n : Nat) (l : List Int) : Nat := l.countP (inB · n)
theorem lens_modify : ∀ (rows : List (List Int)) (k : Nat) (i : Int), k < rows.length → lensA (rows.modify k (· ++ [i])) = lensA rows + 1
 | [], k, _, h => by simp at h
 | r :: rows, 0, i, _ => by simp [lensA, List.modify]; omega
 | r :: rows, k + 1, i, h => by
  have := lens_modify rows k i (by simpa using h)
  simp [lensA, List.modify] at this ⊢
  omega
theorem lens_putA (i : Int) (rows : List (List Int)) (to : Int) : lensA (putA i rows to) = lensA rows + (if inB to rows.length then 1 else 0) := by
 unfold putA
 split
 ·rename_i h
  rw [lens_modify _ _ _ (by rw [inB_iff] at h; omega)]
 ·rfl
theorem lens_putsA (i : Int) : ∀ (l : List Int) (rows : List (List Int)), lensA (putsA i rows l) = lensA rows + edgesT rows.length l
 | [], rows => by simp [putsA, edgesT]
 | a :: l, rows => by
  have := lens_putsA i l (putA i rows a)
  unfold putsA at this ⊢
  rw [List.foldl_cons, this, lens_putA, putA_len]
  unfold edgesT
  rw [List.countP_cons]
  omega
def edgesF (n : Nat) (ts : List Tm) : Nat := (ts.map fun t => edgesT n (nextT t)).sum
theorem lens_aheadF : ∀ (ts : List Tm) (i : Nat) (rows : List (List Int)), lensA (aheadF ts i rows) = lensA rows + edgesF rows.length ts
 | [], _, rows => by simp [aheadF, edgesF]
 | t :: ts, i, rows => by
  unfold aheadF
  rw [lens_aheadF ts, lens_putsA, putsA_len]
  simp [edgesF]
  omega
theorem lens_rep : ∀ n, lensA (List.replicate n []) = 0
 | 0 => rfl
 | n + 1 => by
  have := lens_rep n
  simp [lensA, List.replicate_succ] at this ⊢
theorem lens_ahead (ts : List Tm) : lensA (aheadT ts) = edgesF ts.length ts := by
 unfold aheadT
 rw [lens_aheadF, lens_rep]
 simp
theorem next_len (t : Tm) : (nextT t).length ≤ 2 := by
 unfold nextT
 repeat' split
 all_goals simp
theorem edgesT_le (n : Nat) (t : Tm) : edgesT n (nextT t) ≤ 2 := Nat.le_trans List.countP_le_length (next_len t)
theorem edgesF_le (n : Nat) : ∀ ts : List Tm, edgesF n ts ≤ 2 * ts.length
 | [] => by simp [edgesF]
 | t :: ts => by
  have := edgesF_le n ts
  have := edgesT_le n t
  simp [edgesF] at *
  omega
end Go.Proofs.YtobnpllppohofaaGreatDoor
/- A graph with the blocks that are reached alone: plain. -/
namespace Go.Proofs.YtobnpllppohofaaGreatDoor

/-- where a number stands in a row; -1: nowhere -/
def placeOf (l : List Int) (x : Int) : Int := if x ∈ l then (l.idxOf x : Int) else -1
theorem place_in {l : List Int} {x : Int} (h : x ∈ l) : placeOf l x = (l.idxOf x : Int) ∧ l.idxOf x < l.length ∧ l[l.idxOf x]? = some x := by
 have h1 : l.idxOf x < l.length := List.idxOf_lt_length_of_mem h
 refine ⟨by unfold placeOf; rw [if_pos h], h1, ?_⟩
 rw [List.getElem?_eq_getElem h1, List.getElem_idxOf h1]
theorem place_out {l : List Int} {x : Int} (h : x ∉ l) : placeOf l x = -1 := by unfold placeOf; rw [if_neg h]
theorem place_ge {l : List Int} {x : Int} : 0 ≤ placeOf l x ↔ x ∈ l := by
 by_cases h : x ∈ l
 ·rw [(place_in h).1]; exact ⟨fun _ => h, fun _ => by omega⟩
 ·rw [place_out h]; exact ⟨fun h => by omega, fun h9 => absurd h9 h⟩
theorem place_ne {l : List Int} {x : Int} : placeOf l x ≠ -1 ↔ x ∈ l := by
 rw [← place_ge]
 by_cases h : x ∈ l
 ·rw [(place_in h).1]; omega
 ·rw [place_out h]; omega
theorem place_at {l : List Int} (hn : l.Nodup) {i : Nat} {x : Int} (h : l[i]? = some x) : placeOf l x = (i : Int) := by
 obtain ⟨hi, he⟩ := List.getElem?_eq_some_iff.1 h
 have hm : x ∈ l := by rw [← he]; exact List.getElem_mem hi
 obtain ⟨h1, h2, h3⟩ := place_in hm
 rw [h1]
 have : l.idxOf x = i := by
  rcases Nat.lt_trichotomy (l.idxOf x) i with hlt | heq | hgt
  ·obtain ⟨q1, q2⟩ := List.getElem?_eq_some_iff.1 h3
   exact absurd (q2.trans he.symm) (List.pairwise_iff_getElem.1 hn _ _ q1 hi hlt)
  ·exact heq
  ·obtain ⟨q1, q2⟩ := List.getElem?_eq_some_iff.1 h3
   exact absurd (he.trans q2.symm) (List.pairwise_iff_getElem.1 hn _ _ hi q1 hgt)
 omega
theorem place_inj {l : List Int} {x y : Int} (hx : x ∈ l) (hy : y ∈ l) (h : placeOf l x = placeOf l y) : x = y := by
 obtain ⟨h1, _, h3⟩ := place_in hx
 obtain ⟨h4, _, h6⟩ := place_in hy
 have e : l.idxOf x = l.idxOf y := by omega
 rw [e, h6] at h3
 exact (Option.some.inj h3).symm

/-- which of the blocks ahead stay, by their places among them, in the new order -/
def stayP (O ah : List Int) : List Int := (O.filter (· ∈ ah)).map (placeOf ah)
def keptP (args st : List Int) : List Int := st.filterMap fun i => args[i.toNat]?
def ledT (O : List Int) (n : Nat) (t : Tm) : Tm :=
 { t with t0 := if (t.kind = 1 ∨ t.kind = 2) ∧ inB t.t0 n = true then placeOf O t.t0 else t.t0, t1 := if t.kind = 2 ∧ inB t.t1 n = true then placeOf O t.t1 else t.t1 }
def trimI (st : List Int) (x : In) : In := if x.kind = 1 then { x with args := keptP x.args st } else x
def trimB (O : List Int) (n : Nat) (ah : List Int) (b : Bl) : Bl := ⟨b.ins.map (trimI (stayP O ah)), ledT O n b.tm⟩
def trimBs (bs : List Bl) : List Bl := (orderT (tms bs)).map fun a => trimB (orderT (tms bs)) bs.length ((aheadT (tms bs)).getD a.toNat []) (bs.getD a.toNat default)
def trimG (G : Gr) : Gr := { G with blocks := trimBs G.blocks }

/- The document's way. -/
def ledD (O : List Int) (t : Tm) : Tm :=
 { t with t0 := if 0 ≤ placeOf O t.t0 ∧ (t.kind = 2 ∨ t.kind = 1) then placeOf O t.t0 else t.t0, t1 := if 0 ≤ placeOf O t.t1 ∧ t.kind = 2 then placeOf O t.t1 else t.t1 }
def argsD (O was now had : List Int) : List Int := now.filterMap fun j => if 0 ≤ placeOf was (O.getD j.toNat 0) then had[(placeOf was (O.getD j.toNat 0)).toNat]? else none
def ledB (O : List Int) (b : Bl) : Bl := ⟨b.ins, ledD O b.tm⟩
def trimD (bs : List Bl) : List Bl :=
 let O := orderT (tms bs)
 let b1 := O.map fun a => ledB O (bs.getD a.toNat default)
 let now := aheadT (tms b1)
 (List.range O.length).map fun i => (⟨(b1.getD i default).ins.map fun x => if x.kind = 1 then { x with args := argsD O ((aheadT (tms bs)).getD (O.getD i 0).toNat []) (now.getD i []) x.args } else x, (b1.getD i default).tm⟩ : Bl)

theorem tms_get {bs : List Bl} {k : Nat} (h : k < bs.length) : (tms bs).getD k default = (bs.getD k default).tm := by
 unfold tms; rw [List.getD_eq_getElem?_getD, List.getElem?_map, List.getElem?_eq_getElem h, List.getD_eq_getElem?_getD, List.getElem?_eq_getElem h]; rfl
theorem named_closed {ts : List Tm} {O : List Int} (h : Ordered ts O) {a : Nat} (ha : (a : Int) ∈ O) {y : Int} (hy : y ∈ namedT (ts.getD a default)) : inB y ts.length = true ↔ y ∈ O := by
 constructor
 ·exact h.closed a ha y hy
 ·intro h1
  obtain ⟨k, rfl, hk⟩ := h.nat y h1
  exact inB_iff.2 ⟨by omega, by omega⟩
theorem led_same {ts : List Tm} {O : List Int} (h : Ordered ts O) {a : Nat} (ha : (a : Int) ∈ O) : ledD O (ts.getD a default) = ledT O ts.length (ts.getD a default) := by
 have h1 := fun y hy => named_closed h ha (y := y) hy
 unfold ledD ledT namedT at *
 generalize ts.getD a default = t at *
 obtain ⟨k, ar, t0, t1, tr⟩ := t
 dsimp only at *
 by_cases k1 : k = 1
 ·subst k1
  have := h1 t0 (by simp)
  simp [place_ge, this]
 ·by_cases k2 : k = 2
  ·subst k2
   have e0 := h1 t0 (by simp)
   have e1 := h1 t1 (by simp)
   simp [place_ge, e0, e1]
  ·simp [k1, k2]
/-- what a new end names -/
theorem named_led {O : List Int} {n : Nat} {t : Tm} : namedT (ledT O n t) = (namedT t).map fun y => if inB y n = true then placeOf O y else y := by
 unfold namedT ledT
 dsimp only
 by_cases k1 : t.kind = 1
 ·simp [k1]
 ·by_cases k2 : t.kind = 2
  ·simp [k2]
  ·simp [k1, k2]
theorem order_len {ts : List Tm} {O : List Int} (h : Ordered ts O) : O.length ≤ ts.length := by
 have h1 : O.Nodup := h.nodup
 have h2 : O ⊆ (List.range ts.length).map fun i => ((i : Nat) : Int) := fun x hx => by
  obtain ⟨k, rfl, hk⟩ := h.nat x hx
  exact List.mem_map.2 ⟨k, List.mem_range.2 hk, rfl⟩
 have := (List.Nodup.length_le_of_subset h1 h2)
 simpa using this
theorem named_new {ts : List Tm} {O : List Int} (h : Ordered ts O) {i j : Nat} {a c : Int} (hi : O[i]? = some a) (hj : O[j]? = some c) : (i : Int) ∈ namedT (ledT O ts.length (ts.getD c.toNat default)) ↔ a ∈ namedT (ts.getD c.toNat default) := by
 have hc : c ∈ O := List.mem_of_getElem? hj
 have ha : a ∈ O := List.mem_of_getElem? hi
 obtain ⟨k, rfl, hk⟩ := h.nat c hc
 rw [Int.toNat_natCast, named_led, List.mem_map]
 have hil : i < O.length := (List.getElem?_eq_some_iff.1 hi).1
 have hol := order_len h
 constructor
 ·rintro ⟨y, hy, he⟩
  have h1 := named_closed h hc hy
  by_cases hin : inB y ts.length = true
  ·rw [if_pos hin] at he
   have hyO := h1.1 hin
   obtain ⟨p1, p2, p3⟩ := place_in hyO
   have e : O.idxOf y = i := by omega
   rw [e, hi] at p3
   rw [Option.some.inj p3]
   exact hy
  ·rw [if_neg hin] at he
   exact absurd (inB_iff.2 ⟨by omega, by omega⟩) hin
 ·intro hy
  refine ⟨a, hy, ?_⟩
  rw [if_pos ((named_closed h hc hy).2 ha), place_at h.nodup hi]
theorem getD_map_tm {O : List Int} {f : Int → Bl} {j : Nat} {c : Int} (hj : O[j]? = some c) : (tms (O.map f)).getD j default = (f c).tm := by
 unfold tms
 rw [List.getD_eq_getElem?_getD, List.getElem?_map, List.getElem?_map, hj]; rfl
/-- the blocks ahead of a new block -/
theorem now_row {ts : List Tm} {O : List Int} (h : Ordered ts O) {us : List Tm} (hl : us.length = O.length) (hu : ∀ (j : Nat) c, O[j]? = some c → us.getD j default = ledT O ts.length (ts.getD c.toNat default)) {i : Nat} {a : Int} (hi : O[i]? = some a) :
  (aheadT us).getD i [] = ((List.range O.length).filter fun j => decide (O.getD j 0 ∈ (aheadT ts).getD a.toNat [])).map fun j => ((j : Nat) : Int) := by
 have hil : i < O.length := (List.getElem?_eq_some_iff.1 hi).1
 have ha : a ∈ O := List.mem_of_getElem? hi
 obtain ⟨ka, rfl, hka⟩ := h.nat a ha
 have hm : ∀ x, x ∈ (aheadT us).getD i [] ↔ x ∈ ((List.range O.length).filter fun j => decide (O.getD j 0 ∈ (aheadT ts).getD ((ka : Nat) : Int).toNat [])).map fun j => ((j : Nat) : Int) := fun x => by
  rw [mem_ahead (by omega), List.mem_map]
  constructor
  ·rintro ⟨j, rfl, hj, hn⟩
   have hjl : j < O.length := by omega
   have hjs : O[j]? = some O[j] := List.getElem?_eq_getElem hjl
   refine ⟨j, List.mem_filter.2 ⟨List.mem_range.2 hjl, ?_⟩, rfl⟩
   rw [hu j _ hjs, next_named, named_new h hi hjs] at hn
   obtain ⟨kc, hkc, hkl⟩ := h.nat O[j] (List.getElem_mem hjl)
   rw [decide_eq_true_iff, Int.toNat_natCast, mem_ahead hka, List.getD_eq_getElem?_getD, hjs]
   refine ⟨kc, hkc, hkl, ?_⟩
   rw [next_named]
   rw [hkc, Int.toNat_natCast] at hn
   exact hn
  ·rintro ⟨j, hj, rfl⟩
   obtain ⟨hj1, hj2⟩ := List.mem_filter.1 hj
   have hjl : j < O.length := List.mem_range.1 hj1
   have hjs : O[j]? = some O[j] := List.getElem?_eq_getElem hjl
   refine ⟨j, rfl, by omega, ?_⟩
   rw [decide_eq_true_iff, Int.toNat_natCast, mem_ahead hka, List.getD_eq_getElem?_getD, hjs] at hj2
   obtain ⟨kc, hkc, hkl, hn⟩ := hj2
   rw [Option.getD_some] at hkc
   rw [hu j _ hjs, next_named, named_new h hi hjs, hkc, Int.toNat_natCast]
   rw [next_named] at hn
   exact hn
 have s1 : ((aheadT us).getD i []).Pairwise (· < ·) := ahead_lt (by omega)
 have s2 : (((List.range O.length).filter fun j => decide (O.getD j 0 ∈ (aheadT ts).getD ((ka : Nat) : Int).toNat [])).map fun j => ((j : Nat) : Int)).Pairwise (· < ·) := by
  rw [List.pairwise_map]
  refine (List.pairwise_lt_range.filter _).imp fun h => by omega
 have n1 : ((aheadT us).getD i []).Nodup := s1.imp fun h => by omega
 have n2 := s2.imp (S := fun a b : Int => a ≠ b) fun h => by omega
 refine List.Perm.eq_of_pairwise (le := (· < ·)) (fun a b _ _ h1 h2 => by omega) s1 s2 ((List.perm_ext_iff_of_nodup n1 n2).2 hm)
theorem map_range_get {O : List Int} (p : Int → Bool) (f : Int → Int) : ((List.range O.length).filter fun j => p (O.getD j 0)).map (fun j => f (O.getD j 0)) = (O.filter p).map f := by
 have e : O = (List.range O.length).map fun j => O.getD j 0 := by
  apply List.ext_getElem
  ·simp
  ·intro i h1 h2
   rw [List.getElem_map, List.getElem_range, List.getD_eq_getElem?_getD, List.getElem?_eq_getElem h1]; rfl
 conv => rhs; rw [e]
 rw [List.filter_map, List.map_map]
 rfl
theorem fm_congr {α β : Type} {f g : α → Option β} : ∀ {l : List α}, (∀ x ∈ l, f x = g x) → l.filterMap f = l.filterMap g
 | [], _ => rfl
 | a :: l, h => by rw [List.filterMap_cons, List.filterMap_cons, h a (by simp), fm_congr (l := l) fun x hx => h x (by simp [hx])]
/-- a phi's arguments, the document's way and the program's -/
theorem args_same {O was had : List Int} : argsD O was (((List.range O.length).filter fun j => decide (O.getD j 0 ∈ was)).map fun j => ((j : Nat) : Int)) had = keptP had (stayP O was) := by
 unfold argsD keptP stayP
 rw [← map_range_get (fun x => decide (x ∈ was)) (placeOf was), List.filterMap_map, List.filterMap_map]
 refine fm_congr fun j hj => ?_
 have hm : O.getD j 0 ∈ was := by have := (List.mem_filter.1 hj).2; simpa using this
 simp only [Function.comp, Int.toNat_natCast]
 rw [if_pos (place_ge.2 hm)]
theorem trim_same (bs : List Bl) : trimD bs = trimBs bs := by
 unfold trimD trimBs
 dsimp only
 have ho := order_ok (tms bs)
 have htl : (tms bs).length = bs.length := by simp [tms]
 generalize hO : orderT (tms bs) = O at *
 apply List.ext_getElem
 ·simp
 ·intro i h1 h2
  have hil : i < O.length := by simpa using h1
  have his : O[i]? = some O[i] := List.getElem?_eq_getElem hil
  have hu : ∀ (j : Nat) c, O[j]? = some c → (tms (O.map fun a => ledB O (bs.getD a.toNat default))).getD j default = ledT O (tms bs).length ((tms bs).getD c.toNat default) := fun j c hj => by
   rw [getD_map_tm hj]
   obtain ⟨kc, rfl, hkc⟩ := ho.nat c (List.mem_of_getElem? hj)
   rw [Int.toNat_natCast, ← led_same ho (List.mem_of_getElem? hj), tms_get (by omega)]
   rfl
  have hnow := now_row ho (us := tms (O.map fun a => ledB O (bs.getD a.toNat default))) (by simp [tms]) hu his
  have hgd : O.getD i 0 = O[i] := by rw [List.getD_eq_getElem?_getD, his]; rfl
  rw [List.getElem_map, List.getElem_range, List.getElem_map, hnow, hgd]
  have hb : (List.map (fun a => ledB O (bs.getD a.toNat default)) O).getD i default = ledB O (bs.getD O[i].toNat default) := by
   rw [List.getD_eq_getElem?_getD, List.getElem?_map, his]; rfl
  rw [hb]
  unfold ledB
  dsimp only
  obtain ⟨kc, hkc, hkl⟩ := ho.nat O[i] (List.getElem_mem hil)
  have hled := led_same ho (a := kc) (by rw [← hkc]; exact List.getElem_mem hil)
  rw [tms_get (by omega), htl] at hled
  unfold trimB
  rw [hkc] at *
  simp only [Int.toNat_natCast] at *
  rw [hled]
  congr 1
  apply List.map_congr_left
  intro x _
  unfold trimI
  rw [args_same]
end Go.Proofs.YtobnpllppohofaaGreatDoor
/- How the walk counts: what is left, and what is not met yet. Plain. -/
namespace Go.Proofs.YtobnpllppohofaaGreatDoor

def stepOf (ts : List Tm) : Nat → List Bool × List Int → Int → List Bool × List Int
 | 0 => fun s _ => s
 | f + 1 => stepW (dfs ts f)
theorem foldl_id {α β : Type} (l : List β) (s : α) : l.foldl (fun s _ => s) s = s := by
 induction l generalizing s with
 | nil => rfl
 | cons a l ih => exact ih s
theorem dfs_eq (ts : List Tm) (f a : Nat) (met : List Bool) (left : List Int) : dfs ts f a met left = (((namedT (ts.getD a default)).foldl (stepOf ts f) (met, left)).1, ((namedT (ts.getD a default)).foldl (stepOf ts f) (met, left)).2 ++ [(a : Int)]) := by
 cases f with
 | zero => simp [dfs, stepOf, foldl_id]
 | succ f => simp [dfs, stepOf]
theorem stepOf_in {ts : List Tm} {f : Nat} {m : List Bool} {l : List Int} {to : Nat} (h : m.getD to true = false) : stepOf ts (f + 1) (m, l) (to : Int) = dfs ts f to (m.set to true) l := by
 have hl := lt_of_getD h
 have hb : inB (to : Int) m.length = true := inB_iff.2 ⟨by omega, by omega⟩
 unfold stepOf stepW
 simp [hb]
 intro e
 simp [e] at h
theorem stepOf_out {ts : List Tm} {f : Nat} {m : List Bool} {l : List Int} {to : Int} (h : inB to m.length = false ∨ m.getD to.toNat true = true) : stepOf ts f (m, l) to = (m, l) := by
 cases f with
 | zero => rfl
 | succ f =>
  show stepW (dfs ts f) (m, l) to = (m, l)
  unfold stepW
  rcases h with h | h
  ·simp [h]
  ·rw [if_neg]
   simp only [h]
   simp
def Cnt (ts : List Tm) (f : Nat) : Prop := ∀ (a : Nat) (met : List Bool) (left : List Int), met.length = ts.length → a < ts.length → met.getD a true = true → cntF met ≤ f →
 (dfs ts f a met left).2.length + cntF (dfs ts f a met left).1 = left.length + cntF met + 1
theorem step_cnt {ts : List Tm} {f : Nat} (ih : ∀ f', f = f' + 1 → Cnt ts f') (s : List Bool × List Int) (to : Int) (hl : s.1.length = ts.length) (hc : cntF s.1 ≤ f) :
  (stepOf ts f s to).1.length = ts.length ∧ cntF (stepOf ts f s to).1 ≤ cntF s.1 ∧ (stepOf ts f s to).2.length + cntF (stepOf ts f s to).1 = s.2.length + cntF s.1 ∧ ∀ k, s.1.getD k true = true → (stepOf ts f s to).1.getD k true = true := by
 obtain ⟨m, l⟩ := s
 by_cases h : inB to m.length = true ∧ m.getD to.toNat true = false
 ·obtain ⟨h1, h2⟩ := h
  have e1 : ((to.toNat : Nat) : Int) = to := by rw [inB_iff] at h1; omega
  have hlt := lt_of_getD h2
  have hs := cntF_set h2
  dsimp only at hl hc
  match f, ih with
  | 0, _ => omega
  | f + 1, ih =>
   rw [← e1, stepOf_in h2]
   have a1 : (m.set to.toNat true).length = ts.length := by simpa using hl
   have a2 : to.toNat < ts.length := by omega
   have a3 : (m.set to.toNat true).getD to.toNat true = true := by rw [getD_set hlt]; simp
   have a4 : cntF (m.set to.toNat true) ≤ f := by omega
   have hk := ih f rfl to.toNat (m.set to.toNat true) l a1 a2 a3 a4
   obtain ⟨D, m2, he, hw, _⟩ := dfs_ok ts f to.toNat (m.set to.toNat true) l a1 a2 a3 a4
   have hmono : ∀ k, m.getD k true = true → m2.getD k true = true := fun k hk => hw.mono k (by rw [getD_set hlt]; split <;> simp_all)
   rw [he] at hk ⊢
   dsimp only at hk ⊢
   refine ⟨by rw [hw.len]; exact a1, cntF_mono (by rw [hw.len]; simp) hmono, by omega, hmono⟩
 ·have ho : inB to m.length = false ∨ m.getD to.toNat true = true := by
   rcases Decidable.not_and_iff_or_not.1 h with h | h
   ·exact .inl (by simpa using h)
   ·exact .inr (by simpa using h)
  rw [stepOf_out ho]
  exact ⟨hl, Nat.le_refl _, rfl, fun _ hk => hk⟩
theorem fold_cnt {ts : List Tm} {f : Nat} (ih : ∀ f', f = f' + 1 → Cnt ts f') : ∀ (ys : List Int) (s : List Bool × List Int), s.1.length = ts.length → cntF s.1 ≤ f →
  (ys.foldl (stepOf ts f) s).1.length = ts.length ∧ cntF (ys.foldl (stepOf ts f) s).1 ≤ cntF s.1 ∧ (ys.foldl (stepOf ts f) s).2.length + cntF (ys.foldl (stepOf ts f) s).1 = s.2.length + cntF s.1
 | [], s, hl, _ => ⟨hl, Nat.le_refl _, rfl⟩
 | y :: ys, s, hl, hc => by
  rw [List.foldl_cons]
  obtain ⟨h1, h2, h3, _⟩ := step_cnt ih s y hl hc
  obtain ⟨g1, g2, g3⟩ := fold_cnt ih ys _ h1 (by omega)
  exact ⟨g1, by omega, by omega⟩
theorem cnt_of {ts : List Tm} {f : Nat} (ih : ∀ f', f = f' + 1 → Cnt ts f') : Cnt ts f := by
 intro a met left hl ha hm hc
 rw [dfs_eq]
 obtain ⟨_, _, h3⟩ := fold_cnt ih (namedT (ts.getD a default)) (met, left) hl hc
 dsimp only at h3 ⊢
 rw [List.length_append, List.length_singleton]
 omega
theorem cnt_all (ts : List Tm) : ∀ f, Cnt ts f
 | 0 => cnt_of fun f' he => by omega
 | f + 1 => cnt_of fun f' he => by cases he; exact cnt_all ts f
theorem step_all {ts : List Tm} {f : Nat} (s : List Bool × List Int) (to : Int) (hl : s.1.length = ts.length) (hc : cntF s.1 ≤ f) :
  (stepOf ts f s to).1.length = ts.length ∧ cntF (stepOf ts f s to).1 ≤ cntF s.1 ∧ (stepOf ts f s to).2.length + cntF (stepOf ts f s to).1 = s.2.length + cntF s.1 ∧ ∀ k, s.1.getD k true = true → (stepOf ts f s to).1.getD k true = true :=
 step_cnt (fun f' _ => cnt_all ts f') s to hl hc
end Go.Proofs.YtobnpllppohofaaGreatDoor
/- The walk through a trimmed graph: its blocks in their order. Plain. -/
namespace Go.Proofs.YtobnpllppohofaaGreatDoor

/-- marks of the old blocks and of the new ones -/
structure MetR (O : List Int) (n : Nat) (met met' : List Bool) : Prop where
 l1 : met.length = n
 l2 : met'.length = O.length
 eq : ∀ j, j < O.length → met'.getD j true = met.getD (O.getD j 0).toNat true
theorem MetR.at {ts : List Tm} {O : List Int} {met met' : List Bool} (r : MetR O ts.length met met') {y : Int} (hy : y ∈ O) : met'.getD (placeOf O y).toNat true = met.getD y.toNat true := by
 obtain ⟨p1, p2, p3⟩ := place_in hy
 rw [p1, Int.toNat_natCast, r.eq _ p2, List.getD_eq_getElem?_getD (l := O), p3]; rfl
theorem MetR.set {ts : List Tm} {O : List Int} (h : Ordered ts O) {met met' : List Bool} (r : MetR O ts.length met met') {y : Int} (hy : y ∈ O) : MetR O ts.length (met.set y.toNat true) (met'.set (placeOf O y).toNat true) := by
 obtain ⟨p1, p2, p3⟩ := place_in hy
 obtain ⟨k, rfl, hk⟩ := h.nat y hy
 refine ⟨by simp [r.l1], by simp [r.l2], fun j hj => ?_⟩
 have hjs : O[j]? = some O[j] := List.getElem?_eq_getElem hj
 have hjd : O.getD j 0 = O[j] := by rw [List.getD_eq_getElem?_getD, hjs]; rfl
 obtain ⟨q, hq, hql⟩ := h.nat O[j] (List.getElem_mem hj)
 rw [getD_set (by rw [r.l2, p1, Int.toNat_natCast]; exact p2), hjd, hq, Int.toNat_natCast, Int.toNat_natCast, getD_set (by rw [r.l1]; exact hk), p1, Int.toNat_natCast]
 by_cases e : k = q
 ·subst e
  have h9 := place_at h.nodup hjs
  rw [hq, p1] at h9
  rw [if_pos rfl, if_pos (by omega)]
 ·rw [if_neg e, if_neg]
  ·rw [r.eq j hj, hjd, hq, Int.toNat_natCast]
  ·intro e2
   rw [e2, hjs] at p3
   have := Option.some.inj p3
   omega
end Go.Proofs.YtobnpllppohofaaGreatDoor
