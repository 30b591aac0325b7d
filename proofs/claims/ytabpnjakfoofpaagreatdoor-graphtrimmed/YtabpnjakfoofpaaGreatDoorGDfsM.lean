/- A program that comes in: its reading gives its graphs in memory. -/
import Derived.Test.YtabpnjakfoofpaaGreatDoorGOpen
import Derived.Test.YtabpnjakfoofpaaGreatDoorGMemM
namespace Go.Proofs.YtabpnjakfoofpaaGreatDoor
open Go.RowKit Go.ChangeShapes

theorem slG : Tryz.prog.underlying 48 = some (.slice 28) := by kernel_rfl
theorem bzG : 0 < Tryz.prog.bytesOf 28 := by rw [show Tryz.prog.bytesOf 28 = 120 by kernel_rfl]; omega
theorem grs_flat : ∀ bs : List (Gr × (Value × Value × Value × Value)), (bs.flatMap fun b => grL b.1 b.2.1 b.2.2.1 b.2.2.2.1 b.2.2.2.2) = grsCells (bs.map (·.1)) (bs.map (·.2))
  | [] => rfl
  | b :: bs => by rw [List.flatMap_cons, grs_flat bs]; rfl
theorem grs_of {H : Type} {enc : TypeId × Value → H} {w : World} {spare : Nat → Bool} {held : Bool} {m : Nat} {c : List Value} {y : DataW H × List MemPlace} (h : DataW.trod enc Tryz.prog w 0 spare held m 48 c = some y) (hw : ∀ n ∈ y.1.weights Tryz.prog 48, n ≤ reachBytes) : ∃ (v : Value) (l : List Gr), c = [v] ∧ GrsAt w v l := by
  obtain ⟨v, css, m2, e1, hr, hq⟩ := row_of slG (show Tryz.prog.cellsOf 28 = 6 by kernel_rfl) (by omega) bzG h hw
  obtain ⟨bs, h1, h2, h3⟩ := flat_pick (fun b : Gr × (Value × Value × Value × Value) => grL b.1 b.2.1 b.2.2.1 b.2.2.2.1 b.2.2.2.2) (fun b => GrAt w b.2.1 b.2.2.1 b.2.2.2.1 b.2.2.2.2 b.1) css fun c hm => by
    obtain ⟨hl, y, hy, hwy⟩ := hq c hm
    obtain ⟨G, pv, vv, av, bv, ec, hG⟩ := gr_of hy hl hwy
    exact ⟨(G, pv, vv, av, bv), ec, hG⟩
  rw [h1, h2, grs_flat] at hr
  refine ⟨v, bs.map (·.1), e1, ⟨bs.map (·.2), by simp, by simpa using hr, ?_⟩⟩
  intro i x a hx ha
  rw [List.getElem?_map] at hx ha
  obtain ⟨b, hb, rfl⟩ := Option.map_eq_some_iff.1 hx
  rw [hb] at ha
  cases ha
  exact h3 b (List.mem_of_getElem? hb)
end Go.Proofs.YtabpnjakfoofpaaGreatDoor
/- What the walk through a graph leaves: each block once, closed under edges, each from one ahead. Plain. -/
namespace Go.Proofs.YtabpnjakfoofpaaGreatDoor

structure Wt (ts : List Tm) (a : Nat) (met m : List Bool) (E : List Int) : Prop where
  len : m.length = met.length
  mono : ∀ k, met.getD k true = true → m.getD k true = true
  nat : ∀ x ∈ E, ∃ k : Nat, x = (k : Int) ∧ k < met.length
  mem : ∀ k : Nat, (k : Int) ∈ E ↔ (met.getD k true = false ∧ m.getD k true = true)
  closed : ∀ k : Nat, (k : Int) ∈ E → ∀ y ∈ namedT (ts.getD k default), inB y met.length = true → m.getD y.toNat true = true
  nodup : E.Nodup
  par : ∀ k : Nat, (k : Int) ∈ E → ∃ p : Nat, (p = a ∨ (p : Int) ∈ E) ∧ (k : Int) ∈ namedT (ts.getD p default)
theorem Wt.refl (ts : List Tm) (a : Nat) (met : List Bool) : Wt ts a met met [] :=
  ⟨rfl, fun _ h => h, by simp, fun k => by simp, by simp, by simp, by simp⟩
theorem getD_set {l : List Bool} {i k : Nat} {b : Bool} (hi : i < l.length) : (l.set i b).getD k true = if i = k then b else l.getD k true := by
  simp only [List.getD, List.getElem?_set]
  by_cases h : i = k
  · subst h; simp [hi]
  · simp [h]
theorem lt_of_getD {l : List Bool} {k : Nat} (h : l.getD k true = false) : k < l.length := by
  rcases Nat.lt_or_ge k l.length with h1 | h1
  · exact h1
  · simp [List.getD, List.getElem?_eq_none h1] at h
/-- One more block, and what is left from it. -/
theorem Wt.step {ts : List Tm} {a : Nat} {met m m2 : List Bool} {E D : List Int} {to : Nat} (h : Wt ts a met m E) (hto : m.getD to true = false) (hn : (to : Int) ∈ namedT (ts.getD a default))
    (g : Wt ts to (m.set to true) m2 D) (hc : ∀ y ∈ namedT (ts.getD to default), inB y met.length = true → m2.getD y.toNat true = true) : Wt ts a met m2 (E ++ D ++ [(to : Int)]) := by
  have hl := lt_of_getD hto
  have gs : ∀ k, (m.set to true).getD k true = if to = k then true else m.getD k true := fun k => getD_set hl
  have hm2 : m2.getD to true = true := g.mono to (by rw [gs]; simp)
  have hmm : ∀ k, m.getD k true = true → m2.getD k true = true := fun k hk => g.mono k (by rw [gs]; split <;> simp_all)
  have hmt : met.getD to true = false := by
    cases e : met.getD to true with
    | false => rfl
    | true => rw [h.mono to e] at hto; cases hto
  refine ⟨by rw [g.len]; simpa using h.len, fun k hk => hmm k (h.mono k hk), ?_, ?_, ?_, ?_, ?_⟩
  · intro x hx
    simp only [List.mem_append, List.mem_singleton] at hx
    rcases hx with (hx | hx) | hx
    · exact h.nat x hx
    · obtain ⟨k, rfl, hk⟩ := g.nat x hx
      exact ⟨k, rfl, by simpa [h.len] using hk⟩
    · exact ⟨to, hx, by rw [← h.len]; exact hl⟩
  · intro k
    simp only [List.mem_append, List.mem_singleton, h.mem k, g.mem k, gs, Int.natCast_inj]
    constructor
    · rintro ((⟨h1, h2⟩ | ⟨h1, h2⟩) | rfl)
      · exact ⟨h1, hmm k h2⟩
      · split at h1
        · cases h1
        · refine ⟨?_, h2⟩
          cases e : met.getD k true with
          | false => rfl
          | true => rw [h.mono k e] at h1; cases h1
      · exact ⟨hmt, hm2⟩
    · rintro ⟨h1, h2⟩
      by_cases e : k = to
      · exact .inr e
      · left
        cases e1 : m.getD k true with
        | true => exact .inl ⟨h1, rfl⟩
        | false => exact .inr ⟨by rw [if_neg (fun x => e x.symm)], h2⟩
  · intro k hk y hy hb
    simp only [List.mem_append, List.mem_singleton, Int.natCast_inj] at hk
    rcases hk with (hk | hk) | rfl
    · exact hmm _ (h.closed k hk y hy hb)
    · exact g.closed k hk y hy (by simpa [h.len] using hb)
    · exact hc y hy hb
  · have hE : ∀ x ∈ E, ∃ k : Nat, x = (k : Int) ∧ m.getD k true = true := fun x hx => by
      obtain ⟨k, rfl, _⟩ := h.nat x hx
      exact ⟨k, rfl, ((h.mem k).1 hx).2⟩
    have hD : ∀ x ∈ D, ∃ k : Nat, x = (k : Int) ∧ to ≠ k ∧ m.getD k true = false := fun x hx => by
      obtain ⟨k, rfl, _⟩ := g.nat x hx
      have := ((g.mem k).1 hx).1
      rw [gs] at this
      split at this
      · cases this
      · exact ⟨k, rfl, by assumption, this⟩
    rw [List.nodup_append, List.nodup_append]
    refine ⟨⟨h.nodup, g.nodup, ?_⟩, by simp, ?_⟩
    · rintro x hx y hy rfl
      obtain ⟨k, rfl, hk⟩ := hE x hx
      obtain ⟨j, e, _, hj⟩ := hD _ hy
      obtain rfl : k = j := by omega
      rw [hk] at hj; cases hj
    · rintro x hx y hy rfl
      simp only [List.mem_singleton] at hy
      rcases List.mem_append.1 hx with hx | hx
      · obtain ⟨k, e, hk⟩ := hE x hx
        obtain rfl : k = to := by omega
        rw [hk] at hto; cases hto
      · obtain ⟨k, e, hk, _⟩ := hD x hx
        omega
  · intro k hk
    simp only [List.mem_append, List.mem_singleton, Int.natCast_inj] at hk ⊢
    rcases hk with (hk | hk) | rfl
    · obtain ⟨p, hp, hq⟩ := h.par k hk
      exact ⟨p, hp.imp id fun z => .inl (.inl z), hq⟩
    · obtain ⟨p, hp, hq⟩ := g.par k hk
      rcases hp with rfl | hp
      · exact ⟨p, .inr (.inr rfl), hq⟩
      · exact ⟨p, .inr (.inl (.inr hp)), hq⟩
    · exact ⟨a, .inl rfl, hn⟩
theorem cntF_mono {m m' : List Bool} (hl : m'.length = m.length) (h : ∀ k, m.getD k true = true → m'.getD k true = true) : cntF m' ≤ cntF m := by
  induction m generalizing m' with
  | nil => cases m' <;> simp_all
  | cons b m ih =>
    match m', hl with
    | b' :: m', hl =>
      have h0 := h 0
      have i := ih (m' := m') (by simpa using hl) (fun k hk => by simpa using h (k + 1) (by simpa using hk))
      unfold cntF at i ⊢
      simp only [List.count_cons]
      simp at h0
      cases b <;> cases b' <;> simp_all <;> omega
def DfsOk (ts : List Tm) (f : Nat) : Prop := ∀ (a : Nat) (met : List Bool) (left : List Int), met.length = ts.length → a < ts.length → met.getD a true = true → cntF met ≤ f →
  ∃ D m, dfs ts f a met left = (m, left ++ D ++ [(a : Int)]) ∧ Wt ts a met m D ∧ ∀ y ∈ namedT (ts.getD a default), inB y met.length = true → m.getD y.toNat true = true
theorem fold_ok {ts : List Tm} {f a : Nat} (ih : DfsOk ts f) {met : List Bool} {left : List Int} (hl : met.length = ts.length) (hf : cntF met ≤ f + 1) :
    ∀ (ys : List Int) (m : List Bool) (E : List Int), (∀ y ∈ ys, y ∈ namedT (ts.getD a default)) → Wt ts a met m E →
      ∃ E2 m2, ys.foldl (stepW (dfs ts f)) (m, left ++ E) = (m2, left ++ E2) ∧ Wt ts a met m2 E2 ∧ (∀ k, m.getD k true = true → m2.getD k true = true) ∧ ∀ y ∈ ys, inB y met.length = true → m2.getD y.toNat true = true
  | [], m, E, _, h => ⟨E, m, rfl, h, fun _ hk => hk, by simp⟩
  | y :: ys, m, E, hs, h => by
    rw [List.foldl_cons]
    by_cases hb : inB y m.length && !(m.getD y.toNat true)
    · simp only [stepW, hb, if_true]
      simp only [Bool.and_eq_true, Bool.not_eq_true'] at hb
      obtain ⟨hb1, hb2⟩ := hb
      have hyk : ((y.toNat : Nat) : Int) = y := by rw [inB_iff] at hb1; omega
      have hlt := lt_of_getD hb2
      have hc := cntF_set hb2
      have hcm := cntF_mono h.len h.mono
      obtain ⟨D, m1, he, hw, hn⟩ := ih y.toNat (m.set y.toNat true) (left ++ E) (by simpa [h.len] using hl) (by rw [← hl, ← h.len]; exact hlt) (by rw [getD_set hlt]; simp) (by omega)
      have h2 : Wt ts a met m1 (E ++ D ++ [((y.toNat : Nat) : Int)]) := h.step hb2 (by rw [hyk]; exact hs y (by simp)) hw (fun z hz hzb => hn z hz (by simpa [h.len] using hzb))
      rw [he, show left ++ E ++ D ++ [((y.toNat : Nat) : Int)] = left ++ (E ++ D ++ [((y.toNat : Nat) : Int)]) by simp]
      obtain ⟨E2, m2, e2, w2, mo, al⟩ := fold_ok ih hl hf ys m1 _ (fun z hz => hs z (by simp [hz])) h2
      have hm1 : ∀ k, m.getD k true = true → m1.getD k true = true := fun k hk => hw.mono k (by rw [getD_set hlt]; split <;> simp_all)
      refine ⟨E2, m2, e2, w2, fun k hk => mo k (hm1 k hk), ?_⟩
      intro z hz hzb
      rcases List.mem_cons.1 hz with rfl | hz
      · exact mo _ (hw.mono _ (by rw [getD_set hlt]; simp))
      · exact al z hz hzb
    · have e : stepW (dfs ts f) (m, left ++ E) y = (m, left ++ E) := by unfold stepW; rw [if_neg hb]
      rw [e]
      obtain ⟨E2, m2, e2, w2, mo, al⟩ := fold_ok ih hl hf ys m E (fun z hz => hs z (by simp [hz])) h
      refine ⟨E2, m2, e2, w2, mo, ?_⟩
      intro z hz hzb
      rcases List.mem_cons.1 hz with rfl | hz
      · refine mo _ ?_
        rw [← h.len] at hzb
        rw [hzb] at hb
        simpa using hb
      · exact al z hz hzb
theorem dfs_ok (ts : List Tm) : ∀ f, DfsOk ts f
  | 0 => fun a met left hl ha hm hc => by
    have all : ∀ k, met.getD k true = true := fun k => by
      cases e : met.getD k true with
      | true => rfl
      | false =>
        have := cntF_set e
        omega
    exact ⟨[], met, by simp [dfs], Wt.refl _ _ _, fun y _ _ => all _⟩
  | f + 1 => fun a met left hl ha hm hc => by
    obtain ⟨E, m, e, w, mo, al⟩ := fold_ok (dfs_ok ts f) (left := left) hl hc (namedT (ts.getD a default)) met [] (fun _ h => h) (Wt.refl _ _ _)
    simp only [List.append_nil] at e
    refine ⟨E, m, ?_, w, al⟩
    simp only [dfs, e]
theorem nodup_rev {l : List Int} (h : l.Nodup) : l.reverse.Nodup := by
  unfold List.Nodup at *
  rw [List.pairwise_reverse]
  exact h.imp fun h => h.symm
structure Ordered (ts : List Tm) (O : List Int) : Prop where
  nat : ∀ x ∈ O, ∃ k : Nat, x = (k : Int) ∧ k < ts.length
  zero : 0 < ts.length → (0 : Int) ∈ O
  closed : ∀ k : Nat, (k : Int) ∈ O → ∀ y ∈ namedT (ts.getD k default), inB y ts.length = true → y ∈ O
  par : ∀ k : Nat, (k : Int) ∈ O → k ≠ 0 → ∃ p : Nat, (p : Int) ∈ O ∧ (k : Int) ∈ namedT (ts.getD p default)
  nodup : O.Nodup
theorem order_ok (ts : List Tm) : Ordered ts (orderT ts) := by
  unfold orderT
  by_cases h0 : ts.length = 0
  · rw [if_pos h0]; exact ⟨by simp, fun h => absurd h0 (by omega), by simp, by simp, by simp⟩
  · rw [if_neg h0]
    have h0' : 0 < ts.length := by omega
    obtain ⟨D, m, e, w, al⟩ := dfs_ok ts ts.length 0 ((List.replicate ts.length false).set 0 true) [] (by simp) h0' (by rw [getD_set (by simpa using h0')]; simp) (by
      unfold cntF
      refine Nat.le_trans List.count_le_length ?_
      simp)
    rw [e]
    have hm : ∀ k, ((List.replicate ts.length false).set 0 true).getD k true = decide (k = 0 ∨ ts.length ≤ k) := fun k => by
      rw [getD_set (by simpa using h0')]
      by_cases e : 0 = k
      · subst e; simp
      · rw [if_neg e]
        simp only [List.getD, List.getElem?_replicate]
        by_cases hk : k < ts.length
        · simp [hk]; omega
        · simp [hk]; omega
    have mem : ∀ k : Nat, (k : Int) ∈ D ++ [((0 : Nat) : Int)] ↔ k < ts.length ∧ m.getD k true = true := fun k => by
      simp only [List.mem_append, List.mem_singleton, w.mem k, hm, Int.natCast_inj]
      constructor
      · rintro (⟨h1, h2⟩ | rfl)
        · simp at h1; exact ⟨by omega, h2⟩
        · exact ⟨h0', w.mono 0 (by rw [hm]; simp)⟩
      · rintro ⟨h1, h2⟩
        by_cases e : k = 0
        · exact .inr e
        · exact .inl ⟨by simp; omega, h2⟩
    have hlen : ((List.replicate ts.length false).set 0 true).length = ts.length := by simp
    rw [hlen] at al
    have hnat := w.nat
    have hcl := w.closed
    rw [hlen] at hnat hcl
    simp only [List.nil_append]
    refine ⟨?_, fun _ => by simp, ?_, ?_, ?_⟩
    · intro x hx
      simp only [List.mem_reverse, List.mem_append, List.mem_singleton] at hx
      rcases hx with hx | rfl
      · exact hnat x hx
      · exact ⟨0, rfl, h0'⟩
    · intro k hk y hy hb
      rw [List.mem_reverse] at hk ⊢
      have hy2 : m.getD y.toNat true = true := by
        simp only [List.mem_append, List.mem_singleton, Int.natCast_inj] at hk
        rcases hk with hk | rfl
        · exact hcl k hk y hy hb
        · exact al y hy hb
      rw [inB_iff] at hb
      have := (mem y.toNat).2 ⟨by omega, hy2⟩
      rwa [show ((y.toNat : Nat) : Int) = y by omega] at this
    · intro k hk hk0
      rw [List.mem_reverse, List.mem_append, List.mem_singleton] at hk
      rcases hk with hk | hk
      · obtain ⟨p, hp, hq⟩ := w.par k hk
        refine ⟨p, ?_, hq⟩
        rw [List.mem_reverse, List.mem_append, List.mem_singleton]
        rcases hp with rfl | hp
        · exact .inr rfl
        · exact .inl hp
      · omega
    · refine nodup_rev ?_
      rw [List.nodup_append]
      refine ⟨w.nodup, by simp, ?_⟩
      rintro x hx y hy rfl
      simp only [List.mem_singleton] at hy
      subst hy
      have := ((w.mem 0).1 hx).1
      rw [hm] at this
      simp at this
end Go.Proofs.YtabpnjakfoofpaaGreatDoor
