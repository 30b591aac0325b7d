/- How the walk counts: what is left, and what is not met yet. Plain. -/
import Derived.Test.YtabpnjakfoofpaaGreatDoorGDfsM
import Derived.Test.YtabpnjakfoofpaaGreatDoorGTrPM
namespace Go.Proofs.YtabpnjakfoofpaaGreatDoor

def stepOf (ts : List Tm) : Nat → List Bool × List Int → Int → List Bool × List Int
  | 0 => fun s _ => s
  | f + 1 => stepW (dfs ts f)
theorem foldl_id {α β : Type} (l : List β) (s : α) : l.foldl (fun s _ => s) s = s := by
  induction l generalizing s with
  | nil => rfl
  | cons a l ih => exact ih s
theorem dfs_eq (ts : List Tm) (f a : Nat) (met : List Bool) (left : List Int) : dfs ts f a met left = (((namedT (ts.getD a default)).foldl (stepOf ts f) (met, left)).1, ((namedT (ts.getD a default)).foldl (stepOf ts f) (met, left)).2 ++ [(a : Int)]) := by
  cases f with
  | zero => simp [dfs, stepOf, foldl_id]
  | succ f => simp [dfs, stepOf]
theorem stepOf_in {ts : List Tm} {f : Nat} {m : List Bool} {l : List Int} {to : Nat} (h : m.getD to true = false) : stepOf ts (f + 1) (m, l) (to : Int) = dfs ts f to (m.set to true) l := by
  have hl := lt_of_getD h
  have hb : inB (to : Int) m.length = true := inB_iff.2 ⟨by omega, by omega⟩
  unfold stepOf stepW
  simp [hb]
  intro e
  simp [e] at h
theorem stepOf_out {ts : List Tm} {f : Nat} {m : List Bool} {l : List Int} {to : Int} (h : inB to m.length = false ∨ m.getD to.toNat true = true) : stepOf ts f (m, l) to = (m, l) := by
  cases f with
  | zero => rfl
  | succ f =>
    show stepW (dfs ts f) (m, l) to = (m, l)
    unfold stepW
    rcases h with h | h
    · simp [h]
    · rw [if_neg]
      simp only [h]
      simp
def Cnt (ts : List Tm) (f : Nat) : Prop := ∀ (a : Nat) (met : List Bool) (left : List Int), met.length = ts.length → a < ts.length → met.getD a true = true → cntF met ≤ f →
  (dfs ts f a met left).2.length + cntF (dfs ts f a met left).1 = left.length + cntF met + 1
theorem step_cnt {ts : List Tm} {f : Nat} (ih : ∀ f', f = f' + 1 → Cnt ts f') (s : List Bool × List Int) (to : Int) (hl : s.1.length = ts.length) (hc : cntF s.1 ≤ f) :
    (stepOf ts f s to).1.length = ts.length ∧ cntF (stepOf ts f s to).1 ≤ cntF s.1 ∧ (stepOf ts f s to).2.length + cntF (stepOf ts f s to).1 = s.2.length + cntF s.1 ∧ ∀ k, s.1.getD k true = true → (stepOf ts f s to).1.getD k true = true := by
  obtain ⟨m, l⟩ := s
  by_cases h : inB to m.length = true ∧ m.getD to.toNat true = false
  · obtain ⟨h1, h2⟩ := h
    have e1 : ((to.toNat : Nat) : Int) = to := by rw [inB_iff] at h1; omega
    have hlt := lt_of_getD h2
    have hs := cntF_set h2
    dsimp only at hl hc
    match f, ih with
    | 0, _ => omega
    | f + 1, ih =>
      rw [← e1, stepOf_in h2]
      have a1 : (m.set to.toNat true).length = ts.length := by simpa using hl
      have a2 : to.toNat < ts.length := by omega
      have a3 : (m.set to.toNat true).getD to.toNat true = true := by rw [getD_set hlt]; simp
      have a4 : cntF (m.set to.toNat true) ≤ f := by omega
      have hk := ih f rfl to.toNat (m.set to.toNat true) l a1 a2 a3 a4
      obtain ⟨D, m2, he, hw, _⟩ := dfs_ok ts f to.toNat (m.set to.toNat true) l a1 a2 a3 a4
      have hmono : ∀ k, m.getD k true = true → m2.getD k true = true := fun k hk => hw.mono k (by rw [getD_set hlt]; split <;> simp_all)
      rw [he] at hk ⊢
      dsimp only at hk ⊢
      refine ⟨by rw [hw.len]; exact a1, cntF_mono (by rw [hw.len]; simp) hmono, by omega, hmono⟩
  · have ho : inB to m.length = false ∨ m.getD to.toNat true = true := by
      rcases Decidable.not_and_iff_or_not.1 h with h | h
      · exact .inl (by simpa using h)
      · exact .inr (by simpa using h)
    rw [stepOf_out ho]
    exact ⟨hl, Nat.le_refl _, rfl, fun _ hk => hk⟩
theorem fold_cnt {ts : List Tm} {f : Nat} (ih : ∀ f', f = f' + 1 → Cnt ts f') : ∀ (ys : List Int) (s : List Bool × List Int), s.1.length = ts.length → cntF s.1 ≤ f →
    (ys.foldl (stepOf ts f) s).1.length = ts.length ∧ cntF (ys.foldl (stepOf ts f) s).1 ≤ cntF s.1 ∧ (ys.foldl (stepOf ts f) s).2.length + cntF (ys.foldl (stepOf ts f) s).1 = s.2.length + cntF s.1
  | [], s, hl, _ => ⟨hl, Nat.le_refl _, rfl⟩
  | y :: ys, s, hl, hc => by
    rw [List.foldl_cons]
    obtain ⟨h1, h2, h3, _⟩ := step_cnt ih s y hl hc
    obtain ⟨g1, g2, g3⟩ := fold_cnt ih ys _ h1 (by omega)
    exact ⟨g1, by omega, by omega⟩
theorem cnt_of {ts : List Tm} {f : Nat} (ih : ∀ f', f = f' + 1 → Cnt ts f') : Cnt ts f := by
  intro a met left hl ha hm hc
  rw [dfs_eq]
  obtain ⟨_, _, h3⟩ := fold_cnt ih (namedT (ts.getD a default)) (met, left) hl hc
  dsimp only at h3 ⊢
  rw [List.length_append, List.length_singleton]
  omega
theorem cnt_all (ts : List Tm) : ∀ f, Cnt ts f
  | 0 => cnt_of fun f' he => by omega
  | f + 1 => cnt_of fun f' he => by cases he; exact cnt_all ts f
theorem step_all {ts : List Tm} {f : Nat} (s : List Bool × List Int) (to : Int) (hl : s.1.length = ts.length) (hc : cntF s.1 ≤ f) :
    (stepOf ts f s to).1.length = ts.length ∧ cntF (stepOf ts f s to).1 ≤ cntF s.1 ∧ (stepOf ts f s to).2.length + cntF (stepOf ts f s to).1 = s.2.length + cntF s.1 ∧ ∀ k, s.1.getD k true = true → (stepOf ts f s to).1.getD k true = true :=
  step_cnt (fun f' _ => cnt_all ts f') s to hl hc
end Go.Proofs.YtabpnjakfoofpaaGreatDoor
/- The walk through a trimmed graph: its blocks in their order. Plain. -/
namespace Go.Proofs.YtabpnjakfoofpaaGreatDoor

theorem dfs_fuel (ts : List Tm) : ∀ (f f' : Nat) (a : Nat) (met : List Bool) (left : List Int), met.length = ts.length → cntF met ≤ f → cntF met ≤ f' → dfs ts f a met left = dfs ts f' a met left := by
  intro f
  induction f with
  | zero =>
    intro f' a met left hl h1 h2
    have all : ∀ k, met.getD k true = true := fun k => by
      cases e : met.getD k true with
      | true => rfl
      | false => have := cntF_set e; omega
    have hf : ∀ (g : Nat) (ys : List Int), ys.foldl (stepOf ts g) (met, left) = (met, left) := fun g ys => by
      induction ys with
      | nil => rfl
      | cons y ys ih => rw [List.foldl_cons, stepOf_out (.inr (all _))]; exact ih
    rw [dfs_eq, dfs_eq, hf, hf]
  | succ f ih =>
    intro f' a met left hl h1 h2
    have hf : ∀ (ys : List Int) (s : List Bool × List Int), s.1.length = ts.length → cntF s.1 ≤ f + 1 → cntF s.1 ≤ f' → ys.foldl (stepOf ts (f + 1)) s = ys.foldl (stepOf ts f') s := fun ys => by
      induction ys with
      | nil => intro s _ _ _; rfl
      | cons y ys ih2 =>
        intro s hs c1 c2
        rw [List.foldl_cons, List.foldl_cons]
        have e : stepOf ts (f + 1) s y = stepOf ts f' s y := by
          obtain ⟨m, l⟩ := s
          dsimp only at hs c1 c2
          by_cases h : inB y m.length = true ∧ m.getD y.toNat true = false
          · obtain ⟨q1, q2⟩ := h
            have e1 : ((y.toNat : Nat) : Int) = y := by rw [inB_iff] at q1; omega
            have hc := cntF_set q2
            obtain ⟨g, rfl⟩ : ∃ g, f' = g + 1 := ⟨f' - 1, by omega⟩
            rw [← e1, stepOf_in q2, stepOf_in q2]
            exact ih g _ _ _ (by simpa using hs) (by omega) (by omega)
          · have ho : inB y m.length = false ∨ m.getD y.toNat true = true := by
              rcases Decidable.not_and_iff_or_not.1 h with h | h
              · exact .inl (by simpa using h)
              · exact .inr (by simpa using h)
            rw [stepOf_out ho, stepOf_out ho]
        obtain ⟨p1, p2, _, _⟩ := step_all (ts := ts) s y hs c1
        rw [← e]
        exact ih2 _ p1 (by omega) (by omega)
    rw [dfs_eq, dfs_eq, hf _ (met, left) hl h1 h2]

/-- marks of the old blocks and of the new ones -/
structure MetR (O : List Int) (n : Nat) (met met' : List Bool) : Prop where
  l1 : met.length = n
  l2 : met'.length = O.length
  eq : ∀ j, j < O.length → met'.getD j true = met.getD (O.getD j 0).toNat true
theorem MetR.at {ts : List Tm} {O : List Int} {met met' : List Bool} (r : MetR O ts.length met met') {y : Int} (hy : y ∈ O) : met'.getD (placeOf O y).toNat true = met.getD y.toNat true := by
  obtain ⟨p1, p2, p3⟩ := place_in hy
  rw [p1, Int.toNat_natCast, r.eq _ p2, List.getD_eq_getElem?_getD (l := O), p3]; rfl
theorem MetR.set {ts : List Tm} {O : List Int} (h : Ordered ts O) {met met' : List Bool} (r : MetR O ts.length met met') {y : Int} (hy : y ∈ O) : MetR O ts.length (met.set y.toNat true) (met'.set (placeOf O y).toNat true) := by
  obtain ⟨p1, p2, p3⟩ := place_in hy
  obtain ⟨k, rfl, hk⟩ := h.nat y hy
  refine ⟨by simp [r.l1], by simp [r.l2], fun j hj => ?_⟩
  have hjs : O[j]? = some O[j] := List.getElem?_eq_getElem hj
  have hjd : O.getD j 0 = O[j] := by rw [List.getD_eq_getElem?_getD, hjs]; rfl
  obtain ⟨q, hq, hql⟩ := h.nat O[j] (List.getElem_mem hj)
  rw [getD_set (by rw [r.l2, p1, Int.toNat_natCast]; exact p2), hjd, hq, Int.toNat_natCast, Int.toNat_natCast, getD_set (by rw [r.l1]; exact hk), p1, Int.toNat_natCast]
  by_cases e : k = q
  · subst e
    have h9 := place_at h.nodup hjs
    rw [hq, p1] at h9
    rw [if_pos rfl, if_pos (by omega)]
  · rw [if_neg e, if_neg]
    · rw [r.eq j hj, hjd, hq, Int.toNat_natCast]
    · intro e2
      rw [e2, hjs] at p3
      have := Option.some.inj p3
      omega
theorem dfs_sim {ts : List Tm} {O : List Int} (h : Ordered ts O) {us : List Tm} (hu : ∀ (j : Nat) c, O[j]? = some c → us.getD j default = ledT O ts.length (ts.getD c.toNat default)) :
    ∀ (f a : Nat) (met met' : List Bool) (left : List Int), MetR O ts.length met met' → (a : Int) ∈ O → MetR O ts.length (dfs ts f a met left).1 (dfs us f (placeOf O a).toNat met' (left.map (placeOf O))).1 ∧ (dfs us f (placeOf O a).toNat met' (left.map (placeOf O))).2 = (dfs ts f a met left).2.map (placeOf O) := by
  intro f
  induction f with
  | zero =>
    intro a met met' left r ha
    refine ⟨r, ?_⟩
    have h9 := (place_in ha).1
    simp only [dfs, List.map_append, List.map_cons, List.map_nil]
    rw [h9]; rfl
  | succ f ih =>
    intro a met met' left r ha
    have hf : ∀ (ys : List Int), (∀ y ∈ ys, inB y ts.length = true ↔ y ∈ O) → ∀ (s : List Bool × List Int) (m' : List Bool), MetR O ts.length s.1 m' → MetR O ts.length (ys.foldl (stepOf ts (f + 1)) s).1 ((ys.map fun y => if inB y ts.length = true then placeOf O y else y).foldl (stepOf us (f + 1)) (m', s.2.map (placeOf O))).1 ∧ ((ys.map fun y => if inB y ts.length = true then placeOf O y else y).foldl (stepOf us (f + 1)) (m', s.2.map (placeOf O))).2 = (ys.foldl (stepOf ts (f + 1)) s).2.map (placeOf O) := fun ys => by
      induction ys with
      | nil => intro _ s m' r; exact ⟨r, rfl⟩
      | cons y ys ih2 =>
        intro hy s m' r
        rw [List.foldl_cons, List.map_cons, List.foldl_cons]
        have hyO := hy y (by simp)
        obtain ⟨m, l⟩ := s
        dsimp only at r
        have hstep : MetR O ts.length (stepOf ts (f + 1) (m, l) y).1 (stepOf us (f + 1) (m', l.map (placeOf O)) (if inB y ts.length = true then placeOf O y else y)).1 ∧ (stepOf us (f + 1) (m', l.map (placeOf O)) (if inB y ts.length = true then placeOf O y else y)).2 = (stepOf ts (f + 1) (m, l) y).2.map (placeOf O) := by
          by_cases hin : inB y ts.length = true
          · rw [if_pos hin]
            have hyo := hyO.1 hin
            obtain ⟨k, rfl, hk⟩ := h.nat y hyo
            obtain ⟨p1, p2, p3⟩ := place_in hyo
            have hm := r.at hyo
            rw [Int.toNat_natCast] at hm
            cases e : m.getD k true with
            | true =>
              rw [stepOf_out (.inr (by rw [Int.toNat_natCast]; exact e)), stepOf_out (.inr (by rw [hm, e]))]
              exact ⟨r, rfl⟩
            | false =>
              have hp : placeOf O (k : Int) = ((placeOf O (k : Int)).toNat : Int) := by rw [p1]; simp
              rw [stepOf_in e]
              conv in (occs := 1) stepOf us (f + 1) _ _ => rw [hp]
              rw [stepOf_in (by rw [hm, e])]
              conv in (occs := 1) stepOf us (f + 1) _ _ => rw [hp]
              rw [stepOf_in (by rw [hm, e])]
              have := r.set h hyo
              rw [Int.toNat_natCast] at this
              exact ih k _ _ l this hyo
          · rw [if_neg hin, stepOf_out (.inl (by rw [r.l1]; simpa using hin)), stepOf_out (.inl (by
              rw [r.l2]
              have := order_len h
              have h9 : ¬ (0 ≤ y ∧ y < (ts.length : Int)) := fun hc => hin (inB_iff.2 hc)
              have : ¬ inB y O.length = true := fun hc => h9 (by have := inB_iff.1 hc; omega)
              simpa using this))]
            exact ⟨r, rfl⟩
        obtain ⟨s1, s2⟩ := hstep
        have := ih2 (fun z hz => hy z (by simp [hz])) (stepOf ts (f + 1) (m, l) y) _ s1
        rw [← s2] at this
        exact this
    obtain ⟨p1, p2, p3⟩ := place_in ha
    have hu9 := hu (placeOf O a).toNat a (by rw [p1, Int.toNat_natCast]; exact p3)
    have hn : namedT (us.getD (placeOf O a).toNat default) = (namedT (ts.getD a default)).map fun y => if inB y ts.length = true then placeOf O y else y := by
      rw [hu9, named_led, Int.toNat_natCast]
    obtain ⟨g1, g2⟩ := hf (namedT (ts.getD a default)) (fun y hy => named_closed h ha hy) (met, left) met' r
    rw [dfs_eq, dfs_eq, hn]
    refine ⟨g1, ?_⟩
    dsimp only at g2 ⊢
    rw [g2, List.map_append, List.map_cons, List.map_nil]
    congr 2
    rw [p1]; simp
theorem order_head {ts : List Tm} (h0 : 0 < ts.length) : ∃ r, orderT ts = 0 :: r := by
  unfold orderT
  rw [if_neg (by omega)]
  have : ∃ m l, dfs ts ts.length 0 ((List.replicate ts.length false).set 0 true) [] = (m, l ++ [((0 : Nat) : Int)]) := by
    rw [dfs_eq]; exact ⟨_, _, rfl⟩
  obtain ⟨m, l, e⟩ := this
  rw [e]
  simp
/-- the walk through what was trimmed tells its blocks one after another -/
theorem order_trim {ts us : List Tm} (hl : us.length = (orderT ts).length) (hu : ∀ (j : Nat) c, (orderT ts)[j]? = some c → us.getD j default = ledT (orderT ts) ts.length (ts.getD c.toNat default)) : orderT us = (List.range us.length).map fun i => ((i : Nat) : Int) := by
  by_cases h0 : ts.length = 0
  · have : orderT ts = [] := by unfold orderT; rw [if_pos h0]
    rw [this] at hl
    have hz : us.length = 0 := by simpa using hl
    unfold orderT
    rw [if_pos hz, hz]; rfl
  · have h0' : 0 < ts.length := by omega
    have ho := order_ok ts
    obtain ⟨r, hr⟩ := order_head h0'
    have hz : (0 : Int) ∈ orderT ts := ho.zero h0'
    have hk : us.length ≠ 0 := by rw [hl, hr]; simp
    have hp0 : placeOf (orderT ts) 0 = 0 := place_at ho.nodup (i := 0) (by rw [hr]; rfl)
    have hm : MetR (orderT ts) ts.length ((List.replicate ts.length false).set 0 true) ((List.replicate us.length false).set 0 true) := by
      have hb : MetR (orderT ts) ts.length (List.replicate ts.length false) (List.replicate us.length false) := by
        refine ⟨by simp, by simp [hl], fun j hj => ?_⟩
        have hjs : (orderT ts)[j]? = some (orderT ts)[j] := List.getElem?_eq_getElem hj
        obtain ⟨q, hq, hql⟩ := ho.nat _ (List.getElem_mem hj)
        have hjd : (orderT ts).getD j 0 = (q : Int) := by rw [List.getD_eq_getElem?_getD, hjs, hq]; rfl
        rw [hjd, Int.toNat_natCast, List.getD_eq_getElem?_getD, List.getD_eq_getElem?_getD, List.getElem?_replicate, List.getElem?_replicate, if_pos (by omega), if_pos hql]
      have := hb.set ho hz
      rw [hp0] at this
      exact this
    have h9 := (dfs_sim ho hu ts.length 0 _ _ [] hm hz).2
    have hc : ∀ n, cntF ((List.replicate n false).set 0 true) ≤ n := fun n => by unfold cntF; refine Nat.le_trans List.count_le_length ?_; simp
    have e1 : dfs us us.length 0 ((List.replicate us.length false).set 0 true) [] = dfs us ts.length 0 ((List.replicate us.length false).set 0 true) [] := dfs_fuel us _ _ _ _ _ (by simp) (hc _) (by have := hc us.length; have := order_len ho; omega)
    have e2 : orderT us = (orderT ts).map (placeOf (orderT ts)) := by
      conv => lhs; unfold orderT
      rw [if_neg hk, e1]
      have hp0' : (placeOf (orderT ts) ((0 : Nat) : Int)).toNat = 0 := by rw [show ((0 : Nat) : Int) = 0 from rfl, hp0]; rfl
      rw [hp0', List.map_nil] at h9
      rw [h9, ← List.map_reverse]
      congr 1
      conv => rhs; unfold orderT
      rw [if_neg (by omega)]
    rw [e2, hl]
    apply List.ext_getElem
    · simp
    · intro i h1 h2
      have hil : i < (orderT ts).length := by simpa using h1
      rw [List.getElem_map, List.getElem_map, List.getElem_range]
      exact place_at ho.nodup (List.getElem?_eq_getElem hil)
end Go.Proofs.YtabpnjakfoofpaaGreatDoor
