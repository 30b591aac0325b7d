/- How the walk counts: what is left, and what is not met yet. Plain. -/
import Derived.Test.YtkgjcjakadofpaaDoorGDfs
namespace Go.Proofs.YtkgjcjakadofpaaDoor

def stepOf (ts : List Tm) : Nat → List Bool × List Int → Int → List Bool × List Int
  | 0 => fun s _ => s
  | f + 1 => stepW (dfs ts f)
theorem foldl_id {α β : Type} (l : List β) (s : α) : l.foldl (fun s _ => s) s = s := by
  induction l generalizing s with
  | nil => rfl
  | cons a l ih => exact ih s
theorem dfs_eq (ts : List Tm) (f a : Nat) (met : List Bool) (left : List Int) : dfs ts f a met left = (((namedT (ts.getD a default)).foldl (stepOf ts f) (met, left)).1, ((namedT (ts.getD a default)).foldl (stepOf ts f) (met, left)).2 ++ [(a : Int)]) := by
  cases f with
  | zero => simp [dfs, stepOf, foldl_id]
  | succ f => simp [dfs, stepOf]
theorem stepOf_in {ts : List Tm} {f : Nat} {m : List Bool} {l : List Int} {to : Nat} (h : m.getD to true = false) : stepOf ts (f + 1) (m, l) (to : Int) = dfs ts f to (m.set to true) l := by
  have hl := lt_of_getD h
  have hb : inB (to : Int) m.length = true := inB_iff.2 ⟨by omega, by omega⟩
  unfold stepOf stepW
  simp [hb]
  intro e
  simp [e] at h
theorem stepOf_out {ts : List Tm} {f : Nat} {m : List Bool} {l : List Int} {to : Int} (h : inB to m.length = false ∨ m.getD to.toNat true = true) : stepOf ts f (m, l) to = (m, l) := by
  cases f with
  | zero => rfl
  | succ f =>
    show stepW (dfs ts f) (m, l) to = (m, l)
    unfold stepW
    rcases h with h | h
    · simp [h]
    · rw [if_neg]
      simp only [h]
      simp
def Cnt (ts : List Tm) (f : Nat) : Prop := ∀ (a : Nat) (met : List Bool) (left : List Int), met.length = ts.length → a < ts.length → met.getD a true = true → cntF met ≤ f →
  (dfs ts f a met left).2.length + cntF (dfs ts f a met left).1 = left.length + cntF met + 1
theorem step_cnt {ts : List Tm} {f : Nat} (ih : ∀ f', f = f' + 1 → Cnt ts f') (s : List Bool × List Int) (to : Int) (hl : s.1.length = ts.length) (hc : cntF s.1 ≤ f) :
    (stepOf ts f s to).1.length = ts.length ∧ cntF (stepOf ts f s to).1 ≤ cntF s.1 ∧ (stepOf ts f s to).2.length + cntF (stepOf ts f s to).1 = s.2.length + cntF s.1 ∧ ∀ k, s.1.getD k true = true → (stepOf ts f s to).1.getD k true = true := by
  obtain ⟨m, l⟩ := s
  by_cases h : inB to m.length = true ∧ m.getD to.toNat true = false
  · obtain ⟨h1, h2⟩ := h
    have e1 : ((to.toNat : Nat) : Int) = to := by rw [inB_iff] at h1; omega
    have hlt := lt_of_getD h2
    have hs := cntF_set h2
    dsimp only at hl hc
    match f, ih with
    | 0, _ => omega
    | f + 1, ih =>
      rw [← e1, stepOf_in h2]
      have a1 : (m.set to.toNat true).length = ts.length := by simpa using hl
      have a2 : to.toNat < ts.length := by omega
      have a3 : (m.set to.toNat true).getD to.toNat true = true := by rw [getD_set hlt]; simp
      have a4 : cntF (m.set to.toNat true) ≤ f := by omega
      have hk := ih f rfl to.toNat (m.set to.toNat true) l a1 a2 a3 a4
      obtain ⟨D, m2, he, hw, _⟩ := dfs_ok ts f to.toNat (m.set to.toNat true) l a1 a2 a3 a4
      have hmono : ∀ k, m.getD k true = true → m2.getD k true = true := fun k hk => hw.mono k (by rw [getD_set hlt]; split <;> simp_all)
      rw [he] at hk ⊢
      dsimp only at hk ⊢
      refine ⟨by rw [hw.len]; exact a1, cntF_mono (by rw [hw.len]; simp) hmono, by omega, hmono⟩
  · have ho : inB to m.length = false ∨ m.getD to.toNat true = true := by
      rcases Decidable.not_and_iff_or_not.1 h with h | h
      · exact .inl (by simpa using h)
      · exact .inr (by simpa using h)
    rw [stepOf_out ho]
    exact ⟨hl, Nat.le_refl _, rfl, fun _ hk => hk⟩
theorem fold_cnt {ts : List Tm} {f : Nat} (ih : ∀ f', f = f' + 1 → Cnt ts f') : ∀ (ys : List Int) (s : List Bool × List Int), s.1.length = ts.length → cntF s.1 ≤ f →
    (ys.foldl (stepOf ts f) s).1.length = ts.length ∧ cntF (ys.foldl (stepOf ts f) s).1 ≤ cntF s.1 ∧ (ys.foldl (stepOf ts f) s).2.length + cntF (ys.foldl (stepOf ts f) s).1 = s.2.length + cntF s.1
  | [], s, hl, _ => ⟨hl, Nat.le_refl _, rfl⟩
  | y :: ys, s, hl, hc => by
    rw [List.foldl_cons]
    obtain ⟨h1, h2, h3, _⟩ := step_cnt ih s y hl hc
    obtain ⟨g1, g2, g3⟩ := fold_cnt ih ys _ h1 (by omega)
    exact ⟨g1, by omega, by omega⟩
theorem cnt_of {ts : List Tm} {f : Nat} (ih : ∀ f', f = f' + 1 → Cnt ts f') : Cnt ts f := by
  intro a met left hl ha hm hc
  rw [dfs_eq]
  obtain ⟨_, _, h3⟩ := fold_cnt ih (namedT (ts.getD a default)) (met, left) hl hc
  dsimp only at h3 ⊢
  rw [List.length_append, List.length_singleton]
  omega
theorem cnt_all (ts : List Tm) : ∀ f, Cnt ts f
  | 0 => cnt_of fun f' he => by omega
  | f + 1 => cnt_of fun f' he => by cases he; exact cnt_all ts f
theorem step_all {ts : List Tm} {f : Nat} (s : List Bool × List Int) (to : Int) (hl : s.1.length = ts.length) (hc : cntF s.1 ≤ f) :
    (stepOf ts f s to).1.length = ts.length ∧ cntF (stepOf ts f s to).1 ≤ cntF s.1 ∧ (stepOf ts f s to).2.length + cntF (stepOf ts f s to).1 = s.2.length + cntF s.1 ∧ ∀ k, s.1.getD k true = true → (stepOf ts f s to).1.getD k true = true :=
  step_cnt (fun f' _ => cnt_all ts f') s to hl hc
end Go.Proofs.YtkgjcjakadofpaaDoor
