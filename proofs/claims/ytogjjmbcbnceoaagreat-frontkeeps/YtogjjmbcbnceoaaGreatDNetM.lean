/- The chapter's net (11); what is fixed of it. -/
import Derived.Test.YtogjjmbcbnceoaaGreatDJn
import Derived.Test.YtogjjmbcbnceoaaGreatDSameN
import Derived.Laws.Rows
namespace Go.Proofs.YtogjjmbcbnceoaaGreat
open Go.RowKit

def allocs (w : World) (os : List Obj) : World := os.foldl World.alloc w
theorem allocs_below : ∀ (os : List Obj) (w : World), Below w.heap.size w (allocs w os)
  | [], _ => Below.refl _ _
  | o :: os, w => below_trans (below_alloc (Below.refl _ _) o) (allocs_below os (w.alloc o))
theorem allocs_get : ∀ (os : List Obj) (w : World) (k : Nat) (o : Obj), os[k]? = some o → (allocs w os).heap[w.heap.size + k]? = some o
  | o' :: os, w, 0, o, h => by
    cases h
    have h1 := (allocs_below os (w.alloc o')).block w.heap.size (by simp)
    exact h1.trans (heap_alloc_new w o')
  | o' :: os, w, k + 1, o, h => by
    have h1 := allocs_get os (w.alloc o') k o (by simpa using h)
    rw [show (w.alloc o').heap.size = w.heap.size + 1 by simp, show w.heap.size + 1 + k = w.heap.size + (k + 1) by omega] at h1
    exact h1
theorem row_lit {W : World} {g : Nat} {cs : List Value} {t : TypeId} (n : Nat) (h : W.heap[g]? = some (.cells cs.toArray t)) (hn : n ≤ 1000) : RowAt W (.slice (some ⟨g, 0, none⟩) n n) n cs := by
  refine ⟨_, _, rfl, ⟨Nat.le_refl _, by omega⟩, .inr ⟨g, 0, rfl, (Array.getElem?_eq_some_iff.1 h).1, fun j u hj => ?_⟩⟩
  simp only [World.cell?, h]
  simpa using hj
theorem row_nil (W : World) (cs : List Value) : RowAt W (.slice none 0 0) 0 cs := ⟨_, _, rfl, ⟨Nat.le_refl _, by omega⟩, .inl rfl⟩
abbrev sl (g n : Nat) : Value := .slice (some ⟨g, 0, none⟩) n n
theorem ints_lit (W : World) (l : List Int) (h : l.length ≤ 1000) : IntsAt (W.alloc (.cells (l.map intV).toArray 3)) (.slice (some ⟨W.heap.size, 0, none⟩) l.length l.length) l :=
  row_lit (t := 3) l.length (heap_alloc_new W _) h
def netM : List (List Int) := [[1, 2], [3], [3], [1, 4], [], [3]]
theorem netM_may : May netM := by unfold May netM; decide
theorem netM_edge {i j : Nat} (h : (j : Int) ∈ netM.getD i []) : (i = 0 ∧ (j = 1 ∨ j = 2)) ∨ (i = 1 ∧ j = 3) ∨ (i = 2 ∧ j = 3) ∨ (i = 3 ∧ (j = 1 ∨ j = 4)) ∨ (i = 5 ∧ j = 3) := by
  rcases i with _ | _ | _ | _ | _ | _ | i <;> simp [netM] at h <;> omega
theorem netM_r1 (S : Nat → Prop) (h : ¬ S 0) : Rch netM S 1 := .step .entry h (by decide)
theorem netM_r2 (S : Nat → Prop) (h : ¬ S 0) : Rch netM S 2 := .step .entry h (by decide)
theorem netM_r3 (S : Nat → Prop) (h : ¬ S 0) (h2 : ¬ S 1 ∨ ¬ S 2) : Rch netM S 3 := by
  rcases h2 with h2 | h2
  · exact .step (netM_r1 S h) h2 (by decide)
  · exact .step (netM_r2 S h) h2 (by decide)
theorem netM_r4 : Rch netM noneS 4 := .step (netM_r3 _ (fun h => h) (.inl fun h => h)) (fun h => h) (by decide)
theorem netM_r5 : ¬ Rch netM noneS 5 := by
  intro h
  cases h with
  | @step i _ _ _ he => have := netM_edge he; omega
theorem netM_near {b : Nat} (hb : b ≠ 0) (hr : ∀ c, c ≠ 0 → c ≠ b → Rch netM (· = c) b) (h0 : Rch netM noneS b) : Near netM b 0 := by
  refine .inl ⟨0, rfl, fun e => hb e.symm, .entry h0, fun c hc ho => ?_⟩
  by_cases e : c = 0
  · subst e; exact .refl .entry
  · exact absurd (hr c e hc) (ho.2.2.resolve_left hc)
theorem net_12 (c : Nat) : ¬ (1 = c) ∨ ¬ (2 = c) := by omega
theorem netM_34 : Near netM 4 3 := by
  have h3 : Rch netM noneS 3 := netM_r3 _ (fun h => h) (.inl fun h => h)
  refine .inl ⟨3, rfl, by omega, ⟨h3, netM_r4, .inr fun h => ?_⟩, fun c hc ho => ho.ahead hc h3 (by decide)⟩
  cases h with
  | @step i _ _ hs he => have := netM_edge he; omega
theorem netM_tree : treeL netM = [-1, 0, 0, 0, 3, -1] := by
  refine (treeL_uniq netM_may rfl fun b hb => ?_).symm
  have hb6 : b < 6 := hb
  match b, hb6 with
  | 0, _ => exact near_entry _
  | 1, _ => exact netM_near (by omega) (fun c h1 _ => netM_r1 _ (fun e => h1 e.symm)) (netM_r1 _ (fun h => h))
  | 2, _ => exact netM_near (by omega) (fun c h1 _ => netM_r2 _ (fun e => h1 e.symm)) (netM_r2 _ (fun h => h))
  | 3, _ => exact netM_near (by omega) (fun c h1 _ => netM_r3 _ (fun e => h1 e.symm) (net_12 c)) (netM_r3 _ (fun h => h) (.inl fun h => h))
  | 4, _ => exact netM_34
  | 5, _ => exact near_none netM_r5
theorem netM_rch (b : Nat) : Rch netM noneS b ↔ b < 5 := by
  constructor
  · intro h
    have := h.lt netM_may
    have h6 : b < 6 := this
    have : b ≠ 5 := fun e => netM_r5 (e ▸ h)
    omega
  · intro h
    match b, h with
    | 0, _ => exact .entry
    | 1, _ => exact netM_r1 _ (fun h => h)
    | 2, _ => exact netM_r2 _ (fun h => h)
    | 3, _ => exact netM_r3 _ (fun h => h) (.inl fun h => h)
    | 4, _ => exact netM_r4
def ovC (a b : Nat) : Bool := decide (b < 5) && overL [-1, 0, 0, 0, 3, -1] (a : Int) (b : Int)
theorem netM_ov {a b : Nat} (ha : a < 6) : Ov netM a b ↔ ovC a b = true := by
  unfold ovC
  by_cases hb : b < 5
  · have := overL_is netM_may (a := a) (b := b) ha ((netM_rch b).2 hb)
    rw [netM_tree] at this
    rw [this, decide_eq_true hb, Bool.true_and]
    exact dec_iff.symm
  · rw [decide_eq_false hb, Bool.false_and]
    exact ⟨fun ho => absurd ((netM_rch b).1 ho.2.1) hb, fun h => by cases h⟩
def frC (a b : Nat) : Bool := ((List.range 6).any fun c => ovC a c && decide ((b : Int) ∈ netM.getD c [])) && !(decide (a ≠ b) && ovC a b)
theorem netM_fr {a b : Nat} (ha : a < 6) : Fr netM a b ↔ frC a b = true := by
  unfold Fr frC
  rw [Bool.and_eq_true, List.any_eq_true]
  refine and_congr ⟨fun ⟨c, h1, h2⟩ => ⟨c, List.mem_range.2 (h1.2.1.lt netM_may), ?_⟩, fun ⟨c, _, h2⟩ => ?_⟩ ?_
  · rw [(netM_ov ha).1 h1, decide_eq_true h2]; rfl
  · rw [Bool.and_eq_true] at h2
    exact ⟨c, (netM_ov ha).2 h2.1, of_decide_eq_true h2.2⟩
  · by_cases h : a ≠ b ∧ Ov netM a b
    · rw [decide_eq_true h.1, (netM_ov ha).1 h.2]
      exact ⟨fun hh => absurd h hh, fun hh => by cases hh⟩
    · refine ⟨fun _ => ?_, fun _ => h⟩
      rcases hx : ovC a b with _ | _
      · simp
      · have : ¬ (a ≠ b) := fun hab => h ⟨hab, (netM_ov ha).2 hx⟩
        rw [decide_eq_false this]; rfl
theorem nodesL_comp {n : Nat} {p : Nat → Prop} {f : Nat → Bool} (h : ∀ b, b < n → (p b ↔ f b = true)) : nodesL n p = ((List.range n).filter f).map fun b : Nat => (b : Int) := by
  unfold nodesL
  congr 1
  refine List.filter_congr fun b hb => ?_
  have := h b (List.mem_range.1 hb)
  rcases hx : f b with _ | _
  · exact dec_false fun hp => by rw [this.1 hp] at hx; cases hx
  · exact dec_true (this.2 hx)
theorem netM_front {a : Nat} (ha : a < 6) : frontL netM a = ((List.range 6).filter (frC a)).map fun b : Nat => (b : Int) := nodesL_comp fun _ _ => netM_fr ha
theorem netM_fronts : frontsL netM = [[], [3], [3], [1], [], []] := by
  have e : frontsL netM = (List.range 6).map fun a => ((List.range 6).filter (frC a)).map fun b : Nat => (b : Int) := by
    unfold frontsL
    refine List.map_congr_left fun a ha => netM_front (List.mem_range.1 ha)
  rw [e]
  decide
theorem netM_joins : joinL netM (fun a => (a : Int) ∈ [(2 : Int)]) = [1, 3] := by
  have f : ∀ a b, a < 6 → (Fr netM a b ↔ frC a b = true) := fun a b ha => netM_fr ha
  have j3 : Jn netM (fun a => (a : Int) ∈ [(2 : Int)]) 3 := .base (a := 2) (by simp) ((f 2 3 (by omega)).2 (by decide))
  have j1 : Jn netM (fun a => (a : Int) ∈ [(2 : Int)]) 1 := .step (a := 3) j3 ((f 3 1 (by omega)).2 (by decide))
  have cl : ∀ b, Jn netM (fun a => (a : Int) ∈ [(2 : Int)]) b → b = 1 ∨ b = 3 := fun b hb => hb.least (Q := fun b => b = 1 ∨ b = 3) fun a b hab hf => by
    have ha : a = 2 ∨ a = 1 ∨ a = 3 := by
      rcases hab with h | h
      · simp at h; omega
      · omega
    have hb6 : b < 6 := (hf.lt netM_may).2
    have hf' := (f a b (by omega)).1 hf
    have key : ∀ a' b' : Fin 6, (a'.1 = 2 ∨ a'.1 = 1 ∨ a'.1 = 3) → frC a'.1 b'.1 = true → b'.1 = 1 ∨ b'.1 = 3 := by decide
    exact key ⟨a, by omega⟩ ⟨b, hb6⟩ ha hf'
  have : joinL netM (fun a => (a : Int) ∈ [(2 : Int)]) = ((List.range 6).filter fun b => b == 1 || b == 3).map fun b : Nat => (b : Int) := nodesL_comp fun b _ => by
    refine ⟨fun h => ?_, fun h => ?_⟩
    · rcases cl b h with e | e <;> simp [e]
    · simp at h
      rcases h with e | e
      · rw [e]; exact j1
      · rw [e]; exact j3
  rw [this]
  decide
def netMObjs (N : Nat) : List Obj := [.cells #[intV 1, intV 2] 3, .cells #[intV 3] 3, .cells #[intV 3] 3, .cells #[intV 1, intV 4] 3, .cells #[intV 3] 3, .cells #[sl N 2, sl (N + 1) 1, sl (N + 2) 1, sl (N + 3) 2, .slice none 0 0, sl (N + 4) 1] 23]
theorem netM_at (w : World) : NetAt (allocs w (netMObjs w.heap.size)) (sl (w.heap.size + 5) 6) netM := by
  have g := fun k o (h : (netMObjs w.heap.size)[k]? = some o) => allocs_get (netMObjs w.heap.size) w k o h
  refine ⟨[sl w.heap.size 2, sl (w.heap.size + 1) 1, sl (w.heap.size + 2) 1, sl (w.heap.size + 3) 2, .slice none 0 0, sl (w.heap.size + 4) 1], rfl, row_lit (t := 23) 6 (g 5 _ rfl) (by omega), fun i r kv hr hk => ?_⟩
  rcases i with _ | _ | _ | _ | _ | _ | i
  · cases hr; cases hk; exact row_lit (t := 3) 2 (g 0 _ rfl) (by omega)
  · cases hr; cases hk; exact row_lit (t := 3) 1 (g 1 _ rfl) (by omega)
  · cases hr; cases hk; exact row_lit (t := 3) 1 (g 2 _ rfl) (by omega)
  · cases hr; cases hk; exact row_lit (t := 3) 2 (g 3 _ rfl) (by omega)
  · cases hr; cases hk; exact row_nil _ _
  · cases hr; cases hk; exact row_lit (t := 3) 1 (g 4 _ rfl) (by omega)
  · simp [netM] at hr
set_option maxRecDepth 100000 in
theorem netM_any (w : World) : Calls Tryz.prog 39 #[] w fun e w' => ∃ v, e = .returned v ∧ NetAt w' v netM ∧ Below w.heap.size w w' := by
  have HN : Hid _ := netM_at w
  have HB : Hid _ := allocs_below (netMObjs w.heap.size) w
  go_enter Tryz.func39, Tryz.ntmps39
  go_wp2
  go_ret
  exact ⟨_, rfl, HN.out, HB.out⟩
end Go.Proofs.YtogjjmbcbnceoaaGreat
