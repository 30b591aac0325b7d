/- A region that draws its order: one condition on the world behind every operation but the late ones, which wait for all that is taken first. -/
import Derived.Test.YtabpnjakfoofpaaGreatDoorLOrd
import Derived.Deep.RegionHeld3
import Derived.Test.YtabpnjakfoofpaaGreatDoorGTrPM
import Derived.Test.YtabpnjakfoofpaaGreatDoorGTr3
namespace Go.Proofs.YtabpnjakfoofpaaGreatDoor
open Go.RowKit

def wpAnyL (P : Program) (ops : Array Oper) (Q : Exit → Act → World → Prop) (S : World → Prop) (late : Nat → Bool) : Nat → Array Bool → Act → World → Prop
  | 0, l, a, w => Region.ready .any ops l = [] ∧ Q .normal a w
  | n + 1, l, a, w => (Region.ready .any ops l = [] → Q .normal a w) ∧ ∀ i ∈ Region.ready .any ops l, wpOp P ops Q i (fun a' w' => (late i = false → S w') ∧ wpAnyL P ops Q S late n (l.setIfInBounds i true) a' w') a w
theorem wpAny_of_late {P : Program} {ops : Array Oper} {Q : Exit → Act → World → Prop} {S : World → Prop} {late : Nat → Bool} : ∀ (n : Nat) (l : Array Bool) (a : Act) (w : World), wpAnyL P ops Q S late n l a w → wpAny P .any ops Q n l a w
  | 0, _, _, _, h => h
  | n + 1, _, _, _, h => ⟨h.1, fun i hi => wpOp_mono (fun a' w' h' => wpAny_of_late n _ a' w' h'.2) (h.2 i hi)⟩
/-- Each late one waits for i. -/
def lateB (ops : Array Oper) (late : Nat → Bool) (i : Nat) : Bool := (List.range ops.size).all fun j => !late j || depB .any ops j i
theorem lateB_spec {ops : Array Oper} {late : Nat → Bool} {i : Nat} (h : lateB ops late i = true) {j : Nat} {oj : Oper} (hj : ops[j]? = some oj) (hl : late j = true) : ∃ e ∈ oj.after, Region.binds .any e = true ∧ e.on = i := by
  unfold lateB at h
  rw [List.all_eq_true] at h
  have h1 := h j (by simpa using (Array.getElem?_eq_some_iff.1 hj).1)
  rw [hl] at h1
  obtain ⟨o, ho, e, he⟩ := depB_spec (by simpa using h1)
  rw [hj] at ho
  cases ho
  exact ⟨e, he⟩
theorem wpAnyL_first {P : Program} {ops : Array Oper} {Q : Exit → Act → World → Prop} {S : World → Prop} {late : Nat → Bool} {i : Nat} {oi : Oper} {v : Value} (hi : ops[i]? = some oi) (hs : Region.noSelect ops = true) (hQ : ∀ c a w, Q (.panic c) (a.put oi.dst v) w → Q (.panic c) a w) (hl : lateB ops late i = true) :
    ∀ (n : Nat) (l : Array Bool) (a : Act) (w : World), (∀ j oj, ops[j]? = some oj → j ≠ i → l.getD j true = false → (∀ e ∈ oj.after, Region.binds .any e = true → e.on ≠ i) → oi.apart ops oj = true) →
      i ∈ Region.ready .any ops l → YieldsIf P ops S oi v a → S w → wpAnyL P ops Q S late n (l.setIfInBounds i true) (a.put oi.dst v) w → wpAnyL P ops Q S late (n + 1) l a w := by
  intro n
  induction n with
  | zero =>
    intro l a w _ hr hy hS H
    refine ⟨fun h => (by rw [h] at hr; cases hr), fun j hj => ?_⟩
    by_cases hji : j = i
    · subst hji; exact hy.wpOp hi hS ⟨fun _ => hS, H⟩
    · have := ready_mono hj hji
      rw [H.1] at this
      cases this
  | succ n ih =>
    intro l a w hfree hr hy hS H
    refine ⟨fun h => (by rw [h] at hr; cases hr), fun j hj => ?_⟩
    by_cases hji : j = i
    · subst hji; exact hy.wpOp hi hS ⟨fun _ => hS, H⟩
    · obtain ⟨hun, oj, hoj, hall⟩ := mem_ready.1 hj
      have hi0 := getD_f.1 (mem_ready.1 hr).1
      have hnot : ∀ e ∈ oj.after, Region.binds .any e = true → e.on ≠ i := fun e he hb heq => by
        have h1 := getD_t.1 (hall e he hb)
        rw [heq, hi0] at h1
        cases h1
      have hnl : late j = false := by
        cases hlj : late j with
        | false => rfl
        | true =>
          obtain ⟨e, he, hb, hon⟩ := lateB_spec hl hoj hlj
          exact absurd hon (hnot e he hb)
      have h2 := wpOp_putIf hoj (hfree j oj hoj hji hun hnot) (fun cs b => Region.noSelect_spec hs i oi cs b hi) (fun cs b => Region.noSelect_spec hs j oj cs b hoj) hQ hy (H.2 j (ready_mono hj hji))
      refine wpOp_mono (fun a' w' h3 => ⟨h3.2.1, ih (l.setIfInBounds j true) a' w' (fun k ok hk hki hu hno => hfree k ok hk hki ?_ hno) (ready_mono hr (Ne.symm hji)) h3.1 (h3.2.1 hnl) ?_⟩) h2
      · by_cases hjk : j = k
        · subst hjk; exact hun
        · rw [getD_set_ne true hjk] at hu; exact hu
      · rw [Array.setIfInBounds_comm _ _ hji]
        exact h3.2.2
theorem wpAnyL_take {P : Program} {ops : Array Oper} {Q : Exit → Act → World → Prop} {S : World → Prop} {late : Nat → Bool} {n : Nat} {l : Array Bool} {a : Act} {w : World} (i : Nat) {oi : Oper} {v : Value} (hi : ops[i]? = some oi) (hs : Region.noSelect ops = true) (hf : Region.free .any ops l i = true) (hr : (Region.ready .any ops l).contains i = true) (hl : lateB ops late i = true)
    (hQ : ∀ c a w, Q (.panic c) (a.put oi.dst v) w → Q (.panic c) a w) (hS : S w) (hy : YieldsIf P ops S oi v a) (h : wpAnyL P ops Q S late n (l.setIfInBounds i true) (a.put oi.dst v) w) : wpAnyL P ops Q S late (n + 1) l a w :=
  wpAnyL_first hi hs hQ hl n l a w (Region.free_spec hi hf) (by simpa using hr) hy hS h
/-- One alone may come up. -/
theorem wpAnyL_one {P : Program} {ops : Array Oper} {Q : Exit → Act → World → Prop} {S : World → Prop} {late : Nat → Bool} {n : Nat} {l : Array Bool} {a : Act} {w : World} (i : Nat) {o : Oper} (hr : Region.ready .any ops l = [i]) (ho : ops[i]? = some o)
    (h : ∀ K : Act → World → Prop, (∀ a w, (late i = false → S w) → wpAnyL P ops Q S late n (l.setIfInBounds i true) a w → K a w) → if Region.wanted o (yielded ops a.tmps) = true then Oper.wp P o a w K Q else K (a.put o.dst undef) w) : wpAnyL P ops Q S late (n + 1) l a w := by
  refine ⟨fun h0 => (by rw [hr] at h0; cases h0), fun j hj => ?_⟩
  rw [hr] at hj
  simp at hj
  subst hj
  exact wpOp_step ho (fun K hK => h K fun a w h1 h2 => hK a w ⟨h1, h2⟩)
theorem wpAnyL_done {P : Program} {ops : Array Oper} {Q : Exit → Act → World → Prop} {S : World → Prop} {late : Nat → Bool} {l : Array Bool} {a : Act} {w : World} (hr : Region.ready .any ops l = []) (h : Q .normal a w) : wpAnyL P ops Q S late 0 l a w := ⟨hr, h⟩
theorem wp_region_late {P : Program} {id : Nat} {ops : Array Oper} {Q : Exit → Act → World → Prop} {a : Act} {w : World} (S : World → Prop) (late : Nat → Bool) (hm : P.follows .mixedOrders = true) (hS : S w.drew) (h : S w.drew → wpAnyL P ops Q S late ops.size (Array.replicate ops.size false) a w.drew) : (Code.region id ops true).wp P Q a w :=
  wp_region_any hm (wpAny_of_late _ _ _ _ (h hS))
end Go.Proofs.YtabpnjakfoofpaaGreatDoor
/- The document's walk through a graph. -/
namespace Go.Proofs.YtabpnjakfoofpaaGreatDoor
open Go.RowKit

/-- the rows of a walk: what is met, what is left -/
structure WR (w0 W : World) (gm n : Nat) (lv : Value) (met : List Bool) (left : List Int) : Prop where
  bel : Below w0.heap.size w0 W
  mrow : W.ownsRow w0.heap.size 4 1 (.slice (some ⟨gm, 0, none⟩) n n) n (met.map Value.bool)
  lrow : OwnI W w0.heap.size lv left
  ap : lv.ownBlock ≠ some gm
/-- what a walk turns: both rows alone -/
structure WT (W W' : World) (gm : Nat) (lv lv' : Value) : Prop where
  sz : W.heap.size ≤ W'.heap.size
  keep : ∀ k, k < W.heap.size → k ≠ gm → lv.ownBlock ≠ some k → W'.heap[k]? = W.heap[k]?
  at' : ∀ g, lv'.ownBlock = some g → lv.ownBlock = some g ∨ W.heap.size ≤ g
theorem WT.refl (W : World) (gm : Nat) (lv : Value) : WT W W gm lv lv := ⟨Nat.le_refl _, fun _ _ _ _ => rfl, fun _ h => .inl h⟩
theorem WT.trans {a b c : World} {gm : Nat} {u v x : Value} (h : WT a b gm u v) (g : WT b c gm v x) : WT a c gm u x :=
  ⟨Nat.le_trans h.sz g.sz, fun k hk h1 h2 => (g.keep k (Nat.lt_of_lt_of_le hk h.sz) h1 (fun e => by rcases h.at' k e with e | e; exact h2 e; omega)).trans (h.keep k hk h1 h2), fun q hq => by
    rcases g.at' q hq with e | e
    · exact h.at' q e
    · exact .inr (Nat.le_trans h.sz e)⟩
theorem WT.below {a b : World} {gm : Nat} {lv : Value} (h : Below a.heap.size a b) : WT a b gm lv lv := ⟨h.size, fun k hk _ _ => h.block k hk, fun _ h => .inl h⟩
theorem WR.below {w0 W W' : World} {gm n : Nat} {lv : Value} {met : List Bool} {left : List Int} (h : WR w0 W gm n lv met left) (hb : Below W.heap.size W W') : WR w0 W' gm n lv met left := ⟨below_trans h.bel hb, owns_below h.mrow hb, owns_below h.lrow hb, h.ap⟩
theorem WR.mlen {w0 W : World} {gm n : Nat} {lv : Value} {met : List Bool} {left : List Int} (h : WR w0 W gm n lv met left) : met.length = n := by have := h.mrow.1; simpa using this
theorem WR.cell {w0 W : World} {gm n : Nat} {lv : Value} {met : List Bool} {left : List Int} (h : WR w0 W gm n lv met left) {k : Nat} (hk : k < n) : W.cell? ⟨gm, k, none⟩ = some (.bool (met.getD k true)) := by
  rw [h.mrow.cellAt k (by omega), List.getElem?_map, List.getElem?_eq_getElem (by rw [h.mlen]; exact hk), List.getD_eq_getElem?_getD, List.getElem?_eq_getElem (by rw [h.mlen]; exact hk)]; rfl
theorem WR.mark {w0 W : World} {gm n : Nat} {lv : Value} {met : List Bool} {left : List Int} (h : WR w0 W gm n lv met left) (k : Nat) : WR w0 (W.setCell ⟨gm, k, none⟩ (.bool true)) gm n lv (met.set k true) left := by
  have hg := (h.mrow.lt gm rfl).1
  refine ⟨h.bel.setCell (p := ⟨gm, k, none⟩) hg _, ?_, owns_other h.lrow h.ap _, h.ap⟩
  have := (World.ownsRow.stored h.mrow k (.bool true)).1
  rw [List.map_set]
  exact this
theorem WT.mark (W : World) (gm k : Nat) (u : Value) (lv : Value) : WT W (W.setCell ⟨gm, k, none⟩ u) gm lv lv := ⟨by simp [World.setCell], fun q _ h1 _ => Below.heap_setCell W ⟨gm, k, none⟩ u q (by show q ≠ gm; exact h1), fun _ h => .inl h⟩
theorem WR.push {w0 W w2 : World} {gm n : Nat} {lv lv2 : Value} {met : List Bool} {left : List Int} {x : Int} (h : WR w0 W gm n lv met left) (ho : w2.ownsRow w0.heap.size 3 1 lv2 (left.length + 1) (left.map intV ++ [intV x])) (hg : W.grownBy w2 lv.ownBlock) (hat : lv2.ownBlock = lv.ownBlock ∨ lv2.ownBlock = some W.heap.size) : WR w0 w2 gm n lv2 met (left ++ [x]) ∧ WT W w2 gm lv lv2 := by
  have hgm := (h.mrow.lt gm rfl).2
  refine ⟨⟨below_grown h.bel hg fun g hg' => (h.lrow.lt g hg').1, owns_same h.mrow fun g hg' => ?_, ?_, fun e => ?_⟩, ⟨hg.size, fun k hk _ h2 => hg.block k hk (fun e => h2 e.symm), fun g hg' => ?_⟩⟩
  · cases hg'
    exact hg.block gm hgm (fun e => h.ap e.symm)
  · show World.ownsRow _ _ _ _ _ _ _
    rw [List.map_append, List.length_append]
    exact ho
  · rcases hat with q | q
    · rw [q] at e; exact h.ap e
    · rw [q] at e; cases e; omega
  · rcases hat with q | q
    · exact .inl (q ▸ hg')
    · rw [q] at hg'; cases hg'; exact .inr (Nat.le_refl _)
def DoesRW (w0 : World) (G : Gr) (pv vv av bv : Value) (gm n : Nat) (f : Nat) : Prop := ∀ (a : Nat) (met : List Bool) (left : List Int) (lv : Value) (W : World), WR w0 W gm n lv met left → a < n → cntF (met.set a true) ≤ f → left.length + cntF met ≤ 4000 →
  Calls Tryz.prog 33 #[.agg #[.string G.name, pv, .int .u8 G.result, vv, av, bv], .int .i64 (a : Int), .slice (some ⟨gm, 0, none⟩) n n, lv] W fun e w' => ∃ lv', e = .returned lv' ∧ WR w0 w' gm n lv' (dfs (tms G.blocks) f a (met.set a true) left).1 (dfs (tms G.blocks) f a (met.set a true) left).2 ∧ WT W w' gm lv lv'
end Go.Proofs.YtabpnjakfoofpaaGreatDoor
/- A region whose reads come first and that ends in a call and one step more. -/
namespace Go.Proofs.YtabpnjakfoofpaaGreatDoor
open Go.RowKit

theorem wp_region_last2 {P : Program} {id : Nat} {Q : Exit → Act → World → Prop} {a : Act} {w : World} {L : List Oper} (m : Nat) (o o1 : Oper) (ho : L.toArray[m]? = some o) (ho1 : L.toArray[m + 1]? = some o1) (hg : o.guard = none) (hg1 : o1.guard = none) (hm : P.follows .mixedOrders = true) (hB : Region.lexB .any (L.take m).toArray = true) (hml : decide (L.length = m + 2) = true) (hp : preB .any L.toArray m (Array.replicate L.length false) = true)
    (hr : Region.ready .any L.toArray (listed1 L.length m) = [m]) (hr1 : Region.ready .any L.toArray ((listed1 L.length m).setIfInBounds m true) = [m + 1]) (hr2 : Region.ready .any L.toArray (((listed1 L.length m).setIfInBounds m true).setIfInBounds (m + 1) true) = [])
    (h : wpQuiet P (L.take m).toArray (fun w' => ∃ n, w' = w.drewN n) (fun a' => ∀ w', (∃ n, w' = w.drewN n) → ∀ K : Act → World → Prop, (∀ a w, o1.wp P a w (Q .normal) Q → K a w) → o.wp P a' w' K Q) (L.take m) a) : (Code.region id L.toArray true).wp P Q a w := by
  have hml' : L.length = m + 2 := by simpa using hml
  refine wp_region_pre m hm hB (by simp; omega) hp ?_
  have e : L.length - m = 2 := by omega
  have hF : ∀ (a' : Act), (∀ w', (∃ n, w' = w.drewN n) → ∀ K : Act → World → Prop, (∀ a w, o1.wp P a w (Q .normal) Q → K a w) → o.wp P a' w' K Q) → ∀ w', (∃ n, w' = w.drewN n) → wpAny P .any L.toArray Q (L.length - m) (listed1 L.length m) a' w' := fun a' ha w' hw => by
    rw [e]
    refine ⟨fun h0 => (by rw [hr] at h0; cases h0), fun i hi => ?_⟩
    rw [hr] at hi
    have : i = m := by simpa using hi
    subst this
    unfold wpOp
    simp only [ho]
    rw [if_pos (by simp [Region.wanted, hg])]
    refine .inl (ha w' hw _ fun a w hq => ?_)
    refine ⟨fun h0 => (by rw [hr1] at h0; cases h0), fun j hj => ?_⟩
    rw [hr1] at hj
    have : j = i + 1 := by simpa using hj
    subst this
    unfold wpOp
    simp only [ho1]
    rw [if_pos (by simp [Region.wanted, hg1])]
    exact .inl (Oper.wp_mono (fun a w hq => ⟨hr2, hq⟩) hq)
  have mono : ∀ (l : List Oper) (a : Act) (Q1 Q2 : Act → Prop), (∀ a, Q1 a → Q2 a) → wpQuiet P (L.take m).toArray (fun w' => ∃ n, w' = w.drewN n) Q1 l a → wpQuiet P (L.take m).toArray (fun w' => ∃ n, w' = w.drewN n) Q2 l a := by
    intro l
    induction l with
    | nil => intro a Q1 Q2 h12 h; exact h12 _ h
    | cons o l ih =>
      intro a Q1 Q2 h12 h
      unfold wpQuiet at h ⊢
      split
      · rename_i hw
        rw [if_pos hw] at h
        exact Oper.quiet_mono (fun a h => ih a Q1 Q2 h12 h) h
      · rename_i hw
        rw [if_neg hw] at h
        exact ih _ Q1 Q2 h12 h
  exact mono _ _ _ _ hF h
end Go.Proofs.YtabpnjakfoofpaaGreatDoor
