/- A region that draws its order: one condition on the world behind every operation but the late ones, which wait for all that is taken first. -/
import Derived.Test.YtcggbedjhglmmaaGreatDoorLOrd
import Derived.Deep.RegionHeld3
import Derived.Test.YtcggbedjhglmmaaGreatDoorLRbM
import Derived.Test.YtcggbedjhglmmaaGreatDoorLPlainM
namespace Go.Proofs.YtcggbedjhglmmaaGreatDoor
open Go.RowKit

def wpAnyL (P : Program) (ops : Array Oper) (Q : Exit → Act → World → Prop) (S : World → Prop) (late : Nat → Bool) : Nat → Array Bool → Act → World → Prop
  | 0, l, a, w => Region.ready .any ops l = [] ∧ Q .normal a w
  | n + 1, l, a, w => (Region.ready .any ops l = [] → Q .normal a w) ∧ ∀ i ∈ Region.ready .any ops l, wpOp P ops Q i (fun a' w' => (late i = false → S w') ∧ wpAnyL P ops Q S late n (l.setIfInBounds i true) a' w') a w
theorem wpAny_of_late {P : Program} {ops : Array Oper} {Q : Exit → Act → World → Prop} {S : World → Prop} {late : Nat → Bool} : ∀ (n : Nat) (l : Array Bool) (a : Act) (w : World), wpAnyL P ops Q S late n l a w → wpAny P .any ops Q n l a w
  | 0, _, _, _, h => h
  | n + 1, _, _, _, h => ⟨h.1, fun i hi => wpOp_mono (fun a' w' h' => wpAny_of_late n _ a' w' h'.2) (h.2 i hi)⟩
/-- Each late one waits for i. -/
def lateB (ops : Array Oper) (late : Nat → Bool) (i : Nat) : Bool := (List.range ops.size).all fun j => !late j || depB .any ops j i
theorem lateB_spec {ops : Array Oper} {late : Nat → Bool} {i : Nat} (h : lateB ops late i = true) {j : Nat} {oj : Oper} (hj : ops[j]? = some oj) (hl : late j = true) : ∃ e ∈ oj.after, Region.binds .any e = true ∧ e.on = i := by
  unfold lateB at h
  rw [List.all_eq_true] at h
  have h1 := h j (by simpa using (Array.getElem?_eq_some_iff.1 hj).1)
  rw [hl] at h1
  obtain ⟨o, ho, e, he⟩ := depB_spec (by simpa using h1)
  rw [hj] at ho
  cases ho
  exact ⟨e, he⟩
theorem wpAnyL_first {P : Program} {ops : Array Oper} {Q : Exit → Act → World → Prop} {S : World → Prop} {late : Nat → Bool} {i : Nat} {oi : Oper} {v : Value} (hi : ops[i]? = some oi) (hs : Region.noSelect ops = true) (hQ : ∀ c a w, Q (.panic c) (a.put oi.dst v) w → Q (.panic c) a w) (hl : lateB ops late i = true) :
    ∀ (n : Nat) (l : Array Bool) (a : Act) (w : World), (∀ j oj, ops[j]? = some oj → j ≠ i → l.getD j true = false → (∀ e ∈ oj.after, Region.binds .any e = true → e.on ≠ i) → oi.apart ops oj = true) →
      i ∈ Region.ready .any ops l → YieldsIf P ops S oi v a → S w → wpAnyL P ops Q S late n (l.setIfInBounds i true) (a.put oi.dst v) w → wpAnyL P ops Q S late (n + 1) l a w := by
  intro n
  induction n with
  | zero =>
    intro l a w _ hr hy hS H
    refine ⟨fun h => (by rw [h] at hr; cases hr), fun j hj => ?_⟩
    by_cases hji : j = i
    · subst hji; exact hy.wpOp hi hS ⟨fun _ => hS, H⟩
    · have := ready_mono hj hji
      rw [H.1] at this
      cases this
  | succ n ih =>
    intro l a w hfree hr hy hS H
    refine ⟨fun h => (by rw [h] at hr; cases hr), fun j hj => ?_⟩
    by_cases hji : j = i
    · subst hji; exact hy.wpOp hi hS ⟨fun _ => hS, H⟩
    · obtain ⟨hun, oj, hoj, hall⟩ := mem_ready.1 hj
      have hi0 := getD_f.1 (mem_ready.1 hr).1
      have hnot : ∀ e ∈ oj.after, Region.binds .any e = true → e.on ≠ i := fun e he hb heq => by
        have h1 := getD_t.1 (hall e he hb)
        rw [heq, hi0] at h1
        cases h1
      have hnl : late j = false := by
        cases hlj : late j with
        | false => rfl
        | true =>
          obtain ⟨e, he, hb, hon⟩ := lateB_spec hl hoj hlj
          exact absurd hon (hnot e he hb)
      have h2 := wpOp_putIf hoj (hfree j oj hoj hji hun hnot) (fun cs b => Region.noSelect_spec hs i oi cs b hi) (fun cs b => Region.noSelect_spec hs j oj cs b hoj) hQ hy (H.2 j (ready_mono hj hji))
      refine wpOp_mono (fun a' w' h3 => ⟨h3.2.1, ih (l.setIfInBounds j true) a' w' (fun k ok hk hki hu hno => hfree k ok hk hki ?_ hno) (ready_mono hr (Ne.symm hji)) h3.1 (h3.2.1 hnl) ?_⟩) h2
      · by_cases hjk : j = k
        · subst hjk; exact hun
        · rw [getD_set_ne true hjk] at hu; exact hu
      · rw [Array.setIfInBounds_comm _ _ hji]
        exact h3.2.2
theorem wpAnyL_take {P : Program} {ops : Array Oper} {Q : Exit → Act → World → Prop} {S : World → Prop} {late : Nat → Bool} {n : Nat} {l : Array Bool} {a : Act} {w : World} (i : Nat) {oi : Oper} {v : Value} (hi : ops[i]? = some oi) (hs : Region.noSelect ops = true) (hf : Region.free .any ops l i = true) (hr : (Region.ready .any ops l).contains i = true) (hl : lateB ops late i = true)
    (hQ : ∀ c a w, Q (.panic c) (a.put oi.dst v) w → Q (.panic c) a w) (hS : S w) (hy : YieldsIf P ops S oi v a) (h : wpAnyL P ops Q S late n (l.setIfInBounds i true) (a.put oi.dst v) w) : wpAnyL P ops Q S late (n + 1) l a w :=
  wpAnyL_first hi hs hQ hl n l a w (Region.free_spec hi hf) (by simpa using hr) hy hS h
/-- One alone may come up. -/
theorem wpAnyL_one {P : Program} {ops : Array Oper} {Q : Exit → Act → World → Prop} {S : World → Prop} {late : Nat → Bool} {n : Nat} {l : Array Bool} {a : Act} {w : World} (i : Nat) {o : Oper} (hr : Region.ready .any ops l = [i]) (ho : ops[i]? = some o)
    (h : ∀ K : Act → World → Prop, (∀ a w, (late i = false → S w) → wpAnyL P ops Q S late n (l.setIfInBounds i true) a w → K a w) → if Region.wanted o (yielded ops a.tmps) = true then Oper.wp P o a w K Q else K (a.put o.dst undef) w) : wpAnyL P ops Q S late (n + 1) l a w := by
  refine ⟨fun h0 => (by rw [hr] at h0; cases h0), fun j hj => ?_⟩
  rw [hr] at hj
  simp at hj
  subst hj
  exact wpOp_step ho (fun K hK => h K fun a w h1 h2 => hK a w ⟨h1, h2⟩)
theorem wpAnyL_done {P : Program} {ops : Array Oper} {Q : Exit → Act → World → Prop} {S : World → Prop} {late : Nat → Bool} {l : Array Bool} {a : Act} {w : World} (hr : Region.ready .any ops l = []) (h : Q .normal a w) : wpAnyL P ops Q S late 0 l a w := ⟨hr, h⟩
theorem wp_region_late {P : Program} {id : Nat} {ops : Array Oper} {Q : Exit → Act → World → Prop} {a : Act} {w : World} (S : World → Prop) (late : Nat → Bool) (hm : P.follows .mixedOrders = true) (hS : S w.drew) (h : S w.drew → wpAnyL P ops Q S late ops.size (Array.replicate ops.size false) a w.drew) : (Code.region id ops true).wp P Q a w :=
  wp_region_any hm (wpAny_of_late _ _ _ _ (h hS))
end Go.Proofs.YtcggbedjhglmmaaGreatDoor
/- A region that draws its order, by what holds whichever operations are done. -/
namespace Go.Proofs.YtcggbedjhglmmaaGreatDoor
open Go.RowKit

theorem ready_some {ops : Array Oper} {l : Array Bool} (hord : (List.range ops.size).all (fun i => match ops[i]? with | some o => o.after.toList.all (fun e => decide (e.on < i)) | none => true) = true) (hsz : l.size = ops.size) : ∀ i, l.getD i true = false → Region.ready .any ops l ≠ [] := by
  intro i
  induction i using Nat.strongRecOn with
  | _ i ih =>
    intro hi hr
    have hil : i < ops.size := by
      rw [← hsz]
      have := getD_f.1 hi
      exact (Array.getElem?_eq_some_iff.1 this).1
    have ho : ops[i]? = some ops[i] := Array.getElem?_eq_getElem hil
    have h1 := (List.all_eq_true.1 hord) i (List.mem_range.2 hil)
    rw [ho] at h1
    by_cases hc : ∀ e ∈ (ops[i]).after, Region.binds .any e = true → l.getD e.on false = true
    · have : i ∈ Region.ready .any ops l := mem_ready.2 ⟨hi, _, ho, hc⟩
      rw [hr] at this
      cases this
    · simp only [Classical.not_forall] at hc
      obtain ⟨e, he, hb, hd⟩ := hc
      have hlt : e.on < i := by
        have := (List.all_eq_true.1 h1) e (by simpa using he)
        simpa using this
      refine ih e.on hlt ?_ hr
      have hel : e.on < l.size := by rw [hsz]; omega
      have h2 : l.getD e.on false = l[e.on] := by simp [Array.getD, hel]
      have h3 : l.getD e.on true = l[e.on] := by simp [Array.getD, hel]
      rw [h2] at hd
      rw [h3]
      simpa using hd
theorem count_done {l : Array Bool} {i : Nat} (h : l.getD i true = false) : (l.setIfInBounds i true).toList.count false + 1 = l.toList.count false := by
  have h1 : l.toList.getD i true = false := by
    have := getD_f.1 h
    rw [List.getD_eq_getElem?_getD]
    simp [this]
  have := cntF_set h1
  unfold cntF at this
  rw [Array.toList_setIfInBounds]
  exact this
theorem wpAnyL_inv {P : Program} {ops : Array Oper} {Q : Exit → Act → World → Prop} {S : World → Prop} {late : Nat → Bool} (I : Array Bool → Act → World → Prop) (hS : ∀ l a w, I l a w → S w) (hsz : ∀ l a w, I l a w → l.size = ops.size)
    (hord : (List.range ops.size).all (fun i => match ops[i]? with | some o => o.after.toList.all (fun e => decide (e.on < i)) | none => true) = true)
    (hend : ∀ l a w, I l a w → (∀ i, i < ops.size → l.getD i true = true) → Q .normal a w)
    (hstep : ∀ (i : Nat) (o : Oper) (l : Array Bool) (a : Act) (w : World), ops[i]? = some o → I l a w → l.getD i true = false → (∀ e ∈ o.after, Region.binds .any e = true → l.getD e.on false = true) → ∀ K : Act → World → Prop, (∀ a' w', I (l.setIfInBounds i true) a' w' → K a' w') → if Region.wanted o (yielded ops a.tmps) = true then Oper.wp P o a w K Q else K (a.put o.dst undef) w) :
    ∀ (n : Nat) (l : Array Bool) (a : Act) (w : World), I l a w → l.toList.count false = n → wpAnyL P ops Q S late n l a w
  | 0, l, a, w, hI, hc => by
    have hall : ∀ i, l.getD i true = true := fun i => by
      cases h : l.getD i true with
      | true => rfl
      | false =>
        have := count_done h
        omega
    refine ⟨?_, hend l a w hI fun i _ => hall i⟩
    rw [List.eq_nil_iff_forall_not_mem]
    intro j hj
    have h1 := (mem_ready.1 hj).1
    rw [hall j] at h1
    cases h1
  | n + 1, l, a, w, hI, hc => by
    refine ⟨fun hr => ?_, fun i hi => ?_⟩
    · exfalso
      have hm : false ∈ l.toList := List.count_pos_iff.1 (by omega)
      obtain ⟨i, hi⟩ := List.getElem?_of_mem hm
      refine ready_some hord (hsz l a w hI) i ?_ hr
      exact getD_f.2 (by simpa using hi)
    · obtain ⟨hu, o, ho, hd⟩ := mem_ready.1 hi
      refine wpOp_step ho fun K' hK' => hstep i o l a w ho hI hu hd K' fun a' w' hI' => hK' a' w' ⟨fun _ => hS _ _ _ hI', wpAnyL_inv I hS hsz hord hend hstep n _ a' w' hI' ?_⟩
      have := count_done hu
      omega
end Go.Proofs.YtcggbedjhglmmaaGreatDoor
/- The document's side: where one variable is live: what lies in memory; a region whose last three operations go one by one. -/
namespace Go.Proofs.YtcggbedjhglmmaaGreatDoor
open Go.RowKit

theorem wp_region_last3 {P : Program} {id : Nat} {Q : Exit → Act → World → Prop} {a : Act} {w : World} {L : List Oper} (m : Nat) (o o1 o2 : Oper) (ho : L.toArray[m]? = some o) (ho1 : L.toArray[m + 1]? = some o1) (ho2 : L.toArray[m + 2]? = some o2) (hg1 : o1.guard = none) (hg2 : o2.guard = none) (hm : P.follows .mixedOrders = true) (hB : Region.lexB .any (L.take m).toArray = true) (hml : decide (L.length = m + 3) = true) (hp : preB .any L.toArray m (Array.replicate L.length false) = true)
    (hr : Region.ready .any L.toArray (listed1 L.length m) = [m]) (hr1 : Region.ready .any L.toArray ((listed1 L.length m).setIfInBounds m true) = [m + 1]) (hr2 : Region.ready .any L.toArray (((listed1 L.length m).setIfInBounds m true).setIfInBounds (m + 1) true) = [m + 2]) (hr3 : Region.ready .any L.toArray ((((listed1 L.length m).setIfInBounds m true).setIfInBounds (m + 1) true).setIfInBounds (m + 2) true) = [])
    (h : wpQuiet P (L.take m).toArray (fun w' => ∃ n, w' = w.drewN n) (fun a' => Region.wanted o (yielded L.toArray a'.tmps) = true ∧ ∀ w', (∃ n, w' = w.drewN n) → ∀ K : Act → World → Prop, (∀ a w, o1.wp P a w (fun a w => o2.wp P a w (Q .normal) Q) Q → K a w) → o.wp P a' w' K Q) (L.take m) a) : (Code.region id L.toArray true).wp P Q a w := by
  have hml' : L.length = m + 3 := by simpa using hml
  refine wp_region_pre m hm hB (by simp; omega) hp ?_
  have e : L.length - m = 3 := by omega
  have hF : ∀ (a' : Act), (Region.wanted o (yielded L.toArray a'.tmps) = true ∧ ∀ w', (∃ n, w' = w.drewN n) → ∀ K : Act → World → Prop, (∀ a w, o1.wp P a w (fun a w => o2.wp P a w (Q .normal) Q) Q → K a w) → o.wp P a' w' K Q) → ∀ w', (∃ n, w' = w.drewN n) → wpAny P .any L.toArray Q (L.length - m) (listed1 L.length m) a' w' := fun a' ha w' hw => by
    rw [e]
    refine ⟨fun h0 => (by rw [hr] at h0; cases h0), fun i hi => ?_⟩
    rw [hr] at hi
    have : i = m := by simpa using hi
    subst this
    unfold wpOp
    simp only [ho]
    rw [if_pos ha.1]
    refine .inl (ha.2 w' hw _ fun a w hq => ?_)
    refine ⟨fun h0 => (by rw [hr1] at h0; cases h0), fun j hj => ?_⟩
    rw [hr1] at hj
    have : j = i + 1 := by simpa using hj
    subst this
    unfold wpOp
    simp only [ho1]
    rw [if_pos (by simp [Region.wanted, hg1])]
    refine .inl (Oper.wp_mono (fun a w hq => ?_) hq)
    refine ⟨fun h0 => (by rw [hr2] at h0; cases h0), fun j hj => ?_⟩
    rw [hr2] at hj
    have : j = i + 2 := by simpa using hj
    subst this
    unfold wpOp
    simp only [ho2]
    rw [if_pos (by simp [Region.wanted, hg2])]
    exact .inl (Oper.wp_mono (fun a w hq => ⟨hr3, hq⟩) hq)
  have mono : ∀ (l : List Oper) (a : Act) (Q1 Q2 : Act → Prop), (∀ a, Q1 a → Q2 a) → wpQuiet P (L.take m).toArray (fun w' => ∃ n, w' = w.drewN n) Q1 l a → wpQuiet P (L.take m).toArray (fun w' => ∃ n, w' = w.drewN n) Q2 l a := by
    intro l
    induction l with
    | nil => intro a Q1 Q2 h12 h; exact h12 _ h
    | cons o l ih =>
      intro a Q1 Q2 h12 h
      unfold wpQuiet at h ⊢
      split
      · rename_i hw
        rw [if_pos hw] at h
        exact Oper.quiet_mono (fun a h => ih a Q1 Q2 h12 h) h
      · rename_i hw
        rw [if_neg hw] at h
        exact ih _ Q1 Q2 h12 h
  exact mono _ _ _ _ hF h
theorem infoB : (Tryz.prog.info? 4).map (fun i => (i.zero, i.size, i.bytes)) = some (some (.bool false), 1, 1) := by kernel_rfl
/-- Truths in a row of one's own, n of them, at a block. -/
abbrev OwnB (w : World) (base b n : Nat) (l : List Bool) : Prop := w.ownsRow base 4 1 (.slice (some ⟨b, 0, none⟩) n n) n (l.map Value.bool)
theorem OwnB.len {w : World} {base b n : Nat} {l : List Bool} (h : OwnB w base b n l) : l.length = n := by have := h.1; simpa using this
theorem OwnB.at' {w : World} {base b n : Nat} {l : List Bool} (h : OwnB w base b n l) {k : Nat} (hk : k < n) (d : Bool) : w.cell? ⟨b, k, none⟩ = some (.bool (l.getD k d)) := by
  rw [h.cellAt k (by omega), List.getElem?_map, List.getElem?_eq_getElem (by rw [h.len]; exact hk), getD_of (by rw [h.len]; exact hk)]
  rfl
theorem OwnB.lt' {w : World} {base b n : Nat} {l : List Bool} (h : OwnB w base b n l) : base ≤ b ∧ b < w.heap.size := h.lt b rfl
theorem OwnB.set' {w : World} {base b n : Nat} {l : List Bool} (h : OwnB w base b n l) (k : Nat) (u : Bool) : OwnB (w.setCell ⟨b, k, none⟩ (.bool u)) base b n (l.set k u) := by
  have := (World.ownsRow.stored h k (.bool u)).1
  show World.ownsRow _ _ _ _ _ _ _
  rw [List.map_set]
  exact this
/-- two rows, made in any order -/
structure Q2 (e : TypeId) (z : Value) (W wr : World) (n : Nat) (y0 y1 y2 y3 : Bool) (x0 x1 x2 x3 : Value) : Prop where
  bel : Below W.heap.size W wr
  r0 : y0 = true → ∃ g, x0 = .slice (some ⟨g, 0, none⟩) n n ∧ wr.ownsRow W.heap.size e 1 (.slice (some ⟨g, 0, none⟩) n n) n (List.replicate n z)
  r1 : y1 = true → ∃ g, x1 = .slice (some ⟨g, 0, none⟩) n n ∧ wr.ownsRow W.heap.size e 1 (.slice (some ⟨g, 0, none⟩) n n) n (List.replicate n z)
  ap : y0 = true → y1 = true → x0.ownBlock ≠ x1.ownBlock
  v2 : y2 = true → x2 = x0
  v3 : y3 = true → x3 = x1
  i2 : y2 = true → y0 = true
  i3 : y3 = true → y1 = true
theorem Q2.start (e : TypeId) (z : Value) (W : World) (n : Nat) (x0 x1 x2 x3 : Value) : Q2 e z W W.drew n false false false false x0 x1 x2 x3 :=
  ⟨below_drew (Below.refl _ _), by simp, by simp, by simp, by simp, by simp, by simp, by simp⟩
theorem made_z (v : Value) (n : Nat) : (madeCells #[v] n).toList = List.replicate n v := by
  refine List.ext_getElem (by simp [size_madeCells]) fun k h1 h2 => ?_
  rw [List.getElem_replicate]
  simp [madeCells, Nat.mod_one]
theorem made_row (e : TypeId) (z : Value) (W : World) (n base : Nat) (hn : n ≤ 1000000) (hb : base ≤ W.heap.size) : (W.alloc (.cells (madeCells #[z] n) e)).ownsRow base e 1 (.slice (some ⟨W.heap.size, 0, none⟩) n n) n (List.replicate n z) := by
  have h := World.ownsRow_lit (base := base) (e := e) (size := 1) W (madeCells #[z] n) n hb (by unfold maxLen; omega) (by simp [size_madeCells])
  rw [made_z] at h
  exact h
theorem Q2.make0 {e : TypeId} {z : Value} {W wr : World} {n : Nat} {y1 y2 y3 : Bool} {x0 x1 x2 x3 : Value} (h : Q2 e z W wr n false y1 y2 y3 x0 x1 x2 x3) (hn : n ≤ 1000000) : Q2 e z W (wr.alloc (.cells (madeCells #[z] n) e)) n true y1 y2 y3 (.slice (some ⟨wr.heap.size, 0, none⟩) n n) x1 x2 x3 := by
  have hi : y2 = false := by
    rcases q : y2 with _ | _
    · rfl
    · have := h.i2 q; cases this
  subst hi
  refine ⟨below_alloc h.bel _, fun _ => ⟨_, rfl, made_row e z wr n _ hn h.bel.size⟩, fun q => ?_, fun _ q => ?_, by simp, h.v3, by simp, h.i3⟩
  · obtain ⟨g, he, ho⟩ := h.r1 q
    exact ⟨g, he, owns_below ho (below_alloc (Below.refl _ _) _)⟩
  · obtain ⟨g, he, ho⟩ := h.r1 q
    subst he
    have := (ho.lt g rfl).2
    simp only [Value.ownBlock, ne_eq, Option.some.injEq]
    omega
theorem Q2.make1 {e : TypeId} {z : Value} {W wr : World} {n : Nat} {y0 y2 y3 : Bool} {x0 x1 x2 x3 : Value} (h : Q2 e z W wr n y0 false y2 y3 x0 x1 x2 x3) (hn : n ≤ 1000000) : Q2 e z W (wr.alloc (.cells (madeCells #[z] n) e)) n y0 true y2 y3 x0 (.slice (some ⟨wr.heap.size, 0, none⟩) n n) x2 x3 := by
  have hi : y3 = false := by
    rcases q : y3 with _ | _
    · rfl
    · have := h.i3 q; cases this
  subst hi
  refine ⟨below_alloc h.bel _, fun q => ?_, fun _ => ⟨_, rfl, made_row e z wr n _ hn h.bel.size⟩, fun q _ => ?_, h.v2, by simp, h.i2, by simp⟩
  · obtain ⟨g, he, ho⟩ := h.r0 q
    exact ⟨g, he, owns_below ho (below_alloc (Below.refl _ _) _)⟩
  · obtain ⟨g, he, ho⟩ := h.r0 q
    subst he
    have := (ho.lt g rfl).2
    simp only [Value.ownBlock, ne_eq, Option.some.injEq]
    omega
theorem Q2.set0 {e : TypeId} {z : Value} {W wr : World} {n : Nat} {y1 y3 : Bool} {x0 x1 x2 x3 : Value} (h : Q2 e z W wr n true y1 false y3 x0 x1 x2 x3) : Q2 e z W wr n true y1 true y3 x0 x1 x0 x3 :=
  ⟨h.bel, h.r0, h.r1, h.ap, fun _ => rfl, h.v3, fun _ => rfl, h.i3⟩
theorem Q2.set1 {e : TypeId} {z : Value} {W wr : World} {n : Nat} {y0 y2 : Bool} {x0 x1 x2 x3 : Value} (h : Q2 e z W wr n y0 true y2 false x0 x1 x2 x3) : Q2 e z W wr n y0 true y2 true x0 x1 x2 x1 :=
  ⟨h.bel, h.r0, h.r1, h.ap, h.v2, fun _ => rfl, h.i2, fun _ => rfl⟩
theorem Q2.done {e : TypeId} {z : Value} {W wr : World} {n : Nat} {x0 x1 x2 x3 : Value} (h : Q2 e z W wr n true true true true x0 x1 x2 x3) : ∃ gA gB, gA ≠ gB ∧ x0 = .slice (some ⟨gA, 0, none⟩) n n ∧ x1 = .slice (some ⟨gB, 0, none⟩) n n ∧ x2 = .slice (some ⟨gA, 0, none⟩) n n ∧ x3 = .slice (some ⟨gB, 0, none⟩) n n ∧
    wr.ownsRow W.heap.size e 1 (.slice (some ⟨gA, 0, none⟩) n n) n (List.replicate n z) ∧ wr.ownsRow W.heap.size e 1 (.slice (some ⟨gB, 0, none⟩) n n) n (List.replicate n z) := by
  obtain ⟨gA, ha, oa⟩ := h.r0 rfl
  obtain ⟨gB, hb, ob⟩ := h.r1 rfl
  have hne := h.ap rfl rfl
  have e2 := h.v2 rfl
  have e3 := h.v3 rfl
  subst ha hb e2 e3
  exact ⟨gA, gB, fun q => hne (by rw [q]), rfl, rfl, rfl, rfl, oa, ob⟩
/-- what stands in memory while one variable is looked for -/
structure OneS (w : World) (gA gB n : Nat) (cs : List Value) (wr : World) (a b : List Bool) : Prop where
  bel : Below w.heap.size w wr
  box : Box wr w.heap.size cs
  ra : OwnB wr (w.heap.size + 1) gA n a
  rb : OwnB wr (w.heap.size + 1) gB n b
  ne : gA ≠ gB
theorem OneS.below {w wr wr' : World} {gA gB n : Nat} {cs : List Value} {a b : List Bool} (h : OneS w gA gB n cs wr a b) (hb : Below wr.heap.size wr wr') : OneS w gA gB n cs wr' a b :=
  ⟨below_trans h.bel hb, h.box.below hb, owns_below h.ra hb, owns_below h.rb hb, h.ne⟩
theorem OneS.set {w wr : World} {gA gB n : Nat} {cs : List Value} {a b : List Bool} (h : OneS w gA gB n cs wr a b) (i : Nat) (p q : Bool) : OneS w gA gB n cs ((wr.setCell ⟨gA, i, none⟩ (.bool p)).setCell ⟨gB, i, none⟩ (.bool q)) (a.set i p) (b.set i q) := by
  have la := h.ra.lt'.1
  have lb := h.rb.lt'.1
  have nb : (Value.slice (some ⟨gA, 0, none⟩) n n).ownBlock ≠ some gB := by simp only [Value.ownBlock, ne_eq, Option.some.injEq]; exact h.ne
  have na : (Value.slice (some ⟨gB, 0, none⟩) n n).ownBlock ≠ some gA := by simp only [Value.ownBlock, ne_eq, Option.some.injEq]; exact fun e => h.ne e.symm
  refine ⟨?_, (h.box.other (by show w.heap.size ≠ gA; omega) _).other (by show w.heap.size ≠ gB; omega) _, owns_other (h.ra.set' i p) nb _, OwnB.set' (owns_other h.rb na _) i q, h.ne⟩
  exact (h.bel.setCell (p := ⟨gA, i, none⟩) (by show w.heap.size ≤ gA; omega) _).setCell (p := ⟨gB, i, none⟩) (by show w.heap.size ≤ gB; omega) _
end Go.Proofs.YtcggbedjhglmmaaGreatDoor
/- The document's side: where one variable is live: the rounds, plain. -/
namespace Go.Proofs.YtcggbedjhglmmaaGreatDoor
open Go.RowKit

abbrev LIv (bs : List Bl) (ah : List (List Int)) (v : Int) (n : Nat) (a b : List Bool) : Prop := LI n (nxB bs) (fun i => firstB (blk bs i) v = 1) (fun i => firstB (blk bs i) v = 0) (phiOut bs ah v) a b
/-- a block at which both rows are as they must be -/
def FixV (bs : List Bl) (ah : List (List Int)) (v : Int) (a b : List Bool) (i : Nat) : Prop := (onB b i ↔ phiOut bs ah v i ∨ ∃ j ∈ nxB bs i, onB a j) ∧ (onB a i ↔ firstB (blk bs i) v = 1 ∨ firstB (blk bs i) v = 0 ∧ onB b i)
/-- what was seen of the first k blocks that follow -/
def Qk (bs : List Bl) (ah : List (List Int)) (v : Int) (a : List Bool) (i k : Nat) (q : Bool) : Prop := q = true ↔ ∃ j, j < k ∧ (onB a ((nextT (blk bs i).tm).getD j 0).toNat ∨ phiAsk bs ah i ((nextT (blk bs i).tm).getD j 0).toNat v)
theorem Qk.zero (bs : List Bl) (ah : List (List Int)) (v : Int) (a : List Bool) (i : Nat) : Qk bs ah v a i 0 false := by unfold Qk; simp
theorem Qk.next {bs : List Bl} {ah : List (List Int)} {v : Int} {a : List Bool} {i k : Nat} {q q' : Bool} (h : Qk bs ah v a i k q) {t : Nat} (ht : (nextT (blk bs i).tm).getD k 0 = (t : Int)) (hq : q' = true ↔ q = true ∨ onB a t ∨ phiAsk bs ah i t v) : Qk bs ah v a i (k + 1) q' := by
  unfold Qk at h ⊢
  rw [hq, h]
  constructor
  · rintro (⟨j, hj, h⟩ | h)
    · exact ⟨j, by omega, h⟩
    · exact ⟨k, by omega, by rw [ht]; exact h⟩
  · rintro ⟨j, hj, hx⟩
    by_cases e : j = k
    · subst e; rw [ht] at hx; exact .inr hx
    · exact .inl ⟨j, by omega, hx⟩
theorem Qk.done {bs : List Bl} {ah : List (List Int)} {v : Int} {a : List Bool} {i : Nat} {q : Bool} (h : Qk bs ah v a i (nextT (blk bs i).tm).length q) : q = true ↔ phiOut bs ah v i ∨ ∃ j ∈ nxB bs i, onB a j := by
  unfold Qk at h
  rw [h]
  have hm : ∀ j : Nat, j ∈ nxB bs i ↔ ∃ k, k < (nextT (blk bs i).tm).length ∧ ((nextT (blk bs i).tm).getD k 0).toNat = j := fun j => by
    unfold nxB
    rw [List.mem_map]
    constructor
    · rintro ⟨t, ht, e⟩
      obtain ⟨k, hk, he⟩ := List.mem_iff_getElem.1 ht
      exact ⟨k, hk, by rw [List.getD, List.getElem?_eq_getElem hk]; show (nextT (blk bs i).tm)[k].toNat = j; rw [he]; exact e⟩
    · rintro ⟨k, hk, e⟩
      exact ⟨(nextT (blk bs i).tm).getD k 0, by rw [List.getD, List.getElem?_eq_getElem hk]; exact List.getElem_mem hk, e⟩
  constructor
  · rintro ⟨k, hk, h | h⟩
    · exact .inr ⟨_, (hm _).2 ⟨k, hk, rfl⟩, h⟩
    · exact .inl ⟨_, (hm _).2 ⟨k, hk, rfl⟩, h⟩
  · rintro (⟨j, hj, h⟩ | ⟨j, hj, h⟩)
    · obtain ⟨k, hk, rfl⟩ := (hm j).1 hj
      exact ⟨k, hk, .inr h⟩
    · obtain ⟨k, hk, rfl⟩ := (hm j).1 hj
      exact ⟨k, hk, .inl h⟩
theorem one_same {bs : List Bl} {ah : List (List Int)} {v : Int} {a b : List Bool} {i : Nat} {p q : Bool} (hq : q = true ↔ phiOut bs ah v i ∨ ∃ j ∈ nxB bs i, onB a j) (hp : p = true ↔ firstB (blk bs i) v = 1 ∨ firstB (blk bs i) v = 0 ∧ q = true) (ea : a.getD i false = p) (eb : b.getD i false = q) : FixV bs ah v a b i := by
  unfold FixV onB
  rw [ea, eb]
  exact ⟨hq, hp⟩
theorem one_done {bs : List Bl} {ah : List (List Int)} {v : Int} {n : Nat} {a b : List Bool} (H : LIv bs ah v n a b) (hnx : ∀ i, i < n → ∀ j ∈ nxB bs i, j < n) (hf : ∀ i, i < n → FixV bs ah v a b i) : ∀ i, i < n → (onB a i ↔ liveIn bs ah v i) ∧ (onB b i ↔ liveOut bs ah v i) :=
  H.done hnx (fun i hi => (hf i hi).1) (fun i hi => (hf i hi).2)
theorem OneS.facts {w wr : World} {gA gB n : Nat} {cs : List Value} {a b : List Bool} (h : OneS w gA gB n cs wr a b) {i : Nat} (hi : i < n) : wr.cell? ⟨gA, i, none⟩ = some (.bool (a.getD i false)) ∧ wr.cell? ⟨gB, i, none⟩ = some (.bool (b.getD i false)) ∧ wr.frozen? ⟨gA, i, none⟩ = false ∧ wr.frozen? ⟨gB, i, none⟩ = false := ⟨h.ra.at' hi _, h.rb.at' hi _, h.ra.frozenAt i, h.rb.frozenAt i⟩
theorem OneS.facts2 {w wr : World} {gA gB n : Nat} {cs : List Value} {a b : List Bool} (h : OneS w gA gB n cs wr a b) {i : Nat} (hi : i < n) (p : Bool) : (wr.setCell ⟨gA, i, none⟩ (.bool p)).cell? ⟨gB, i, none⟩ = some (.bool (b.getD i false)) ∧ (wr.setCell ⟨gA, i, none⟩ (.bool p)).frozen? ⟨gB, i, none⟩ = false := by
  have na : (Value.slice (some ⟨gB, 0, none⟩) n n).ownBlock ≠ some gA := by simp only [Value.ownBlock, ne_eq, Option.some.injEq]; exact fun e => h.ne e.symm
  have hb : OwnB (wr.setCell ⟨gA, i, none⟩ (.bool p)) (w.heap.size + 1) gB n b := owns_other h.rb na _
  exact ⟨hb.at' hi _, hb.frozenAt i⟩
end Go.Proofs.YtcggbedjhglmmaaGreatDoor
