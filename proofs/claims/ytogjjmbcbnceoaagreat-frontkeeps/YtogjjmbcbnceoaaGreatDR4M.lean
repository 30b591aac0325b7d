/- A region that draws its order, by what holds whichever operations are done. -/
import Derived.Test.YtogjjmbcbnceoaaGreatDLate
import Derived.Test.YtogjjmbcbnceoaaGreatDJmM
namespace Go.Proofs.YtogjjmbcbnceoaaGreat
open Go.RowKit

theorem ready_some {ops : Array Oper} {l : Array Bool} (hord : (List.range ops.size).all (fun i => match ops[i]? with | some o => o.after.toList.all (fun e => decide (e.on < i)) | none => true) = true) (hsz : l.size = ops.size) : ∀ i, l.getD i true = false → Region.ready .any ops l ≠ [] := by
  intro i
  induction i using Nat.strongRecOn with
  | _ i ih =>
    intro hi hr
    have hil : i < ops.size := by
      rw [← hsz]
      have := getD_f.1 hi
      exact (Array.getElem?_eq_some_iff.1 this).1
    have ho : ops[i]? = some ops[i] := Array.getElem?_eq_getElem hil
    have h1 := (List.all_eq_true.1 hord) i (List.mem_range.2 hil)
    rw [ho] at h1
    by_cases hc : ∀ e ∈ (ops[i]).after, Region.binds .any e = true → l.getD e.on false = true
    · have : i ∈ Region.ready .any ops l := mem_ready.2 ⟨hi, _, ho, hc⟩
      rw [hr] at this
      cases this
    · simp only [Classical.not_forall] at hc
      obtain ⟨e, he, hb, hd⟩ := hc
      have hlt : e.on < i := by
        have := (List.all_eq_true.1 h1) e (by simpa using he)
        simpa using this
      refine ih e.on hlt ?_ hr
      have hel : e.on < l.size := by rw [hsz]; omega
      have h2 : l.getD e.on false = l[e.on] := by simp [Array.getD, hel]
      have h3 : l.getD e.on true = l[e.on] := by simp [Array.getD, hel]
      rw [h2] at hd
      rw [h3]
      simpa using hd
theorem count_done {l : Array Bool} {i : Nat} (h : l.getD i true = false) : (l.setIfInBounds i true).toList.count false + 1 = l.toList.count false := by
  have h1 : l.toList.getD i true = false := by
    have := getD_f.1 h
    rw [List.getD_eq_getElem?_getD]
    simp [this]
  have := cntF_set h1
  unfold cntF at this
  rw [Array.toList_setIfInBounds]
  exact this
theorem wpAnyL_inv {P : Program} {ops : Array Oper} {Q : Exit → Act → World → Prop} {S : World → Prop} {late : Nat → Bool} (I : Array Bool → Act → World → Prop) (hS : ∀ l a w, I l a w → S w) (hsz : ∀ l a w, I l a w → l.size = ops.size)
    (hord : (List.range ops.size).all (fun i => match ops[i]? with | some o => o.after.toList.all (fun e => decide (e.on < i)) | none => true) = true)
    (hend : ∀ l a w, I l a w → (∀ i, i < ops.size → l.getD i true = true) → Q .normal a w)
    (hstep : ∀ (i : Nat) (o : Oper) (l : Array Bool) (a : Act) (w : World), ops[i]? = some o → I l a w → l.getD i true = false → (∀ e ∈ o.after, Region.binds .any e = true → l.getD e.on false = true) → ∀ K : Act → World → Prop, (∀ a' w', I (l.setIfInBounds i true) a' w' → K a' w') → if Region.wanted o (yielded ops a.tmps) = true then Oper.wp P o a w K Q else K (a.put o.dst undef) w) :
    ∀ (n : Nat) (l : Array Bool) (a : Act) (w : World), I l a w → l.toList.count false = n → wpAnyL P ops Q S late n l a w
  | 0, l, a, w, hI, hc => by
    have hall : ∀ i, l.getD i true = true := fun i => by
      cases h : l.getD i true with
      | true => rfl
      | false =>
        have := count_done h
        omega
    refine ⟨?_, hend l a w hI fun i _ => hall i⟩
    rw [List.eq_nil_iff_forall_not_mem]
    intro j hj
    have h1 := (mem_ready.1 hj).1
    rw [hall j] at h1
    cases h1
  | n + 1, l, a, w, hI, hc => by
    refine ⟨fun hr => ?_, fun i hi => ?_⟩
    · exfalso
      have hm : false ∈ l.toList := List.count_pos_iff.1 (by omega)
      obtain ⟨i, hi⟩ := List.getElem?_of_mem hm
      refine ready_some hord (hsz l a w hI) i ?_ hr
      exact getD_f.2 (by simpa using hi)
    · obtain ⟨hu, o, ho, hd⟩ := mem_ready.1 hi
      refine wpOp_step ho fun K' hK' => hstep i o l a w ho hI hu hd K' fun a' w' hI' => hK' a' w' ⟨fun _ => hS _ _ _ hI', wpAnyL_inv I hS hsz hord hend hstep n _ a' w' hI' ?_⟩
      have := count_done hu
      omega
end Go.Proofs.YtogjjmbcbnceoaaGreat
/- Three rows of truths and three boxes, made in any order. -/
namespace Go.Proofs.YtogjjmbcbnceoaaGreat
open Go.RowKit

def mkS (d : Bool) (x : Value) (n : Nat) : Slot := if d then ⟨x, 4, 1, n, (List.replicate n false).map Value.bool⟩ else rowS nilV []
def bxS (d f : Bool) (c : Nat) (y : Value) : Slot := if d then oneS c 53 [if f then y else nilV] else rowS nilV []
/-- What is made so far. -/
structure R4 (W3 wr : World) (n : Nat) (y2 y5 y8 y9 y10 y11 y12 y13 y14 : Bool) (x28 x31 x34 x10 x11 x12 : Value) (c10 c11 c12 : Nat) : Prop where
  hp : Heap wr W3.heap.size [mkS y2 x28 n, mkS y5 x31 n, mkS y8 x34 n, bxS y9 y12 c10 x28, bxS y10 y13 c11 x31, bxS y11 y14 c12 x34]
  bel : Below W3.heap.size W3 wr
  v2 : y2 = true → ∃ g, x28 = slV g n
  v5 : y5 = true → ∃ g, x31 = slV g n
  v8 : y8 = true → ∃ g, x34 = slV g n
  v9 : y9 = true → x10 = ptr c10
  v10 : y10 = true → x11 = ptr c11
  v11 : y11 = true → x12 = ptr c12
  i12 : y12 = true → y2 = true
  i13 : y13 = true → y5 = true
  i14 : y14 = true → y8 = true
  j12 : y12 = true → y9 = true
  j13 : y13 = true → y10 = true
  j14 : y14 = true → y11 = true
theorem R4.start (W3 : World) (n : Nat) (x28 x31 x34 x10 x11 x12 : Value) : R4 W3 W3 n false false false false false false false false false x28 x31 x34 x10 x11 x12 0 0 0 := by
  refine ⟨⟨fun i s hs => ?_, fun i j a b g _ ha _ hg => ?_⟩, Below.refl _ _, by simp, by simp, by simp, by simp, by simp, by simp, by simp, by simp, by simp, by simp, by simp, by simp⟩
  · have : s = rowS nilV [] := by
      have h1 : s ∈ List.replicate 6 (rowS nilV []) := List.mem_of_getElem? hs
      exact List.eq_of_mem_replicate h1
    rw [this]
    exact World.ownsRow_nil _ _ _ _
  · have : a = rowS nilV [] := by
      have h1 : a ∈ List.replicate 6 (rowS nilV []) := List.mem_of_getElem? ha
      exact List.eq_of_mem_replicate h1
    rw [this] at hg
    simp [Value.ownBlock] at hg
theorem R4.drewN {W3 wr : World} {n : Nat} {y2 y5 y8 y9 y10 y11 y12 y13 y14 : Bool} {x28 x31 x34 x10 x11 x12 : Value} {c10 c11 c12 : Nat} (h : R4 W3 wr n y2 y5 y8 y9 y10 y11 y12 y13 y14 x28 x31 x34 x10 x11 x12 c10 c11 c12) : R4 W3 wr.drew n y2 y5 y8 y9 y10 y11 y12 y13 y14 x28 x31 x34 x10 x11 x12 c10 c11 c12 :=
  ⟨h.hp.same rfl, below_drew h.bel, h.v2, h.v5, h.v8, h.v9, h.v10, h.v11, h.i12, h.i13, h.i14, h.j12, h.j13, h.j14⟩
theorem R4.make0 {W3 wr : World} {n : Nat} {y5 y8 y9 y10 y11 y12 y13 y14 : Bool} {x28 x31 x34 x10 x11 x12 : Value} {c10 c11 c12 : Nat} (h : R4 W3 wr n false y5 y8 y9 y10 y11 y12 y13 y14 x28 x31 x34 x10 x11 x12 c10 c11 c12) (hn : n ≤ 2000000) : R4 W3 (wr.alloc (.cells (madeCells #[.bool false] n) 4)) n true y5 y8 y9 y10 y11 y12 y13 y14 (slV wr.heap.size n) x31 x34 x10 x11 x12 c10 c11 c12 := by
  have hi : y12 = false := by
    rcases e : y12 with _ | _
    · rfl
    · have := h.i12 e
      cases this
  subst hi
  have hh := h.hp.turn (i := 0) (s := rowS nilV []) (s' := mkS true (slV wr.heap.size n) n) rfl (fun k hk _ => (below_alloc (Below.refl _ wr) _).block k hk) (by
    have h9 := World.ownsRow_lit (base := W3.heap.size) (e := 4) (size := 1) wr (madeCells #[.bool false] n) n h.bel.size (by unfold maxLen; omega) (by simp [size_madeCells])
    rw [made_bools] at h9
    exact h9) (fun g hg => .inr (by simp [mkS, Value.ownBlock] at hg; omega))
  exact ⟨hh, below_alloc h.bel _, fun _ => ⟨_, rfl⟩, h.v5, h.v8, h.v9, h.v10, h.v11, fun _ => rfl, h.i13, h.i14, by simp, h.j13, h.j14⟩
theorem R4.make1 {W3 wr : World} {n : Nat} {y2 y8 y9 y10 y11 y12 y13 y14 : Bool} {x28 x31 x34 x10 x11 x12 : Value} {c10 c11 c12 : Nat} (h : R4 W3 wr n y2 false y8 y9 y10 y11 y12 y13 y14 x28 x31 x34 x10 x11 x12 c10 c11 c12) (hn : n ≤ 2000000) : R4 W3 (wr.alloc (.cells (madeCells #[.bool false] n) 4)) n y2 true y8 y9 y10 y11 y12 y13 y14 x28 (slV wr.heap.size n) x34 x10 x11 x12 c10 c11 c12 := by
  have hi : y13 = false := by
    rcases e : y13 with _ | _
    · rfl
    · have := h.i13 e
      cases this
  subst hi
  have hh := h.hp.turn (i := 1) (s := rowS nilV []) (s' := mkS true (slV wr.heap.size n) n) rfl (fun k hk _ => (below_alloc (Below.refl _ wr) _).block k hk) (by
    have h9 := World.ownsRow_lit (base := W3.heap.size) (e := 4) (size := 1) wr (madeCells #[.bool false] n) n h.bel.size (by unfold maxLen; omega) (by simp [size_madeCells])
    rw [made_bools] at h9
    exact h9) (fun g hg => .inr (by simp [mkS, Value.ownBlock] at hg; omega))
  exact ⟨hh, below_alloc h.bel _, h.v2, fun _ => ⟨_, rfl⟩, h.v8, h.v9, h.v10, h.v11, h.i12, fun _ => rfl, h.i14, h.j12, by simp, h.j14⟩
theorem R4.make2 {W3 wr : World} {n : Nat} {y2 y5 y9 y10 y11 y12 y13 y14 : Bool} {x28 x31 x34 x10 x11 x12 : Value} {c10 c11 c12 : Nat} (h : R4 W3 wr n y2 y5 false y9 y10 y11 y12 y13 y14 x28 x31 x34 x10 x11 x12 c10 c11 c12) (hn : n ≤ 2000000) : R4 W3 (wr.alloc (.cells (madeCells #[.bool false] n) 4)) n y2 y5 true y9 y10 y11 y12 y13 y14 x28 x31 (slV wr.heap.size n) x10 x11 x12 c10 c11 c12 := by
  have hi : y14 = false := by
    rcases e : y14 with _ | _
    · rfl
    · have := h.i14 e
      cases this
  subst hi
  have hh := h.hp.turn (i := 2) (s := rowS nilV []) (s' := mkS true (slV wr.heap.size n) n) rfl (fun k hk _ => (below_alloc (Below.refl _ wr) _).block k hk) (by
    have h9 := World.ownsRow_lit (base := W3.heap.size) (e := 4) (size := 1) wr (madeCells #[.bool false] n) n h.bel.size (by unfold maxLen; omega) (by simp [size_madeCells])
    rw [made_bools] at h9
    exact h9) (fun g hg => .inr (by simp [mkS, Value.ownBlock] at hg; omega))
  exact ⟨hh, below_alloc h.bel _, h.v2, h.v5, fun _ => ⟨_, rfl⟩, h.v9, h.v10, h.v11, h.i12, h.i13, fun _ => rfl, h.j12, h.j13, by simp⟩
theorem R4.box0 {W3 wr : World} {n : Nat} {y2 y5 y8 y10 y11 y13 y14 : Bool} {x28 x31 x34 x10 x11 x12 : Value} {c10 c11 c12 : Nat} (h : R4 W3 wr n y2 y5 y8 false y10 y11 false y13 y14 x28 x31 x34 x10 x11 x12 c10 c11 c12) : R4 W3 (wr.alloc (.cells #[.slice none 0 0] 53)) n y2 y5 y8 true y10 y11 false y13 y14 x28 x31 x34 (ptr wr.heap.size) x11 x12 wr.heap.size c11 c12 := by
  have hh := h.hp.turn (i := 3) (s := rowS nilV []) (s' := bxS true false wr.heap.size x28) rfl (fun k hk _ => (below_alloc (Below.refl _ wr) _).block k hk) (World.ownsRow_lit (base := W3.heap.size) (e := 53) (size := 1) wr #[.slice none 0 0] 1 h.bel.size (by unfold maxLen; omega) (by simp)) (fun g hg => .inr (by simp [bxS, Value.ownBlock] at hg; omega))
  exact ⟨hh, below_alloc h.bel _, h.v2, h.v5, h.v8, fun _ => rfl, h.v10, h.v11, by simp, h.i13, h.i14, by simp, h.j13, h.j14⟩
theorem R4.cell0 {W3 wr : World} {n : Nat} {y5 y8 y10 y11 y13 y14 : Bool} {x28 x31 x34 x10 x11 x12 : Value} {c10 c11 c12 : Nat} (h : R4 W3 wr n true y5 y8 true y10 y11 false y13 y14 x28 x31 x34 x10 x11 x12 c10 c11 c12) : wr.cell? ⟨c10, 0, none⟩ = some nilV ∧ wr.frozen? ⟨c10, 0, none⟩ = false :=
  ⟨h.hp.cell (i := 3) (g := c10) (n := 1) (c := 1) (e := 53) (sz := 1) (cs := [nilV]) rfl (j := 0) rfl, h.hp.fz (i := 3) (g := c10) (n := 1) (c := 1) (e := 53) (sz := 1) (cs := [nilV]) rfl 0⟩
theorem R4.fill0 {W3 wr : World} {n : Nat} {y5 y8 y10 y11 y13 y14 : Bool} {x28 x31 x34 x10 x11 x12 : Value} {c10 c11 c12 : Nat} (h : R4 W3 wr n true y5 y8 true y10 y11 false y13 y14 x28 x31 x34 x10 x11 x12 c10 c11 c12) : R4 W3 (wr.setCell ⟨c10, 0, none⟩ x28) n true y5 y8 true y10 y11 true y13 y14 x28 x31 x34 x10 x11 x12 c10 c11 c12 := by
  have hl := h.hp.lt (i := 3) (g := c10) (n := 1) (c := 1) (e := 53) (sz := 1) (cs := [nilV]) rfl
  have hh := h.hp.store (i := 3) (g := c10) (n := 1) (c := 1) (e := 53) (sz := 1) (cs := [nilV]) rfl 0 x28
  exact ⟨hh, below_set h.bel hl.1 _ _, h.v2, h.v5, h.v8, h.v9, h.v10, h.v11, fun _ => rfl, h.i13, h.i14, fun _ => rfl, h.j13, h.j14⟩
theorem R4.box1 {W3 wr : World} {n : Nat} {y2 y5 y8 y9 y11 y12 y14 : Bool} {x28 x31 x34 x10 x11 x12 : Value} {c10 c11 c12 : Nat} (h : R4 W3 wr n y2 y5 y8 y9 false y11 y12 false y14 x28 x31 x34 x10 x11 x12 c10 c11 c12) : R4 W3 (wr.alloc (.cells #[.slice none 0 0] 53)) n y2 y5 y8 y9 true y11 y12 false y14 x28 x31 x34 x10 (ptr wr.heap.size) x12 c10 wr.heap.size c12 := by
  have hh := h.hp.turn (i := 4) (s := rowS nilV []) (s' := bxS true false wr.heap.size x31) rfl (fun k hk _ => (below_alloc (Below.refl _ wr) _).block k hk) (World.ownsRow_lit (base := W3.heap.size) (e := 53) (size := 1) wr #[.slice none 0 0] 1 h.bel.size (by unfold maxLen; omega) (by simp)) (fun g hg => .inr (by simp [bxS, Value.ownBlock] at hg; omega))
  exact ⟨hh, below_alloc h.bel _, h.v2, h.v5, h.v8, h.v9, fun _ => rfl, h.v11, h.i12, by simp, h.i14, h.j12, by simp, h.j14⟩
theorem R4.cell1 {W3 wr : World} {n : Nat} {y2 y8 y9 y11 y12 y14 : Bool} {x28 x31 x34 x10 x11 x12 : Value} {c10 c11 c12 : Nat} (h : R4 W3 wr n y2 true y8 y9 true y11 y12 false y14 x28 x31 x34 x10 x11 x12 c10 c11 c12) : wr.cell? ⟨c11, 0, none⟩ = some nilV ∧ wr.frozen? ⟨c11, 0, none⟩ = false :=
  ⟨h.hp.cell (i := 4) (g := c11) (n := 1) (c := 1) (e := 53) (sz := 1) (cs := [nilV]) rfl (j := 0) rfl, h.hp.fz (i := 4) (g := c11) (n := 1) (c := 1) (e := 53) (sz := 1) (cs := [nilV]) rfl 0⟩
theorem R4.fill1 {W3 wr : World} {n : Nat} {y2 y8 y9 y11 y12 y14 : Bool} {x28 x31 x34 x10 x11 x12 : Value} {c10 c11 c12 : Nat} (h : R4 W3 wr n y2 true y8 y9 true y11 y12 false y14 x28 x31 x34 x10 x11 x12 c10 c11 c12) : R4 W3 (wr.setCell ⟨c11, 0, none⟩ x31) n y2 true y8 y9 true y11 y12 true y14 x28 x31 x34 x10 x11 x12 c10 c11 c12 := by
  have hl := h.hp.lt (i := 4) (g := c11) (n := 1) (c := 1) (e := 53) (sz := 1) (cs := [nilV]) rfl
  have hh := h.hp.store (i := 4) (g := c11) (n := 1) (c := 1) (e := 53) (sz := 1) (cs := [nilV]) rfl 0 x31
  exact ⟨hh, below_set h.bel hl.1 _ _, h.v2, h.v5, h.v8, h.v9, h.v10, h.v11, h.i12, fun _ => rfl, h.i14, h.j12, fun _ => rfl, h.j14⟩
theorem R4.box2 {W3 wr : World} {n : Nat} {y2 y5 y8 y9 y10 y12 y13 : Bool} {x28 x31 x34 x10 x11 x12 : Value} {c10 c11 c12 : Nat} (h : R4 W3 wr n y2 y5 y8 y9 y10 false y12 y13 false x28 x31 x34 x10 x11 x12 c10 c11 c12) : R4 W3 (wr.alloc (.cells #[.slice none 0 0] 53)) n y2 y5 y8 y9 y10 true y12 y13 false x28 x31 x34 x10 x11 (ptr wr.heap.size) c10 c11 wr.heap.size := by
  have hh := h.hp.turn (i := 5) (s := rowS nilV []) (s' := bxS true false wr.heap.size x34) rfl (fun k hk _ => (below_alloc (Below.refl _ wr) _).block k hk) (World.ownsRow_lit (base := W3.heap.size) (e := 53) (size := 1) wr #[.slice none 0 0] 1 h.bel.size (by unfold maxLen; omega) (by simp)) (fun g hg => .inr (by simp [bxS, Value.ownBlock] at hg; omega))
  exact ⟨hh, below_alloc h.bel _, h.v2, h.v5, h.v8, h.v9, h.v10, fun _ => rfl, h.i12, h.i13, by simp, h.j12, h.j13, by simp⟩
theorem R4.cell2 {W3 wr : World} {n : Nat} {y2 y5 y9 y10 y12 y13 : Bool} {x28 x31 x34 x10 x11 x12 : Value} {c10 c11 c12 : Nat} (h : R4 W3 wr n y2 y5 true y9 y10 true y12 y13 false x28 x31 x34 x10 x11 x12 c10 c11 c12) : wr.cell? ⟨c12, 0, none⟩ = some nilV ∧ wr.frozen? ⟨c12, 0, none⟩ = false :=
  ⟨h.hp.cell (i := 5) (g := c12) (n := 1) (c := 1) (e := 53) (sz := 1) (cs := [nilV]) rfl (j := 0) rfl, h.hp.fz (i := 5) (g := c12) (n := 1) (c := 1) (e := 53) (sz := 1) (cs := [nilV]) rfl 0⟩
theorem R4.fill2 {W3 wr : World} {n : Nat} {y2 y5 y9 y10 y12 y13 : Bool} {x28 x31 x34 x10 x11 x12 : Value} {c10 c11 c12 : Nat} (h : R4 W3 wr n y2 y5 true y9 y10 true y12 y13 false x28 x31 x34 x10 x11 x12 c10 c11 c12) : R4 W3 (wr.setCell ⟨c12, 0, none⟩ x34) n y2 y5 true y9 y10 true y12 y13 true x28 x31 x34 x10 x11 x12 c10 c11 c12 := by
  have hl := h.hp.lt (i := 5) (g := c12) (n := 1) (c := 1) (e := 53) (sz := 1) (cs := [nilV]) rfl
  have hh := h.hp.store (i := 5) (g := c12) (n := 1) (c := 1) (e := 53) (sz := 1) (cs := [nilV]) rfl 0 x34
  exact ⟨hh, below_set h.bel hl.1 _ _, h.v2, h.v5, h.v8, h.v9, h.v10, h.v11, h.i12, h.i13, fun _ => rfl, h.j12, h.j13, fun _ => rfl⟩
end Go.Proofs.YtogjjmbcbnceoaaGreat
