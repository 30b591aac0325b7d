/- What Joins begins with. -/
import Derived.Test.YtogjjmbcbnceoaaGreatDJw6M
import Derived.Test.YtogjjmbcbnceoaaGreatDR4M
namespace Go.Proofs.YtogjjmbcbnceoaaGreat
open Go.RowKit

theorem heap_nils {w : World} {base : Nat} {ss : List Slot} (h : ∀ s ∈ ss, s = rowS nilV []) : Heap w base ss :=
  ⟨fun i s hs => by rw [h s (List.mem_of_getElem? hs)]; exact World.ownsRow_nil _ _ _ _, fun i j a b g _ ha _ hg => by rw [h a (List.mem_of_getElem? ha)] at hg; simp [Value.ownBlock] at hg⟩
theorem zip_nils (n : Nat) : ∀ s ∈ List.zipWith rowS (List.replicate n nilV) (List.replicate n ([] : List Int)), s = rowS nilV [] := fun s hs => by
  rw [List.zipWith_replicate] at hs
  exact List.eq_of_mem_replicate hs
abbrev wW3 (W1 : World) : World := (W1.alloc (.map #[] 0)).alloc (.cells #[.map (some W1.heap.size)] 128)
theorem wW3_size (W1 : World) : (wW3 W1).heap.size = W1.heap.size + 2 := by simp
theorem joined_init {nx : List (List Int)} {W1 wr w0 : World} {n : Nat} {gw gg gj b10 b11 b12 b3 b7 b8 D : Nat} {v uv : Value} (hn : n = nx.length) (h : R4 (wW3 W1) wr n true true true true true true true true true (slV gw n) (slV gg n) (slV gj n) (ptr b10) (ptr b11) (ptr b12) b10 b11 b12)
    (hw0 : w0 = wr.alloc (.cells #[.func (.func 86) #[] #[ptr b10, ptr b8, ptr (W1.heap.size + 1)]] 89))
    (l3 : b3 < W1.heap.size) (l7 : b7 < W1.heap.size) (l8 : b8 < W1.heap.size) (lD : D < W1.heap.size) (c3 : W1.cell? ⟨b3, 0, none⟩ = some v) (c7 : W1.cell? ⟨b7, 0, none⟩ = some uv) (c8 : W1.cell? ⟨b8, 0, none⟩ = some (slV D n)) (hN : NetAt W1 v nx) (hU : NetAt W1 uv (undL nx)) (hD : ∀ x, x < nx.length → W1.cell? ⟨D, x, none⟩ = some (.int .i64 (dep nx x))) :
    JE nx W1 w0 W1.heap.size gw gg gj b3 b7 b8 (W1.heap.size + 1) b10 b11 b12 wr.heap.size D v uv ∧ JM w0 w0 W1.heap.size gw gg gj n (List.replicate n false) (List.replicate n false) (List.replicate n false) (List.replicate n nilV) (List.replicate n []) nilV [] nilV [] := by
  have s3 := wW3_size W1
  have hb1 : Below W1.heap.size W1 (W1.alloc (.map #[] 0)) := below_alloc (Below.refl _ _) _
  have hb2 : Below (W1.alloc (.map #[] 0)).heap.size (W1.alloc (.map #[] 0)) (wW3 W1) := below_alloc (Below.refl _ _) _
  have hb3 : Below W1.heap.size W1 (wW3 W1) := below_trans hb1 hb2
  have hb4 : Below W1.heap.size W1 wr := below_trans hb3 h.bel
  have hb0 : Below wr.heap.size wr w0 := by rw [hw0]; exact below_alloc (Below.refl _ _) _
  have hb5 : Below W1.heap.size W1 w0 := below_trans hb4 hb0
  have s0 : w0.heap.size = wr.heap.size + 1 := by rw [hw0]; simp
  have o0 := h.hp.own 0 _ rfl
  have o1 := h.hp.own 1 _ rfl
  have o2 := h.hp.own 2 _ rfl
  have o3 := h.hp.own 3 _ rfl
  have o4 := h.hp.own 4 _ rfl
  have o5 := h.hp.own 5 _ rfl
  have e0 := World.ownsRow.lt o0 gw rfl
  have e1 := World.ownsRow.lt o1 gg rfl
  have e2 := World.ownsRow.lt o2 gj rfl
  have e3 := World.ownsRow.lt o3 b10 rfl
  have e4 := World.ownsRow.lt o4 b11 rfl
  have e5 := World.ownsRow.lt o5 b12 rfl
  have ap : ∀ (i j : Nat) (a b : Slot) (g1 g2 : Nat), i ≠ j → [mkS true (slV gw n) n, mkS true (slV gg n) n, mkS true (slV gj n) n, bxS true true b10 (slV gw n), bxS true true b11 (slV gg n), bxS true true b12 (slV gj n)][i]? = some a → [mkS true (slV gw n) n, mkS true (slV gg n) n, mkS true (slV gj n) n, bxS true true b10 (slV gw n), bxS true true b11 (slV gg n), bxS true true b12 (slV gj n)][j]? = some b → a.v.ownBlock = some g1 → b.v.ownBlock = some g2 → g1 ≠ g2 := fun i j a b g1 g2 hij ha hb h1 h2 e => by
    subst e
    exact h.hp.apart i j a b g1 hij ha hb h1 h2
  have a01 : gw ≠ gg := ap 0 1 _ _ gw gg (by decide) rfl rfl rfl rfl
  have a02 : gw ≠ gj := ap 0 2 _ _ gw gj (by decide) rfl rfl rfl rfl
  have a12 : gg ≠ gj := ap 1 2 _ _ gg gj (by decide) rfl rfl rfl rfl
  have a30 : b10 ≠ gw := ap 3 0 _ _ b10 gw (by decide) rfl rfl rfl rfl
  have a31 : b10 ≠ gg := ap 3 1 _ _ b10 gg (by decide) rfl rfl rfl rfl
  have a32 : b10 ≠ gj := ap 3 2 _ _ b10 gj (by decide) rfl rfl rfl rfl
  have a40 : b11 ≠ gw := ap 4 0 _ _ b11 gw (by decide) rfl rfl rfl rfl
  have a41 : b11 ≠ gg := ap 4 1 _ _ b11 gg (by decide) rfl rfl rfl rfl
  have a42 : b11 ≠ gj := ap 4 2 _ _ b11 gj (by decide) rfl rfl rfl rfl
  have a50 : b12 ≠ gw := ap 5 0 _ _ b12 gw (by decide) rfl rfl rfl rfl
  have a51 : b12 ≠ gg := ap 5 1 _ _ b12 gg (by decide) rfl rfl rfl rfl
  have a52 : b12 ≠ gj := ap 5 2 _ _ b12 gj (by decide) rfl rfl rfl rfl
  have hw := h.bel.size
  have boxc : ∀ (i b : Nat) (y : Value), [mkS true (slV gw n) n, mkS true (slV gg n) n, mkS true (slV gj n) n, bxS true true b10 (slV gw n), bxS true true b11 (slV gg n), bxS true true b12 (slV gj n)][i]? = some (oneS b 53 [y]) → w0.cell? ⟨b, 0, none⟩ = some y := fun i b y hi => by
    have h1 := h.hp.cell (i := i) (g := b) (n := 1) (c := 1) (e := 53) (sz := 1) (cs := [y]) hi (j := 0) rfl
    have h2 := (h.hp.lt (i := i) (g := b) (n := 1) (c := 1) (e := 53) (sz := 1) (cs := [y]) hi).2
    exact (hb0.cell (p := ⟨b, 0, none⟩) h2).trans h1
  have k9 : (wW3 W1).cell? ⟨W1.heap.size + 1, 0, none⟩ = some (.map (some W1.heap.size)) := by
    have h9 := (Box.new (W1.alloc (.map #[] 0)) [.map (some W1.heap.size)] 128).cell 0 _ rfl
    rw [show (W1.alloc (.map #[] 0)).heap.size = W1.heap.size + 1 by simp] at h9
    exact h9
  have k9' : w0.cell? ⟨W1.heap.size + 1, 0, none⟩ = some (.map (some W1.heap.size)) := (hb0.cell (p := ⟨W1.heap.size + 1, 0, none⟩) (show W1.heap.size + 1 < wr.heap.size by omega)).trans ((h.bel.cell (p := ⟨W1.heap.size + 1, 0, none⟩) (show W1.heap.size + 1 < (wW3 W1).heap.size by omega)).trans k9)
  have k13 : w0.cell? ⟨wr.heap.size, 0, none⟩ = some (.func (.func 86) #[] #[ptr b10, ptr b8, ptr (W1.heap.size + 1)]) := by
    rw [hw0]
    exact (Box.new wr [.func (.func 86) #[] #[ptr b10, ptr b8, ptr (W1.heap.size + 1)]] 89).cell 0 _ rfl
  constructor
  · exact ⟨hb5, Nat.le_refl _, by omega, by omega, by omega, by refine ⟨?_, ?_, ?_, ?_, ?_⟩ <;> omega, by refine ⟨?_, ?_, ?_, ?_, ?_⟩ <;> omega, by refine ⟨?_, ?_, ?_, ?_, ?_⟩ <;> omega, by refine ⟨?_, ?_, ?_, ?_, ?_⟩ <;> omega, by refine ⟨?_, ?_, ?_, ?_, ?_⟩ <;> omega, k9', by rw [← hn]; exact boxc 3 b10 _ rfl, by rw [← hn]; exact boxc 4 b11 _ rfl, by rw [← hn]; exact boxc 5 b12 _ rfl, k13, l3, l7, l8, lD, c3, c7, by rw [← hn]; exact c8, hN, hU, hD⟩
  · have m1 := MapIn.new W1 n
    have gnone : ∀ {a b : World}, Below a.heap.size a b → a.grownBy b none := fun hb => ⟨hb.os, hb.tape, hb.output, hb.size, fun k hk _ => hb.block k hk⟩
    have m2 := ((m1.kept (gnone hb2) (by simp)).kept (gnone h.bel) (by simp)).kept (gnone hb0) (by simp)
    refine ⟨m2, ?_, fun x hx g hg => ?_, fun _ _ _ _ _ _ => rfl, Nat.le_refl _, rfl, rfl, rfl⟩
    · have hz : Heap w0 0 (rowS nilV [] :: rowS nilV [] :: List.zipWith rowS (List.replicate n nilV) (List.replicate n [])) := heap_nils fun s hs => by
        rcases List.mem_cons.1 hs with e | hs
        · exact e
        rcases List.mem_cons.1 hs with e | hs
        · exact e
        · exact zip_nils n s hs
      have nilf : ∀ (g : Nat), ∀ t ∈ (rowS nilV [] :: rowS nilV [] :: List.zipWith rowS (List.replicate n nilV) (List.replicate n [])), t.v.ownBlock ≠ some g := fun g t ht => by
        have : t = rowS nilV [] := by
          rcases List.mem_cons.1 ht with e | ht
          · exact e
          rcases List.mem_cons.1 ht with e | ht
          · exact e
          · exact zip_nils n t ht
        rw [this]
        simp [Value.ownBlock]
      have ob : ∀ {g x : Nat} {l : List Bool}, (boolS g n l).v.ownBlock = some x → g = x := fun h => by simpa [Value.ownBlock] using h
      have c2 := Heap.cons (s := boolS gj n (List.replicate n false)) (own_mono (owns_below o2 hb0) (Nat.zero_le _)) (fun t ht g _ => nilf g t ht) hz
      have c1 := Heap.cons (s := boolS gg n (List.replicate n false)) (own_mono (owns_below o1 hb0) (Nat.zero_le _)) (fun t ht g hg e => by
        have h1 := ob hg
        rcases List.mem_cons.1 ht with rfl | ht
        · have := ob e; omega
        · exact nilf g t ht e) c2
      exact Heap.cons (s := boolS gw n (List.replicate n false)) (own_mono (owns_below o0 hb0) (Nat.zero_le _)) (fun t ht g hg e => by
        have h1 := ob hg
        rcases List.mem_cons.1 ht with rfl | ht
        · have := ob e; omega
        rcases List.mem_cons.1 ht with rfl | ht
        · have := ob e; omega
        · exact nilf g t ht e) c1
    · have : x = nilV := by
        rcases hx with e | e | hx
        · exact e
        · exact e
        · exact List.eq_of_mem_replicate hx
      rw [this] at hg
      simp [Value.ownBlock] at hg
end Go.Proofs.YtogjjmbcbnceoaaGreat
