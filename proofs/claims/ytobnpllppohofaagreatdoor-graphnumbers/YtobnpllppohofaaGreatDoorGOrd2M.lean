/- The library's sorting, compacting and turning round, of a row of one's own; what follows a block. -/
import Derived.Test.YtobnpllppohofaaGreatDoorGBoxM
import Derived.Test.YtobnpllppohofaaGreatDoorShelf
import Derived.Sort.OwnSortedInts
import Derived.Test.YtobnpllppohofaaGreatDoorGTrQM
import Derived.Deep.OwnRows
namespace Go.Proofs.YtobnpllppohofaaGreatDoor
open Go.RowKit Go.Sort

theorem grow_none (w : World) : grow w #[] = w := by simp [grow]
theorem grownBy_refl (w : World) (r : Option Nat) : w.grownBy w r := ⟨rfl, rfl, rfl, Nat.le_refl _, fun _ _ _ => rfl⟩
theorem sort_own {w : World} {base : Nat} {v : Value} {l : List Int} (h : OwnI w base v l) (hl : l.length ≤ 1000000000) :
  Calls Tryz.prog 47 #[v] w fun e w' => e = .returned (.tuple #[]) ∧ OwnI w' base v (l.mergeSort fun x y => decide (x ≤ y)) ∧ w.grownBy w' v.ownBlock := by
 rcases h.2 with ⟨rfl, h0⟩ | ⟨g, cap, cur, rfl, h1, hh, h2, h3, h4, h5⟩
 ·have hn : l = [] := List.eq_nil_of_length_eq_zero h0
  subst hn
  refine (Tryz.slices_Sort_int_none none 0 w).mono ?_
  rintro e w' ⟨rfl, rfl⟩
  exact ⟨rfl, by simpa using h, grownBy_refl _ _⟩
 ·have hH := holds_of_blockI hh (by simpa using h5)
  refine (Tryz.slices_Sort_int g 0 cap l w hH (Array.getElem?_eq_some_iff.1 hh).1 (by omega)).mono ?_
  rintro e w' ⟨rfl, n, os, rfl⟩
  refine ⟨rfl, ?_, grownBy_sortedI _⟩
  have := ownsRow_sortedI (ts := l.mergeSort fun x y => decide (x ≤ y)) (n := n) (os := os) (by simp) h1 hh h2 h3 h4
  show World.ownsRow _ _ _ _ _ _ _
  rw [List.length_mergeSort]
  exact this
theorem reverse_own {w : World} {base : Nat} {v : Value} {l : List Int} (h : OwnI w base v l) (hl : l.length ≤ 1000000000) :
  Calls Tryz.prog 38 #[v] w fun e w' => e = .returned (.tuple #[]) ∧ OwnI w' base v l.reverse ∧ w.grownBy w' v.ownBlock := by
 rcases h.2 with ⟨rfl, h0⟩ | ⟨g, cap, cur, rfl, h1, hh, h2, h3, h4, h5⟩
 ·have hn : l = [] := List.eq_nil_of_length_eq_zero h0
  subst hn
  refine (Tryz.slices_Reverse_int_empty none 0 w).mono ?_
  rintro e w' ⟨rfl, rfl⟩
  exact ⟨rfl, by simpa using h, grownBy_refl _ _⟩
 ·have hH := holds_of_blockI hh (by simpa using h5)
  refine (Tryz.slices_Reverse_int g 0 cap l w hH (by omega)).mono ?_
  rintro e w' ⟨rfl, n, rfl⟩
  rw [← grow_none (putRow _ _ _ _ _)]
  refine ⟨rfl, ?_, grownBy_sortedI _⟩
  have := ownsRow_sortedI (ts := l.reverse) (n := n) (os := #[]) (by simp) h1 hh h2 h3 h4
  show World.ownsRow _ _ _ _ _ _ _
  rw [List.length_reverse]
  exact this
theorem compact_own {w : World} {base : Nat} {v : Value} {l : List Int} (h : OwnI w base v l) (hl : l.length ≤ 1000000000) :
  Calls Tryz.prog 48 #[v] w fun e w' => ∃ v', e = .returned v' ∧ OwnI w' base v' (Lib.compact l) ∧ w.grownBy w' v.ownBlock ∧ v'.ownBlock = v.ownBlock := by
 rcases h.2 with ⟨rfl, h0⟩ | ⟨g, cap, cur, rfl, h1, hh, h2, h3, h4, h5⟩
 ·have hn : l = [] := List.eq_nil_of_length_eq_zero h0
  subst hn
  refine (Tryz.slices_Compact_int_empty none 0 w).mono ?_
  rintro e w' ⟨rfl, rfl⟩
  exact ⟨_, rfl, by simpa [Lib.compact, Lib.compactUpTo] using h, grownBy_refl _ _, rfl⟩
 ·have hH := holds_of_blockI hh (by simpa using h5)
  refine (Tryz.slices_Compact_int g 0 cap l w hH (by omega) h2).mono ?_
  rintro e w' ⟨rfl, n, rfl⟩
  rw [← grow_none (putRow _ _ _ _ _)]
  have hle := Lib.compact_length_le l
  refine ⟨_, rfl, ?_, grownBy_sortedI _, rfl⟩
  have := ownsRow_sortedI (ts := Lib.compact l ++ List.replicate (l.length - (Lib.compact l).length) 0) (n := n) (os := #[]) (by simp; omega) h1 hh h2 h3 h4
  show World.ownsRow _ _ _ _ _ _ _
  refine ⟨by simp, ?_⟩
  rcases this.2 with ⟨hx, _⟩ | ⟨g', cap', cur', hv, k1, kk, k2, k3, k4, k5⟩
  ·cases hx
  ·injection hv with e1 e2 e3
   cases e1
   subst e3
   refine .inr ⟨g, cap, cur', rfl, k1, kk, by omega, k3, k4, ?_⟩
   have h6 := congrArg (List.take (Lib.compact l).length) k5
   rw [List.take_take, Nat.min_eq_left (by omega), List.map_append] at h6
   rw [Nat.mul_one, h6, List.take_left' (by simp)]
theorem compact_sort (t : Tm) : Lib.compact ((namedT t).mergeSort fun x y => decide (x ≤ y)) = nextT t := by
 unfold namedT nextT
 have c0 : Lib.compact ([] : List Int) = [] := rfl
 have c1 : ∀ x : Int, Lib.compact [x] = [x] := fun x => by simp [Lib.compact, Lib.compactUpTo, List.range_succ, Lib.keeps]
 have c2 : ∀ x y : Int, Lib.compact [x, y] = if x = y then [x] else [x, y] := fun x y => by
  by_cases h : x = y
  ·subst h; simp [Lib.compact, Lib.compactUpTo, List.range_succ, Lib.keeps]
  ·have h' : ¬ y = x := fun e => h e.symm
   simp [Lib.compact, Lib.compactUpTo, List.range_succ, Lib.keeps, h, h']
 have s2 : ∀ x y : Int, [x, y].mergeSort (fun a b => decide (a ≤ b)) = if x ≤ y then [x, y] else [y, x] := fun x y => by
  by_cases h : x ≤ y <;> simp [List.mergeSort, List.MergeSort.Internal.splitInTwo, h]
 by_cases h1 : t.kind = 1
 ·simp only [h1, if_true, List.mergeSort_singleton, c1]
 ·by_cases h2 : t.kind = 2
  ·simp only [h2, if_true, show ¬ ((2 : Int) = 1) by omega, if_false, s2]
   by_cases e : t.t0 = t.t1
   ·simp [e, c2]
   ·by_cases l : t.t0 ≤ t.t1
    ·have : t.t0 < t.t1 := by omega
     simp [e, l, c2, this]
    ·have : ¬ t.t0 < t.t1 := by omega
     have e' : ¬ t.t1 = t.t0 := fun x => e x.symm
     simp [e, l, c2, this, e']
  ·simp only [h1, h2, if_false, List.mergeSort_nil, c0]
abbrev blArr (iv : Value) (t : Tm) : Array Value := #[iv, .int .u8 t.kind, .int .i64 t.arg, .int .i64 t.t0, .int .i64 t.t1, .int .u8 t.trap]
theorem named_len (t : Tm) : (namedT t).length ≤ 2 := by
 unfold namedT
 repeat' split
 all_goals simp
theorem below_grown {w w1 w2 : World} {row : Option Nat} (h : Below w.heap.size w w1) (hg : w1.grownBy w2 row) (hr : ∀ g, row = some g → w.heap.size ≤ g) : Below w.heap.size w w2 :=
 ⟨hg.os.trans h.os, hg.tape.trans h.tape, hg.output.trans h.output, Nat.le_trans h.size hg.size, fun k hk => (hg.block k (Nat.lt_of_lt_of_le hk h.size) (fun e => by have := hr k e.symm; omega)).trans (h.block k hk)⟩
theorem next_any (iv : Value) (t : Tm) (w : World) : Calls Tryz.prog 19 #[.agg (blArr iv t)] w fun e w' => ∃ v, e = .returned v ∧ OwnI w' w.heap.size v (nextT t) ∧ Below w.heap.size w w' := by
 have hN := fun W => named_any t W
 have hS : Hid (∀ (W : World) (v : Value), OwnI W w.heap.size v (namedT t) → _) := fun W v h => sort_own h (by have := named_len t; omega)
 have hC : Hid (∀ (W : World) (v : Value), OwnI W w.heap.size v ((namedT t).mergeSort fun x y => decide (x ≤ y)) → _) := fun W v h => compact_own h (by have := named_len t; simp; omega)
 have hX := compact_sort t
 rw [← hX]
 clear hX
 generalize (namedT t).mergeSort (fun x y => decide (x ≤ y)) = l2 at *
 generalize namedT t = l1 at *
 generalize Lib.compact l2 = l3 at *
 obtain ⟨k, a, x, y, z⟩ := t
 have HN : Hid (∀ W, Calls Tryz.prog 36 #[.agg #[.int .u8 k, .int .i64 a, .int .i64 x, .int .i64 y, .int .u8 z]] W fun e w' => ∃ v, e = .returned v ∧ OwnI w' W.heap.size v l1 ∧ Below W.heap.size W w') := hN
 show Calls _ _ #[.agg #[iv, .int .u8 k, .int .i64 a, .int .i64 x, .int .i64 y, .int .u8 z]] _ _
 have HB : Hid (Below w.heap.size w (w.alloc (.cells #[iv, .int .u8 k, .int .i64 a, .int .i64 x, .int .i64 y, .int .u8 z] 49))) := below_alloc (Below.refl _ _) _
 clear hN
 go_enter Tryz.func19, Tryz.ntmps19
 go_wp2_with (first
  | (go_at_call 36; refine Calls.mono (HN.out _) ?_; rintro e w1 ⟨v, rfl, ho1, hb1⟩; have HO1 : Hid (OwnI w1 w.heap.size v l1) := own_mono ho1 HB.out.size; have HB1 : Hid (Below w.heap.size w w1) := below_trans HB.out hb1; clear ho1 hb1)
  | (go_at_call 47; refine (hS.out _ _ HO1.out).mono ?_; rintro e w2 ⟨rfl, ho2, hg2⟩; have HO2 : Hid _ := ho2; have HG2 : Hid _ := hg2; clear ho2 hg2)
  | (go_at_call 48; refine (hC.out _ _ HO2.out).mono ?_; rintro e w3 ⟨v3, rfl, ho3, hg3, hb3⟩; have HO3 : Hid _ := ho3; have HG3 : Hid _ := hg3; clear ho3 hg3 hb3))
 go_ret
 refine ⟨v3, rfl, HO3.out, ?_⟩
 have hr : ∀ g, v.ownBlock = some g → w.heap.size ≤ g := fun g hg => (HO1.out.lt g hg).1
 exact below_grown (below_grown HB1.out HG2.out hr) HG3.out hr
end Go.Proofs.YtobnpllppohofaaGreatDoor
/- Rows of rows in memory of one's own. -/
namespace Go.Proofs.YtobnpllppohofaaGreatDoor
open Go.RowKit

structure RowsIn (w : World) (base G n : Nat) (kvs : List Value) (rows : List (List Int)) : Prop where
 klen : kvs.length = n
 rlen : rows.length = n
 own : w.ownsRow base 22 1 (.slice (some ⟨G, 0, none⟩) n n) n kvs
 kid : ∀ (i : Nat) (r : List Int) (kv : Value), rows[i]? = some r → kvs[i]? = some kv → OwnI w base kv r ∧ kv.ownBlock ≠ some G
 apart : ∀ (i j : Nat) (a b : Value) (g : Nat), i ≠ j → kvs[i]? = some a → kvs[j]? = some b → a.ownBlock = some g → b.ownBlock ≠ some g
theorem RowsIn.below {w w' : World} {base G n : Nat} {kvs : List Value} {rows : List (List Int)} (h : RowsIn w base G n kvs rows) (hb : Below w.heap.size w w') : RowsIn w' base G n kvs rows :=
 ⟨h.klen, h.rlen, owns_below h.own hb, fun i r kv h1 h2 => ⟨owns_below (h.kid i r kv h1 h2).1 hb, (h.kid i r kv h1 h2).2⟩, h.apart⟩
theorem RowsIn.cellG {w : World} {base G n : Nat} {kvs : List Value} {rows : List (List Int)} (h : RowsIn w base G n kvs rows) {t : Nat} {kv : Value} (hk : kvs[t]? = some kv) : w.cell? ⟨G, t, none⟩ = some kv := by
 have ht : t < n := by have := (List.getElem?_eq_some_iff.1 hk).1; rw [h.klen] at this; exact this
 rw [h.own.cellAt t (by omega)]
 exact hk
theorem RowsIn.fzG {w : World} {base G n : Nat} {kvs : List Value} {rows : List (List Int)} (h : RowsIn w base G n kvs rows) (t : Nat) : w.frozen? ⟨G, t, none⟩ = false := h.own.frozenAt t
theorem RowsIn.ltG {w : World} {base G n : Nat} {kvs : List Value} {rows : List (List Int)} (h : RowsIn w base G n kvs rows) : base ≤ G ∧ G < w.heap.size := h.own.lt G rfl
/-- One row is longer by one. -/
theorem RowsIn.push {w w2 : World} {base G n : Nat} {kvs : List Value} {rows : List (List Int)} (h : RowsIn w base G n kvs rows) {t : Nat} {r : List Int} {kv v' : Value} {x : Int} (hr : rows[t]? = some r) (hk : kvs[t]? = some kv)
  (ho : w2.ownsRow base 3 1 v' (r.length + 1) (r.map intV ++ [intV x])) (hg : w.grownBy w2 kv.ownBlock) (hat : v'.ownBlock = kv.ownBlock ∨ v'.ownBlock = some w.heap.size) :
  RowsIn (w2.setCell ⟨G, t, none⟩ v') base G n (kvs.set t v') (rows.modify t (· ++ [x])) ∧ w2.cell? ⟨G, t, none⟩ = some kv ∧ w2.frozen? ⟨G, t, none⟩ = false ∧
   (∀ k, k < w.heap.size → k ≠ G → kv.ownBlock ≠ some k → (w2.setCell ⟨G, t, none⟩ v').heap[k]? = w.heap[k]?) ∧ w.heap.size ≤ (w2.setCell ⟨G, t, none⟩ v').heap.size := by
 have hG := h.ltG
 have hkG := (h.kid t r kv hr hk).2
 have eG : w2.heap[G]? = w.heap[G]? := hg.block G hG.2 (fun e => hkG e.symm)
 have own2 : w2.ownsRow base 22 1 (.slice (some ⟨G, 0, none⟩) n n) n kvs := owns_same h.own fun q hq => by simp [Value.ownBlock] at hq; subst hq; exact eG
 have hvG : v'.ownBlock ≠ some G := by
  rcases hat with e | e
  ·rw [e]; exact hkG
  ·rw [e]; intro hc; cases hc; omega
 have htn : t < n := by have := (List.getElem?_eq_some_iff.1 hk).1; rw [h.klen] at this; exact this
 have cG : w2.cell? ⟨G, t, none⟩ = some kv := (World.cell?_of_block (w := w) (a := ⟨G, t, none⟩) eG).trans (h.cellG hk)
 have fG : w2.frozen? ⟨G, t, none⟩ = false := (World.frozen?_of_block (w := w) (a := ⟨G, t, none⟩) eG).trans (h.fzG t)
 refine ⟨⟨by simp [h.klen], by simp [h.rlen], (World.ownsRow.stored own2 t v').1, ?_, ?_⟩, cG, fG, ?_, ?_⟩
 ·intro i q u hq hu
  rw [List.getElem?_modify] at hq
  rw [List.getElem?_set] at hu
  by_cases e : t = i
  ·subst e
   rw [if_pos rfl, if_pos (by rw [h.klen]; exact htn)] at hu
   cases hu
   rw [hr] at hq
   simp at hq
   subst hq
   refine ⟨owns_other ?_ (by simpa using hvG) _, hvG⟩
   show World.ownsRow _ _ _ _ _ _ _
   simpa using ho
  ·rw [if_neg e] at hu
   simp [e] at hq
   obtain ⟨k1, k2⟩ := h.kid i q u hq hu
   refine ⟨owns_other (owns_same k1 fun g hgu => hg.block g (k1.lt g hgu).2 (fun hc => h.apart t i kv u g e hk hu hc.symm hgu)) (by simpa using k2) _, k2⟩
 ·intro i j a b g hij ha hb hag hbg
  rw [List.getElem?_set] at ha hb
  by_cases e1 : t = i
  ·subst e1
   rw [if_pos rfl, if_pos (by rw [h.klen]; exact htn)] at ha
   cases ha
   rw [if_neg hij] at hb
   rcases hat with e | e
   ·exact h.apart t j kv b g hij hk hb (by rw [← e]; exact hag) hbg
   ·rw [e] at hag; cases hag
    have hj : j < rows.length := by have := (List.getElem?_eq_some_iff.1 hb).1; rw [h.klen] at this; rw [h.rlen]; exact this
    have := ((h.kid j _ b (List.getElem?_eq_getElem hj) hb).1.lt _ hbg).2
    omega
  ·rw [if_neg e1] at ha
   by_cases e2 : t = j
   ·subst e2
    rw [if_pos rfl, if_pos (by rw [h.klen]; exact htn)] at hb
    cases hb
    rcases hat with e | e
    ·exact h.apart i t a kv g hij ha hk hag (by rw [← e]; exact hbg)
    ·rw [e] at hbg; cases hbg
     have hj : i < rows.length := by have := (List.getElem?_eq_some_iff.1 ha).1; rw [h.klen] at this; rw [h.rlen]; exact this
     have := ((h.kid i _ a (List.getElem?_eq_getElem hj) ha).1.lt _ hag).2
     omega
   ·rw [if_neg e2] at hb
    exact h.apart i j a b g hij ha hb hag hbg
 ·intro k hk1 hk2 hk3
  exact (Below.heap_setCell _ _ _ _ (by simpa using hk2)).trans (hg.block k hk1 (fun e => hk3 e.symm))
 ·simpa [World.setCell] using hg.size
theorem infoS : (Tryz.prog.info? 22).map (fun i => (i.zero, i.size, i.bytes)) = some (some (.slice none 0 0), 1, 24) := by kernel_rfl
theorem rows_new (w : World) (base n : Nat) (hb : base ≤ w.heap.size) (hn : n ≤ 1000000) : RowsIn (w.alloc (.cells (madeCells #[.slice none 0 0] n) 22)) base w.heap.size n (List.replicate n (.slice none 0 0)) (List.replicate n []) := by
 have r1 := World.ownsRow_lit (base := base) (e := 22) (size := 1) w (madeCells #[.slice none 0 0] n) n hb (by unfold maxLen; omega) (by simp [size_madeCells])
 rw [toList_madeCells_one] at r1
 refine ⟨by simp, by simp, r1, ?_, ?_⟩
 ·intro i r kv h1 h2
  rw [List.getElem?_replicate] at h1 h2
  split at h1
  ·rename_i hi
   rw [if_pos hi] at h2
   cases h1; cases h2
   exact ⟨World.ownsRow_nil _ _ _ _, by simp [Value.ownBlock]⟩
  ·cases h1
 ·intro i j a b g _ ha _ hg
  rw [List.getElem?_replicate] at ha
  split at ha
  ·cases ha; simp [Value.ownBlock] at hg
  ·cases ha
theorem lens_mem : ∀ {rows : List (List Int)} {r : List Int}, r ∈ rows → r.length ≤ lensA rows
 | a :: rows, r, h => by
  have e : lensA (a :: rows) = a.length + lensA rows := by simp [lensA]
  rcases List.mem_cons.1 h with rfl | h
  ·omega
  ·have := lens_mem h; omega
end Go.Proofs.YtobnpllppohofaaGreatDoor
/- The walk's variables in memory. -/
namespace Go.Proofs.YtobnpllppohofaaGreatDoor
open Go.RowKit

def metV (B n : Nat) : Value := .slice (some ⟨B + 1, 0, none⟩) n n
def meetV (B : Nat) : Value := .func (.func 34) #[] #[ptr (B + 2), ptr (B + 3)]
def walkV (B : Nat) : Value := .func (.func 35) #[] #[ptr (B + 3), ptr B, ptr (B + 2), ptr (B + 5), ptr (B + 6), ptr (B + 4)]
structure WS (w0 : World) (n : Nat) (gcs : List Value) (w : World) (pv lv : Value) (met : List Bool) (path left : List Int) : Prop where
 bel : Below w0.heap.size w0 w
 mrow : w.ownsRow w0.heap.size 4 1 (metV w0.heap.size n) n (met.map Value.bool)
 prow : OwnI w (w0.heap.size + 7) pv path
 lrow : OwnI w (w0.heap.size + 7) lv left
 bg : Box w w0.heap.size gcs
 bm : Box w (w0.heap.size + 2) [metV w0.heap.size n]
 bp : Box w (w0.heap.size + 3) [pv]
 bl : Box w (w0.heap.size + 4) [lv]
 bf : Box w (w0.heap.size + 5) [meetV w0.heap.size]
 bk : Box w (w0.heap.size + 6) [walkV w0.heap.size]
 pl : ∀ g, pv.ownBlock = some g → lv.ownBlock ≠ some g
/-- What a step leaves of other blocks. -/
structure WM (B : Nat) (w : World) (pv lv : Value) (w' : World) (pv' lv' : Value) : Prop where
 size : w.heap.size ≤ w'.heap.size
 block : ∀ k, k < w.heap.size → k ≠ B + 1 → k ≠ B + 3 → k ≠ B + 4 → pv.ownBlock ≠ some k → lv.ownBlock ≠ some k → w'.heap[k]? = w.heap[k]?
 sp : pv'.ownBlock = pv.ownBlock ∨ ∃ g, pv'.ownBlock = some g ∧ w.heap.size ≤ g
 sl : lv'.ownBlock = lv.ownBlock ∨ ∃ g, lv'.ownBlock = some g ∧ w.heap.size ≤ g
theorem WM.refl (B : Nat) (w : World) (pv lv : Value) : WM B w pv lv w pv lv := ⟨Nat.le_refl _, fun _ _ _ _ _ _ _ => rfl, .inl rfl, .inl rfl⟩
theorem WM.off {B k : Nat} {w w' : World} {pv lv pv' lv' : Value} (h : WM B w pv lv w' pv' lv') (hk : k < w.heap.size) (h1 : pv.ownBlock ≠ some k) (h2 : lv.ownBlock ≠ some k) : pv'.ownBlock ≠ some k ∧ lv'.ownBlock ≠ some k := by
 constructor
 ·rcases h.sp with e | ⟨g, e, hg⟩
  ·rw [e]; exact h1
  ·rw [e]; intro hc; cases hc; omega
 ·rcases h.sl with e | ⟨g, e, hg⟩
  ·rw [e]; exact h2
  ·rw [e]; intro hc; cases hc; omega
theorem WM.trans {B : Nat} {w w1 w2 : World} {pv lv p1 l1 p2 l2 : Value} (h : WM B w pv lv w1 p1 l1) (g : WM B w1 p1 l1 w2 p2 l2) : WM B w pv lv w2 p2 l2 := by
 refine ⟨Nat.le_trans h.size g.size, ?_, ?_, ?_⟩
 ·intro k hk a b c d e
  have ho := h.off hk d e
  exact (g.block k (Nat.lt_of_lt_of_le hk h.size) a b c ho.1 ho.2).trans (h.block k hk a b c d e)
 ·rcases g.sp with e | ⟨q, e, hq⟩
  ·rcases h.sp with e' | ⟨q, e', hq⟩
   ·exact .inl (e.trans e')
   ·exact .inr ⟨q, e.trans e', hq⟩
  ·exact .inr ⟨q, e, Nat.le_trans h.size hq⟩
 ·rcases g.sl with e | ⟨q, e, hq⟩
  ·rcases h.sl with e' | ⟨q, e', hq⟩
   ·exact .inl (e.trans e')
   ·exact .inr ⟨q, e.trans e', hq⟩
  ·exact .inr ⟨q, e, Nat.le_trans h.size hq⟩
theorem WM.below {B : Nat} {w w1 : World} {pv lv : Value} (hb : Below w.heap.size w w1) : WM B w pv lv w1 pv lv := ⟨hb.size, fun k hk _ _ _ _ _ => hb.block k hk, .inl rfl, .inl rfl⟩
theorem WS.lts {w0 w : World} {n : Nat} {gcs : List Value} {pv lv : Value} {met : List Bool} {path left : List Int} (h : WS w0 n gcs w pv lv met path left) : w0.heap.size + 6 < w.heap.size := h.bk.lt
theorem WS.below {w0 w w1 : World} {n : Nat} {gcs : List Value} {pv lv : Value} {met : List Bool} {path left : List Int} (h : WS w0 n gcs w pv lv met path left) (hb : Below w.heap.size w w1) : WS w0 n gcs w1 pv lv met path left :=
 ⟨h.bel.trans (hb.mono h.bel.size), owns_below h.mrow hb, owns_below h.prow hb, owns_below h.lrow hb, h.bg.below hb, h.bm.below hb, h.bp.below hb, h.bl.below hb, h.bf.below hb, h.bk.below hb, h.pl⟩
theorem WS.mlen {w0 w : World} {n : Nat} {gcs : List Value} {pv lv : Value} {met : List Bool} {path left : List Int} (h : WS w0 n gcs w pv lv met path left) : met.length = n := by have := h.mrow.1; simpa using this
theorem WS.metAt {w0 w : World} {n : Nat} {gcs : List Value} {pv lv : Value} {met : List Bool} {path left : List Int} (h : WS w0 n gcs w pv lv met path left) {k : Nat} (hk : k < n) : w.cell? ⟨w0.heap.size + 1, k, none⟩ = some (.bool (met.getD k true)) := by
 have := h.mrow.cellAt k (by simpa using hk)
 rw [this]
 have hl := h.mlen
 simp [List.getD, List.getElem?_eq_getElem (show k < met.length by omega)]
theorem WS.metFz {w0 w : World} {n : Nat} {gcs : List Value} {pv lv : Value} {met : List Bool} {path left : List Int} (h : WS w0 n gcs w pv lv met path left) (k : Nat) : w.frozen? ⟨w0.heap.size + 1, k, none⟩ = false := h.mrow.frozenAt k
theorem own_lt7 {w : World} {base : Nat} {l : List Int} {v : Value} (h : OwnI w base v l) {b : Nat} (hb : b < base) : v.ownBlock ≠ some b := fun e => by have := (h.lt b e).1; omega
theorem below_set {w0 w : World} {b : Nat} (h : Below w0.heap.size w0 w) (hb : w0.heap.size ≤ b) (j : Nat) (u : Value) : Below w0.heap.size w0 (w.setCell ⟨b, j, none⟩ u) := h.setCell (p := ⟨b, j, none⟩) hb u
/-- A block is met. -/
theorem WS.mark {w0 w : World} {n : Nat} {gcs : List Value} {pv lv : Value} {met : List Bool} {path left : List Int} (h : WS w0 n gcs w pv lv met path left) {k : Nat} (_hk : k < n) : WS w0 n gcs (w.setCell ⟨w0.heap.size + 1, k, none⟩ (.bool true)) pv lv (met.set k true) path left := by
 have hp := own_lt7 h.prow (b := w0.heap.size + 1) (by omega)
 have hl := own_lt7 h.lrow (b := w0.heap.size + 1) (by omega)
 refine ⟨below_set h.bel (by omega) _ _, ?_, owns_other h.prow (by simpa using hp) _, owns_other h.lrow (by simpa using hl) _, h.bg.other (by simp) _, h.bm.other (by simp) _, h.bp.other (by simp) _, h.bl.other (by simp) _, h.bf.other (by simp) _, h.bk.other (by simp) _, h.pl⟩
 have := World.ownsRow.stored h.mrow k (.bool true)
 rw [← List.map_set] at this
 exact this.1
theorem WM.mark {w : World} {pv lv : Value} {B : Nat} (k : Nat) (u : Value) : WM B w pv lv (w.setCell ⟨B + 1, k, none⟩ u) pv lv :=
 ⟨by simp [World.setCell], fun j _ h1 _ _ _ _ => Below.heap_setCell _ _ _ _ h1, .inl rfl, .inl rfl⟩
/-- The path has one more. -/
theorem WS.pushP {w0 w w2 : World} {n : Nat} {gcs : List Value} {pv lv v' : Value} {met : List Bool} {path left : List Int} (h : WS w0 n gcs w pv lv met path left) {x : Int} (ho : w2.ownsRow (w0.heap.size + 7) 3 1 v' (path.length + 1) (path.map intV ++ [intV x])) (hg : w.grownBy w2 pv.ownBlock) (hat : v'.ownBlock = pv.ownBlock ∨ v'.ownBlock = some w.heap.size) :
  WS w0 n gcs (w2.setCell ⟨w0.heap.size + 3, 0, none⟩ v') v' lv met (path ++ [x]) left ∧ WM w0.heap.size w pv lv (w2.setCell ⟨w0.heap.size + 3, 0, none⟩ v') v' lv ∧ w2.cell? ⟨w0.heap.size + 3, 0, none⟩ = some pv ∧ w2.frozen? ⟨w0.heap.size + 3, 0, none⟩ = false := by
 have hs := h.lts
 have hb : ∀ b, b < w0.heap.size + 7 → w2.heap[b]? = w.heap[b]? := fun b hb => hg.block b (by omega) (fun e => own_lt7 h.prow hb e.symm)
 have hl2 : OwnI w2 (w0.heap.size + 7) lv left := owns_same h.lrow fun g hgl => hg.block g (h.lrow.lt g hgl).2 (fun e => h.pl g e.symm hgl)
 have hv : ∀ b, b < w0.heap.size + 7 → v'.ownBlock ≠ some b := fun b hb e => by have := (ho.lt b e).1; omega
 have hlv := own_lt7 h.lrow (b := w0.heap.size + 3) (by omega)
 refine ⟨⟨?_, ?_, ?_, ?_, ?_, ?_, ?_, ?_, ?_, ?_, ?_⟩, ⟨?_, ?_, ?_, .inl rfl⟩, (h.bp.same (hb _ (by omega))).cell 0 _ rfl, (h.bp.same (hb _ (by omega))).fz 0⟩
 ·refine below_set ?_ (by omega) _ _
  refine ⟨hg.os.trans h.bel.os, hg.tape.trans h.bel.tape, hg.output.trans h.bel.output, Nat.le_trans h.bel.size hg.size, fun k hk => (hb k (by omega)).trans (h.bel.block k hk)⟩
 ·refine owns_other (owns_same h.mrow fun g hgm => ?_) (by simp [metV, Value.ownBlock]) _
  simp [metV, Value.ownBlock] at hgm
  subst hgm
  exact hb _ (by omega)
 ·have : OwnI w2 (w0.heap.size + 7) v' (path ++ [x]) := by show w2.ownsRow _ _ _ _ _ _; simpa using ho
  exact owns_other this (by simpa using hv (w0.heap.size + 3) (by omega)) _
 ·exact owns_other hl2 (by simpa using hlv) _
 ·exact (h.bg.same (hb _ (by omega))).other (by simp) _
 ·exact (h.bm.same (hb _ (by omega))).other (by simp) _
 ·exact (h.bp.same (hb _ (by omega))).set (j := 0) (by simp) v'
 ·exact (h.bl.same (hb _ (by omega))).other (by simp) _
 ·exact (h.bf.same (hb _ (by omega))).other (by simp) _
 ·exact (h.bk.same (hb _ (by omega))).other (by simp) _
 ·intro g hgv hgl
  rcases hat with e | e
  ·exact h.pl g (by rw [← e]; exact hgv) hgl
  ·rw [e] at hgv; cases hgv; have := (h.lrow.lt _ hgl).2; omega
 ·simpa [World.setCell] using hg.size
 ·intro k hk _ h3 _ h5 _
  exact (Below.heap_setCell _ _ _ _ h3).trans (hg.block k hk (fun e => h5 e.symm))
 ·rcases hat with e | e
  ·exact .inl e
  ·exact .inr ⟨_, e, Nat.le_refl _⟩
/-- What is left has one more. -/
theorem WS.pushL {w0 w w2 : World} {n : Nat} {gcs : List Value} {pv lv v' : Value} {met : List Bool} {path left : List Int} (h : WS w0 n gcs w pv lv met path left) {x : Int} (ho : w2.ownsRow (w0.heap.size + 7) 3 1 v' (left.length + 1) (left.map intV ++ [intV x])) (hg : w.grownBy w2 lv.ownBlock) (hat : v'.ownBlock = lv.ownBlock ∨ v'.ownBlock = some w.heap.size) :
  WS w0 n gcs (w2.setCell ⟨w0.heap.size + 4, 0, none⟩ v') pv v' met path (left ++ [x]) ∧ WM w0.heap.size w pv lv (w2.setCell ⟨w0.heap.size + 4, 0, none⟩ v') pv v' ∧ w2.cell? ⟨w0.heap.size + 4, 0, none⟩ = some lv ∧ w2.frozen? ⟨w0.heap.size + 4, 0, none⟩ = false := by
 have hs := h.lts
 have hb : ∀ b, b < w0.heap.size + 7 → w2.heap[b]? = w.heap[b]? := fun b hb => hg.block b (by omega) (fun e => own_lt7 h.lrow hb e.symm)
 have hl2 : OwnI w2 (w0.heap.size + 7) pv path := owns_same h.prow fun g hgl => hg.block g (h.prow.lt g hgl).2 (fun e => h.pl g hgl e.symm)
 have hv : ∀ b, b < w0.heap.size + 7 → v'.ownBlock ≠ some b := fun b hb e => by have := (ho.lt b e).1; omega
 have hlv := own_lt7 h.prow (b := w0.heap.size + 4) (by omega)
 refine ⟨⟨?_, ?_, ?_, ?_, ?_, ?_, ?_, ?_, ?_, ?_, ?_⟩, ⟨?_, ?_, .inl rfl, ?_⟩, (h.bl.same (hb _ (by omega))).cell 0 _ rfl, (h.bl.same (hb _ (by omega))).fz 0⟩
 ·refine below_set ?_ (by omega) _ _
  refine ⟨hg.os.trans h.bel.os, hg.tape.trans h.bel.tape, hg.output.trans h.bel.output, Nat.le_trans h.bel.size hg.size, fun k hk => (hb k (by omega)).trans (h.bel.block k hk)⟩
 ·refine owns_other (owns_same h.mrow fun g hgm => ?_) (by simp [metV, Value.ownBlock]) _
  simp [metV, Value.ownBlock] at hgm
  subst hgm
  exact hb _ (by omega)
 ·exact owns_other hl2 (by simpa using hlv) _
 ·have : OwnI w2 (w0.heap.size + 7) v' (left ++ [x]) := by show w2.ownsRow _ _ _ _ _ _; simpa using ho
  exact owns_other this (by simpa using hv (w0.heap.size + 4) (by omega)) _
 ·exact (h.bg.same (hb _ (by omega))).other (by simp) _
 ·exact (h.bm.same (hb _ (by omega))).other (by simp) _
 ·exact (h.bp.same (hb _ (by omega))).other (by simp) _
 ·exact (h.bl.same (hb _ (by omega))).set (j := 0) (by simp) v'
 ·exact (h.bf.same (hb _ (by omega))).other (by simp) _
 ·exact (h.bk.same (hb _ (by omega))).other (by simp) _
 ·intro g hgv hgl
  rcases hat with e | e
  ·exact h.pl g hgv (by rw [← e]; exact hgl)
  ·rw [e] at hgl; cases hgl; have := (h.prow.lt _ hgv).2; omega
 ·simpa [World.setCell] using hg.size
 ·intro k hk _ _ h3 _ h5
  exact (Below.heap_setCell _ _ _ _ h3).trans (hg.block k hk (fun e => h5 e.symm))
 ·rcases hat with e | e
  ·exact .inl e
  ·exact .inr ⟨_, e, Nat.le_refl _⟩
/-- The path without its last. -/
theorem WS.popP {w0 w : World} {n : Nat} {gcs : List Value} {lv : Value} {met : List Bool} {path left : List Int} {g m c : Nat} {x : Int} (hm : m = path.length + 1) (h : WS w0 n gcs w (.slice (some ⟨g, 0, none⟩) m c) lv met (path ++ [x]) left) :
  WS w0 n gcs (w.setCell ⟨w0.heap.size + 3, 0, none⟩ (.slice (some ⟨g, 0, none⟩) path.length c)) (.slice (some ⟨g, 0, none⟩) path.length c) lv met path left ∧ WM w0.heap.size w (.slice (some ⟨g, 0, none⟩) m c) lv (w.setCell ⟨w0.heap.size + 3, 0, none⟩ (.slice (some ⟨g, 0, none⟩) path.length c)) (.slice (some ⟨g, 0, none⟩) path.length c) lv := by
 have hp := own_cut hm h.prow
 have h3 := own_lt7 h.lrow (b := w0.heap.size + 3) (by omega)
 have h4 := own_lt7 hp (b := w0.heap.size + 3) (by omega)
 exact ⟨⟨below_set h.bel (by omega) _ _, owns_other h.mrow (by simp [metV, Value.ownBlock]) _, owns_other hp (by simpa using h4) _, owns_other h.lrow (by simpa using h3) _, h.bg.other (by simp) _, h.bm.other (by simp) _, h.bp.set (j := 0) (by simp) _, h.bl.other (by simp) _, h.bf.other (by simp) _, h.bk.other (by simp) _, h.pl⟩,
  ⟨by simp [World.setCell], fun j _ _ h3 _ _ _ => Below.heap_setCell _ _ _ _ h3, .inl rfl, .inl rfl⟩⟩
end Go.Proofs.YtobnpllppohofaaGreatDoor
/- A block is met: marked, and put behind the path. -/
namespace Go.Proofs.YtobnpllppohofaaGreatDoor
open Go.RowKit

set_option maxRecDepth 100000 in
set_option maxHeartbeats 1000000 in
theorem meet_any {w0 w : World} {n : Nat} {gcs : List Value} {pv lv : Value} {met : List Bool} {path left : List Int} (h : WS w0 n gcs w pv lv met path left) (k : Nat) (hk : k < n) (hp : path.length ≤ 1000000) :
  Calls Tryz.prog 34 #[.int .i64 (k : Int), ptr (w0.heap.size + 2), ptr (w0.heap.size + 3)] w fun e w' => e = .returned (.tuple #[]) ∧ ∃ pv', WS w0 n gcs w' pv' lv (met.set k true) (path ++ [(k : Int)]) left ∧ WM w0.heap.size w pv lv w' pv' lv := by
 have c2 := h.bm.cell 0 _ rfl
 unfold metV at c2
 have f1 := h.metFz k
 have m1 := h.metAt hk
 have hM := h.mark hk
 have hMM : Hid (WM w0.heap.size w pv lv (w.setCell ⟨w0.heap.size + 1, k, none⟩ (.bool true)) pv lv) := WM.mark k _
 have hs := h.lts
 have hs' := hM.lts
 have c3 := h.bp.cell 0 _ rfl
 have f3 := h.bp.fz 0
 have HM : Hid (WS w0 n gcs (w.setCell ⟨w0.heap.size + 1, k, none⟩ (.bool true)) pv lv (met.set k true) path left) := hM
 have hkn : (k : Int) < n := by omega
 obtain ⟨i0, hi, hz0, hz1, hz2⟩ := info_parts infoI
 have HP : Hid (path.length ≤ 1000000) := hp
 clear h hM hp
 go_enter Tryz.func34, Tryz.ntmps34
 go_wp2_with (at_builtin; go_loud (refine wpList_append_own_at _ rfl _ _ 22 rfl (w0.heap.size + 7) 3 i0 (.int .i64 0) 1 8 Tryz.underlying22 hi hz0 hz1 hz2 rfl (by decide) _ _ _ rfl (HM.out.prow.alloc _) ⟨w.heap.size, 0, none⟩ 1 1 [intV k] rfl rfl ?c1 ?c2 ?c3 ?c4 ?c5 ?_))
 case c1 => have := cell_one_new (w.setCell ⟨w0.heap.size + 1, k, none⟩ (.bool true)) (intV k) 3; simpa [World.setCell] using this
 case c2 => intro u hu; simp at hu; subst hu; rfl
 case c3 => have := HP.out; unfold maxLen; omega
 case c4 => have := HP.out; omega
 case c5 => simp; omega
 intro v2 w2 ho hg _ hat
 obtain ⟨g2, cc, rfl, _, _, _, _⟩ := own_form ho
 obtain ⟨hS, hV, q3, g3⟩ := (HM.out.below (below_alloc (Below.refl _ _) (.cells #[intV k] 3))).pushP ho hg (by simpa [World.setCell] using hat)
 have HS : Hid _ := hS
 have HV : Hid _ := (hMM.out.trans (WM.below (below_alloc (Below.refl _ _) (.cells #[intV k] 3)))).trans hV
 clear hS hV ho hg hat
 go_wp2
 go_end0
 exact ⟨rfl, _, HS.out, HV.out⟩
end Go.Proofs.YtobnpllppohofaaGreatDoor
