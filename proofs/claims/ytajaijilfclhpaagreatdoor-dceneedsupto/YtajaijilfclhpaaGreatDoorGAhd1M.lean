/- The document's side: may an instruction stand, calls but for what they call? All kinds. -/
import Derived.Test.YtajaijilfclhpaaGreatDoorGRAlnB
import Derived.Test.YtajaijilfclhpaaGreatDoorGRAlnC
import Derived.Test.YtajaijilfclhpaaGreatDoorGRAlnD
import Derived.Test.YtajaijilfclhpaaGreatDoorGBoxM
import Derived.Test.YtajaijilfclhpaaGreatDoorShelf
import Derived.Sort.OwnSortedInts
import Derived.Deep.OwnRows
namespace Go.Proofs.YtajaijilfclhpaaGreatDoor
open Go.RowKit Go.Sort

set_option maxRecDepth 100000 in
theorem ralone_any (G : Gr) (pv vv av bv : Value) (x : In) (xv : Value) (w : World) (h : GrAt w pv vv av bv G) (hA : IntsAt w xv x.args) (hbits : 0 ≤ x.bits ∧ x.bits < 18446744073709551616) :
  Calls Tryz.prog 61 #[.agg #[.string G.name, pv, .int .u8 G.result, vv, av, bv], inV x xv] w fun e w' => e = .returned (.bool (aloneR G x)) ∧ Below w.heap.size w w' := by
 obtain ⟨k, op, dst, args, bits, ref⟩ := x
 dsimp only at hA hbits
 by_cases h1 : 1 ≤ k
 rotate_left
 ·obtain ⟨pa, pc, va, vc, aa, ac, ba, bc, rfl, rfl, rfl, rfl, _, _, _, _⟩ := h.openF
  obtain ⟨xa, xc, rfl, hxl⟩ := hA.form
  have h1' : k < 1 := by omega
  have HR : Hid (aloneR G ⟨k, op, dst, args, bits, ref⟩ = false) := by show _ = _; unfold aloneR; rw [decide_eq_false h1]; rfl
  clear h hA h1
  generalize aloneR G ⟨k, op, dst, args, bits, ref⟩ = R at *
  go_enter Tryz.func61, Tryz.ntmps61
  go_wp2
  go_ret
  exact ⟨ret_bool HR.out.symm, below_alloc (below_alloc (Below.refl _ _) _) _⟩
 by_cases h10 : k ≤ 10
 rotate_left
 ·obtain ⟨pa, pc, va, vc, aa, ac, ba, bc, rfl, rfl, rfl, rfl, _, _, _, _⟩ := h.openF
  obtain ⟨xa, xc, rfl, hxl⟩ := hA.form
  have h10' : 10 < k := by omega
  have HR : Hid (aloneR G ⟨k, op, dst, args, bits, ref⟩ = false) := by show _ = _; unfold aloneR; rw [decide_eq_false h10]; simp
  clear h hA h10
  generalize aloneR G ⟨k, op, dst, args, bits, ref⟩ = R at *
  go_enter Tryz.func61, Tryz.ntmps61
  go_wp2
  go_ret
  exact ⟨ret_bool HR.out.symm, below_alloc (below_alloc (Below.refl _ _) _) _⟩
 have hk : k = 1 ∨ k = 2 ∨ k = 3 ∨ k = 4 ∨ k = 5 ∨ k = 6 ∨ k = 7 ∨ k = 8 ∨ k = 9 ∨ k = 10 := by omega
 rcases hk with rfl | rfl | rfl | rfl | rfl | rfl | rfl | rfl | rfl | rfl
 ·exact alone_1 G pv vv av bv op dst args bits ref xv w h hA hbits
 ·exact alone_2 G pv vv av bv op dst args bits ref xv w h hA hbits
 ·exact alone_3 G pv vv av bv op dst args bits ref xv w h hA hbits
 ·exact alone_4 G pv vv av bv op dst args bits ref xv w h hA hbits
 ·exact alone_5 G pv vv av bv op dst args bits ref xv w h hA hbits
 ·exact alone_6 G pv vv av bv op dst args bits ref xv w h hA hbits
 ·exact alone_7 G pv vv av bv op dst args bits ref xv w h hA hbits
 ·exact alone_8 G pv vv av bv op dst args bits ref xv w h hA hbits
 ·exact alone_9 G pv vv av bv op dst args bits ref xv w h hA hbits
 ·exact alone_10 G pv vv av bv op dst args bits ref xv w h hA hbits
end Go.Proofs.YtajaijilfclhpaaGreatDoor
/- The library's sorting, compacting and turning round, of a row of one's own; what follows a block. -/
namespace Go.Proofs.YtajaijilfclhpaaGreatDoor
open Go.RowKit Go.Sort

theorem grow_none (w : World) : grow w #[] = w := by simp [grow]
theorem grownBy_refl (w : World) (r : Option Nat) : w.grownBy w r := ⟨rfl, rfl, rfl, Nat.le_refl _, fun _ _ _ => rfl⟩
theorem sort_own {w : World} {base : Nat} {v : Value} {l : List Int} (h : OwnI w base v l) (hl : l.length ≤ 1000000000) :
  Calls Tryz.prog 206 #[v] w fun e w' => e = .returned (.tuple #[]) ∧ OwnI w' base v (l.mergeSort fun x y => decide (x ≤ y)) ∧ w.grownBy w' v.ownBlock := by
 rcases h.2 with ⟨rfl, h0⟩ | ⟨g, cap, cur, rfl, h1, hh, h2, h3, h4, h5⟩
 ·have hn : l = [] := List.eq_nil_of_length_eq_zero h0
  subst hn
  refine (Tryz.slices_Sort_int_none none 0 w).mono ?_
  rintro e w' ⟨rfl, rfl⟩
  exact ⟨rfl, by simpa using h, grownBy_refl _ _⟩
 ·have hH := holds_of_blockI hh (by simpa using h5)
  refine (Tryz.slices_Sort_int g 0 cap l w hH (Array.getElem?_eq_some_iff.1 hh).1 (by omega)).mono ?_
  rintro e w' ⟨rfl, n, os, rfl⟩
  refine ⟨rfl, ?_, grownBy_sortedI _⟩
  have := ownsRow_sortedI (ts := l.mergeSort fun x y => decide (x ≤ y)) (n := n) (os := os) (by simp) h1 hh h2 h3 h4
  show World.ownsRow _ _ _ _ _ _ _
  rw [List.length_mergeSort]
  exact this
theorem compact_own {w : World} {base : Nat} {v : Value} {l : List Int} (h : OwnI w base v l) (hl : l.length ≤ 1000000000) :
  Calls Tryz.prog 207 #[v] w fun e w' => ∃ v', e = .returned v' ∧ OwnI w' base v' (Lib.compact l) ∧ w.grownBy w' v.ownBlock ∧ v'.ownBlock = v.ownBlock := by
 rcases h.2 with ⟨rfl, h0⟩ | ⟨g, cap, cur, rfl, h1, hh, h2, h3, h4, h5⟩
 ·have hn : l = [] := List.eq_nil_of_length_eq_zero h0
  subst hn
  refine (Tryz.slices_Compact_int_empty none 0 w).mono ?_
  rintro e w' ⟨rfl, rfl⟩
  exact ⟨_, rfl, by simpa [Lib.compact, Lib.compactUpTo] using h, grownBy_refl _ _, rfl⟩
 ·have hH := holds_of_blockI hh (by simpa using h5)
  refine (Tryz.slices_Compact_int g 0 cap l w hH (by omega) h2).mono ?_
  rintro e w' ⟨rfl, n, rfl⟩
  rw [← grow_none (putRow _ _ _ _ _)]
  have hle := Lib.compact_length_le l
  refine ⟨_, rfl, ?_, grownBy_sortedI _, rfl⟩
  have := ownsRow_sortedI (ts := Lib.compact l ++ List.replicate (l.length - (Lib.compact l).length) 0) (n := n) (os := #[]) (by simp; omega) h1 hh h2 h3 h4
  show World.ownsRow _ _ _ _ _ _ _
  refine ⟨by simp, ?_⟩
  rcases this.2 with ⟨hx, _⟩ | ⟨g', cap', cur', hv, k1, kk, k2, k3, k4, k5⟩
  ·cases hx
  ·injection hv with e1 e2 e3
   cases e1
   subst e3
   refine .inr ⟨g, cap, cur', rfl, k1, kk, by omega, k3, k4, ?_⟩
   have h6 := congrArg (List.take (Lib.compact l).length) k5
   rw [List.take_take, Nat.min_eq_left (by omega), List.map_append] at h6
   rw [Nat.mul_one, h6, List.take_left' (by simp)]
theorem compact_sort (t : Tm) : Lib.compact ((namedT t).mergeSort fun x y => decide (x ≤ y)) = nextT t := by
 unfold namedT nextT
 have c0 : Lib.compact ([] : List Int) = [] := rfl
 have c1 : ∀ x : Int, Lib.compact [x] = [x] := fun x => by simp [Lib.compact, Lib.compactUpTo, List.range_succ, Lib.keeps]
 have c2 : ∀ x y : Int, Lib.compact [x, y] = if x = y then [x] else [x, y] := fun x y => by
  by_cases h : x = y
  ·subst h; simp [Lib.compact, Lib.compactUpTo, List.range_succ, Lib.keeps]
  ·have h' : ¬ y = x := fun e => h e.symm
   simp [Lib.compact, Lib.compactUpTo, List.range_succ, Lib.keeps, h, h']
 have s2 : ∀ x y : Int, [x, y].mergeSort (fun a b => decide (a ≤ b)) = if x ≤ y then [x, y] else [y, x] := fun x y => by
  by_cases h : x ≤ y <;> simp [List.mergeSort, List.MergeSort.Internal.splitInTwo, h]
 by_cases h1 : t.kind = 1
 ·simp only [h1, if_true, List.mergeSort_singleton, c1]
 ·by_cases h2 : t.kind = 2
  ·simp only [h2, if_true, show ¬ ((2 : Int) = 1) by omega, if_false, s2]
   by_cases e : t.t0 = t.t1
   ·simp [e, c2]
   ·by_cases l : t.t0 ≤ t.t1
    ·have : t.t0 < t.t1 := by omega
     simp [e, l, c2, this]
    ·have : ¬ t.t0 < t.t1 := by omega
     have e' : ¬ t.t1 = t.t0 := fun x => e x.symm
     simp [e, l, c2, this, e']
  ·simp only [h1, h2, if_false, List.mergeSort_nil, c0]
abbrev blArr (iv : Value) (t : Tm) : Array Value := #[iv, .int .u8 t.kind, .int .i64 t.arg, .int .i64 t.t0, .int .i64 t.t1, .int .u8 t.trap]
theorem named_len (t : Tm) : (namedT t).length ≤ 2 := by
 unfold namedT
 repeat' split
 all_goals simp
theorem below_grown {w w1 w2 : World} {row : Option Nat} (h : Below w.heap.size w w1) (hg : w1.grownBy w2 row) (hr : ∀ g, row = some g → w.heap.size ≤ g) : Below w.heap.size w w2 :=
 ⟨hg.os.trans h.os, hg.tape.trans h.tape, hg.output.trans h.output, Nat.le_trans h.size hg.size, fun k hk => (hg.block k (Nat.lt_of_lt_of_le hk h.size) (fun e => by have := hr k e.symm; omega)).trans (h.block k hk)⟩
theorem next_any (iv : Value) (t : Tm) (w : World) : Calls Tryz.prog 194 #[.agg (blArr iv t)] w fun e w' => ∃ v, e = .returned v ∧ OwnI w' w.heap.size v (nextT t) ∧ Below w.heap.size w w' := by
 have hN := fun W => named_any t W
 have hS : Hid (∀ (W : World) (v : Value), OwnI W w.heap.size v (namedT t) → _) := fun W v h => sort_own h (by have := named_len t; omega)
 have hC : Hid (∀ (W : World) (v : Value), OwnI W w.heap.size v ((namedT t).mergeSort fun x y => decide (x ≤ y)) → _) := fun W v h => compact_own h (by have := named_len t; simp; omega)
 have hX := compact_sort t
 rw [← hX]
 clear hX
 generalize (namedT t).mergeSort (fun x y => decide (x ≤ y)) = l2 at *
 generalize namedT t = l1 at *
 generalize Lib.compact l2 = l3 at *
 obtain ⟨k, a, x, y, z⟩ := t
 have HN : Hid (∀ W, Calls Tryz.prog 205 #[.agg #[.int .u8 k, .int .i64 a, .int .i64 x, .int .i64 y, .int .u8 z]] W fun e w' => ∃ v, e = .returned v ∧ OwnI w' W.heap.size v l1 ∧ Below W.heap.size W w') := hN
 show Calls _ _ #[.agg #[iv, .int .u8 k, .int .i64 a, .int .i64 x, .int .i64 y, .int .u8 z]] _ _
 have HB : Hid (Below w.heap.size w (w.alloc (.cells #[iv, .int .u8 k, .int .i64 a, .int .i64 x, .int .i64 y, .int .u8 z] 63))) := below_alloc (Below.refl _ _) _
 clear hN
 go_enter Tryz.func194, Tryz.ntmps194
 go_wp2_with (first
  | (go_at_call 205; refine Calls.mono (HN.out _) ?_; rintro e w1 ⟨v, rfl, ho1, hb1⟩; have HO1 : Hid (OwnI w1 w.heap.size v l1) := own_mono ho1 HB.out.size; have HB1 : Hid (Below w.heap.size w w1) := below_trans HB.out hb1; clear ho1 hb1)
  | (go_at_call 206; refine (hS.out _ _ HO1.out).mono ?_; rintro e w2 ⟨rfl, ho2, hg2⟩; have HO2 : Hid _ := ho2; have HG2 : Hid _ := hg2; clear ho2 hg2)
  | (go_at_call 207; refine (hC.out _ _ HO2.out).mono ?_; rintro e w3 ⟨v3, rfl, ho3, hg3, hb3⟩; have HO3 : Hid _ := ho3; have HG3 : Hid _ := hg3; clear ho3 hg3 hb3))
 go_ret
 refine ⟨v3, rfl, HO3.out, ?_⟩
 have hr : ∀ g, v.ownBlock = some g → w.heap.size ≤ g := fun g hg => (HO1.out.lt g hg).1
 exact below_grown (below_grown HB1.out HG2.out hr) HG3.out hr
end Go.Proofs.YtajaijilfclhpaaGreatDoor
/- What stands ahead of a block: rising, just those with an edge to it, as many in all as there are edges. Plain. -/
namespace Go.Proofs.YtajaijilfclhpaaGreatDoor

def rowF (j : Nat) : List Tm → Nat → List Int
 | [], _ => []
 | t :: ts, i => (if (j : Int) ∈ nextT t then [(i : Int)] else []) ++ rowF j ts (i + 1)
/-- All edges. -/
def lensA (rows : List (List Int)) : Nat := (rows.map List.length).sum
def edgesT (n : Nat) (l : List Int) : Nat := l.countP (inB · n)
theorem lens_modify : ∀ (rows : List (List Int)) (k : Nat) (i : Int), k < rows.length → lensA (rows.modify k (· ++ [i])) = lensA rows + 1
 | [], k, _, h => by simp at h
 | r :: rows, 0, i, _ => by simp [lensA, List.modify]; omega
 | r :: rows, k + 1, i, h => by
  have := lens_modify rows k i (by simpa using h)
  simp [lensA, List.modify] at this ⊢
  omega
theorem lens_putA (i : Int) (rows : List (List Int)) (to : Int) : lensA (putA i rows to) = lensA rows + (if inB to rows.length then 1 else 0) := by
 unfold putA
 split
 ·rename_i h
  rw [lens_modify _ _ _ (by rw [inB_iff] at h; omega)]
 ·rfl
theorem lens_putsA (i : Int) : ∀ (l : List Int) (rows : List (List Int)), lensA (putsA i rows l) = lensA rows + edgesT rows.length l
 | [], rows => by simp [putsA, edgesT]
 | a :: l, rows => by
  have := lens_putsA i l (putA i rows a)
  unfold putsA at this ⊢
  rw [List.foldl_cons, this, lens_putA, putA_len]
  unfold edgesT
  rw [List.countP_cons]
  omega
def edgesF (n : Nat) (ts : List Tm) : Nat := (ts.map fun t => edgesT n (nextT t)).sum
theorem lens_aheadF : ∀ (ts : List Tm) (i : Nat) (rows : List (List Int)), lensA (aheadF ts i rows) = lensA rows + edgesF rows.length ts
 | [], _, rows => by simp [aheadF, edgesF]
 | t :: ts, i, rows => by
  unfold aheadF
  rw [lens_aheadF ts, lens_putsA, putsA_len]
  simp [edgesF]
  omega
theorem lens_rep : ∀ n, lensA (List.replicate n []) = 0
 | 0 => rfl
 | n + 1 => by
  have := lens_rep n
  simp [lensA, List.replicate_succ] at this ⊢
theorem lens_ahead (ts : List Tm) : lensA (aheadT ts) = edgesF ts.length ts := by
 unfold aheadT
 rw [lens_aheadF, lens_rep]
 simp
theorem next_len (t : Tm) : (nextT t).length ≤ 2 := by
 unfold nextT
 repeat' split
 all_goals simp
theorem edgesT_le (n : Nat) (t : Tm) : edgesT n (nextT t) ≤ 2 := Nat.le_trans List.countP_le_length (next_len t)
theorem edgesF_le (n : Nat) : ∀ ts : List Tm, edgesF n ts ≤ 2 * ts.length
 | [] => by simp [edgesF]
 | t :: ts => by
  have := edgesF_le n ts
  have := edgesT_le n t
  simp [edgesF] at *
  omega
end Go.Proofs.YtajaijilfclhpaaGreatDoor
/- Rows of rows in memory of one's own. -/
namespace Go.Proofs.YtajaijilfclhpaaGreatDoor
open Go.RowKit

structure RowsIn (w : World) (base G n : Nat) (kvs : List Value) (rows : List (List Int)) : Prop where
 klen : kvs.length = n
 rlen : rows.length = n
 own : w.ownsRow base 22 1 (.slice (some ⟨G, 0, none⟩) n n) n kvs
 kid : ∀ (i : Nat) (r : List Int) (kv : Value), rows[i]? = some r → kvs[i]? = some kv → OwnI w base kv r ∧ kv.ownBlock ≠ some G
 apart : ∀ (i j : Nat) (a b : Value) (g : Nat), i ≠ j → kvs[i]? = some a → kvs[j]? = some b → a.ownBlock = some g → b.ownBlock ≠ some g
theorem RowsIn.below {w w' : World} {base G n : Nat} {kvs : List Value} {rows : List (List Int)} (h : RowsIn w base G n kvs rows) (hb : Below w.heap.size w w') : RowsIn w' base G n kvs rows :=
 ⟨h.klen, h.rlen, owns_below h.own hb, fun i r kv h1 h2 => ⟨owns_below (h.kid i r kv h1 h2).1 hb, (h.kid i r kv h1 h2).2⟩, h.apart⟩
theorem RowsIn.cellG {w : World} {base G n : Nat} {kvs : List Value} {rows : List (List Int)} (h : RowsIn w base G n kvs rows) {t : Nat} {kv : Value} (hk : kvs[t]? = some kv) : w.cell? ⟨G, t, none⟩ = some kv := by
 have ht : t < n := by have := (List.getElem?_eq_some_iff.1 hk).1; rw [h.klen] at this; exact this
 rw [h.own.cellAt t (by omega)]
 exact hk
theorem RowsIn.fzG {w : World} {base G n : Nat} {kvs : List Value} {rows : List (List Int)} (h : RowsIn w base G n kvs rows) (t : Nat) : w.frozen? ⟨G, t, none⟩ = false := h.own.frozenAt t
theorem RowsIn.ltG {w : World} {base G n : Nat} {kvs : List Value} {rows : List (List Int)} (h : RowsIn w base G n kvs rows) : base ≤ G ∧ G < w.heap.size := h.own.lt G rfl
/-- One row is longer by one. -/
theorem RowsIn.push {w w2 : World} {base G n : Nat} {kvs : List Value} {rows : List (List Int)} (h : RowsIn w base G n kvs rows) {t : Nat} {r : List Int} {kv v' : Value} {x : Int} (hr : rows[t]? = some r) (hk : kvs[t]? = some kv)
  (ho : w2.ownsRow base 3 1 v' (r.length + 1) (r.map intV ++ [intV x])) (hg : w.grownBy w2 kv.ownBlock) (hat : v'.ownBlock = kv.ownBlock ∨ v'.ownBlock = some w.heap.size) :
  RowsIn (w2.setCell ⟨G, t, none⟩ v') base G n (kvs.set t v') (rows.modify t (· ++ [x])) ∧ w2.cell? ⟨G, t, none⟩ = some kv ∧ w2.frozen? ⟨G, t, none⟩ = false ∧
   (∀ k, k < w.heap.size → k ≠ G → kv.ownBlock ≠ some k → (w2.setCell ⟨G, t, none⟩ v').heap[k]? = w.heap[k]?) ∧ w.heap.size ≤ (w2.setCell ⟨G, t, none⟩ v').heap.size := by
 have hG := h.ltG
 have hkG := (h.kid t r kv hr hk).2
 have eG : w2.heap[G]? = w.heap[G]? := hg.block G hG.2 (fun e => hkG e.symm)
 have own2 : w2.ownsRow base 22 1 (.slice (some ⟨G, 0, none⟩) n n) n kvs := owns_same h.own fun q hq => by simp [Value.ownBlock] at hq; subst hq; exact eG
 have hvG : v'.ownBlock ≠ some G := by
  rcases hat with e | e
  ·rw [e]; exact hkG
  ·rw [e]; intro hc; cases hc; omega
 have htn : t < n := by have := (List.getElem?_eq_some_iff.1 hk).1; rw [h.klen] at this; exact this
 have cG : w2.cell? ⟨G, t, none⟩ = some kv := (World.cell?_of_block (w := w) (a := ⟨G, t, none⟩) eG).trans (h.cellG hk)
 have fG : w2.frozen? ⟨G, t, none⟩ = false := (World.frozen?_of_block (w := w) (a := ⟨G, t, none⟩) eG).trans (h.fzG t)
 refine ⟨⟨by simp [h.klen], by simp [h.rlen], (World.ownsRow.stored own2 t v').1, ?_, ?_⟩, cG, fG, ?_, ?_⟩
 ·intro i q u hq hu
  rw [List.getElem?_modify] at hq
  rw [List.getElem?_set] at hu
  by_cases e : t = i
  ·subst e
   rw [if_pos rfl, if_pos (by rw [h.klen]; exact htn)] at hu
   cases hu
   rw [hr] at hq
   simp at hq
   subst hq
   refine ⟨owns_other ?_ (by simpa using hvG) _, hvG⟩
   show World.ownsRow _ _ _ _ _ _ _
   simpa using ho
  ·rw [if_neg e] at hu
   simp [e] at hq
   obtain ⟨k1, k2⟩ := h.kid i q u hq hu
   refine ⟨owns_other (owns_same k1 fun g hgu => hg.block g (k1.lt g hgu).2 (fun hc => h.apart t i kv u g e hk hu hc.symm hgu)) (by simpa using k2) _, k2⟩
 ·intro i j a b g hij ha hb hag hbg
  rw [List.getElem?_set] at ha hb
  by_cases e1 : t = i
  ·subst e1
   rw [if_pos rfl, if_pos (by rw [h.klen]; exact htn)] at ha
   cases ha
   rw [if_neg hij] at hb
   rcases hat with e | e
   ·exact h.apart t j kv b g hij hk hb (by rw [← e]; exact hag) hbg
   ·rw [e] at hag; cases hag
    have hj : j < rows.length := by have := (List.getElem?_eq_some_iff.1 hb).1; rw [h.klen] at this; rw [h.rlen]; exact this
    have := ((h.kid j _ b (List.getElem?_eq_getElem hj) hb).1.lt _ hbg).2
    omega
  ·rw [if_neg e1] at ha
   by_cases e2 : t = j
   ·subst e2
    rw [if_pos rfl, if_pos (by rw [h.klen]; exact htn)] at hb
    cases hb
    rcases hat with e | e
    ·exact h.apart i t a kv g hij ha hk hag (by rw [← e]; exact hbg)
    ·rw [e] at hbg; cases hbg
     have hj : i < rows.length := by have := (List.getElem?_eq_some_iff.1 ha).1; rw [h.klen] at this; rw [h.rlen]; exact this
     have := ((h.kid i _ a (List.getElem?_eq_getElem hj) ha).1.lt _ hag).2
     omega
   ·rw [if_neg e2] at hb
    exact h.apart i j a b g hij ha hb hag hbg
 ·intro k hk1 hk2 hk3
  exact (Below.heap_setCell _ _ _ _ (by simpa using hk2)).trans (hg.block k hk1 (fun e => hk3 e.symm))
 ·simpa [World.setCell] using hg.size
theorem infoS : (Tryz.prog.info? 22).map (fun i => (i.zero, i.size, i.bytes)) = some (some (.slice none 0 0), 1, 24) := by kernel_rfl
theorem rows_new (w : World) (base n : Nat) (hb : base ≤ w.heap.size) (hn : n ≤ 1000000) : RowsIn (w.alloc (.cells (madeCells #[.slice none 0 0] n) 22)) base w.heap.size n (List.replicate n (.slice none 0 0)) (List.replicate n []) := by
 have r1 := World.ownsRow_lit (base := base) (e := 22) (size := 1) w (madeCells #[.slice none 0 0] n) n hb (by unfold maxLen; omega) (by simp [size_madeCells])
 rw [toList_madeCells_one] at r1
 refine ⟨by simp, by simp, r1, ?_, ?_⟩
 ·intro i r kv h1 h2
  rw [List.getElem?_replicate] at h1 h2
  split at h1
  ·rename_i hi
   rw [if_pos hi] at h2
   cases h1; cases h2
   exact ⟨World.ownsRow_nil _ _ _ _, by simp [Value.ownBlock]⟩
  ·cases h1
 ·intro i j a b g _ ha _ hg
  rw [List.getElem?_replicate] at ha
  split at ha
  ·cases ha; simp [Value.ownBlock] at hg
  ·cases ha
theorem lens_mem : ∀ {rows : List (List Int)} {r : List Int}, r ∈ rows → r.length ≤ lensA rows
 | a :: rows, r, h => by
  have e : lensA (a :: rows) = a.length + lensA rows := by simp [lensA]
  rcases List.mem_cons.1 h with rfl | h
  ·omega
  ·have := lens_mem h; omega
end Go.Proofs.YtajaijilfclhpaaGreatDoor
