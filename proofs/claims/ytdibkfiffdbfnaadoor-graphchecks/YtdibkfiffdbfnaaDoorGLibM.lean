/- The document's side: may an instruction stand, calls but for what they call? All kinds. -/
import Derived.Test.YtdibkfiffdbfnaaDoorGRAlnB
import Derived.Test.YtdibkfiffdbfnaaDoorGRAlnC
import Derived.Test.YtdibkfiffdbfnaaDoorGRAlnD
import Derived.Test.YtdibkfiffdbfnaaDoorGBoxM
import Derived.Test.YtdibkfiffdbfnaaDoorShelf
import Derived.Sort.OwnSortedInts
namespace Go.Proofs.YtdibkfiffdbfnaaDoor
open Go.RowKit Go.Sort

set_option maxRecDepth 100000 in
theorem ralone_any (G : Gr) (pv vv av bv : Value) (x : In) (xv : Value) (w : World) (h : GrAt w pv vv av bv G) (hA : IntsAt w xv x.args) (hbits : 0 ≤ x.bits ∧ x.bits < 18446744073709551616) :
    Calls Tryd.prog 43 #[.agg #[.string G.name, pv, .int .u8 G.result, vv, av, bv], inV x xv] w fun e w' => e = .returned (.bool (aloneR G x)) ∧ Below w.heap.size w w' := by
  obtain ⟨k, op, dst, args, bits, ref⟩ := x
  dsimp only at hA hbits
  by_cases h1 : 1 ≤ k
  rotate_left
  · obtain ⟨pa, pc, va, vc, aa, ac, ba, bc, rfl, rfl, rfl, rfl, _, _, _, _⟩ := h.openF
    obtain ⟨xa, xc, rfl, hxl⟩ := hA.form
    have h1' : k < 1 := by omega
    have HR : Hid (aloneR G ⟨k, op, dst, args, bits, ref⟩ = false) := by show _ = _; unfold aloneR; rw [decide_eq_false h1]; rfl
    clear h hA h1
    generalize aloneR G ⟨k, op, dst, args, bits, ref⟩ = R at *
    go_enter Tryd.func43, Tryd.ntmps43
    go_wp2
    go_ret
    exact ⟨ret_bool HR.out.symm, below_alloc (below_alloc (Below.refl _ _) _) _⟩
  by_cases h10 : k ≤ 10
  rotate_left
  · obtain ⟨pa, pc, va, vc, aa, ac, ba, bc, rfl, rfl, rfl, rfl, _, _, _, _⟩ := h.openF
    obtain ⟨xa, xc, rfl, hxl⟩ := hA.form
    have h10' : 10 < k := by omega
    have HR : Hid (aloneR G ⟨k, op, dst, args, bits, ref⟩ = false) := by show _ = _; unfold aloneR; rw [decide_eq_false h10]; simp
    clear h hA h10
    generalize aloneR G ⟨k, op, dst, args, bits, ref⟩ = R at *
    go_enter Tryd.func43, Tryd.ntmps43
    go_wp2
    go_ret
    exact ⟨ret_bool HR.out.symm, below_alloc (below_alloc (Below.refl _ _) _) _⟩
  have hk : k = 1 ∨ k = 2 ∨ k = 3 ∨ k = 4 ∨ k = 5 ∨ k = 6 ∨ k = 7 ∨ k = 8 ∨ k = 9 ∨ k = 10 := by omega
  rcases hk with rfl | rfl | rfl | rfl | rfl | rfl | rfl | rfl | rfl | rfl
  · exact alone_1 G pv vv av bv op dst args bits ref xv w h hA hbits
  · exact alone_2 G pv vv av bv op dst args bits ref xv w h hA hbits
  · exact alone_3 G pv vv av bv op dst args bits ref xv w h hA hbits
  · exact alone_4 G pv vv av bv op dst args bits ref xv w h hA hbits
  · exact alone_5 G pv vv av bv op dst args bits ref xv w h hA hbits
  · exact alone_6 G pv vv av bv op dst args bits ref xv w h hA hbits
  · exact alone_7 G pv vv av bv op dst args bits ref xv w h hA hbits
  · exact alone_8 G pv vv av bv op dst args bits ref xv w h hA hbits
  · exact alone_9 G pv vv av bv op dst args bits ref xv w h hA hbits
  · exact alone_10 G pv vv av bv op dst args bits ref xv w h hA hbits
end Go.Proofs.YtdibkfiffdbfnaaDoor
/- The library's sorting, compacting and turning round, of a row of one's own; what follows a block. -/
namespace Go.Proofs.YtdibkfiffdbfnaaDoor
open Go.RowKit Go.Sort

theorem grow_none (w : World) : grow w #[] = w := by simp [grow]
theorem grownBy_refl (w : World) (r : Option Nat) : w.grownBy w r := ⟨rfl, rfl, rfl, Nat.le_refl _, fun _ _ _ => rfl⟩
theorem sort_own {w : World} {base : Nat} {v : Value} {l : List Int} (h : OwnI w base v l) (hl : l.length ≤ 1000000000) :
    Calls Tryd.prog 66 #[v] w fun e w' => e = .returned (.tuple #[]) ∧ OwnI w' base v (l.mergeSort fun x y => decide (x ≤ y)) ∧ w.grownBy w' v.ownBlock := by
  rcases h.2 with ⟨rfl, h0⟩ | ⟨g, cap, cur, rfl, h1, hh, h2, h3, h4, h5⟩
  · have hn : l = [] := List.eq_nil_of_length_eq_zero h0
    subst hn
    refine (Tryd.slices_Sort_int_none none 0 w).mono ?_
    rintro e w' ⟨rfl, rfl⟩
    exact ⟨rfl, by simpa using h, grownBy_refl _ _⟩
  · have hH := holds_of_blockI hh (by simpa using h5)
    refine (Tryd.slices_Sort_int g 0 cap l w hH (Array.getElem?_eq_some_iff.1 hh).1 (by omega)).mono ?_
    rintro e w' ⟨rfl, n, os, rfl⟩
    refine ⟨rfl, ?_, grownBy_sortedI _⟩
    have := ownsRow_sortedI (ts := l.mergeSort fun x y => decide (x ≤ y)) (n := n) (os := os) (by simp) h1 hh h2 h3 h4
    show World.ownsRow _ _ _ _ _ _ _
    rw [List.length_mergeSort]
    exact this
theorem reverse_own {w : World} {base : Nat} {v : Value} {l : List Int} (h : OwnI w base v l) (hl : l.length ≤ 1000000000) :
    Calls Tryd.prog 22 #[v] w fun e w' => e = .returned (.tuple #[]) ∧ OwnI w' base v l.reverse ∧ w.grownBy w' v.ownBlock := by
  rcases h.2 with ⟨rfl, h0⟩ | ⟨g, cap, cur, rfl, h1, hh, h2, h3, h4, h5⟩
  · have hn : l = [] := List.eq_nil_of_length_eq_zero h0
    subst hn
    refine (Tryd.slices_Reverse_int_empty none 0 w).mono ?_
    rintro e w' ⟨rfl, rfl⟩
    exact ⟨rfl, by simpa using h, grownBy_refl _ _⟩
  · have hH := holds_of_blockI hh (by simpa using h5)
    refine (Tryd.slices_Reverse_int g 0 cap l w hH (by omega)).mono ?_
    rintro e w' ⟨rfl, n, rfl⟩
    rw [← grow_none (putRow _ _ _ _ _)]
    refine ⟨rfl, ?_, grownBy_sortedI _⟩
    have := ownsRow_sortedI (ts := l.reverse) (n := n) (os := #[]) (by simp) h1 hh h2 h3 h4
    show World.ownsRow _ _ _ _ _ _ _
    rw [List.length_reverse]
    exact this
theorem compact_own {w : World} {base : Nat} {v : Value} {l : List Int} (h : OwnI w base v l) (hl : l.length ≤ 1000000000) :
    Calls Tryd.prog 67 #[v] w fun e w' => ∃ v', e = .returned v' ∧ OwnI w' base v' (Lib.compact l) ∧ w.grownBy w' v.ownBlock ∧ v'.ownBlock = v.ownBlock := by
  rcases h.2 with ⟨rfl, h0⟩ | ⟨g, cap, cur, rfl, h1, hh, h2, h3, h4, h5⟩
  · have hn : l = [] := List.eq_nil_of_length_eq_zero h0
    subst hn
    refine (Tryd.slices_Compact_int_empty none 0 w).mono ?_
    rintro e w' ⟨rfl, rfl⟩
    exact ⟨_, rfl, by simpa [Lib.compact, Lib.compactUpTo] using h, grownBy_refl _ _, rfl⟩
  · have hH := holds_of_blockI hh (by simpa using h5)
    refine (Tryd.slices_Compact_int g 0 cap l w hH (by omega) h2).mono ?_
    rintro e w' ⟨rfl, n, rfl⟩
    rw [← grow_none (putRow _ _ _ _ _)]
    have hle := Lib.compact_length_le l
    refine ⟨_, rfl, ?_, grownBy_sortedI _, rfl⟩
    have := ownsRow_sortedI (ts := Lib.compact l ++ List.replicate (l.length - (Lib.compact l).length) 0) (n := n) (os := #[]) (by simp; omega) h1 hh h2 h3 h4
    show World.ownsRow _ _ _ _ _ _ _
    refine ⟨by simp, ?_⟩
    rcases this.2 with ⟨hx, _⟩ | ⟨g', cap', cur', hv, k1, kk, k2, k3, k4, k5⟩
    · cases hx
    · injection hv with e1 e2 e3
      cases e1
      subst e3
      refine .inr ⟨g, cap, cur', rfl, k1, kk, by omega, k3, k4, ?_⟩
      have h6 := congrArg (List.take (Lib.compact l).length) k5
      rw [List.take_take, Nat.min_eq_left (by omega), List.map_append] at h6
      rw [Nat.mul_one, h6, List.take_left' (by simp)]
theorem compact_sort (t : Tm) : Lib.compact ((namedT t).mergeSort fun x y => decide (x ≤ y)) = nextT t := by
  unfold namedT nextT
  have c0 : Lib.compact ([] : List Int) = [] := rfl
  have c1 : ∀ x : Int, Lib.compact [x] = [x] := fun x => by simp [Lib.compact, Lib.compactUpTo, List.range_succ, Lib.keeps]
  have c2 : ∀ x y : Int, Lib.compact [x, y] = if x = y then [x] else [x, y] := fun x y => by
    by_cases h : x = y
    · subst h; simp [Lib.compact, Lib.compactUpTo, List.range_succ, Lib.keeps]
    · have h' : ¬ y = x := fun e => h e.symm
      simp [Lib.compact, Lib.compactUpTo, List.range_succ, Lib.keeps, h, h']
  have s2 : ∀ x y : Int, [x, y].mergeSort (fun a b => decide (a ≤ b)) = if x ≤ y then [x, y] else [y, x] := fun x y => by
    by_cases h : x ≤ y <;> simp [List.mergeSort, List.MergeSort.Internal.splitInTwo, h]
  by_cases h1 : t.kind = 1
  · simp only [h1, if_true, List.mergeSort_singleton, c1]
  · by_cases h2 : t.kind = 2
    · simp only [h2, if_true, show ¬ ((2 : Int) = 1) by omega, if_false, s2]
      by_cases e : t.t0 = t.t1
      · simp [e, c2]
      · by_cases l : t.t0 ≤ t.t1
        · have : t.t0 < t.t1 := by omega
          simp [e, l, c2, this]
        · have : ¬ t.t0 < t.t1 := by omega
          have e' : ¬ t.t1 = t.t0 := fun x => e x.symm
          simp [e, l, c2, this, e']
    · simp only [h1, h2, if_false, List.mergeSort_nil, c0]
abbrev blArr (iv : Value) (t : Tm) : Array Value := #[iv, .int .u8 t.kind, .int .i64 t.arg, .int .i64 t.t0, .int .i64 t.t1, .int .u8 t.trap]
theorem named_len (t : Tm) : (namedT t).length ≤ 2 := by
  unfold namedT
  repeat' split
  all_goals simp
theorem below_grown {w w1 w2 : World} {row : Option Nat} (h : Below w.heap.size w w1) (hg : w1.grownBy w2 row) (hr : ∀ g, row = some g → w.heap.size ≤ g) : Below w.heap.size w w2 :=
  ⟨hg.os.trans h.os, hg.tape.trans h.tape, hg.output.trans h.output, Nat.le_trans h.size hg.size, fun k hk => (hg.block k (Nat.lt_of_lt_of_le hk h.size) (fun e => by have := hr k e.symm; omega)).trans (h.block k hk)⟩
theorem next_any (iv : Value) (t : Tm) (w : World) : Calls Tryd.prog 54 #[.agg (blArr iv t)] w fun e w' => ∃ v, e = .returned v ∧ OwnI w' w.heap.size v (nextT t) ∧ Below w.heap.size w w' := by
  have hN := fun W => named_any t W
  have hS : Hid (∀ (W : World) (v : Value), OwnI W w.heap.size v (namedT t) → _) := fun W v h => sort_own h (by have := named_len t; omega)
  have hC : Hid (∀ (W : World) (v : Value), OwnI W w.heap.size v ((namedT t).mergeSort fun x y => decide (x ≤ y)) → _) := fun W v h => compact_own h (by have := named_len t; simp; omega)
  have hX := compact_sort t
  rw [← hX]
  clear hX
  generalize (namedT t).mergeSort (fun x y => decide (x ≤ y)) = l2 at *
  generalize namedT t = l1 at *
  generalize Lib.compact l2 = l3 at *
  obtain ⟨k, a, x, y, z⟩ := t
  have HN : Hid (∀ W, Calls Tryd.prog 20 #[.agg #[.int .u8 k, .int .i64 a, .int .i64 x, .int .i64 y, .int .u8 z]] W fun e w' => ∃ v, e = .returned v ∧ OwnI w' W.heap.size v l1 ∧ Below W.heap.size W w') := hN
  show Calls _ _ #[.agg #[iv, .int .u8 k, .int .i64 a, .int .i64 x, .int .i64 y, .int .u8 z]] _ _
  have HB : Hid (Below w.heap.size w (w.alloc (.cells #[iv, .int .u8 k, .int .i64 a, .int .i64 x, .int .i64 y, .int .u8 z] 55))) := below_alloc (Below.refl _ _) _
  clear hN
  go_enter Tryd.func54, Tryd.ntmps54
  go_wp2_with (first
    | (go_at_call 20; refine Calls.mono (HN.out _) ?_; rintro e w1 ⟨v, rfl, ho1, hb1⟩; have HO1 : Hid (OwnI w1 w.heap.size v l1) := own_mono ho1 HB.out.size; have HB1 : Hid (Below w.heap.size w w1) := below_trans HB.out hb1; clear ho1 hb1)
    | (go_at_call 66; refine (hS.out _ _ HO1.out).mono ?_; rintro e w2 ⟨rfl, ho2, hg2⟩; have HO2 : Hid _ := ho2; have HG2 : Hid _ := hg2; clear ho2 hg2)
    | (go_at_call 67; refine (hC.out _ _ HO2.out).mono ?_; rintro e w3 ⟨v3, rfl, ho3, hg3, hb3⟩; have HO3 : Hid _ := ho3; have HG3 : Hid _ := hg3; clear ho3 hg3 hb3))
  go_ret
  refine ⟨v3, rfl, HO3.out, ?_⟩
  have hr : ∀ g, v.ownBlock = some g → w.heap.size ≤ g := fun g hg => (HO1.out.lt g hg).1
  exact below_grown (below_grown HB1.out HG2.out hr) HG3.out hr
end Go.Proofs.YtdibkfiffdbfnaaDoor
