/- The library's sorting, compacting and turning round, of a row of one's own; what follows a block. -/
import Derived.Test.YtcggbedjhglmmaaGreatDoorGBoxM
import Derived.Test.YtcggbedjhglmmaaGreatDoorShelf
import Derived.Sort.OwnSortedInts
import Derived.Test.YtcggbedjhglmmaaGreatDoorGMemM
import Derived.Test.YtcggbedjhglmmaaGreatDoorLPlainM
import Derived.Test.YtcggbedjhglmmaaGreatDoorGChk3M
namespace Go.Proofs.YtcggbedjhglmmaaGreatDoor
open Go.RowKit Go.Sort

theorem grow_none (w : World) : grow w #[] = w := by simp [grow]
theorem grownBy_refl (w : World) (r : Option Nat) : w.grownBy w r := ⟨rfl, rfl, rfl, Nat.le_refl _, fun _ _ _ => rfl⟩
theorem sort_own {w : World} {base : Nat} {v : Value} {l : List Int} (h : OwnI w base v l) (hl : l.length ≤ 1000000000) :
    Calls Tryz.prog 53 #[v] w fun e w' => e = .returned (.tuple #[]) ∧ OwnI w' base v (l.mergeSort fun x y => decide (x ≤ y)) ∧ w.grownBy w' v.ownBlock := by
  rcases h.2 with ⟨rfl, h0⟩ | ⟨g, cap, cur, rfl, h1, hh, h2, h3, h4, h5⟩
  · have hn : l = [] := List.eq_nil_of_length_eq_zero h0
    subst hn
    refine (Tryz.slices_Sort_int_none none 0 w).mono ?_
    rintro e w' ⟨rfl, rfl⟩
    exact ⟨rfl, by simpa using h, grownBy_refl _ _⟩
  · have hH := holds_of_blockI hh (by simpa using h5)
    refine (Tryz.slices_Sort_int g 0 cap l w hH (Array.getElem?_eq_some_iff.1 hh).1 (by omega)).mono ?_
    rintro e w' ⟨rfl, n, os, rfl⟩
    refine ⟨rfl, ?_, grownBy_sortedI _⟩
    have := ownsRow_sortedI (ts := l.mergeSort fun x y => decide (x ≤ y)) (n := n) (os := os) (by simp) h1 hh h2 h3 h4
    show World.ownsRow _ _ _ _ _ _ _
    rw [List.length_mergeSort]
    exact this
theorem compact_own {w : World} {base : Nat} {v : Value} {l : List Int} (h : OwnI w base v l) (hl : l.length ≤ 1000000000) :
    Calls Tryz.prog 54 #[v] w fun e w' => ∃ v', e = .returned v' ∧ OwnI w' base v' (Lib.compact l) ∧ w.grownBy w' v.ownBlock ∧ v'.ownBlock = v.ownBlock := by
  rcases h.2 with ⟨rfl, h0⟩ | ⟨g, cap, cur, rfl, h1, hh, h2, h3, h4, h5⟩
  · have hn : l = [] := List.eq_nil_of_length_eq_zero h0
    subst hn
    refine (Tryz.slices_Compact_int_empty none 0 w).mono ?_
    rintro e w' ⟨rfl, rfl⟩
    exact ⟨_, rfl, by simpa [Lib.compact, Lib.compactUpTo] using h, grownBy_refl _ _, rfl⟩
  · have hH := holds_of_blockI hh (by simpa using h5)
    refine (Tryz.slices_Compact_int g 0 cap l w hH (by omega) h2).mono ?_
    rintro e w' ⟨rfl, n, rfl⟩
    rw [← grow_none (putRow _ _ _ _ _)]
    have hle := Lib.compact_length_le l
    refine ⟨_, rfl, ?_, grownBy_sortedI _, rfl⟩
    have := ownsRow_sortedI (ts := Lib.compact l ++ List.replicate (l.length - (Lib.compact l).length) 0) (n := n) (os := #[]) (by simp; omega) h1 hh h2 h3 h4
    show World.ownsRow _ _ _ _ _ _ _
    refine ⟨by simp, ?_⟩
    rcases this.2 with ⟨hx, _⟩ | ⟨g', cap', cur', hv, k1, kk, k2, k3, k4, k5⟩
    · cases hx
    · injection hv with e1 e2 e3
      cases e1
      subst e3
      refine .inr ⟨g, cap, cur', rfl, k1, kk, by omega, k3, k4, ?_⟩
      have h6 := congrArg (List.take (Lib.compact l).length) k5
      rw [List.take_take, Nat.min_eq_left (by omega), List.map_append] at h6
      rw [Nat.mul_one, h6, List.take_left' (by simp)]
theorem compact_sort (t : Tm) : Lib.compact ((namedT t).mergeSort fun x y => decide (x ≤ y)) = nextT t := by
  unfold namedT nextT
  have c0 : Lib.compact ([] : List Int) = [] := rfl
  have c1 : ∀ x : Int, Lib.compact [x] = [x] := fun x => by simp [Lib.compact, Lib.compactUpTo, List.range_succ, Lib.keeps]
  have c2 : ∀ x y : Int, Lib.compact [x, y] = if x = y then [x] else [x, y] := fun x y => by
    by_cases h : x = y
    · subst h; simp [Lib.compact, Lib.compactUpTo, List.range_succ, Lib.keeps]
    · have h' : ¬ y = x := fun e => h e.symm
      simp [Lib.compact, Lib.compactUpTo, List.range_succ, Lib.keeps, h, h']
  have s2 : ∀ x y : Int, [x, y].mergeSort (fun a b => decide (a ≤ b)) = if x ≤ y then [x, y] else [y, x] := fun x y => by
    by_cases h : x ≤ y <;> simp [List.mergeSort, List.MergeSort.Internal.splitInTwo, h]
  by_cases h1 : t.kind = 1
  · simp only [h1, if_true, List.mergeSort_singleton, c1]
  · by_cases h2 : t.kind = 2
    · simp only [h2, if_true, show ¬ ((2 : Int) = 1) by omega, if_false, s2]
      by_cases e : t.t0 = t.t1
      · simp [e, c2]
      · by_cases l : t.t0 ≤ t.t1
        · have : t.t0 < t.t1 := by omega
          simp [e, l, c2, this]
        · have : ¬ t.t0 < t.t1 := by omega
          have e' : ¬ t.t1 = t.t0 := fun x => e x.symm
          simp [e, l, c2, this, e']
    · simp only [h1, h2, if_false, List.mergeSort_nil, c0]
abbrev blArr (iv : Value) (t : Tm) : Array Value := #[iv, .int .u8 t.kind, .int .i64 t.arg, .int .i64 t.t0, .int .i64 t.t1, .int .u8 t.trap]
theorem named_len (t : Tm) : (namedT t).length ≤ 2 := by
  unfold namedT
  repeat' split
  all_goals simp
theorem below_grown {w w1 w2 : World} {row : Option Nat} (h : Below w.heap.size w w1) (hg : w1.grownBy w2 row) (hr : ∀ g, row = some g → w.heap.size ≤ g) : Below w.heap.size w w2 :=
  ⟨hg.os.trans h.os, hg.tape.trans h.tape, hg.output.trans h.output, Nat.le_trans h.size hg.size, fun k hk => (hg.block k (Nat.lt_of_lt_of_le hk h.size) (fun e => by have := hr k e.symm; omega)).trans (h.block k hk)⟩
theorem next_any (iv : Value) (t : Tm) (w : World) : Calls Tryz.prog 28 #[.agg (blArr iv t)] w fun e w' => ∃ v, e = .returned v ∧ OwnI w' w.heap.size v (nextT t) ∧ Below w.heap.size w w' := by
  have hN := fun W => named_any t W
  have hS : Hid (∀ (W : World) (v : Value), OwnI W w.heap.size v (namedT t) → _) := fun W v h => sort_own h (by have := named_len t; omega)
  have hC : Hid (∀ (W : World) (v : Value), OwnI W w.heap.size v ((namedT t).mergeSort fun x y => decide (x ≤ y)) → _) := fun W v h => compact_own h (by have := named_len t; simp; omega)
  have hX := compact_sort t
  rw [← hX]
  clear hX
  generalize (namedT t).mergeSort (fun x y => decide (x ≤ y)) = l2 at *
  generalize namedT t = l1 at *
  generalize Lib.compact l2 = l3 at *
  obtain ⟨k, a, x, y, z⟩ := t
  have HN : Hid (∀ W, Calls Tryz.prog 52 #[.agg #[.int .u8 k, .int .i64 a, .int .i64 x, .int .i64 y, .int .u8 z]] W fun e w' => ∃ v, e = .returned v ∧ OwnI w' W.heap.size v l1 ∧ Below W.heap.size W w') := hN
  show Calls _ _ #[.agg #[iv, .int .u8 k, .int .i64 a, .int .i64 x, .int .i64 y, .int .u8 z]] _ _
  have HB : Hid (Below w.heap.size w (w.alloc (.cells #[iv, .int .u8 k, .int .i64 a, .int .i64 x, .int .i64 y, .int .u8 z] 48))) := below_alloc (Below.refl _ _) _
  clear hN
  go_enter Tryz.func28, Tryz.ntmps28
  go_wp2_with (first
    | (go_at_call 52; refine Calls.mono (HN.out _) ?_; rintro e w1 ⟨v, rfl, ho1, hb1⟩; have HO1 : Hid (OwnI w1 w.heap.size v l1) := own_mono ho1 HB.out.size; have HB1 : Hid (Below w.heap.size w w1) := below_trans HB.out hb1; clear ho1 hb1)
    | (go_at_call 53; refine (hS.out _ _ HO1.out).mono ?_; rintro e w2 ⟨rfl, ho2, hg2⟩; have HO2 : Hid _ := ho2; have HG2 : Hid _ := hg2; clear ho2 hg2)
    | (go_at_call 54; refine (hC.out _ _ HO2.out).mono ?_; rintro e w3 ⟨v3, rfl, ho3, hg3, hb3⟩; have HO3 : Hid _ := ho3; have HG3 : Hid _ := hg3; clear ho3 hg3 hb3))
  go_ret
  refine ⟨v3, rfl, HO3.out, ?_⟩
  have hr : ∀ g, v.ownBlock = some g → w.heap.size ≤ g := fun g hg => (HO1.out.lt g hg).1
  exact below_grown (below_grown HB1.out HG2.out hr) HG3.out hr
end Go.Proofs.YtcggbedjhglmmaaGreatDoor
/- Live variables of a graph, plain: what a block does to a variable first, what phis ask, the rows that are told. No program. -/
namespace Go.Proofs.YtcggbedjhglmmaaGreatDoor

def setsI (x : In) : Bool := x.kind != 7 && x.kind != 8 && x.kind != 10
/-- 1: it asks it first, 2: it sets it first, 0: neither -/
def firstI (v : Int) : List In → Nat
  | [] => 0
  | x :: l => if x.kind ≠ 1 ∧ v ∈ x.args then 1 else if setsI x = true ∧ x.dst = v then 2 else firstI v l
def asksT (t : Tm) (v : Int) : Bool := (t.kind == 2 || t.kind == 3) && t.arg == v
def firstB (b : Bl) (v : Int) : Nat := if firstI v b.ins = 0 then (if asksT b.tm v = true then 1 else 0) else firstI v b.ins
theorem firstI_le (v : Int) : ∀ l : List In, firstI v l ≤ 2
  | [] => by simp [firstI]
  | x :: l => by 
    unfold firstI; split
    · omega
    · split
      · omega
      · exact firstI_le v l
theorem firstB_le (b : Bl) (v : Int) : firstB b v ≤ 2 := by
  unfold firstB; have := firstI_le v b.ins; split
  · split <;> omega
  · exact this
/-- where it is not asked first, it passes just if nothing sets it -/
theorem firstI_pass (v : Int) : ∀ l : List In, firstI v l ≠ 1 → (firstI v l = 0 ↔ ¬ ∃ x ∈ l, setsI x = true ∧ x.dst = v)
  | [], _ => by simp [firstI]
  | x :: l, h => by
    unfold firstI at h ⊢
    by_cases h1 : x.kind ≠ 1 ∧ v ∈ x.args
    · rw [if_pos h1] at h; exact absurd rfl h
    · rw [if_neg h1] at h ⊢
      by_cases h2 : setsI x = true ∧ x.dst = v
      · rw [if_pos h2]; simp [h2]
      · rw [if_neg h2] at h ⊢
        rw [firstI_pass v l h]
        simp only [List.mem_cons, exists_eq_or_imp, h2, false_or]
theorem firstB_pass (b : Bl) (v : Int) (h : firstB b v ≠ 1) : firstB b v = 0 ↔ ¬ ∃ x ∈ b.ins, setsI x = true ∧ x.dst = v := by
  unfold firstB at h ⊢
  by_cases h0 : firstI v b.ins = 0
  · rw [if_pos h0] at h ⊢
    by_cases h1 : asksT b.tm v = true
    · rw [if_pos h1] at h; exact absurd rfl h
    · rw [if_neg h1]
      have := (firstI_pass v b.ins (by omega)).1 h0
      exact ⟨fun _ => this, fun _ => rfl⟩
  · rw [if_neg h0] at h ⊢
    exact firstI_pass v b.ins h
/-- first asked: nothing in front of it sets it -/
theorem firstI_ask (v : Int) : ∀ l : List In, firstI v l = 1 → ∃ x ∈ l, x.kind ≠ 1 ∧ v ∈ x.args
  | [], h => by simp [firstI] at h
  | x :: l, h => by
    unfold firstI at h
    by_cases h1 : x.kind ≠ 1 ∧ v ∈ x.args
    · exact ⟨x, List.mem_cons_self, h1⟩
    · rw [if_neg h1] at h
      by_cases h2 : setsI x = true ∧ x.dst = v
      · rw [if_pos h2] at h; omega
      · rw [if_neg h2] at h
        obtain ⟨y, m, hy⟩ := firstI_ask v l h
        exact ⟨y, List.mem_cons_of_mem _ m, hy⟩
theorem firstB_ask (b : Bl) (v : Int) (h : firstB b v = 1) : (∃ x ∈ b.ins, x.kind ≠ 1 ∧ v ∈ x.args) ∨ asksT b.tm v = true := by
  unfold firstB at h
  by_cases h0 : firstI v b.ins = 0
  · rw [if_pos h0] at h
    by_cases h1 : asksT b.tm v = true
    · exact .inr h1
    · rw [if_neg h1] at h; omega
  · rw [if_neg h0] at h; exact .inl (firstI_ask v _ h)

def blk (bs : List Bl) (i : Nat) : Bl := bs.getD i default
/-- a phi of the block 'to' asks v for the block 'fr' -/
def phiAsk (bs : List Bl) (ah : List (List Int)) (fr to : Nat) (v : Int) : Prop :=
  ∃ k : Nat, (ah.getD to [])[k]? = some (fr : Int) ∧ ∃ x ∈ (blk bs to).ins, x.kind = 1 ∧ x.args[k]? = some v
def nxB (bs : List Bl) (i : Nat) : List Nat := (nextT (blk bs i).tm).map Int.toNat
def phiOut (bs : List Bl) (ah : List (List Int)) (v : Int) (i : Nat) : Prop := ∃ j ∈ nxB bs i, phiAsk bs ah i j v
abbrev liveIn (bs : List Bl) (ah : List (List Int)) (v : Int) (i : Nat) : Prop := Lin (nxB bs) (fun i => firstB (blk bs i) v = 1) (fun i => firstB (blk bs i) v = 0) (phiOut bs ah v) i
abbrev liveOut (bs : List Bl) (ah : List (List Int)) (v : Int) (i : Nat) : Prop := Lout (nxB bs) (fun i => firstB (blk bs i) v = 1) (fun i => firstB (blk bs i) v = 0) (phiOut bs ah v) i
/-- out of a block: into one next to it, or asked there by a phi -/
theorem liveOut_iff {bs : List Bl} {ah : List (List Int)} {v : Int} {i : Nat} : liveOut bs ah v i ↔ ∃ j ∈ nxB bs i, liveIn bs ah v j ∨ phiAsk bs ah i j v := by
  constructor
  · rintro (⟨j, m, h⟩ | ⟨j, m, h⟩)
    · exact ⟨j, m, .inr h⟩
    · exact ⟨j, m, .inl h⟩
  · rintro ⟨j, m, h | h⟩
    · exact .inr ⟨j, m, h⟩
    · exact .inl ⟨j, m, h⟩
/-- into a block: asked there, or out of it -/
theorem liveIn_here {bs : List Bl} {ah : List (List Int)} {v : Int} {i : Nat} (h : liveIn bs ah v i) : firstB (blk bs i) v = 1 ∨ liveOut bs ah v i := by
  rcases lin_iff.1 h with h | ⟨_, h⟩
  · exact .inl h
  · exact .inr h
/-- what is live somewhere is asked somewhere -/
theorem live_asked {bs : List Bl} {ah : List (List Int)} {v : Int} {i : Nat} (h : liveIn bs ah v i) :
    ∃ k, (∃ x ∈ (blk bs k).ins, v ∈ x.args) ∨ asksT (blk bs k).tm v = true := by
  refine Classical.byContradiction fun hn => ?_
  refine lin_none (fun k hk => hn ?_) (fun k hk => hn ?_) h
  · rcases firstB_ask _ _ hk with ⟨x, m, _, hv⟩ | h
    · exact ⟨k, .inl ⟨x, m, hv⟩⟩
    · exact ⟨k, .inr h⟩
  · obtain ⟨j, _, t, _, x, m, _, hx⟩ := hk
    exact ⟨j, .inl ⟨x, m, List.mem_of_getElem? hx⟩⟩

noncomputable def decL (p : Prop) : Bool := @decide p (Classical.propDecidable p)
theorem decL_iff {p : Prop} : decL p = true ↔ p := by unfold decL; simp
/-- rows of variables, rising: those below n of which p holds -/
noncomputable def rowV (p : Int → Prop) (n : Nat) : List Int := ((List.range n).map Int.ofNat).filter fun v => decL (p v)
theorem rowV_zero (p : Int → Prop) : rowV p 0 = [] := rfl
theorem rowV_succ (p : Int → Prop) (n : Nat) : rowV p (n + 1) = rowV p n ++ (if decL (p (n : Int)) = true then [(n : Int)] else []) := by
  unfold rowV
  rw [List.range_succ, List.map_append, List.filter_append]
  congr 1
  simp only [List.map_cons, List.map_nil, List.filter_cons, List.filter_nil]
  rfl
theorem rowV_mem {p : Int → Prop} {n : Nat} {v : Int} : v ∈ rowV p n ↔ (0 ≤ v ∧ v < (n : Int)) ∧ p v := by
  unfold rowV
  rw [List.mem_filter, decL_iff, List.mem_map]
  constructor
  · rintro ⟨⟨k, hk, e⟩, h⟩
    have := List.mem_range.1 hk
    have e' : v = (k : Int) := e.symm
    exact ⟨⟨by omega, by omega⟩, h⟩
  · rintro ⟨⟨h0, h1⟩, h⟩
    exact ⟨⟨v.toNat, List.mem_range.2 (by omega), by show ((v.toNat : Nat) : Int) = v; omega⟩, h⟩
theorem rowV_len (p : Int → Prop) (n : Nat) : (rowV p n).length ≤ n := by
  unfold rowV
  exact Nat.le_trans (List.length_filter_le _ _) (by simp)
theorem rowV_congr {p q : Int → Prop} {n : Nat} (h : ∀ v : Int, 0 ≤ v → v < (n : Int) → (p v ↔ q v)) : rowV p n = rowV q n := by
  induction n with
  | zero => rfl
  | succ n ih =>
    rw [rowV_succ, rowV_succ, ih fun v h0 h1 => h v h0 (by omega)]
    have e : decL (p (n : Int)) = decL (q (n : Int)) := by
      rw [Bool.eq_iff_iff, decL_iff, decL_iff]; exact h n (by omega) (by omega)
    rw [e]
noncomputable def intoL (bs : List Bl) (ah : List (List Int)) (n : Nat) : List (List Int) := (List.range bs.length).map fun i => rowV (fun v => liveIn bs ah v i) n
noncomputable def outL (bs : List Bl) (ah : List (List Int)) (n : Nat) : List (List Int) := (List.range bs.length).map fun i => rowV (fun v => liveOut bs ah v i) n
end Go.Proofs.YtcggbedjhglmmaaGreatDoor
/- The document's side: what a block does to a variable first. -/
namespace Go.Proofs.YtcggbedjhglmmaaGreatDoor
open Go.RowKit

def memB (l : List Int) (x : Int) : Bool := decide (x ∈ l)
theorem memB_drop {l : List Int} {i : Nat} {x : Int} (h : i < l.length) : memB (l.drop i) x = (decide (l.getD i 0 = x) || memB (l.drop (i + 1)) x) := by
  have e : l.getD i 0 = l[i] := by simp [List.getD, List.getElem?_eq_getElem h]
  rw [e, List.drop_eq_getElem_cons h]
  unfold memB
  rw [← Bool.decide_or]
  exact decide_eq_decide.2 (by rw [List.mem_cons]; exact or_congr_left eq_comm)
set_option maxRecDepth 100000 in
set_option maxHeartbeats 1000000 in
theorem has_any (l : List Int) (x : Int) (v : Value) (w : World) (h : IntsAt w v l) : Calls Tryz.prog 84 #[v, .int .i64 x] w fun e w' => e = .returned (.bool (memB l x)) ∧ w' = w := by
  obtain ⟨a, c, rfl, hll⟩ := h.form
  have HI : Hid (∀ i, i < l.length → _) := fun i hi => h.get (i := i) hi
  have HD : Hid (∀ i, i < l.length → _) := fun i hi => memB_drop (l := l) (x := x) hi
  have HZ : Hid (memB (l.drop l.length) x = false) := by show _ = _; rw [List.drop_length]; rfl
  obtain ⟨R, hR⟩ : ∃ R, R = memB l x := ⟨_, rfl⟩
  rw [← hR]
  have HR : Hid (memB (l.drop 0) x = R) := hR.symm
  obtain ⟨n, hn⟩ : ∃ n, n = l.length := ⟨_, rfl⟩
  rw [← hn] at HI HD HZ hll ⊢
  clear h hR hn
  go_enter Tryz.func84, Tryz.ntmps84
  go_wp2
  go_loopw [5] (fun vi wr => ∃ i : Nat, vi = .int .i64 i ∧ i ≤ n ∧ Hid (memB (l.drop i) x = R ∧ wr = w)) (fun vi _ => n - (intOf vi).toNat)
  case atStart => exact ⟨0, rfl, by omega, HR.out, rfl⟩
  case round =>
    obtain ⟨i, rfl, hi, hr⟩ := hrel
    have hw := hr.out.2
    subst hw
    clear HR
    by_cases hin : i < n
    · obtain ⟨g, o, rfl, hg, c0⟩ := HI.out i hin
      have hin' : (i : Int) < n := by omega
      have HDD : Hid _ := HD.out i hin
      rw [hr.out.1] at HDD
      clear HI HD HZ
      generalize l.getD i 0 = y at *
      by_cases hy : y = x
      · subst hy
        have HX : Hid (R = true) := by show R = true; have h9 := HDD.out; simpa using h9
        clear HDD
        go_wp2
        go_ret
        exact ⟨ret_bool HX.out.symm, rfl⟩
      · have hyf : (y == x) = false := beq_false_of_ne hy
        have HX : Hid (R = memB (l.drop (i + 1)) x) := by show R = memB (l.drop (i + 1)) x; have h9 := HDD.out; simpa [hy] using h9
        clear HDD
        go_wp2
        go_roundw
        case rel => exact ⟨i + 1, by first | rfl | (congr 1; omega), by omega, HX.out.symm, by first | rfl | trivial⟩
        case measure => simp [intOf]; omega
    · obtain rfl : i = n := by omega
      have HX : Hid (false = R) := by have h9 := hr.out.1; rw [HZ.out] at h9; exact h9
      clear HI HD HZ
      go_wp2
      go_ret
      exact ⟨ret_bool HX.out, rfl⟩
set_option maxRecDepth 100000 in
theorem rsets_any (x : In) (av : Value) (w : World) : Calls Tryz.prog 85 #[inV x av] w fun e w' => e = .returned (.bool (setsI x)) ∧ Below w.heap.size w w' := by
  obtain ⟨k, op, dst, args, bits, ref⟩ := x
  unfold inV setsI
  dsimp only
  have HB : Hid (∀ o, Below w.heap.size w (w.alloc o)) := fun o => below_alloc (Below.refl _ _) o
  by_cases h7 : k = 7
  · subst h7
    go_enter Tryz.func85, Tryz.ntmps85
    go_wp2
    go_ret
    exact ⟨rfl, HB.out _⟩
  by_cases h8 : k = 8
  · subst h8
    go_enter Tryz.func85, Tryz.ntmps85
    go_wp2
    go_ret
    exact ⟨rfl, HB.out _⟩
  by_cases h10 : k = 10
  · subst h10
    go_enter Tryz.func85, Tryz.ntmps85
    go_wp2
    go_ret
    exact ⟨rfl, HB.out _⟩
  have e7 : (k == 7) = false := beq_false_of_ne h7
  have e8 : (k == 8) = false := beq_false_of_ne h8
  have e10 : (k == 10) = false := beq_false_of_ne h10
  have n7 : (k != 7) = true := by simp [h7]
  have n8 : (k != 8) = true := by simp [h8]
  have n10 : (k != 10) = true := by simp [h10]
  have HR : Hid ((k != 7 && k != 8 && k != 10) = true) := by show _ = _; simp [h7, h8, h10]
  rw [HR.out]
  clear HR
  go_enter Tryz.func85, Tryz.ntmps85
  go_wp2
  go_ret
  exact ⟨rfl, HB.out _⟩
def firstR (l : List In) (t : Tm) (v : Int) : Nat := if firstI v l = 0 then (if asksT t v = true then 1 else 0) else firstI v l
theorem firstR_cons {l : List In} {t : Tm} {v : Int} {i : Nat} (h : i < l.length) : firstR (l.drop i) t v =
    if (l.getD i default).kind ≠ 1 ∧ v ∈ (l.getD i default).args then 1 else if setsI (l.getD i default) = true ∧ (l.getD i default).dst = v then 2 else firstR (l.drop (i + 1)) t v := by
  have e : l.getD i default = l[i] := by simp [List.getD, List.getElem?_eq_getElem h]
  rw [e, List.drop_eq_getElem_cons h]
  unfold firstR
  rw [firstI]
  by_cases h1 : l[i].kind ≠ 1 ∧ v ∈ l[i].args
  · simp [h1]
  · rw [if_neg h1, if_neg h1]
    by_cases h2 : setsI l[i] = true ∧ l[i].dst = v
    · simp [h2]
    · rw [if_neg h2, if_neg h2]
theorem ret_nat {a b : Nat} (h : a = b) : Ending.returned (.int .i64 (a : Int)) = .returned (.int .i64 (b : Int)) := by rw [h]
set_option maxRecDepth 100000 in
set_option maxHeartbeats 4000000 in
theorem rfirst_any (b : Bl) (iv : Value) (v : Int) (w : World) (h : InsAt w iv b.ins) : Calls Tryz.prog 51 #[.agg (blArr iv b.tm), .int .i64 v] w fun e w' => e = .returned (.int .i64 (firstB b v : Nat)) ∧ Below w.heap.size w w' := by
  obtain ⟨L, t⟩ := b
  dsimp only at h ⊢
  obtain ⟨a, c, rfl, hll⟩ := h.form
  have HI : Hid (∀ i, i < L.length → _) := fun i hi => h.get (i := i) hi
  have HD : Hid (∀ i, i < L.length → _) := fun i hi => firstR_cons (l := L) (t := t) (v := v) hi
  have HZ : Hid (firstR (L.drop L.length) t v = if asksT t v = true then 1 else 0) := by show _ = _; rw [List.drop_length]; unfold firstR; simp [firstI]
  obtain ⟨R, hR⟩ : ∃ R, R = firstB ⟨L, t⟩ v := ⟨_, rfl⟩
  rw [← hR]
  have HR : Hid (firstR (L.drop 0) t v = R) := hR.symm
  obtain ⟨n, hn⟩ : ∃ n, n = L.length := ⟨_, rfl⟩
  rw [← hn] at HI HD HZ hll ⊢
  have HHS : Hid _ := has_any
  have HST : Hid _ := rsets_any
  have H0 : Hid (Below w.heap.size w (w.alloc (.cells #[.slice a n c, .int .u8 t.kind, .int .i64 t.arg, .int .i64 t.t0, .int .i64 t.t1, .int .u8 t.trap] 48)) ∧ Box (w.alloc (.cells #[.slice a n c, .int .u8 t.kind, .int .i64 t.arg, .int .i64 t.t0, .int .i64 t.t1, .int .u8 t.trap] 48)) w.heap.size [.slice a n c, .int .u8 t.kind, .int .i64 t.arg, .int .i64 t.t0, .int .i64 t.t1, .int .u8 t.trap]) := ⟨below_alloc (Below.refl _ _) _, Box.new w [.slice a n c, .int .u8 t.kind, .int .i64 t.arg, .int .i64 t.t0, .int .i64 t.t1, .int .u8 t.trap] 48⟩
  clear h hR hn
  obtain ⟨tk, ta, t0, t1, tt⟩ := t
  unfold asksT at HZ
  dsimp only at *
  go_enter Tryz.func51, Tryz.ntmps51
  go_wp2
  go_loopw [5] (fun vi wr => ∃ i : Nat, vi = .int .i64 i ∧ i ≤ n ∧ Hid (firstR (L.drop i) ⟨tk, ta, t0, t1, tt⟩ v = R ∧ Below w.heap.size w wr ∧ Box wr w.heap.size [.slice a n c, .int .u8 tk, .int .i64 ta, .int .i64 t0, .int .i64 t1, .int .u8 tt])) (fun vi _ => n - (intOf vi).toNat)
  case atStart => exact ⟨0, rfl, by omega, HR.out, H0.out⟩
  case round =>
    obtain ⟨i, rfl, hi, hr⟩ := hrel
    clear HR H0
    obtain ⟨e0, e1, e2, e3, e4, e5⟩ := box6 hr.out.2.2
    have hwl := hr.out.2.2.lt
    by_cases hin : i < n
    · obtain ⟨g, o, av, rfl, hg, c0, c1, c2, c3, c4, c5, hins⟩ := HI.out i hin
      obtain ⟨ia, il, ic, rfl⟩ : ∃ (ia : Option Addr) (il ic : Nat), av = .slice ia il ic := by obtain ⟨a, c, h, _⟩ := hins.form; exact ⟨_, _, _, h⟩
      have hin' : (i : Int) < n := by omega
      have HDD : Hid _ := HD.out i hin
      rw [hr.out.1] at HDD
      have HBW : Hid (Below w.heap.size w wr) := hr.out.2.1
      have HBX : Hid _ := hr.out.2.2
      have hcl : ∀ j, wr.cell? ⟨g, j, none⟩ = w.cell? ⟨g, j, none⟩ := fun j => HBW.out.cell (p := ⟨g, j, none⟩) hg
      rw [← hcl] at c0 c1 c2 c3 c4 c5
      have HIN : Hid (∀ W, Below w.heap.size w W → IntsAt W (.slice ia il ic) (L.getD i default).args) := fun W hb => hins.below hb
      clear HI HD HZ hr hcl hins
      generalize L.getD i default = X at *
      obtain ⟨k, op, dst, args, bits, ref⟩ := X
      dsimp only at *
      obtain ⟨S, hS⟩ : ∃ S, S = setsI ⟨k, op, dst, args, bits, ref⟩ := ⟨_, rfl⟩
      have HST2 : Hid (∀ W, Calls Tryz.prog 85 #[.agg #[.int .u8 k, .int .u8 op, .int .i64 dst, .slice ia il ic, .int .u64 bits, .int .i64 ref]] W fun e w' => e = .returned (.bool S) ∧ Below W.heap.size W w') := fun W => by rw [hS]; exact HST.out ⟨k, op, dst, args, bits, ref⟩ (.slice ia il ic) W
      rw [← hS] at HDD
      obtain ⟨HB, hB⟩ : ∃ B, B = memB args v := ⟨_, rfl⟩
      have HHS2 : Hid (∀ W, Below w.heap.size w W → Calls Tryz.prog 84 #[.slice ia il ic, .int .i64 v] W fun e w' => e = .returned (.bool HB) ∧ w' = W) := fun W hb => by rw [hB]; exact HHS.out args v (.slice ia il ic) W (HIN.out W hb)
      have HMB : Hid (v ∈ args ↔ HB = true) := by rw [hB]; show _ ↔ _; unfold memB; simp
      clear hS hB HHS HST HIN
      have HAL : Hid (∀ o, Below w.heap.size w (wr.alloc o)) := fun o => below_alloc HBW.out o
      have HFI : Hid (∀ W, Below (wr.alloc (.cells #[.int .u8 k, .int .u8 op, .int .i64 dst, .slice ia il ic, .int .u64 bits, .int .i64 ref] 54)).heap.size (wr.alloc (.cells #[.int .u8 k, .int .u8 op, .int .i64 dst, .slice ia il ic, .int .u64 bits, .int .i64 ref] 54)) W → (Below w.heap.size w W ∧ Box W w.heap.size [.slice (some ⟨g, o, none⟩) n c, .int .u8 tk, .int .i64 ta, .int .i64 t0, .int .i64 t1, .int .u8 tt]) ∧ Box W wr.heap.size [.int .u8 k, .int .u8 op, .int .i64 dst, .slice ia il ic, .int .u64 bits, .int .i64 ref]) := fun W hb =>
        ⟨⟨below_trans (HAL.out _) hb, (HBX.out.below (below_alloc (Below.refl _ _) _)).below hb⟩, (Box.new wr [.int .u8 k, .int .u8 op, .int .i64 dst, .slice ia il ic, .int .u64 bits, .int .i64 ref] 54).below hb⟩
      clear HBX
      by_cases hk : k = 1
      · subst hk
        have HX : Hid (R = if S = true ∧ dst = v then 2 else firstR (L.drop (i + 1)) ⟨tk, ta, t0, t1, tt⟩ v) := by show _ = _; have h9 := HDD.out; simpa using h9
        clear HDD HMB
        rcases hS : S with _ | _
        · have HY : Hid (R = firstR (L.drop (i + 1)) ⟨tk, ta, t0, t1, tt⟩ v) := by show _ = _; have h9 := HX.out; rw [hS] at h9; simpa using h9
          rw [hS] at HST2
          clear HX hS
          go_wp2_with (go_at_call 85; go_loud (refine Calls.mono (by exact HST2.out _) ?_; rintro e w2 ⟨rfl, hb2⟩; have HB2 : Hid _ := HFI.out _ hb2; obtain ⟨f0, f1, f2, f3, f4, f5⟩ := box6 HB2.out.2; have hw2 := HB2.out.2.lt; clear hb2))
          go_roundw
          case rel => exact ⟨i + 1, by first | rfl | (congr 1; omega), by omega, HY.out.symm, HB2.out.1⟩
          case measure => simp [intOf]; omega
        · rw [hS] at HST2
          by_cases hd : dst = v
          · subst hd
            have HY : Hid (R = 2) := by show _ = _; have h9 := HX.out; rw [hS] at h9; simpa using h9
            clear HX hS
            go_wp2_with (go_at_call 85; go_loud (refine Calls.mono (by exact HST2.out _) ?_; rintro e w2 ⟨rfl, hb2⟩; have HB2 : Hid _ := HFI.out _ hb2; obtain ⟨f0, f1, f2, f3, f4, f5⟩ := box6 HB2.out.2; have hw2 := HB2.out.2.lt; clear hb2))
            go_ret
            exact ⟨ret_nat (b := R) (a := 2) HY.out.symm, HB2.out.1.1⟩
          · have hdf : (dst == v) = false := beq_false_of_ne hd
            have HY : Hid (R = firstR (L.drop (i + 1)) ⟨tk, ta, t0, t1, tt⟩ v) := by show _ = _; have h9 := HX.out; rw [hS] at h9; simpa [hd] using h9
            clear HX hS hd
            go_wp2_with (go_at_call 85; go_loud (refine Calls.mono (by exact HST2.out _) ?_; rintro e w2 ⟨rfl, hb2⟩; have HB2 : Hid _ := HFI.out _ hb2; obtain ⟨f0, f1, f2, f3, f4, f5⟩ := box6 HB2.out.2; have hw2 := HB2.out.2.lt; clear hb2))
            go_roundw
            case rel => exact ⟨i + 1, by first | rfl | (congr 1; omega), by omega, HY.out.symm, HB2.out.1⟩
            case measure => simp [intOf]; omega
      · have hkn : (k != 1) = true := bne_iff_ne.2 hk
        rcases hB : HB with _ | _
        · have HX : Hid (R = if S = true ∧ dst = v then 2 else firstR (L.drop (i + 1)) ⟨tk, ta, t0, t1, tt⟩ v) := by
            show _ = _
            have h9 := HDD.out
            have hm : ¬ (k ≠ 1 ∧ v ∈ args) := fun h => by have := HMB.out.1 h.2; rw [hB] at this; exact absurd this (by decide)
            rwa [if_neg hm] at h9
          rw [hB] at HHS2
          clear HDD HMB hB hk
          rcases hS : S with _ | _
          · have HY : Hid (R = firstR (L.drop (i + 1)) ⟨tk, ta, t0, t1, tt⟩ v) := by show _ = _; have h9 := HX.out; rw [hS] at h9; simpa using h9
            rw [hS] at HST2
            clear HX hS
            go_wp2_with (first | (go_at_call 84; go_loud (refine Calls.mono (by exact HHS2.out _ (HAL.out _)) ?_; rintro e wh ⟨rfl, hwh⟩; subst wh)) | (go_at_call 85; go_loud (refine Calls.mono (by exact HST2.out _) ?_; rintro e w2 ⟨rfl, hb2⟩; have HB2 : Hid _ := HFI.out _ hb2; obtain ⟨f0, f1, f2, f3, f4, f5⟩ := box6 HB2.out.2; have hw2 := HB2.out.2.lt; clear hb2)))
            go_roundw
            case rel => exact ⟨i + 1, by first | rfl | (congr 1; omega), by omega, HY.out.symm, HB2.out.1⟩
            case measure => simp [intOf]; omega
          · rw [hS] at HST2
            by_cases hd : dst = v
            · subst hd
              have HY : Hid (R = 2) := by show _ = _; have h9 := HX.out; rw [hS] at h9; simpa using h9
              clear HX hS
              go_wp2_with (first | (go_at_call 84; go_loud (refine Calls.mono (by exact HHS2.out _ (HAL.out _)) ?_; rintro e wh ⟨rfl, hwh⟩; subst wh)) | (go_at_call 85; go_loud (refine Calls.mono (by exact HST2.out _) ?_; rintro e w2 ⟨rfl, hb2⟩; have HB2 : Hid _ := HFI.out _ hb2; obtain ⟨f0, f1, f2, f3, f4, f5⟩ := box6 HB2.out.2; have hw2 := HB2.out.2.lt; clear hb2)))
              go_ret
              exact ⟨ret_nat (b := R) (a := 2) HY.out.symm, HB2.out.1.1⟩
            · have hdf : (dst == v) = false := beq_false_of_ne hd
              have HY : Hid (R = firstR (L.drop (i + 1)) ⟨tk, ta, t0, t1, tt⟩ v) := by show _ = _; have h9 := HX.out; rw [hS] at h9; simpa [hd] using h9
              clear HX hS hd
              go_wp2_with (first | (go_at_call 84; go_loud (refine Calls.mono (by exact HHS2.out _ (HAL.out _)) ?_; rintro e wh ⟨rfl, hwh⟩; subst wh)) | (go_at_call 85; go_loud (refine Calls.mono (by exact HST2.out _) ?_; rintro e w2 ⟨rfl, hb2⟩; have HB2 : Hid _ := HFI.out _ hb2; obtain ⟨f0, f1, f2, f3, f4, f5⟩ := box6 HB2.out.2; have hw2 := HB2.out.2.lt; clear hb2)))
              go_roundw
              case rel => exact ⟨i + 1, by first | rfl | (congr 1; omega), by omega, HY.out.symm, HB2.out.1⟩
              case measure => simp [intOf]; omega
        · have HX : Hid (R = 1) := by
            show _ = _
            have h9 := HDD.out
            have hm : k ≠ 1 ∧ v ∈ args := ⟨hk, HMB.out.2 hB⟩
            rwa [if_pos hm] at h9
          rw [hB] at HHS2
          clear HDD HMB hB hk
          go_wp2_with (go_at_call 84; go_loud (refine Calls.mono (by exact HHS2.out _ (HAL.out _)) ?_; rintro e wh ⟨rfl, hwh⟩; subst wh))
          go_ret
          exact ⟨ret_nat (b := R) (a := 1) HX.out.symm, HAL.out _⟩
    · obtain rfl : i = n := by omega
      have HX : Hid (R = if ((tk == 2 || tk == 3) && ta == v) = true then 1 else 0) := by show _ = _; have h9 := hr.out.1; rw [HZ.out] at h9; exact h9.symm
      have HBW : Hid (Below w.heap.size w wr) := hr.out.2.1
      clear HI HD HZ hr HHS HST
      by_cases hv : ta = v
      · subst hv
        by_cases h2 : tk = 2
        · subst h2
          have HY : Hid (R = 1) := by show _ = _; have h9 := HX.out; simpa using h9
          clear HX
          go_wp2
          go_ret
          exact ⟨ret_nat (b := R) (a := 1) HY.out.symm, HBW.out⟩
        · have h2f : (tk == 2) = false := beq_false_of_ne h2
          by_cases h3 : tk = 3
          · subst h3
            have HY : Hid (R = 1) := by show _ = _; have h9 := HX.out; simpa using h9
            clear HX
            go_wp2
            go_ret
            exact ⟨ret_nat (b := R) (a := 1) HY.out.symm, HBW.out⟩
          · have h3f : (tk == 3) = false := beq_false_of_ne h3
            have HY : Hid (R = 0) := by show _ = _; have h9 := HX.out; rw [h2f, h3f] at h9; simpa using h9
            clear HX
            go_wp2
            go_ret
            exact ⟨ret_nat (b := R) (a := 0) HY.out.symm, HBW.out⟩
      · have hvf : (ta == v) = false := beq_false_of_ne hv
        have HY : Hid (R = 0) := by show _ = _; have h9 := HX.out; rw [hvf] at h9; simpa using h9
        clear HX
        by_cases h2 : tk = 2
        · subst h2
          go_wp2
          go_ret
          exact ⟨ret_nat (b := R) (a := 0) HY.out.symm, HBW.out⟩
        · have h2f : (tk == 2) = false := beq_false_of_ne h2
          by_cases h3 : tk = 3
          · subst h3
            go_wp2
            go_ret
            exact ⟨ret_nat (b := R) (a := 0) HY.out.symm, HBW.out⟩
          · have h3f : (tk == 3) = false := beq_false_of_ne h3
            go_wp2
            go_ret
            exact ⟨ret_nat (b := R) (a := 0) HY.out.symm, HBW.out⟩
end Go.Proofs.YtcggbedjhglmmaaGreatDoor
