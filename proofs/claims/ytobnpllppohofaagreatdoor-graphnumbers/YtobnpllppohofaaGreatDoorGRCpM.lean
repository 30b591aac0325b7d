/- A right graph that is trimmed is right, and trimmed once more it is the same. Plain. -/
import Derived.Test.YtobnpllppohofaaGreatDoorGTrQM
import Derived.Test.YtobnpllppohofaaGreatDoorGTr8
import Derived.Test.YtobnpllppohofaaGreatDoorGLstM
import Derived.Test.YtobnpllppohofaaGreatDoorGQ0M
import Derived.Test.YtobnpllppohofaaGreatDoorGAhd2M
import Derived.Test.YtobnpllppohofaaGreatDoorGRight3M
import Derived.Test.YtobnpllppohofaaGreatDoorGTr6M
namespace Go.Proofs.YtobnpllppohofaaGreatDoor

theorem trim_len (bs : List Bl) : (trimBs bs).length = (orderT (tms bs)).length := by unfold trimBs; simp
theorem trim_at {bs : List Bl} {b : Bl} (h : b ∈ trimBs bs) : ∃ (i a : Nat), (orderT (tms bs))[i]? = some (a : Int) ∧ (a : Int) ∈ orderT (tms bs) ∧ a < bs.length ∧ bs.getD a default ∈ bs ∧ b = trimB (orderT (tms bs)) bs.length ((aheadT (tms bs)).getD a []) (bs.getD a default) := by
 unfold trimBs at h
 obtain ⟨c, hc, rfl⟩ := List.mem_map.1 h
 obtain ⟨a, rfl, ha⟩ := (order_ok (tms bs)).nat c hc
 have htl : (tms bs).length = bs.length := by simp [tms]
 obtain ⟨_, p2, p3⟩ := place_in hc
 refine ⟨_, a, p3, hc, by omega, ?_, by rw [Int.toNat_natCast]⟩
 rw [List.getD_eq_getElem?_getD, List.getElem?_eq_getElem (by omega)]
 exact List.getElem_mem _
theorem stay_in {O ah : List Int} : ∀ i ∈ stayP O ah, 0 ≤ i ∧ i < (ah.length : Int) := fun i hi => by
 unfold stayP at hi
 obtain ⟨x, hx, rfl⟩ := List.mem_map.1 hi
 have hm : x ∈ ah := by have := (List.mem_filter.1 hx).2; simpa using this
 obtain ⟨p1, p2, _⟩ := place_in hm
 rw [p1]; omega
theorem stay_len {O ah : List Int} : (stayP O ah).length = ((List.range O.length).filter fun j => decide (O.getD j 0 ∈ ah)).length := by
 unfold stayP
 rw [← map_range_get (fun x => decide (x ∈ ah)) (placeOf ah), List.length_map]
end Go.Proofs.YtobnpllppohofaaGreatDoor
/- A graph with just the blocks that are reached. -/
namespace Go.Proofs.YtobnpllppohofaaGreatDoor
open Go.RowKit

theorem ahead_nodup {ts : List Tm} {j : Nat} (hj : j < ts.length) : ((aheadT ts).getD j []).Nodup := (ahead_lt hj).imp fun h => by omega
theorem stay_le {O ah : List Int} : (stayP O ah).length ≤ O.length := by
 rw [stay_len]
 exact Nat.le_trans (List.length_filter_le _ _) (by simp)
theorem BG.new (w : World) (cs : List Value) : BG w ((w.alloc (.cells cs.toArray 28)).alloc (.cells #[.string ⟨#[]⟩, .slice none 0 0, .int .u8 0, .slice none 0 0, .slice none 0 0, .slice none 0 0] 28)) cs := by
 have e : (w.alloc (.cells cs.toArray 28)).heap.size = w.heap.size + 1 := by simp
 have h9 := Box.new (w.alloc (.cells cs.toArray 28)) [.string ⟨#[]⟩, .slice none 0 0, .int .u8 0, .slice none 0 0, .slice none 0 0, .slice none 0 0] 28
 have h8 := heap_alloc_new (w.alloc (.cells cs.toArray 28)) (.cells #[.string ⟨#[]⟩, .slice none 0 0, .int .u8 0, .slice none 0 0, .slice none 0 0, .slice none 0 0] 28)
 rw [e] at h9 h8
 exact ⟨below_alloc (below_alloc (Below.refl _ _) _) _, (Box.new w cs 28).below (below_alloc (Below.refl _ _) _), h8, h9, by simp⟩
theorem step_append_run {P : Program} {ops : Array Oper} {o : Oper} {a : Act} {w : World} {K : Act → World → Prop} {Q : Exit → Act → World → Prop} {E : Prop}
  (hg : o.guard = none) (s x : Operand) (t : TypeId) (hop : o.op = Op.call { callee := Callee.builtin Builtin.append, args := #[s, x], argTypes := #[t, t] })
  (v u v' : Value) (w' : World) (hs : a.eval s = v) (hx : a.eval x = u) (hrun : (Builtin.append_ #[t, t] o.type #[v, u]).run P w = .ok v' w') (hK : K (a.put o.dst v') w') :
  if Region.wanted o (yielded ops a.tmps) = true then Oper.wp P o a w K Q else E := by
 have hw : Region.wanted o (yielded ops a.tmps) = true := by simp [Region.wanted, hg]
 rw [if_pos hw]
 unfold Oper.wp
 simp [execOp, hop, resolve, invoke, builtin, hs, hx, hrun, Result.andThen]
 exact hK
theorem app_bl (w : World) (base : Nat) (v : Value) (i : Nat) (cs ys : List Value) (hown : w.ownsRow base 49 6 v i cs) (G : Nat) (hc : ∀ j u, ys[j]? = some u → w.cell? ⟨G, j, none⟩ = some u) (hy : ys.length = 6) (h1 : ∀ u ∈ ys, u.oneCell' = true) (hl : i ≤ 1000000) (hb : base ≤ w.heap.size) :
  ∃ g2 cc2 w', (Builtin.append_ #[26, 26] 26 #[v, .slice (some ⟨G, 0, none⟩) 1 1]).run Tryz.prog w = .ok (.slice (some ⟨g2, 0, none⟩) (i + 1) cc2) w' ∧ w'.ownsRow base 49 6 (.slice (some ⟨g2, 0, none⟩) (i + 1) cc2) (i + 1) (cs ++ ys) ∧ w.grownBy w' v.ownBlock ∧ ((Value.slice (some ⟨g2, 0, none⟩) (i + 1) cc2).ownBlock = v.ownBlock ∨ (Value.slice (some ⟨g2, 0, none⟩) (i + 1) cc2).ownBlock = some w.heap.size) := by
 obtain ⟨i0, hi0, hz0, hz1, hz2⟩ := info_parts (P := Tryz.prog) infoBl
 obtain ⟨v', w', h1, h2, h3, _, h5⟩ := run_append_own_at (P := Tryz.prog) w base 26 26 49 i0 (.agg #[.slice none 0 0, .int .u8 0, .int .i64 0, .int .i64 0, .int .i64 0, .int .u8 0]) 6 64 Tryz.underlying26 hi0 hz0 hz1 hz2 rfl (by decide) v i cs hown ⟨G, 0, none⟩ 1 1 ys (by rw [hy]) (fun j u hj => by rw [Addr.add_lit, Nat.zero_add]; exact hc j u hj) h1 (by unfold maxLen; omega) (by omega) hb
 obtain ⟨g2, cc2, rfl, _, _, _, _⟩ := own_form h2
 exact ⟨g2, cc2, w', h1, h2, h3, h5⟩
end Go.Proofs.YtobnpllppohofaaGreatDoor
/- The document's copies: an instruction. -/
namespace Go.Proofs.YtobnpllppohofaaGreatDoor
open Go.RowKit

theorem wpList_append_to {P : Program} (w w' : World) {ops : Array Oper} {rest : List Oper} {o : Oper} {a : Act} {Q : Exit → Act → World → Prop}
  (hg : o.guard = none) (s x : Operand) (t : TypeId) (hop : o.op = Op.call { callee := Callee.builtin Builtin.append, args := #[s, x], argTypes := #[t, t] }) (v y v' : Value) (hs : a.eval s = v) (hx : a.eval x = y)
  (hrun : (Builtin.append_ #[t, t] o.type #[v, y]).run P w = .ok v' w') (hK : wpList P ops Q rest (a.put o.dst v') w') : wpList P ops Q (o :: rest) a w := by
 refine wpList_plain hg fun K hK' => ?_
 unfold Oper.wp
 simp [execOp, hop, resolve, invoke, builtin, hs, hx, hrun, Result.andThen]
 exact hK' _ _ hK
set_option maxRecDepth 100000 in
theorem app_litI (V : World) (a : Option Addr) (n c : Nat) (cs : List Value) (h : RowAt (V.alloc (.cells #[] 3)) (.slice a n c) n cs) (hl : cs.length = n * 1) (hn : n ≤ 1000000) (h1 : ∀ u ∈ cs, u.oneCell' = true) :
  ∃ va vc w', (Builtin.append_ #[22, 22] 22 #[.slice (some ⟨V.heap.size, 0, none⟩) 0 0, .slice a n c]).run Tryz.prog (V.alloc (.cells #[] 3)) = .ok (.slice va n vc) w' ∧ w'.ownsRow V.heap.size 3 1 (.slice va n vc) n cs ∧ Below V.heap.size V w' := by
 obtain ⟨i0, hi0, hz0, hz1, hz2⟩ := info_parts (P := Tryz.prog) infoI
 have hm := World.ownsRow_made (e := 3) (size := 1) V #[] 0 (Nat.le_refl _) (Nat.zero_le _) (by simp)
 cases a with
 | none =>
  have h0 := h.none0
  subst h0
  have hcs : cs = [] := List.eq_nil_of_length_eq_zero (by simpa using hl)
  subst hcs
  refine ⟨_, _, _, ?_, hm, below_alloc (Below.refl _ _) _⟩
  refine run_append_nothing _ 22 22 22 3 i0 Tryz.underlying22 hi0 _ 0 0 (Nat.le_refl _) _ ?_
  refine ⟨.inl ⟨_, Tryz.underlying22⟩, fun w' => by simp [Builtin.lenOf], ?_, ?_, by simp, by simp⟩
  ·simp [Builtin.firstCells]
  ·simp [Builtin.firstCells]
 | some ad =>
  have hc : ∀ j u, cs[j]? = some u → (V.alloc (.cells #[] 3)).cell? (ad.add j) = some u := fun j u hj => by
   obtain ⟨a', c', hv, _, hc⟩ := h
   injection hv with e1 e2 e3
   subst e1
   rcases hc with h0 | ⟨g, o, e, hg, hc⟩
   ·subst h0; have := (List.getElem?_eq_some_iff.1 hj).1; omega
   ·cases e
    rw [Addr.add_lit]
    exact hc j u hj
  obtain ⟨v', w', r1, r2, r3, _, _⟩ := run_append_own_at (P := Tryz.prog) (V.alloc (.cells #[] 3)) V.heap.size 22 22 3 i0 (.int .i64 0) 1 8 Tryz.underlying22 hi0 hz0 hz1 hz2 rfl (by decide) _ 0 [] hm ad n c cs hl hc h1 (by unfold maxLen; omega) (by omega) (by simp)
  rw [Nat.zero_add, List.nil_append] at r2
  obtain ⟨va, vc, rfl, _⟩ := own_blk (Nat.le_refl _) r2
  exact ⟨va, vc, w', r1, r2, below_grown (below_alloc (Below.refl _ _) _) r3 (fun g hg => by cases hg; exact Nat.le_refl _)⟩
set_option maxRecDepth 100000 in
theorem app_litT (V : World) (a : Option Addr) (n c : Nat) (cs : List Value) (h : RowAt (V.alloc (.cells #[] 23)) (.slice a n c) n cs) (hl : cs.length = n * 1) (hn : n ≤ 1000000) (h1 : ∀ u ∈ cs, u.oneCell' = true) :
  ∃ va vc w', (Builtin.append_ #[24, 24] 24 #[.slice (some ⟨V.heap.size, 0, none⟩) 0 0, .slice a n c]).run Tryz.prog (V.alloc (.cells #[] 23)) = .ok (.slice va n vc) w' ∧ w'.ownsRow V.heap.size 23 1 (.slice va n vc) n cs ∧ Below V.heap.size V w' := by
 obtain ⟨i0, hi0, hz0, hz1, hz2⟩ := info_parts (P := Tryz.prog) info_copyT
 have hm := World.ownsRow_made (e := 23) (size := 1) V #[] 0 (Nat.le_refl _) (Nat.zero_le _) (by simp)
 cases a with
 | none =>
  have h0 := h.none0
  subst h0
  have hcs : cs = [] := List.eq_nil_of_length_eq_zero (by simpa using hl)
  subst hcs
  refine ⟨_, _, _, ?_, hm, below_alloc (Below.refl _ _) _⟩
  refine run_append_nothing _ 24 24 24 23 i0 Tryz.underlying24 hi0 _ 0 0 (Nat.le_refl _) _ ?_
  refine ⟨.inl ⟨_, Tryz.underlying24⟩, fun w' => by simp [Builtin.lenOf], ?_, ?_, by simp, by simp⟩
  ·simp [Builtin.firstCells]
  ·simp [Builtin.firstCells]
 | some ad =>
  have hc : ∀ j u, cs[j]? = some u → (V.alloc (.cells #[] 23)).cell? (ad.add j) = some u := fun j u hj => by
   obtain ⟨a', c', hv, _, hc⟩ := h
   injection hv with e1 e2 e3
   subst e1
   rcases hc with h0 | ⟨g, o, e, hg, hc⟩
   ·subst h0; have := (List.getElem?_eq_some_iff.1 hj).1; omega
   ·cases e
    rw [Addr.add_lit]
    exact hc j u hj
  obtain ⟨v', w', r1, r2, r3, _, _⟩ := run_append_own_at (P := Tryz.prog) (V.alloc (.cells #[] 23)) V.heap.size 24 24 23 i0 (.int .u8 0) 1 1 Tryz.underlying24 hi0 hz0 hz1 hz2 rfl (by decide) _ 0 [] hm ad n c cs hl hc h1 (by unfold maxLen; omega) (by omega) (by simp)
  rw [Nat.zero_add, List.nil_append] at r2
  obtain ⟨va, vc, rfl, _⟩ := own_blk (Nat.le_refl _) r2
  exact ⟨va, vc, w', r1, r2, below_grown (below_alloc (Below.refl _ _) _) r3 (fun g hg => by cases hg; exact Nat.le_refl _)⟩
set_option maxRecDepth 100000 in
theorem app_litA (V : World) (a : Option Addr) (n c : Nat) (cs : List Value) (h : RowAt (V.alloc (.cells #[] 51)) (.slice a n c) n cs) (hl : cs.length = n * 2) (hn : n ≤ 1000000) (h1 : ∀ u ∈ cs, u.oneCell' = true) :
  ∃ va vc w', (Builtin.append_ #[25, 25] 25 #[.slice (some ⟨V.heap.size, 0, none⟩) 0 0, .slice a n c]).run Tryz.prog (V.alloc (.cells #[] 51)) = .ok (.slice va n vc) w' ∧ w'.ownsRow V.heap.size 51 2 (.slice va n vc) n cs ∧ Below V.heap.size V w' := by
 obtain ⟨i0, hi0, hz0, hz1, hz2⟩ := info_parts (P := Tryz.prog) info_copyA
 have hm := World.ownsRow_made (e := 51) (size := 2) V #[] 0 (Nat.le_refl _) (Nat.zero_le _) (by simp)
 cases a with
 | none =>
  have h0 := h.none0
  subst h0
  have hcs : cs = [] := List.eq_nil_of_length_eq_zero (by simpa using hl)
  subst hcs
  refine ⟨_, _, _, ?_, hm, below_alloc (Below.refl _ _) _⟩
  refine run_append_nothing _ 25 25 25 51 i0 Tryz.underlying25 hi0 _ 0 0 (Nat.le_refl _) _ ?_
  refine ⟨.inl ⟨_, Tryz.underlying25⟩, fun w' => by simp [Builtin.lenOf], ?_, ?_, by simp, by simp⟩
  ·simp [Builtin.firstCells]
  ·simp [Builtin.firstCells]
 | some ad =>
  have hc : ∀ j u, cs[j]? = some u → (V.alloc (.cells #[] 51)).cell? (ad.add j) = some u := fun j u hj => by
   obtain ⟨a', c', hv, _, hc⟩ := h
   injection hv with e1 e2 e3
   subst e1
   rcases hc with h0 | ⟨g, o, e, hg, hc⟩
   ·subst h0; have := (List.getElem?_eq_some_iff.1 hj).1; omega
   ·cases e
    rw [Addr.add_lit]
    exact hc j u hj
  obtain ⟨v', w', r1, r2, r3, _, _⟩ := run_append_own_at (P := Tryz.prog) (V.alloc (.cells #[] 51)) V.heap.size 25 25 51 i0 (.agg #[.int .u8 0, .int .i64 0]) 2 16 Tryz.underlying25 hi0 hz0 hz1 hz2 rfl (by decide) _ 0 [] hm ad n c cs hl hc h1 (by unfold maxLen; omega) (by omega) (by simp)
  rw [Nat.zero_add, List.nil_append] at r2
  obtain ⟨va, vc, rfl, _⟩ := own_blk (Nat.le_refl _) r2
  exact ⟨va, vc, w', r1, r2, below_grown (below_alloc (Below.refl _ _) _) r3 (fun g hg => by cases hg; exact Nat.le_refl _)⟩
set_option maxRecDepth 100000 in
set_option maxHeartbeats 2000000 in
theorem rcopied_any (x : In) (av : Value) (w : World) (h : IntsAt w av x.args) (hl : x.args.length ≤ 1000000) :
  Calls Tryz.prog 72 #[inV x av] w fun e w' => ∃ av', e = .returned (inV x av') ∧ OwnI w' w.heap.size av' x.args ∧ Below w.heap.size w w' := by
 obtain ⟨k, op, dst, args, bits, ref⟩ := x
 dsimp only at h hl ⊢
 obtain ⟨a, c, rfl, _⟩ := h.form
 have HAP : Hid (∀ V, Below w.heap.size w V → ∃ va vc w', (Builtin.append_ #[22, 22] 22 #[.slice (some ⟨V.heap.size, 0, none⟩) 0 0, .slice a args.length c]).run Tryz.prog (V.alloc (.cells #[] 3)) = .ok (.slice va args.length vc) w' ∧ w'.ownsRow V.heap.size 3 1 (.slice va args.length vc) args.length (args.map intV) ∧ Below V.heap.size V w') := fun V hb => app_litI V a args.length c _ (h.below (below_alloc hb _)) (by simp) hl (ints_one _)
 clear h
 generalize hal : args.length = al at *
 have HAL : Hid (args.length = al) := hal
 clear hal
 have HB0 : Hid (Box ((w.alloc (.cells #[.int .u8 k, .int .u8 op, .int .i64 dst, .slice a al c, .int .u64 bits, .int .i64 ref] 41)).alloc (.cells #[.int .u8 0, .int .u8 0, .int .i64 0, .slice none 0 0, .int .u64 0, .int .i64 0] 41)) w.heap.size [.int .u8 k, .int .u8 op, .int .i64 dst, .slice a al c, .int .u64 bits, .int .i64 ref] ∧ Box ((w.alloc (.cells #[.int .u8 k, .int .u8 op, .int .i64 dst, .slice a al c, .int .u64 bits, .int .i64 ref] 41)).alloc (.cells #[.int .u8 0, .int .u8 0, .int .i64 0, .slice none 0 0, .int .u64 0, .int .i64 0] 41)) (w.heap.size + 1) [.int .u8 0, .int .u8 0, .int .i64 0, .slice none 0 0, .int .u64 0, .int .i64 0] ∧ Below w.heap.size w ((w.alloc (.cells #[.int .u8 k, .int .u8 op, .int .i64 dst, .slice a al c, .int .u64 bits, .int .i64 ref] 41)).alloc (.cells #[.int .u8 0, .int .u8 0, .int .i64 0, .slice none 0 0, .int .u64 0, .int .i64 0] 41)) ∧ ((w.alloc (.cells #[.int .u8 k, .int .u8 op, .int .i64 dst, .slice a al c, .int .u64 bits, .int .i64 ref] 41)).alloc (.cells #[.int .u8 0, .int .u8 0, .int .i64 0, .slice none 0 0, .int .u64 0, .int .i64 0] 41)).heap[w.heap.size + 1]? = some (.cells #[.int .u8 0, .int .u8 0, .int .i64 0, .slice none 0 0, .int .u64 0, .int .i64 0] 41 (0, 0))) := by
  have e : (w.alloc (.cells #[.int .u8 k, .int .u8 op, .int .i64 dst, .slice a al c, .int .u64 bits, .int .i64 ref] 41)).heap.size = w.heap.size + 1 := by simp
  have h9 := Box.new (w.alloc (.cells #[.int .u8 k, .int .u8 op, .int .i64 dst, .slice a al c, .int .u64 bits, .int .i64 ref] 41)) [.int .u8 0, .int .u8 0, .int .i64 0, .slice none 0 0, .int .u64 0, .int .i64 0] 41
  have h8 := heap_alloc_new (w.alloc (.cells #[.int .u8 k, .int .u8 op, .int .i64 dst, .slice a al c, .int .u64 bits, .int .i64 ref] 41)) (.cells #[.int .u8 0, .int .u8 0, .int .i64 0, .slice none 0 0, .int .u64 0, .int .i64 0] 41)
  rw [e] at h9 h8
  exact ⟨(Box.new w [.int .u8 k, .int .u8 op, .int .i64 dst, .slice a al c, .int .u64 bits, .int .i64 ref] 41).below (below_alloc (Below.refl _ _) _), h9, below_alloc (below_alloc (Below.refl _ _) _) _, h8⟩
 have HSZ : Hid (((w.alloc (.cells #[.int .u8 k, .int .u8 op, .int .i64 dst, .slice a al c, .int .u64 bits, .int .i64 ref] 41)).alloc (.cells #[.int .u8 0, .int .u8 0, .int .i64 0, .slice none 0 0, .int .u64 0, .int .i64 0] 41)).heap.size = w.heap.size + 2) := by show _ = _; simp
 obtain ⟨va, vc, w2, hrun, ho2, hb2⟩ := HAP.out ((w.alloc (.cells #[.int .u8 k, .int .u8 op, .int .i64 dst, .slice a al c, .int .u64 bits, .int .i64 ref] 41)).alloc (.cells #[.int .u8 0, .int .u8 0, .int .i64 0, .slice none 0 0, .int .u64 0, .int .i64 0] 41)) HB0.out.2.2.1
 rw [HSZ.out] at hrun
 obtain ⟨e0, e1, e2, e3, e4, e5⟩ := box6 (HB0.out.1.below hb2)
 have ef := (HB0.out.1.below hb2).fz 3
 obtain ⟨z0, z1, z2, z3, z4, z5⟩ := box6 (HB0.out.2.1.below hb2)
 have zf := (HB0.out.2.1.below hb2).fz
 have hel := (HB0.out.1.below hb2).lt
 have hzl := (HB0.out.2.1.below hb2).lt
 obtain ⟨d0, d1, d2, d3, d4, d5⟩ := box6 (HB0.out.1.below (below_alloc (Below.refl ((w.alloc (.cells #[.int .u8 k, .int .u8 op, .int .i64 dst, .slice a al c, .int .u64 bits, .int .i64 ref] 41)).alloc (.cells #[.int .u8 0, .int .u8 0, .int .i64 0, .slice none 0 0, .int .u64 0, .int .i64 0] 41)).heap.size ((w.alloc (.cells #[.int .u8 k, .int .u8 op, .int .i64 dst, .slice a al c, .int .u64 bits, .int .i64 ref] 41)).alloc (.cells #[.int .u8 0, .int .u8 0, .int .i64 0, .slice none 0 0, .int .u64 0, .int .i64 0] 41))) (.cells #[] 3)))
 have HO2 : Hid (w2.ownsRow ((w.alloc (.cells #[.int .u8 k, .int .u8 op, .int .i64 dst, .slice a al c, .int .u64 bits, .int .i64 ref] 41)).alloc (.cells #[.int .u8 0, .int .u8 0, .int .i64 0, .slice none 0 0, .int .u64 0, .int .i64 0] 41)).heap.size 3 1 (.slice va al vc) al (args.map intV)) := ho2
 have HB2 : Hid (Below ((w.alloc (.cells #[.int .u8 k, .int .u8 op, .int .i64 dst, .slice a al c, .int .u64 bits, .int .i64 ref] 41)).alloc (.cells #[.int .u8 0, .int .u8 0, .int .i64 0, .slice none 0 0, .int .u64 0, .int .i64 0] 41)).heap.size ((w.alloc (.cells #[.int .u8 k, .int .u8 op, .int .i64 dst, .slice a al c, .int .u64 bits, .int .i64 ref] 41)).alloc (.cells #[.int .u8 0, .int .u8 0, .int .i64 0, .slice none 0 0, .int .u64 0, .int .i64 0] 41)) w2) := hb2
 clear ho2 hb2 HAP
 go_enter Tryz.func72, Tryz.ntmps72
 go_wp2_with (at_builtin; go_loud (refine wpList_append_to _ _ rfl _ _ 22 rfl _ _ _ rfl rfl hrun ?_))
 have hoi : w2.heap[w.heap.size + 1]? = some (.cells #[.int .u8 0, .int .u8 0, .int .i64 0, .slice none 0 0, .int .u64 0, .int .i64 0] 41 (0, 0)) := by
  rw [HB2.out.block (w.heap.size + 1) (by rw [HSZ.out]; omega)]
  exact HB0.out.2.2.2
 have hoi2 : (w2.setCell ⟨w.heap.size, 3, none⟩ (.slice va al vc)).heap[w.heap.size + 1]? = _ := (Below.heap_setCell w2 ⟨w.heap.size, 3, none⟩ (.slice va al vc) (w.heap.size + 1) (by show w.heap.size + 1 ≠ w.heap.size; omega)).trans hoi
 have hbw : Below w.heap.size w (w2.setCell ⟨w.heap.size, 3, none⟩ (.slice va al vc)) := (below_trans HB0.out.2.2.1 HB2.out).setCell (p := ⟨w.heap.size, 3, none⟩) (Nat.le_refl _) _
 obtain ⟨q1, q2, q3⟩ := six_end hbw (Nat.le_succ _) hoi2 (.int .u8 k) (.int .u8 op) (.int .i64 dst) (.slice va al vc) (.int .u64 bits) (.int .i64 ref)
 refine bodyPost_ret (results_cell_row rfl _ _ (w.heap.size + 1) 41 #[.int .u8 k, .int .u8 op, .int .i64 dst, .slice va al vc, .int .u64 bits, .int .i64 ref] _ _ rfl q2 Tryz.underlying41 rfl (by rfl)) rfl ⟨_, rfl, ?_, q1⟩
 have ho3 : w2.ownsRow w.heap.size 3 1 (.slice va al vc) args.length (args.map intV) := by
  have h9 := HO2.out
  rw [HAL.out]
  exact own_mono h9 HB0.out.2.2.1.size
 refine owns_same ho3 fun g hg => ?_
 have h7 := (World.ownsRow.lt HO2.out g hg).1
 rw [HSZ.out] at h7
 rw [q3 g (by omega)]
 exact Below.heap_setCell w2 ⟨w.heap.size, 3, none⟩ (.slice va al vc) g (by show g ≠ w.heap.size; omega)
end Go.Proofs.YtobnpllppohofaaGreatDoor
