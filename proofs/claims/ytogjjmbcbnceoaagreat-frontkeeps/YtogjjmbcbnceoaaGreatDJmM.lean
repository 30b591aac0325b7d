/- A map of rows by their numbers, and rows of one's own beside it. -/
import Derived.Test.YtogjjmbcbnceoaaGreatDJw4M
import Derived.Maps.OwnSet
import Derived.Maps.Ext
namespace Go.Proofs.YtogjjmbcbnceoaaGreat
open Go.RowKit

abbrev Rv : Value → Option (DataW Value × List MemPlace) := fun v => some (.held v, [])
theorem mapU : Tryz.prog.underlying 128 = some (.map 3 23) := by kernel_rfl
theorem intU : Tryz.prog.underlying 3 = some (.int .i64) := by kernel_rfl
theorem keyLaw : Go.Maps.Keyed Tryz.prog 3 := Go.Maps.int_keyed intU
theorem zeroRow (w : World) : (zeroValue 23).run Tryz.prog w = .ok nilV w := by kernel_rfl
theorem keyI {k : Nat} (hk : k ≤ 2000000) : keyOf Tryz.prog 3 (.int .i64 (k : Int)) = some (Lit.int .i64 (k : Int)) := Go.Maps.keyOf_int_mk intU (WalkArith.wf_i64 (n := (k : Int)) (by omega))
/-- The map in block b: at k the value of the k-th row; what is empty is not there. -/
structure MapIn (w : World) (b n : Nat) (kvs : List Value) (rows : List (List Int)) : Prop where
  kl : kvs.length = n
  rl : rows.length = n
  ex : ∃ D : DataW Value, w.ownsMap Tryz.prog 3 Rv b n D ∧ (∀ k, k < n → D.atKey (.int .i64 (k : Int)) (.held nilV) = .held (kvs.getD k nilV)) ∧ (∀ k, k < n → (Maps.has D (.int .i64 (k : Int)) = true ↔ rows.getD k [] ≠ [])) ∧ ∀ l, Maps.has D l = true → ∃ k : Nat, k < n ∧ l = .int .i64 (k : Int)
theorem keyEnt {D : DataW Value} (hc : Maps.Canon D) : ∃ es, D = .map es ∧ ∀ p ∈ es, Maps.has D p.1 = true := by
  obtain ⟨es, e, _, hk⟩ := hc
  refine ⟨es, e, fun p hp => ?_⟩
  rw [e, Maps.has_eq, List.any_eq_true]
  exact ⟨p, hp, WideAt.sameKey_self (hk p hp)⟩
theorem map_small {w : World} {b N n : Nat} {D : DataW Value} (h : w.ownsMap Tryz.prog 3 Rv b N D) (hk : ∀ l, Maps.has D l = true → ∃ k : Nat, k < n ∧ l = .int .i64 (k : Int)) : w.ownsMap Tryz.prog 3 Rv b n D := by
  obtain ⟨es, e, hes⟩ := keyEnt (h.canon keyLaw)
  obtain ⟨es2, e2, hpw⟩ := h.tidy keyLaw
  have : es = es2 := by rw [e] at e2; cases e2; rfl
  subst this
  have hlen : es.length ≤ n := by
    have h1 : (es.map Prod.fst).length ≤ ((List.range n).map fun k : Nat => Lit.int .i64 (k : Int)).length := by
      refine List.Nodup.length_le_of_subset ?_ fun l hl => ?_
      · exact List.pairwise_map.2 hpw
      · obtain ⟨p, hp, rfl⟩ := List.mem_map.1 hl
        obtain ⟨k, h1, h2⟩ := hk _ (hes p hp)
        exact List.mem_map.2 ⟨k, List.mem_range.2 h1, h2.symm⟩
    simpa using h1
  obtain ⟨es0, clock, h1, h2, _, h4⟩ := h
  refine ⟨es0, clock, h1, h2, ?_, h4⟩
  have h5 := length_read (P := Tryz.prog) (k := 3) (R0 := Rv) es0
  rw [e] at h4
  cases h4
  omega
theorem MapIn.new (w : World) (n : Nat) : MapIn (w.alloc (.map #[] 0)) w.heap.size n (List.replicate n nilV) (List.replicate n []) := by
  refine ⟨by simp, by simp, .map [], (World.ownsMap_made w _ _ _).mono (Nat.zero_le _), fun k hk => ?_, fun k hk => ?_, fun l hl => ?_⟩
  · rw [List.getD_eq_getElem?_getD, List.getElem?_replicate, if_pos hk]; rfl
  · rw [getD_repL]; simp [Maps.has]
  · simp [Maps.has] at hl
theorem MapIn.kept {w w' : World} {b n : Nat} {kvs : List Value} {rows : List (List Int)} (h : MapIn w b n kvs rows) {r : Option Nat} (hg : w.grownBy w' r) (hn : some b ≠ r) : MapIn w' b n kvs rows := by
  obtain ⟨D, h1, h2⟩ := h.ex
  exact ⟨h.kl, h.rl, D, h1.kept hg hn, h2⟩
theorem MapIn.lt {w : World} {b n : Nat} {kvs : List Value} {rows : List (List Int)} (h : MapIn w b n kvs rows) : b < w.heap.size := by
  obtain ⟨D, h1, h2⟩ := h.ex
  exact h1.lt
theorem MapIn.notRow {w : World} {b n : Nat} {kvs : List Value} {rows : List (List Int)} (h : MapIn w b n kvs rows) {base : Nat} {e : TypeId} {sz m : Nat} {v : Value} {cs : List Value} (ho : w.ownsRow base e sz v m cs) : v.ownBlock ≠ some b := fun hb => by
  obtain ⟨D, ⟨es, clock, h1, _⟩, _⟩ := h.ex
  rcases ho.2 with ⟨h0, _⟩ | ⟨g, cap, cur, hv, _, hh, _⟩
  · rw [h0] at hb; simp [Value.ownBlock] at hb
  · rw [hv] at hb
    simp [Value.ownBlock] at hb
    subst hb
    rw [h1] at hh
    cases hh
theorem MapIn.lookup {w : World} {b n : Nat} {kvs : List Value} {rows : List (List Int)} (h : MapIn w b n kvs rows) (hn : n ≤ 2000000) {k : Nat} (hk : k < n) : (Instr.lookup 128 (.map (some b)) (.int .i64 (k : Int)) false).run Tryz.prog w = .ok (kvs.getD k nilV) w := by
  obtain ⟨D, h1, h2, _⟩ := h.ex
  obtain ⟨v, ps, hr, hv⟩ := h1.lookup keyLaw mapU (zeroRow w) (zd := .held nilV) (zp := []) rfl (keyI (k := k) (by omega))
  rw [h2 k hk] at hv
  simp only [Rv, Option.some.injEq, Prod.mk.injEq, DataW.held.injEq] at hv
  rw [hr, hv.1]
theorem MapIn.len {w : World} {b n : Nat} {kvs : List Value} {rows : List (List Int)} (h : MapIn w b n kvs rows) : ∃ m : Nat, (∀ ty, (Builtin.len_ #[128] ty #[.map (some b)]).run Tryz.prog w = .ok (.int .i64 (m : Int)) w) ∧ (0 < m → ∃ k, k < n ∧ rows.getD k [] ≠ []) ∧ (m = 0 → ∀ k, rows.getD k [] = []) := by
  obtain ⟨D, h1, h2, h3, h4⟩ := h.ex
  obtain ⟨es, e, hes⟩ := keyEnt (h1.canon keyLaw)
  refine ⟨Maps.size D, fun ty => h1.len mapU ty, fun hp => ?_, fun h0 k => ?_⟩
  · rw [e, Maps.size_eq] at hp
    obtain ⟨p, hp⟩ := List.exists_mem_of_length_pos hp
    have h5 := hes p hp
    obtain ⟨k, hk, e2⟩ := h4 _ h5
    rw [e2] at h5
    exact ⟨k, hk, (h3 k hk).1 h5⟩
  · rw [e, Maps.size_eq] at h0
    by_cases hk : k < n
    · by_cases hc : rows.getD k [] = []
      · exact hc
      · have h5 := (h3 k hk).2 hc
        rw [e, List.length_eq_zero_iff.1 h0] at h5
        simp [Maps.has] at h5
    · rw [List.getD_eq_getElem?_getD, List.getElem?_eq_none (by rw [h.rl]; omega)]
      rfl
theorem keyNe {j k : Nat} (h : j ≠ k) : Lit.int .i64 (j : Int) ≠ Lit.int .i64 (k : Int) := fun e => by injection e with e1 e2; omega
theorem getD_setV {l : List Value} {x : Nat} {v : Value} (h : x < l.length) (y : Nat) : (l.set x v).getD y nilV = if x = y then v else l.getD y nilV := by
  rw [List.getD_eq_getElem?_getD, List.getD_eq_getElem?_getD, List.getElem?_set]
  split
  · rename_i e; subst e; first | rfl | (rw [if_pos h]; rfl)
  · rfl
theorem MapIn.store {w : World} {b n : Nat} {kvs : List Value} {rows : List (List Int)} (h : MapIn w b n kvs rows) (hn : n ≤ 2000000) {k : Nat} (hk : k < n) (v : Value) (r : List Int) (hr : r ≠ []) :
    ∃ w', (Instr.mapUpdate 128 (.map (some b)) (.int .i64 (k : Int)) v).run Tryz.prog w = .ok () w' ∧ MapIn w' b n (kvs.set k v) (rows.set k r) ∧ w.grownBy w' (some b) := by
  obtain ⟨D, h1, h2, h3, h4⟩ := h.ex
  obtain ⟨w', e1, e2, e3⟩ := h1.store keyLaw mapU (by unfold maxLen; omega) (keyI (k := k) (by omega)) (val := v) (d := .held v) (ps := []) rfl
  have hK : WideAt.IsKeyLit (Lit.int .i64 (k : Int)) := trivial
  have hD := h1.isMap
  have hh : ∀ l, Maps.has (D.put (.int .i64 (k : Int)) (.held v)) l = true → ∃ k : Nat, k < n ∧ l = .int .i64 (k : Int) := fun l hl => by
    by_cases e : l = .int .i64 (k : Int)
    · exact ⟨k, hk, e⟩
    · rw [Maps.has_put_other e] at hl
      exact h4 l hl
  refine ⟨w', e1, ⟨by simpa using h.kl, by simpa using h.rl, _, map_small e2 hh, fun j hj => ?_, fun j hj => ?_, hh⟩, e3.grown⟩
  · rw [getD_setV (by rw [h.kl]; exact hk)]
    by_cases e : k = j
    · subst e; rw [if_pos rfl, Maps.atKey_put_same hD hK]
    · rw [if_neg e, Maps.atKey_put_other (keyNe (fun e2 => e e2.symm)), h2 j hj]
  · rw [getD_setL (by rw [h.rl]; exact hk)]
    by_cases e : k = j
    · subst e; rw [if_pos rfl, Maps.has_put_same hD hK]; simp [hr]
    · rw [if_neg e, Maps.has_put_other (keyNe (fun e2 => e e2.symm)), h3 j hj]
theorem MapIn.drop {w : World} {b n : Nat} {kvs : List Value} {rows : List (List Int)} (h : MapIn w b n kvs rows) (hn : n ≤ 2000000) {k : Nat} (hk : k < n) (ty : TypeId) :
    ∃ w', (Builtin.delete_ #[128, 3] ty #[.map (some b), .int .i64 (k : Int)]).run Tryz.prog w = .ok (.tuple #[]) w' ∧ MapIn w' b n (kvs.set k nilV) (rows.set k []) ∧ w.grownBy w' (some b) := by
  obtain ⟨D, h1, h2, h3, h4⟩ := h.ex
  obtain ⟨w', e1, e2, e3⟩ := h1.drop keyLaw mapU (keyI (k := k) (by omega)) ty
  have hh : ∀ l, Maps.has (D.del (.int .i64 (k : Int))) l = true → ∃ k : Nat, k < n ∧ l = .int .i64 (k : Int) := fun l hl => by
    by_cases e : l = .int .i64 (k : Int)
    · exact ⟨k, hk, e⟩
    · rw [Maps.has_del_other e] at hl
      exact h4 l hl
  refine ⟨w', e1, ⟨by simpa using h.kl, by simpa using h.rl, _, map_small e2 hh, fun j hj => ?_, fun j hj => ?_, hh⟩, e3.grown⟩
  · rw [getD_setV (by rw [h.kl]; exact hk)]
    by_cases e : k = j
    · subst e; rw [if_pos rfl, Maps.atKey_del_same]
    · rw [if_neg e, Maps.atKey_del_other (keyNe (fun e2 => e e2.symm)), h2 j hj]
  · rw [getD_setL (by rw [h.rl]; exact hk)]
    by_cases e : k = j
    · subst e; rw [if_pos rfl, Maps.has_del_same]; simp
    · rw [if_neg e, Maps.has_del_other (keyNe (fun e2 => e e2.symm)), h3 j hj]
end Go.Proofs.YtogjjmbcbnceoaaGreat
/- What Joins keeps in memory. -/
namespace Go.Proofs.YtogjjmbcbnceoaaGreat
open Go.RowKit

abbrev boolS (g n : Nat) (l : List Bool) : Slot := ⟨slV g n, 4, 1, n, l.map Value.bool⟩
abbrev jss (gw gg gj n : Nat) (wt gn jn : List Bool) (kvs : List Value) (rows : List (List Int)) (pv : Value) (pd : List Int) (qv : Value) (qd : List Int) : List Slot := boolS gw n wt :: boolS gg n gn :: boolS gj n jn :: rowS pv pd :: rowS qv qd :: List.zipWith rowS kvs rows
structure JM (w0 w : World) (bm gw gg gj n : Nat) (wt gn jn : List Bool) (kvs : List Value) (rows : List (List Int)) (pv : Value) (pd : List Int) (qv : Value) (qd : List Int) : Prop where
  map : MapIn w bm n kvs rows
  hp : Heap w 0 (jss gw gg gj n wt gn jn kvs rows pv pd qv qd)
  new : ∀ v, v = pv ∨ v = qv ∨ v ∈ kvs → ∀ g, v.ownBlock = some g → w0.heap.size ≤ g
  keep : ∀ k, k < w0.heap.size → k ≠ bm → k ≠ gw → k ≠ gg → k ≠ gj → w.heap[k]? = w0.heap[k]?
  size : w0.heap.size ≤ w.heap.size
  os : w.os = w0.os
  tape : w.tape = w0.tape
  output : w.output = w0.output
theorem zipJ_get {kvs : List Value} {rows : List (List Int)} {k : Nat} (h1 : k < kvs.length) (h2 : k < rows.length) : (List.zipWith rowS kvs rows)[k]? = some (rowS (kvs.getD k nilV) (rows.getD k [])) := by
  rw [List.getElem?_zipWith, List.getElem?_eq_getElem h1, List.getElem?_eq_getElem h2, getD_of h1, getD_of h2]
theorem zipJ_set {kvs : List Value} {rows : List (List Int)} {k : Nat} {v : Value} {r : List Int} : (List.zipWith rowS kvs rows).set k (rowS v r) = List.zipWith rowS (kvs.set k v) (rows.set k r) := by
  apply List.ext_getElem?
  intro i
  rw [List.getElem?_set, List.getElem?_zipWith, List.getElem?_zipWith, List.getElem?_set, List.getElem?_set, List.length_zipWith]
  by_cases e : k = i
  · subst e
    rw [if_pos rfl, if_pos rfl, if_pos rfl]
    by_cases h1 : k < kvs.length
    · by_cases h2 : k < rows.length
      · rw [if_pos (by omega), if_pos h1, if_pos h2]
      · rw [if_neg (by omega), if_pos h1, if_neg h2]
    · rw [if_neg (by omega), if_neg h1]
  · rw [if_neg e, if_neg e, if_neg e]
theorem modJ_set {rows : List (List Int)} {k : Nat} (x : Int) (h : k < rows.length) : rows.modify k (· ++ [x]) = rows.set k (rows.getD k [] ++ [x]) := by
  apply List.ext_getElem?
  intro i
  rw [List.getElem?_modify, List.getElem?_set]
  by_cases e : k = i
  · subst e
    rw [if_pos rfl, if_pos h, List.getElem?_eq_getElem h, getD_of h]
    simp
  · simp [e]
theorem JM.kid {w0 w : World} {bm gw gg gj n : Nat} {wt gn jn : List Bool} {kvs : List Value} {rows : List (List Int)} {pv : Value} {pd : List Int} {qv : Value} {qd : List Int} (h : JM w0 w bm gw gg gj n wt gn jn kvs rows pv pd qv qd) {k : Nat} (hk : k < n) : OwnI w 0 (kvs.getD k nilV) (rows.getD k []) :=
  h.hp.own (k + 5) (rowS (kvs.getD k nilV) (rows.getD k [])) (zipJ_get (by rw [h.map.kl]; exact hk) (by rw [h.map.rl]; exact hk))
theorem JM.kidNew {w0 w : World} {bm gw gg gj n : Nat} {wt gn jn : List Bool} {kvs : List Value} {rows : List (List Int)} {pv : Value} {pd : List Int} {qv : Value} {qd : List Int} (h : JM w0 w bm gw gg gj n wt gn jn kvs rows pv pd qv qd) {k : Nat} (hk : k < n) {g : Nat} (hg : (kvs.getD k nilV).ownBlock = some g) : w0.heap.size ≤ g :=
  h.new _ (.inr (.inr (by rw [getD_of (by rw [h.map.kl]; exact hk)]; exact List.getElem_mem _))) g hg
theorem JM.cell {w0 w : World} {bm gw gg gj n : Nat} {wt gn jn : List Bool} {kvs : List Value} {rows : List (List Int)} {pv : Value} {pd : List Int} {qv : Value} {qd : List Int} (h : JM w0 w bm gw gg gj n wt gn jn kvs rows pv pd qv qd) {b j : Nat} {x : Value} (hb : b < w0.heap.size ∧ b ≠ bm ∧ b ≠ gw ∧ b ≠ gg ∧ b ≠ gj) (hc : w0.cell? ⟨b, j, none⟩ = some x) : w.cell? ⟨b, j, none⟩ = some x :=
  (World.cell?_of_block (a := ⟨b, j, none⟩) (h.keep b hb.1 hb.2.1 hb.2.2.1 hb.2.2.2.1 hb.2.2.2.2)).trans hc
theorem JM.bel {W1 w0 w : World} {bm gw gg gj n : Nat} {wt gn jn : List Bool} {kvs : List Value} {rows : List (List Int)} {pv : Value} {pd : List Int} {qv : Value} {qd : List Int} (h : JM w0 w bm gw gg gj n wt gn jn kvs rows pv pd qv qd) (hB : Below W1.heap.size W1 w0) (h1 : W1.heap.size ≤ bm) (h2 : W1.heap.size ≤ gw) (h3 : W1.heap.size ≤ gg) (h4 : W1.heap.size ≤ gj) : Below W1.heap.size W1 w :=
  ⟨h.os.trans hB.os, h.tape.trans hB.tape, h.output.trans hB.output, Nat.le_trans hB.size h.size, fun k hk => (h.keep k (Nat.lt_of_lt_of_le hk hB.size) (by omega) (by omega) (by omega) (by omega)).trans (hB.block k hk)⟩
theorem JM.below {w0 w w' : World} {bm gw gg gj n : Nat} {wt gn jn : List Bool} {kvs : List Value} {rows : List (List Int)} {pv : Value} {pd : List Int} {qv : Value} {qd : List Int} (h : JM w0 w bm gw gg gj n wt gn jn kvs rows pv pd qv qd) (hb : Below w.heap.size w w') : JM w0 w' bm gw gg gj n wt gn jn kvs rows pv pd qv qd :=
  ⟨h.map.kept (r := none) ⟨hb.os, hb.tape, hb.output, hb.size, fun k hk _ => hb.block k hk⟩ (by simp), h.hp.below hb, h.new, fun k h1 h2 h3 h4 h5 => (hb.block k (Nat.lt_of_lt_of_le h1 h.size)).trans (h.keep k h1 h2 h3 h4 h5), Nat.le_trans h.size hb.size, hb.os.trans h.os, hb.tape.trans h.tape, hb.output.trans h.output⟩
theorem JM.ne {w0 w : World} {bm gw gg gj n : Nat} {wt gn jn : List Bool} {kvs : List Value} {rows : List (List Int)} {pv : Value} {pd : List Int} {qv : Value} {qd : List Int} (h : JM w0 w bm gw gg gj n wt gn jn kvs rows pv pd qv qd) : gw ≠ bm ∧ gg ≠ bm ∧ gj ≠ bm :=
  ⟨fun e => h.map.notRow (h.hp.own 0 _ rfl) (by simp [Value.ownBlock, e]), fun e => h.map.notRow (h.hp.own 1 _ rfl) (by simp [Value.ownBlock, e]), fun e => h.map.notRow (h.hp.own 2 _ rfl) (by simp [Value.ownBlock, e])⟩
theorem JM.oW {w0 w : World} {bm gw gg gj n : Nat} {wt gn jn : List Bool} {kvs : List Value} {rows : List (List Int)} {pv : Value} {pd : List Int} {qv : Value} {qd : List Int} (h : JM w0 w bm gw gg gj n wt gn jn kvs rows pv pd qv qd) : OwnT w gw n wt := h.hp.own 0 _ rfl
theorem JM.oG {w0 w : World} {bm gw gg gj n : Nat} {wt gn jn : List Bool} {kvs : List Value} {rows : List (List Int)} {pv : Value} {pd : List Int} {qv : Value} {qd : List Int} (h : JM w0 w bm gw gg gj n wt gn jn kvs rows pv pd qv qd) : OwnT w gg n gn := h.hp.own 1 _ rfl
theorem JM.oJ {w0 w : World} {bm gw gg gj n : Nat} {wt gn jn : List Bool} {kvs : List Value} {rows : List (List Int)} {pv : Value} {pd : List Int} {qv : Value} {qd : List Int} (h : JM w0 w bm gw gg gj n wt gn jn kvs rows pv pd qv qd) : OwnT w gj n jn := h.hp.own 2 _ rfl
theorem JM.oP {w0 w : World} {bm gw gg gj n : Nat} {wt gn jn : List Bool} {kvs : List Value} {rows : List (List Int)} {pv : Value} {pd : List Int} {qv : Value} {qd : List Int} (h : JM w0 w bm gw gg gj n wt gn jn kvs rows pv pd qv qd) : OwnI w 0 pv pd := h.hp.own 3 _ rfl
theorem JM.setW {w0 w : World} {bm gw gg gj n : Nat} {wt gn jn : List Bool} {kvs : List Value} {rows : List (List Int)} {pv : Value} {pd : List Int} {qv : Value} {qd : List Int} (h : JM w0 w bm gw gg gj n wt gn jn kvs rows pv pd qv qd) (x : Nat) : JM w0 (w.setCell ⟨gw, x, none⟩ (.bool true)) bm gw gg gj n (wt.set x true) gn jn kvs rows pv pd qv qd := by
  have hg : w.grownBy (w.setCell ⟨gw, x, none⟩ (.bool true)) (some gw) := grown_set (grownBy_refl _ _) _ _
  refine ⟨h.map.kept hg (by simpa using fun e => h.ne.1 e.symm), ?_, h.new, fun k h1 h2 h3 h4 h5 => (hg.block k (Nat.lt_of_lt_of_le h1 h.size) (by simpa using h3)).trans (h.keep k h1 h2 h3 h4 h5), Nat.le_trans h.size hg.size, h.os, h.tape, h.output⟩
  have := h.hp.store (i := 0) (g := gw) (n := n) (c := n) (e := 4) (sz := 1) (cs := wt.map Value.bool) rfl x (.bool true)
  rw [← List.map_set] at this
  exact this
theorem JM.setJ {w0 w : World} {bm gw gg gj n : Nat} {wt gn jn : List Bool} {kvs : List Value} {rows : List (List Int)} {pv : Value} {pd : List Int} {qv : Value} {qd : List Int} (h : JM w0 w bm gw gg gj n wt gn jn kvs rows pv pd qv qd) (x : Nat) : JM w0 (w.setCell ⟨gj, x, none⟩ (.bool true)) bm gw gg gj n wt gn (jn.set x true) kvs rows pv pd qv qd := by
  have hg : w.grownBy (w.setCell ⟨gj, x, none⟩ (.bool true)) (some gj) := grown_set (grownBy_refl _ _) _ _
  refine ⟨h.map.kept hg (by simpa using fun e => h.ne.2.2 e.symm), ?_, h.new, fun k h1 h2 h3 h4 h5 => (hg.block k (Nat.lt_of_lt_of_le h1 h.size) (by simpa using h5)).trans (h.keep k h1 h2 h3 h4 h5), Nat.le_trans h.size hg.size, h.os, h.tape, h.output⟩
  have := h.hp.store (i := 2) (g := gj) (n := n) (c := n) (e := 4) (sz := 1) (cs := jn.map Value.bool) rfl x (.bool true)
  rw [← List.map_set] at this
  exact this
theorem Heap.put {w : World} {base : Nat} {ss : List Slot} (h : Heap w base ss) {j : Nat} {t : Slot} (ht : t.At w base) (hf : ∀ (q : Nat) (a : Slot), ss[q]? = some a → q ≠ j → ∀ g, a.v.ownBlock = some g → t.v.ownBlock ≠ some g) : Heap w base (ss.set j t) := by
  have get : ∀ (q : Nat) (a : Slot), (ss.set j t)[q]? = some a → (q = j ∧ a = t) ∨ (q ≠ j ∧ ss[q]? = some a) := fun q a ha => by
    rw [List.getElem?_set] at ha
    by_cases e : j = q
    · rw [if_pos e] at ha
      split at ha
      · exact .inl ⟨e.symm, by cases ha; rfl⟩
      · cases ha
    · rw [if_neg e] at ha
      exact .inr ⟨fun hh => e hh.symm, ha⟩
  refine ⟨fun q a ha => ?_, fun q r a b g hqr ha hb hga hgb => ?_⟩
  · rcases get q a ha with ⟨_, e⟩ | ⟨_, ha⟩
    · rw [e]; exact ht
    · exact h.own q a ha
  · rcases get q a ha with ⟨e1, e2⟩ | ⟨n1, ha2⟩
    · rcases get r b hb with ⟨e3, _⟩ | ⟨n2, hb2⟩
      · exact hqr (e1.trans e3.symm)
      · exact hf r b hb2 n2 g hgb (e2 ▸ hga)
    · rcases get r b hb with ⟨_, e4⟩ | ⟨_, hb2⟩
      · exact hf q a ha2 n1 g hga (e4 ▸ hgb)
      · exact h.apart q r a b g hqr ha2 hb2 hga hgb
/-- Others have gone now; a row is new. -/
theorem JM.turnG {w0 w w' : World} {bm gw gg gj n : Nat} {wt gn gn' jn : List Bool} {kvs : List Value} {rows : List (List Int)} {pv : Value} {pd : List Int} {qv : Value} {qd : List Int} (h : JM w0 w bm gw gg gj n wt gn jn kvs rows pv pd qv qd) (hg : w.grownBy w' (some gg)) (ho : OwnT w' gg n gn') {fv : Value} {fr : List Int} (hf : OwnI w' w.heap.size fv fr) : JM w0 w' bm gw gg gj n wt gn' jn kvs rows pv pd fv fr := by
  refine ⟨h.map.kept hg (by simpa using fun e => h.ne.2.1 e.symm), ?_, fun v hv g hgv => ?_, fun k h1 h2 h3 h4 h5 => (hg.block k (Nat.lt_of_lt_of_le h1 h.size) (by simpa using h4)).trans (h.keep k h1 h2 h3 h4 h5), Nat.le_trans h.size hg.size, hg.os.trans h.os, hg.tape.trans h.tape, hg.output.trans h.output⟩
  · have h1 := h.hp.turn (i := 1) (s := boolS gg n gn) (s' := boolS gg n gn') rfl (fun k hk hne => hg.block k hk (fun e => hne (by cases e; rfl))) ho (fun _ hk => .inl hk)
    have h2 := h1.put (j := 4) (t := rowS fv fr) (own_mono hf (Nat.zero_le _)) (fun q a ha _ g hga hgf => by
      have h3 := (World.ownsRow.lt hf g hgf).1
      have h4 : g < w.heap.size := by
        rw [List.getElem?_set] at ha
        by_cases e : 1 = q
        · rw [if_pos e] at ha
          split at ha
          · cases ha
            have h5 := (World.ownsRow.lt (h.hp.own 1 _ rfl) gg rfl).2
            simp [Value.ownBlock] at hga
            omega
          · cases ha
        · rw [if_neg e] at ha
          exact (World.ownsRow.lt (h.hp.own q a ha) g hga).2
      omega)
    exact h2
  · rcases hv with hv | hv | hv
    · exact h.new v (.inl hv) g hgv
    · subst hv
      exact Nat.le_trans h.size (World.ownsRow.lt hf g hgv).1
    · exact h.new v (.inr (.inr hv)) g hgv
theorem JM.oQ {w0 w : World} {bm gw gg gj n : Nat} {wt gn jn : List Bool} {kvs : List Value} {rows : List (List Int)} {pv : Value} {pd : List Int} {qv : Value} {qd : List Int} (h : JM w0 w bm gw gg gj n wt gn jn kvs rows pv pd qv qd) : OwnI w 0 qv qd := h.hp.own 4 _ rfl
theorem Heap.but {w w' : World} {base : Nat} {ss : List Slot} (h : Heap w base ss) {b : Nat} (hg : w.grownBy w' (some b)) (hb : ∀ (i : Nat) (s : Slot), ss[i]? = some s → s.v.ownBlock ≠ some b) : Heap w' base ss :=
  ⟨fun i s hs => (h.own i s hs).same fun g hgs => hg.block g ((h.own i s hs).lt g hgs).2 (fun e => hb i s hs (by cases e; exact hgs)), h.apart⟩
/-- One more waits. -/
theorem JM.push {w0 w wa w2 : World} {bm gw gg gj n : Nat} {wt gn jn : List Bool} {kvs : List Value} {rows : List (List Int)} {pv : Value} {pd : List Int} {qv : Value} {qd : List Int} (h : JM w0 w bm gw gg gj n wt gn jn kvs rows pv pd qv qd) (hn : n ≤ 2000000) {k : Nat} (hk : k < n) (hA : Below w.heap.size w wa) {v' : Value} {x : Int} (hg : wa.grownBy w2 (kvs.getD k nilV).ownBlock)
    (ho : w2.ownsRow 0 3 1 v' ((rows.getD k []).length + 1) ((rows.getD k []).map intV ++ [intV x])) (hat : v'.ownBlock = (kvs.getD k nilV).ownBlock ∨ v'.ownBlock = some wa.heap.size) :
    ∃ w3, (Instr.mapUpdate 128 (.map (some bm)) (.int .i64 (k : Int)) v').run Tryz.prog w2 = .ok () w3 ∧ JM w0 w3 bm gw gg gj n wt gn jn (kvs.set k v') (rows.modify k (· ++ [x])) pv pd qv qd := by
  have ha := h.below hA
  have hkid := ha.kid hk
  have hm2 : MapIn w2 bm n kvs rows := ha.map.kept hg (fun e => ha.map.notRow hkid e.symm)
  obtain ⟨w3, e1, e2, e3⟩ := hm2.store hn hk v' (rows.getD k [] ++ [x]) (by simp)
  refine ⟨w3, e1, ?_⟩
  have hkl : k < kvs.length := by rw [h.map.kl]; exact hk
  have hrl : k < rows.length := by rw [h.map.rl]; exact hk
  rw [modJ_set x hrl]
  have hnew : ∀ g, (kvs.getD k nilV).ownBlock = some g → w0.heap.size ≤ g := fun g hg => h.kidNew hk hg
  have hh2 : Heap w2 0 (jss gw gg gj n wt gn jn (kvs.set k v') (rows.set k (rows.getD k [] ++ [x])) pv pd qv qd) := by
    have h9 := ha.hp.grow (i := k + 5) (s := rowS (kvs.getD k nilV) (rows.getD k [])) (s' := rowS v' (rows.getD k [] ++ [x])) (zipJ_get hkl hrl) (by
      show World.ownsRow _ _ _ _ _ _ _
      simpa using ho) hg hat
    have h8 : (jss gw gg gj n wt gn jn kvs rows pv pd qv qd).set (k + 5) (rowS v' (rows.getD k [] ++ [x])) = jss gw gg gj n wt gn jn (kvs.set k v') (rows.set k (rows.getD k [] ++ [x])) pv pd qv qd := by
      show boolS gw n wt :: boolS gg n gn :: boolS gj n jn :: rowS pv pd :: rowS qv qd :: (List.zipWith rowS kvs rows).set k _ = _
      rw [zipJ_set]
    rw [h8] at h9
    exact h9
  have hh3 := hh2.but e3 (fun i s hs => hm2.notRow (hh2.own i s hs))
  refine ⟨e2, hh3, fun v hv g hgv => ?_, fun j h1 h2 h3 h4 h5 => ?_, ?_, ?_, ?_, ?_⟩
  · rcases hv with hv | hv | hv
    · exact h.new v (.inl hv) g hgv
    · exact h.new v (.inr (.inl hv)) g hgv
    · rcases List.mem_or_eq_of_mem_set hv with hv | hv
      · exact h.new v (.inr (.inr hv)) g hgv
      · subst hv
        rcases hat with e | e
        · exact hnew g (e ▸ hgv)
        · rw [e] at hgv
          cases hgv
          exact ha.size
  · rw [e3.block j (Nat.lt_of_lt_of_le (Nat.lt_of_lt_of_le h1 ha.size) hg.size) (by simpa using h2), hg.block j (Nat.lt_of_lt_of_le h1 ha.size) (fun e => by have := hnew j e.symm; omega)]
    exact ha.keep j h1 h2 h3 h4 h5
  · exact Nat.le_trans ha.size (Nat.le_trans hg.size e3.size)
  · rw [e3.os, hg.os, ha.os]
  · rw [e3.tape, hg.tape, ha.tape]
  · rw [e3.output, hg.output, ha.output]
/-- One row moves, another one goes. -/
theorem Heap.move {w : World} {base : Nat} {ss : List Slot} (h : Heap w base ss) {i j : Nat} {s s0 : Slot} (hi : i < ss.length) (hs : ss[j]? = some s) (h0 : s0.At w base) (hn : s0.v.ownBlock = none) : Heap w base ((ss.set i s).set j s0) := by
  have hj := (List.getElem?_eq_some_iff.1 hs).1
  have get : ∀ (q : Nat) (t : Slot), ((ss.set i s).set j s0)[q]? = some t → (q = j ∧ t = s0) ∨ (q = i ∧ t = s) ∨ (q ≠ j ∧ q ≠ i ∧ ss[q]? = some t) := fun q t ht => by
    rw [List.getElem?_set] at ht
    by_cases e : j = q
    · rw [if_pos e, if_pos (by simpa using hj)] at ht
      exact .inl ⟨e.symm, by cases ht; rfl⟩
    · rw [if_neg e, List.getElem?_set] at ht
      by_cases e2 : i = q
      · rw [if_pos e2, if_pos hi] at ht
        exact .inr (.inl ⟨e2.symm, by cases ht; rfl⟩)
      · rw [if_neg e2] at ht
        exact .inr (.inr ⟨fun hh => e hh.symm, fun hh => e2 hh.symm, ht⟩)
  refine ⟨fun q t ht => ?_, fun q r a b g hqr ha hb hga hgb => ?_⟩
  · rcases get q t ht with ⟨_, rfl⟩ | ⟨_, rfl⟩ | ⟨_, _, ht⟩
    · exact h0
    · exact h.own j _ hs
    · exact h.own q t ht
  · rcases get q a ha with ⟨_, ea⟩ | ⟨eq, ea⟩ | ⟨q1, q2, ha2⟩
    · rw [ea, hn] at hga; cases hga
    · rcases get r b hb with ⟨_, eb⟩ | ⟨er, eb⟩ | ⟨r1, r2, hb2⟩
      · rw [eb, hn] at hgb; cases hgb
      · exact hqr (eq.trans er.symm)
      · exact h.apart j r s b g (fun e => r1 e.symm) hs hb2 (ea ▸ hga) hgb
    · rcases get r b hb with ⟨_, eb⟩ | ⟨er, eb⟩ | ⟨r1, r2, hb2⟩
      · rw [eb, hn] at hgb; cases hgb
      · exact h.apart q j a s g q1 ha2 hs hga (eb ▸ hgb)
      · exact h.apart q r a b g hqr ha2 hb2 hga hgb
/-- Those of one depth are taken out. -/
theorem JM.take {w0 w : World} {bm gw gg gj n : Nat} {wt gn jn : List Bool} {kvs : List Value} {rows : List (List Int)} {pv : Value} {pd : List Int} {qv : Value} {qd : List Int} (h : JM w0 w bm gw gg gj n wt gn jn kvs rows pv pd qv qd) (hn : n ≤ 2000000) {k : Nat} (hk : k < n) (ty : TypeId) :
    ∃ w3, (Builtin.delete_ #[128, 3] ty #[.map (some bm), .int .i64 (k : Int)]).run Tryz.prog w = .ok (.tuple #[]) w3 ∧ JM w0 w3 bm gw gg gj n wt gn jn (kvs.set k nilV) (rows.set k []) (kvs.getD k nilV) (rows.getD k []) qv qd := by
  obtain ⟨w3, e1, e2, e3⟩ := h.map.drop hn hk ty
  refine ⟨w3, e1, ?_⟩
  have hkl : k < kvs.length := by rw [h.map.kl]; exact hk
  have hrl : k < rows.length := by rw [h.map.rl]; exact hk
  have hh := h.hp.move (i := 3) (j := k + 5) (s := rowS (kvs.getD k nilV) (rows.getD k [])) (s0 := rowS nilV []) (by simp) (zipJ_get hkl hrl) (World.ownsRow_nil _ _ _ _) rfl
  have h8 : ((jss gw gg gj n wt gn jn kvs rows pv pd qv qd).set 3 (rowS (kvs.getD k nilV) (rows.getD k []))).set (k + 5) (rowS nilV []) = jss gw gg gj n wt gn jn (kvs.set k nilV) (rows.set k []) (kvs.getD k nilV) (rows.getD k []) qv qd := by
    show boolS gw n wt :: boolS gg n gn :: boolS gj n jn :: rowS (kvs.getD k nilV) (rows.getD k []) :: rowS qv qd :: (List.zipWith rowS kvs rows).set k _ = _
    rw [zipJ_set]
  rw [h8] at hh
  have hh3 := hh.but e3 (fun i s hs => h.map.notRow (hh.own i s hs))
  refine ⟨e2, hh3, fun v hv g hgv => ?_, fun j h1 h2 h3 h4 h5 => ?_, Nat.le_trans h.size e3.size, by rw [e3.os, h.os], by rw [e3.tape, h.tape], by rw [e3.output, h.output]⟩
  · rcases hv with hv | hv | hv
    · subst hv
      exact h.kidNew hk hgv
    · exact h.new v (.inr (.inl hv)) g hgv
    · rcases List.mem_or_eq_of_mem_set hv with hv | hv
      · exact h.new v (.inr (.inr hv)) g hgv
      · subst hv
        simp [Value.ownBlock] at hgv
  · rw [e3.block j (Nat.lt_of_lt_of_le h1 h.size) (by simpa using h2)]
    exact h.keep j h1 h2 h3 h4 h5
end Go.Proofs.YtogjjmbcbnceoaaGreat
