/- A variable's strip and its bit there. -/
import Derived.Test.YtcggbedjhglmmaaGreatDoorLOrdM
import Derived.Test.YtcggbedjhglmmaaGreatDoorLBeg
namespace Go.Proofs.YtcggbedjhglmmaaGreatDoor
open Go.RowKit

set_option maxRecDepth 100000 in
theorem ofv_core (G m c q r : Nat) (bw V : Int) (w : World) (h1 : wrap64 (V.tdiv 64) = (q : Int)) (h2 : V.tmod 64 = (r : Int)) (hq : (q : Int) < m) (hr : (r : Int) ≤ 64) (hbw : IntKind.u64.wrap (2 ^ r) = bw) :
    Calls Tryz.prog 38 #[.slice (some ⟨G, 0, none⟩) m c, .int .i64 V] w fun e w' => e = .returned (.tuple #[.pointer (some ⟨G, q * 3, none⟩), .int .u64 bw]) ∧ ∃ k, w' = w.drewN k := by
  have f3 : ∀ W, (binOp .shl 52 (.int .u64 1) (.int .i64 (V.tmod 64))).run Tryz.prog W = .ok (.int .u64 bw) W := fun W => by
    rw [h2]
    have e : binOp .shl 52 (.int .u64 1) (.int .i64 (r : Int)) = Op.shift .shl .u64 1 .i64 (r : Int) := rfl
    rw [e, shift_shl_u64 (yk := .i64) (x := 1) (y := (r : Int)) (by omega) hr]
    simp [hbw]
  go_enter Tryz.func38, Tryz.ntmps38
  go_wp2
  refine wp_region_quiet_lit (by kernel_rfl) (by kernel_rfl) ?_
  repeat (go_big_quiet_step (fail))
  refine wpQuiet_nil ?_
  intro _ hw'
  obtain ⟨nq, hw''⟩ := hw'
  subst hw''
  go_wp2
  go_ret2
  refine ⟨?_, _, rfl⟩
  first | rfl | simp [h1]
theorem bitW_wrap (v : Nat) : IntKind.u64.wrap (2 ^ (v % 64)) = ((bitW v : Nat) : Int) := by
  have h := bitW_lt v
  unfold bitW at h ⊢
  rw [IntKind.wrap_u64]
  have e : (2 : Int) ^ (v % 64) = ((2 ^ (v % 64) : Nat) : Int) := by simp
  rw [e]
  generalize 2 ^ (v % 64) = x at h ⊢
  omega
theorem ofv_any (G m c v : Nat) (w : World) (hv : v / 64 < m) (hm : m ≤ 100000000) :
    Calls Tryz.prog 38 #[.slice (some ⟨G, 0, none⟩) m c, .int .i64 (v : Int)] w fun e w' => e = .returned (.tuple #[.pointer (some ⟨G, v / 64 * 3, none⟩), .int .u64 (bitW v : Nat)]) ∧ ∃ k, w' = w.drewN k := by
  have hb0 : (0 : Int) ≤ v := by omega
  refine ofv_core G m c (v / 64) (v % 64) _ (v : Int) w ?_ ?_ (by omega) (by omega) (bitW_wrap v)
  · rw [Int.tdiv_eq_ediv_of_nonneg hb0]; unfold wrap64; omega
  · rw [Int.tmod_eq_emod_of_nonneg hb0]; omega
end Go.Proofs.YtcggbedjhglmmaaGreatDoor
/- Strips in memory. -/
namespace Go.Proofs.YtcggbedjhglmmaaGreatDoor
open Go.RowKit

abbrev V3 := Value × Value × Value
def v3Cells (t : V3) : List Value := [t.1, t.2.1, t.2.2]
theorem v3Cells_len (t : V3) : (v3Cells t).length = 3 := rfl
def mkSlot (v : Value) (l : List Mk) : Slot := ⟨v, 87, 2, l.length, flat mkCells l⟩
/-- the strips' own row, and for each strip its three rows -/
structure Sts (w0 w : World) (G m : Nat) (ss : List Slot) (ts : List V3) (all : List Sp) : Prop where
  low : Below w0.heap.size w0 w
  tl : ts.length = m
  al : all.length = m
  heap : Heap w w0.heap.size ss
  len : 1 + 3 * m ≤ ss.length
  head : ss[0]? = some ⟨.slice (some ⟨G, 0, none⟩) m m, 64, 3, m, flat v3Cells ts⟩
  row : ∀ (i : Nat) (t : V3) (s : Sp), ts[i]? = some t → all[i]? = some s → ss[1 + 3 * i]? = some (mkSlot t.1 s.sets) ∧ ss[1 + 3 * i + 1]? = some (mkSlot t.2.1 s.asks) ∧ ss[1 + 3 * i + 2]? = some (mkSlot t.2.2 s.hands)
/-- what lies behind the strips stays -/
def Kq (m : Nat) (ss ss' : List Slot) : Prop := ∀ j x, 1 + 3 * m ≤ j → ss[j]? = some x → ss'[j]? = some x
theorem Kq.refl (m : Nat) (ss : List Slot) : Kq m ss ss := fun _ _ _ h => h
theorem Kq.more (m : Nat) (ss : List Slot) (s : Slot) : Kq m ss (ss ++ [s]) := fun j x _ h => by rw [List.getElem?_append_left (List.getElem?_eq_some_iff.1 h).1]; exact h
theorem Kq.trans {m : Nat} {a b c : List Slot} (h : Kq m a b) (g : Kq m b c) : Kq m a c := fun j x hj hx => g j x hj (h j x hj hx)
theorem Sts.same {w0 w w' : World} {G m : Nat} {ss : List Slot} {ts : List V3} {all : List Sp} (h : Sts w0 w G m ss ts all) (hw : w'.heap = w.heap) (hb : Below w0.heap.size w0 w') : Sts w0 w' G m ss ts all :=
  ⟨hb, h.tl, h.al, h.heap.same hw, h.len, h.head, h.row⟩
theorem Sts.below {w0 w w' : World} {G m : Nat} {ss : List Slot} {ts : List V3} {all : List Sp} (h : Sts w0 w G m ss ts all) (hb : Below w.heap.size w w') : Sts w0 w' G m ss ts all :=
  ⟨below_trans h.low hb, h.tl, h.al, h.heap.below hb, h.len, h.head, h.row⟩
theorem Sts.get {w0 w : World} {G m : Nat} {ss : List Slot} {ts : List V3} {all : List Sp} (h : Sts w0 w G m ss ts all) {i : Nat} (hi : i < m) : ∃ t, ts[i]? = some t ∧ all[i]? = some (all.getD i default) := by
  refine ⟨_, List.getElem?_eq_getElem (by rw [h.tl]; exact hi), ?_⟩
  rw [List.getElem?_eq_getElem (by rw [h.al]; exact hi)]
  simp [List.getElem?_eq_getElem (show i < all.length by rw [h.al]; exact hi)]
theorem Sts.cells {w0 w : World} {G m : Nat} {ss : List Slot} {ts : List V3} {all : List Sp} (h : Sts w0 w G m ss ts all) {i : Nat} {t : V3} (ht : ts[i]? = some t) :
    w.cell? ⟨G, i * 3, none⟩ = some t.1 ∧ w.cell? ⟨G, i * 3 + 1, none⟩ = some t.2.1 ∧ w.cell? ⟨G, i * 3 + 2, none⟩ = some t.2.2 ∧ (∀ j, w.frozen? ⟨G, j, none⟩ = false) ∧ G < w.heap.size :=
  ⟨h.heap.cell h.head (flat_at v3Cells_len ts i 0 t _ ht rfl), h.heap.cell h.head (flat_at v3Cells_len ts i 1 t _ ht rfl), h.heap.cell h.head (flat_at v3Cells_len ts i 2 t _ ht rfl), fun j => h.heap.fz h.head j, (h.heap.lt h.head).2⟩
/-- one of the rows of a strip is another one now -/
theorem Sts.put {w0 w w2 : World} {G m : Nat} {ss : List Slot} {ts : List V3} {all : List Sp} (h : Sts w0 w G m ss ts all) {i k : Nat} {t t' : V3} {s' : Sp} {v v' : Value} {l l' : List Mk} (ht : ts[i]? = some t) (hk : k < 3)
    (hrow : ss[1 + 3 * i + k]? = some (mkSlot v l)) (ho : MkRow w2 w0.heap.size v' l') (hg : w.grownBy w2 v.ownBlock) (hat : ∀ g, v'.ownBlock = some g → v.ownBlock = some g ∨ w.heap.size ≤ g)
    (ht' : v3Cells t' = (v3Cells t).set k v') (hnew : ∀ q, q < 3 → (if q = k then some (mkSlot v' l') else ss[1 + 3 * i + q]?) = (match q with | 0 => some (mkSlot t'.1 s'.sets) | 1 => some (mkSlot t'.2.1 s'.asks) | _ => some (mkSlot t'.2.2 s'.hands))) :
    (∃ ss', Sts w0 (w2.setCell ⟨G, i * 3 + k, none⟩ v') G m ss' (ts.set i t') (all.set i s') ∧ Kq m ss ss') ∧ (∃ u, w2.cell? ⟨G, i * 3 + k, none⟩ = some u) ∧ w2.frozen? ⟨G, i * 3 + k, none⟩ = false := by
  have hi : i < m := by have := (List.getElem?_eq_some_iff.1 ht).1; rw [h.tl] at this; exact this
  have h1 : Heap w2 w0.heap.size (ss.set (1 + 3 * i + k) (mkSlot v' l')) := h.heap.turn hrow (fun q hq hne => hg.block q hq (fun e => hne e.symm)) ho hat
  have k0 : (ss.set (1 + 3 * i + k) (mkSlot v' l'))[0]? = some ⟨.slice (some ⟨G, 0, none⟩) m m, 64, 3, m, flat v3Cells ts⟩ := by rw [List.getElem?_set, if_neg (by omega)]; exact h.head
  have h2 := h1.store k0 (i * 3 + k) v'
  rw [flat_set v3Cells_len ts i k t t' v' ht hk ht'] at h2
  have hl := h.len
  have hlow : Below w0.heap.size w0 w2 := below_grownB h.low hg (fun g hg' => ((h.heap.own _ _ hrow).lt g hg').1) h.low.size
  refine ⟨⟨_, ⟨hlow.setCell (p := ⟨G, i * 3 + k, none⟩) (h.heap.lt h.head).1 _, by simpa using h.tl, by simpa using h.al, h2, by simpa using hl, ?_, fun j t0 s0 ht0 hs0 => ?_⟩, fun j x hj hx => ?_⟩, ?_, h1.fz k0 _⟩
  · rw [List.getElem?_set, if_pos rfl, if_pos (by rw [List.length_set]; omega)]
  · rw [List.getElem?_set] at ht0 hs0
    by_cases e : i = j
    · subst e
      rw [if_pos rfl, if_pos (by rw [h.tl]; exact hi)] at ht0
      rw [if_pos rfl, if_pos (by rw [h.al]; exact hi)] at hs0
      cases ht0; cases hs0
      have key : ∀ q, q < 3 → ((ss.set (1 + 3 * i + k) (mkSlot v' l')).set 0 ⟨.slice (some ⟨G, 0, none⟩) m m, 64, 3, m, flat v3Cells (ts.set i t')⟩)[1 + 3 * i + q]? = (if q = k then some (mkSlot v' l') else ss[1 + 3 * i + q]?) := fun q hq => by
        rw [List.getElem?_set, if_neg (by omega), List.getElem?_set]
        by_cases e : q = k
        · subst e; rw [if_pos rfl, if_pos rfl, if_pos (by omega)]
        · rw [if_neg e, if_neg (by omega)]
      exact ⟨(key 0 (by omega)).trans (hnew 0 (by omega)), (key 1 (by omega)).trans (hnew 1 (by omega)), (key 2 (by omega)).trans (hnew 2 (by omega))⟩
    · rw [if_neg e] at ht0 hs0
      have hr := h.row j t0 s0 ht0 hs0
      have far : ∀ q, q < 3 → ((ss.set (1 + 3 * i + k) (mkSlot v' l')).set 0 ⟨.slice (some ⟨G, 0, none⟩) m m, 64, 3, m, flat v3Cells (ts.set i t')⟩)[1 + 3 * j + q]? = ss[1 + 3 * j + q]? := fun q hq => by
        rw [List.getElem?_set, if_neg (by omega), List.getElem?_set, if_neg (by omega)]
      exact ⟨(far 0 (by omega)).trans hr.1, (far 1 (by omega)).trans hr.2.1, (far 2 (by omega)).trans hr.2.2⟩
  · rw [List.getElem?_set, if_neg (by omega), List.getElem?_set, if_neg (by omega)]; exact hx
  · refine ⟨_, h1.cell k0 (j := i * 3 + k) (flat_at v3Cells_len ts i k t ((v3Cells t)[k]'(by rw [v3Cells_len]; exact hk)) ht (List.getElem?_eq_getElem _))⟩
theorem strip_getD (all : List Sp) (v : Nat) : strip all v = all.getD (v / 64) default := rfl
theorem Sts.putSet {w0 w w2 : World} {G m : Nat} {ss : List Slot} {ts : List V3} {all : List Sp} (h : Sts w0 w G m ss ts all) {i u : Nat} {t : V3} {v' : Value} (ht : ts[u / 64]? = some t) (ho : MkRow w2 w0.heap.size v' (laidM (strip all u).sets i (bitW u))) (hg : w.grownBy w2 t.1.ownBlock) (hat : ∀ g, v'.ownBlock = some g → t.1.ownBlock = some g ∨ w.heap.size ≤ g) :
    (∃ ss' ts', Sts w0 (w2.setCell ⟨G, u / 64 * 3, none⟩ v') G m ss' ts' (addSet all i u) ∧ Kq m ss ss') ∧ (∃ x, w2.cell? ⟨G, u / 64 * 3, none⟩ = some x) ∧ w2.frozen? ⟨G, u / 64 * 3, none⟩ = false := by
  have hi : u / 64 < m := by have := (List.getElem?_eq_some_iff.1 ht).1; rw [h.tl] at this; exact this
  obtain ⟨_, _, hs⟩ := h.get hi
  have hr := h.row _ t _ ht hs
  obtain ⟨⟨ss', h1⟩, h2, h3⟩ := h.put (k := 0) (t' := (v', t.2.1, t.2.2)) (s' := spSet (strip all u) i u) ht (by omega) hr.1 ho hg hat rfl (fun q hq => by
    match q, hq with
    | 0, _ => rfl
    | 1, _ => exact hr.2.1
    | 2, _ => exact hr.2.2)
  exact ⟨⟨ss', _, h1⟩, h2, h3⟩
theorem Sts.putAsk {w0 w w2 : World} {G m : Nat} {ss : List Slot} {ts : List V3} {all : List Sp} (h : Sts w0 w G m ss ts all) {i u : Nat} {t : V3} {v' : Value} (ht : ts[u / 64]? = some t) (ho : MkRow w2 w0.heap.size v' (laidM (strip all u).asks i (bitW u))) (hg : w.grownBy w2 t.2.1.ownBlock) (hat : ∀ g, v'.ownBlock = some g → t.2.1.ownBlock = some g ∨ w.heap.size ≤ g) :
    (∃ ss' ts', Sts w0 (w2.setCell ⟨G, u / 64 * 3 + 1, none⟩ v') G m ss' ts' (addAsk all i u) ∧ Kq m ss ss') ∧ (∃ x, w2.cell? ⟨G, u / 64 * 3 + 1, none⟩ = some x) ∧ w2.frozen? ⟨G, u / 64 * 3 + 1, none⟩ = false := by
  have hi : u / 64 < m := by have := (List.getElem?_eq_some_iff.1 ht).1; rw [h.tl] at this; exact this
  obtain ⟨_, _, hs⟩ := h.get hi
  have hr := h.row _ t _ ht hs
  obtain ⟨⟨ss', h1⟩, h2, h3⟩ := h.put (k := 1) (t' := (t.1, v', t.2.2)) (s' := spAsk (strip all u) i u) ht (by omega) hr.2.1 ho hg hat rfl (fun q hq => by
    match q, hq with
    | 0, _ => exact hr.1
    | 1, _ => rfl
    | 2, _ => exact hr.2.2)
  exact ⟨⟨ss', _, h1⟩, h2, h3⟩
theorem Sts.putHand {w0 w w2 : World} {G m : Nat} {ss : List Slot} {ts : List V3} {all : List Sp} (h : Sts w0 w G m ss ts all) {i u : Nat} {t : V3} {v' : Value} (ht : ts[u / 64]? = some t) (ho : MkRow w2 w0.heap.size v' (laidM (strip all u).hands i (bitW u))) (hg : w.grownBy w2 t.2.2.ownBlock) (hat : ∀ g, v'.ownBlock = some g → t.2.2.ownBlock = some g ∨ w.heap.size ≤ g) :
    (∃ ss' ts', Sts w0 (w2.setCell ⟨G, u / 64 * 3 + 2, none⟩ v') G m ss' ts' (addHand all i u) ∧ Kq m ss ss') ∧ (∃ x, w2.cell? ⟨G, u / 64 * 3 + 2, none⟩ = some x) ∧ w2.frozen? ⟨G, u / 64 * 3 + 2, none⟩ = false := by
  have hi : u / 64 < m := by have := (List.getElem?_eq_some_iff.1 ht).1; rw [h.tl] at this; exact this
  obtain ⟨_, _, hs⟩ := h.get hi
  have hr := h.row _ t _ ht hs
  obtain ⟨⟨ss', h1⟩, h2, h3⟩ := h.put (k := 2) (t' := (t.1, t.2.1, v')) (s' := spHand (strip all u) i u) ht (by omega) hr.2.2 ho hg hat rfl (fun q hq => by
    match q, hq with
    | 0, _ => exact hr.1
    | 1, _ => exact hr.2.1
    | 2, _ => rfl)
  exact ⟨⟨ss', _, h1⟩, h2, h3⟩
end Go.Proofs.YtcggbedjhglmmaaGreatDoor
/- Variables are laid to strips: what a block asks, what phis ask at ends. -/
namespace Go.Proofs.YtcggbedjhglmmaaGreatDoor
open Go.RowKit

/-- rows are not too long, words are words -/
structure StOk (n L : Nat) (all : List Sp) : Prop where
  s : ∀ k, OkM n (all.getD k default).sets ∧ (all.getD k default).sets.length ≤ L
  a : ∀ k, OkM n (all.getD k default).asks ∧ (all.getD k default).asks.length ≤ L
  h : ∀ k, OkM n (all.getD k default).hands ∧ (all.getD k default).hands.length ≤ L
theorem laidM_len (l : List Mk) (i x : Nat) : (laidM l i x).length ≤ l.length + 1 := by
  unfold laidM
  split
  · simp
  · simp
theorem StOk.up {n L : Nat} {all : List Sp} (h : StOk n L all) {L' : Nat} (hl : L ≤ L') : StOk n L' all :=
  ⟨fun k => ⟨(h.s k).1, Nat.le_trans (h.s k).2 hl⟩, fun k => ⟨(h.a k).1, Nat.le_trans (h.a k).2 hl⟩, fun k => ⟨(h.h k).1, Nat.le_trans (h.h k).2 hl⟩⟩
theorem StOk.set {n L : Nat} {all : List Sp} (h : StOk n L all) {k : Nat} {s : Sp} (h1 : OkM n s.sets ∧ s.sets.length ≤ L + 1) (h2 : OkM n s.asks ∧ s.asks.length ≤ L + 1) (h3 : OkM n s.hands ∧ s.hands.length ≤ L + 1) : StOk n (L + 1) (all.set k s) := by
  have hu := h.up (Nat.le_succ L)
  by_cases hk : k < all.length
  · refine ⟨fun z => ?_, fun z => ?_, fun z => ?_⟩ <;> rw [getD_setS hk] <;> split
    · exact h1
    · exact hu.s z
    · exact h2
    · exact hu.a z
    · exact h3
    · exact hu.h z
  · rw [List.set_eq_of_length_le (by omega)]; exact hu
theorem StOk.addSet {n L : Nat} {all : List Sp} (h : StOk n L all) {i : Nat} (hi : i < n) (u : Nat) : StOk n (L + 1) (addSet all i u) :=
  h.set ⟨laidM_ok (h.s _).1 hi (bitW_ne u) (bitW_lt u), Nat.le_trans (laidM_len _ _ _) (Nat.succ_le_succ (h.s (u / 64)).2)⟩ ⟨(h.a (u / 64)).1, Nat.le_succ_of_le (h.a (u / 64)).2⟩ ⟨(h.h (u / 64)).1, Nat.le_succ_of_le (h.h (u / 64)).2⟩
theorem StOk.addAsk {n L : Nat} {all : List Sp} (h : StOk n L all) {i : Nat} (hi : i < n) (u : Nat) : StOk n (L + 1) (addAsk all i u) :=
  h.set ⟨(h.s (u / 64)).1, Nat.le_succ_of_le (h.s (u / 64)).2⟩ ⟨laidM_ok (h.a _).1 hi (bitW_ne u) (bitW_lt u), Nat.le_trans (laidM_len _ _ _) (Nat.succ_le_succ (h.a (u / 64)).2)⟩ ⟨(h.h (u / 64)).1, Nat.le_succ_of_le (h.h (u / 64)).2⟩
theorem StOk.addHand {n L : Nat} {all : List Sp} (h : StOk n L all) {i : Nat} (hi : i < n) (u : Nat) : StOk n (L + 1) (addHand all i u) :=
  h.set ⟨(h.s (u / 64)).1, Nat.le_succ_of_le (h.s (u / 64)).2⟩ ⟨(h.a (u / 64)).1, Nat.le_succ_of_le (h.a (u / 64)).2⟩ ⟨laidM_ok (h.h _).1 hi (bitW_ne u) (bitW_lt u), Nat.le_trans (laidM_len _ _ _) (Nat.succ_le_succ (h.h (u / 64)).2)⟩
theorem StOk.askOne {n L : Nat} {all : List Sp} (h : StOk n L all) {i : Nat} (hi : i < n) (a : Int) : StOk n (L + 1) (askOne i all a) := by
  unfold Go.Proofs.YtcggbedjhglmmaaGreatDoor.askOne
  split
  · exact h.addAsk hi _
  · exact h.up (Nat.le_succ L)
theorem drop_getD {α : Type} [Inhabited α] {l : List Int} {k : Nat} (h : k < l.length) (F : α → Int → α) (s : α) : (l.drop k).foldl F s = (l.drop (k + 1)).foldl F (F s (l.getD k 0)) := drop_fold h s F
set_option maxRecDepth 100000 in
set_option maxHeartbeats 4000000 in
theorem ask_any {w0 w : World} {G m : Nat} {ss : List Slot} {ts : List V3} {all : List Sp} (h : Sts w0 w G m ss ts all) {n L i : Nat} (hok : StOk n L all) (hi : i < n) (hm : m ≤ 1000000) {l : List Int} {av : Value}
    (hA : ∀ W ss' ts' all', Sts w0 W G m ss' ts' all' → Kq m ss ss' → IntsAt W av l) (hl : ∀ a ∈ l, 0 ≤ a ∧ a.toNat / 64 < m) (hL : L + l.length ≤ 5000000) :
    Calls Tryz.prog 36 #[.slice (some ⟨G, 0, none⟩) m m, .int .i64 (i : Int), av] w fun e w' => e = .returned (.tuple #[]) ∧ ∃ ss' ts', Sts w0 w' G m ss' ts' (askAll i all l) ∧ Kq m ss ss' := by
  have HA : Hid (∀ W ss' ts' all', Sts w0 W G m ss' ts' all' → Kq m ss ss' → IntsAt W av l) := hA
  have HS : Hid _ := h
  obtain ⟨aa, ac, rfl, hal⟩ := (hA w ss ts all h (Kq.refl _ _)).form
  have HL : Hid (∀ a ∈ l, 0 ≤ a ∧ a.toNat / 64 < m) := hl
  have HK : Hid (StOk n L all) := hok
  obtain ⟨RES, hRES⟩ : ∃ RES, RES = askAll i all l := ⟨_, rfl⟩
  rw [← hRES]
  have HR : Hid ((l.drop 0).foldl (askOne i) all = RES) := by show _ = _; rw [List.drop_zero, hRES]; rfl
  have HB : Hid (i < n ∧ m ≤ 1000000 ∧ L + l.length ≤ 5000000) := ⟨hi, hm, hL⟩
  have hlb : (l.length : Int) ≤ 5000000 := by omega
  clear h hA hl hok hRES hal hi hL hm
  generalize hll : l.length = ll at *
  have HLL : Hid (l.length = ll) := hll
  clear hll
  go_enter Tryz.func36, Tryz.ntmps36
  go_wp2
  go_loopw [12] (fun vk wr => ∃ (k : Nat) (ss1 : List Slot) (ts1 : List V3) (a1 : List Sp), vk = .int .i64 k ∧ k ≤ ll ∧ Hid (Sts w0 wr G m ss1 ts1 a1 ∧ Kq m ss ss1 ∧ (l.drop k).foldl (askOne i) a1 = RES ∧ StOk n (L + k) a1)) (fun vk _ => ll - (intOf vk).toNat)
  case atStart => exact ⟨0, ss, ts, all, rfl, by omega, HS.out, Kq.refl _ _, HR.out, HK.out⟩
  case round =>
    obtain ⟨k, ss1, ts1, a1, rfl, hk, hr⟩ := hrel
    clear HS HR HK
    by_cases hkn : k < ll
    · have hkn' : (k : Int) < ll := by omega
      have hkl : k < l.length := by rw [HLL.out]; exact hkn
      have hia := HA.out wr ss1 ts1 a1 hr.out.1 hr.out.2.1
      rw [← HLL.out] at hia
      obtain ⟨ga, oa, rfl, _, ca⟩ := hia.get hkl
      have hmem : l.getD k 0 ∈ l := by rw [List.getD, List.getElem?_eq_getElem hkl]; exact List.getElem_mem hkl
      have hst := drop_fold hkl a1 (askOne i)
      rw [hr.out.2.2.1] at hst
      obtain ⟨u, hu⟩ : ∃ u : Nat, l.getD k 0 = (u : Int) := Int.eq_ofNat_of_zero_le (HL.out _ hmem).1
      have hum : u / 64 < m := by have := (HL.out _ hmem).2; rw [hu] at this; simpa using this
      rw [hu] at ca hst
      have HST : Hid _ := hst
      obtain ⟨t, ht, hsx⟩ := hr.out.1.get hum
      have hrow := hr.out.1.row _ t _ ht hsx
      obtain ⟨c0, c1, c2, cf, hG⟩ := hr.out.1.cells ht
      have HOF : Hid _ := ofv_any G m m u wr hum (by have := HB.out.2.1; omega)
      have hob := hr.out.1.heap.own _ _ hrow.1
      have hoa := hr.out.1.heap.own _ _ hrow.2.1
      have hk1 := hr.out.2.2.2.s (u / 64)
      have hk2 := hr.out.2.2.2.a (u / 64)
      have hLk := HB.out.2.2
      have HLA : Hid (∀ q, Calls Tryz.prog 71 #[t.1, .int .i64 (i : Int)] (wr.drewN q) fun e w' => e = .returned (.int .u64 (lastM (strip a1 u).sets i : Nat)) ∧ w' = wr.drewN q) := fun q => last_any (w := wr.drewN q) (base := w0.heap.size) (owns_same hob fun _ _ => rfl) (by have := hk1.2; omega) i
      have HLD : Hid (∀ q, Calls Tryz.prog 39 #[t.2.1, .int .i64 (i : Int), .int .u64 (bitW u : Nat)] (wr.drewN q) fun e w' => ∃ v', e = .returned v' ∧ MkRow w' w0.heap.size v' (laidM (strip a1 u).asks i (bitW u)) ∧ (wr.drewN q).grownBy w' t.2.1.ownBlock ∧ (∀ g, v'.ownBlock = some g → t.2.1.ownBlock = some g ∨ (wr.drewN q).heap.size ≤ g)) := fun q => laid_any (w := wr.drewN q) (base := w0.heap.size) (owns_same hoa fun _ _ => rfl) (by have := hk2.2; omega) hr.out.1.low.size i _ (bitW_lt u) hk2.1.w
      have hLw : lastM (strip a1 u).sets i < 2 ^ 64 := by
        rcases snoc_of (strip a1 u).sets with e | ⟨l', mm, e⟩
        · rw [e]; simp [lastM]
        · rw [e, lastM_snoc]; split
          · exact hk1.1.w mm (by show mm ∈ (strip a1 u).sets; rw [e]; simp)
          · omega
      have hand := and_wd hLw (bitW_lt u)
      have hz := wd_zero (x := lastM (strip a1 u).sets i &&& bitW u)
      have HOK : Hid (StOk n (L + (k + 1)) (askOne i a1 (u : Int))) := hr.out.2.2.2.askOne HB.out.1 _
      have HAO : Hid (askOne i a1 (u : Int) = if lastM (strip a1 u).sets i &&& bitW u = 0 then addAsk a1 i u else a1) := by
        show _ = _; unfold askOne; simp
      have HRR : Hid _ := hr.out.1
      have HKK : Hid _ := hr.out.2.1
      have HTT : Hid _ := ht
      obtain ⟨s0a, s0c, hv0⟩ : ∃ a c, t.1 = .slice a (strip a1 u).sets.length c := by
        rcases own_shape hob with ⟨e, e0⟩ | ⟨g, c, e, _⟩
        · exact ⟨none, 0, by rw [show (strip a1 u).sets.length = 0 from e0]; exact e⟩
        · exact ⟨_, _, e⟩
      obtain ⟨s1a, s1c, hv1⟩ : ∃ a c, t.2.1 = .slice a (strip a1 u).asks.length c := by
        rcases own_shape hoa with ⟨e, e0⟩ | ⟨g, c, e, _⟩
        · exact ⟨none, 0, by rw [show (strip a1 u).asks.length = 0 from e0]; exact e⟩
        · exact ⟨_, _, e⟩
      clear hr hmem hu hsx hrow hob hoa hk1 hk2 hia hst hLw ht
      have cf1 := cf (u / 64 * 3 + 1)
      clear cf
      obtain ⟨t1, t2, t3⟩ := t
      dsimp only at *
      subst hv0; subst hv1
      by_cases h0 : lastM (strip a1 u).sets i &&& bitW u = 0
      · rw [h0] at hand hz
        have HA1 : Hid (askOne i a1 (u : Int) = addAsk a1 i u) := by show _ = _; rw [HAO.out, if_pos h0]
        have HUP : Hid (∀ q w3 v3, MkRow w3 w0.heap.size v3 (laidM (strip a1 u).asks i (bitW u)) → (wr.drewN q).grownBy w3 (Value.slice s1a (strip a1 u).asks.length s1c).ownBlock → (∀ g, v3.ownBlock = some g → (Value.slice s1a (strip a1 u).asks.length s1c).ownBlock = some g ∨ (wr.drewN q).heap.size ≤ g) → (∃ ta tc nn, v3 = .slice ta nn tc) ∧ (∃ x, w3.cell? ⟨G, u / 64 * 3 + 1, none⟩ = some x) ∧ w3.frozen? ⟨G, u / 64 * 3 + 1, none⟩ = false ∧ ∃ ss' ts', Sts w0 (w3.setCell ⟨G, u / 64 * 3 + 1, none⟩ v3) G m ss' ts' (addAsk a1 i u) ∧ Kq m ss1 ss') := fun q w3 v3 h1 h2 h3 => by
          obtain ⟨⟨ss', ts', k1, k2⟩, k3, k4⟩ := (HRR.out.same (w' := wr.drewN q) rfl (below_drewN HRR.out.low q)).putAsk (i := i) HTT.out h1 h2 h3
          refine ⟨?_, k3, k4, ss', ts', k1, k2⟩
          rcases own_shape h1 with ⟨e, e0⟩ | ⟨g, c, e, _⟩
          · exact ⟨_, _, _, e⟩
          · exact ⟨_, _, _, e⟩
        clear h0 HAO
        generalize u / 64 * 3 = uq at *
        generalize (strip a1 u).sets.length = sl at *
        generalize (strip a1 u).asks.length = al at *
        generalize bitW u = bw at *
        go_wp2_with (first
          | (go_at_call 38; go_loud (refine Calls.mono (by exact HOF.out) ?_; rintro e w3 ⟨rfl, kq, hw3⟩; subst hw3))
          | (go_at_call 71; go_loud (refine Calls.mono (by exact HLA.out _) ?_; rintro e w3 ⟨rfl, hw3⟩; subst hw3))
          | (go_at_call 39; go_loud (refine Calls.mono (by exact HLD.out _) ?_; rintro e w3 ⟨v3, rfl, ho3, hg3, hat3⟩; obtain ⟨⟨ta, tc, nn, rfl⟩, ⟨xx, cx⟩, fx, hup⟩ := HUP.out _ _ _ ho3 hg3 hat3; have HU : Hid _ := hup; clear ho3 hg3 hat3 hup)))
        go_roundw
        case rel =>
          obtain ⟨ss', ts', k1, k2⟩ := HU.out
          exact ⟨k + 1, ss', ts', addAsk a1 i u, by first | rfl | (congr 1; omega), by omega, k1, Kq.trans HKK.out k2, by rw [← HA1.out]; exact HST.out.symm, by rw [← HA1.out]; exact HOK.out⟩
        case measure => simp [intOf]; omega
      · rw [decide_eq_false h0] at hz
        have HA1 : Hid (askOne i a1 (u : Int) = a1) := by show _ = _; rw [HAO.out, if_neg h0]
        clear h0 HAO HLD
        generalize u / 64 * 3 = uq at *
        generalize (strip a1 u).sets.length = sl at *
        generalize (strip a1 u).asks.length = al at *
        generalize lastM (strip a1 u).sets i &&& bitW u = lz at *
        generalize bitW u = bw at *
        go_wp2_with (first
          | (go_at_call 38; go_loud (refine Calls.mono (by exact HOF.out) ?_; rintro e w3 ⟨rfl, kq, hw3⟩; subst hw3))
          | (go_at_call 71; go_loud (refine Calls.mono (by exact HLA.out _) ?_; rintro e w3 ⟨rfl, hw3⟩; subst hw3)))
        go_roundw
        case rel => exact ⟨k + 1, ss1, ts1, a1, by first | rfl | (congr 1; omega), by omega, HRR.out.same rfl (below_drewN HRR.out.low _), HKK.out, by rw [HA1.out] at HST; exact HST.out.symm, by rw [HA1.out] at HOK; exact HOK.out⟩
        case measure => simp [intOf]; omega
    · obtain rfl : k = ll := by omega
      have HE : Hid (a1 = RES) := by
        show _ = _
        have := hr.out.2.2.1
        rw [← HLL.out, List.drop_length] at this
        exact this
      go_wp2
      go_end0
      exact ⟨rfl, ss1, ts1, by rw [← HE.out]; exact hr.out.1, hr.out.2.1⟩
end Go.Proofs.YtcggbedjhglmmaaGreatDoor
