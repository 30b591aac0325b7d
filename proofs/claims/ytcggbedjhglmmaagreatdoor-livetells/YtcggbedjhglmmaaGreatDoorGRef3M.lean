/- The document's side: the rows of all variables; what lies in memory. -/
import Derived.Test.YtcggbedjhglmmaaGreatDoorLRo1M
import Derived.Test.YtcggbedjhglmmaaGreatDoorLTell
import Derived.Test.YtcggbedjhglmmaaGreatDoorLPlainM
namespace Go.Proofs.YtcggbedjhglmmaaGreatDoor
open Go.RowKit

noncomputable def rowsQ (p : Int → Nat → Prop) (n v : Nat) : List (List Int) := (List.range n).map fun j => rowV (fun u => p u j) v
noncomputable def rowsP (p : Int → Nat → Prop) (n v i : Nat) : List (List Int) := (List.range n).map fun j => rowV (fun u => p u j) (if j < i then v + 1 else v)
theorem rowsP_zero (p : Int → Nat → Prop) (n v : Nat) : rowsP p n v 0 = rowsQ p n v := rfl
theorem rowsP_full (p : Int → Nat → Prop) (n v : Nat) : rowsP p n v n = rowsQ p n (v + 1) := by
  unfold rowsP rowsQ
  refine List.map_congr_left fun j hj => ?_
  rw [if_pos (List.mem_range.1 hj)]
theorem rowsQ_zero (p : Int → Nat → Prop) (n : Nat) : rowsQ p n 0 = List.replicate n [] := by
  unfold rowsQ
  refine List.ext_getElem (by simp) fun k h1 h2 => ?_
  rw [List.getElem_replicate, List.getElem_map]
  rfl
theorem rowsP_len (p : Int → Nat → Prop) (n v i : Nat) : (rowsP p n v i).length = n := by simp [rowsP]
theorem rowsP_get {p : Int → Nat → Prop} {n v i : Nat} (hi : i < n) : (rowsP p n v i)[i]? = some (rowV (fun u => p u i) v) := by
  unfold rowsP
  rw [List.getElem?_map, List.getElem?_range hi]
  simp
theorem rowsP_yes {p : Int → Nat → Prop} {n v i : Nat} (h : p (v : Int) i) : rowsP p n v (i + 1) = (rowsP p n v i).set i (rowV (fun u => p u i) v ++ [(v : Int)]) := by
  refine List.ext_getElem? fun k => ?_
  rw [List.getElem?_set]
  unfold rowsP
  simp only [List.getElem?_map, List.length_map, List.length_range]
  by_cases hk : k < n
  · rw [List.getElem?_range hk]
    by_cases e : i = k
    · subst e
      rw [if_pos rfl, if_pos hk]
      simp only [Option.map_some]
      rw [if_pos (by omega), rowV_succ, if_pos (decL_iff.2 h)]
    · rw [if_neg e]
      simp only [Option.map_some]
      congr 2
      by_cases h2 : k < i
      · rw [if_pos h2, if_pos (by omega)]
      · rw [if_neg h2, if_neg (by omega)]
  · rw [List.getElem?_eq_none (by simpa using Nat.le_of_not_lt hk)]
    by_cases e : i = k
    · subst e
      rw [if_pos rfl, if_neg hk]; rfl
    · rw [if_neg e]; rfl
theorem rowsP_no {p : Int → Nat → Prop} {n v i : Nat} (h : ¬ p (v : Int) i) : rowsP p n v (i + 1) = rowsP p n v i := by
  unfold rowsP
  refine List.map_congr_left fun j hj => ?_
  by_cases e : j = i
  · subst e
    rw [if_pos (by omega), if_neg (by omega), rowV_succ, if_neg (fun hc => h (decL_iff.1 hc)), List.append_nil]
  · by_cases h2 : j < i
    · rw [if_pos h2, if_pos (by omega)]
    · rw [if_neg h2, if_neg (by omega)]
/-- one row is told more -/
theorem Heap.toldAt {w w2 : World} {base : Nat} {ss : List Slot} (h : Heap w base ss) {j G n : Nat} {kvs : List Value} {rows : List (List Int)} (ha : Ans ss j G n kvs rows) {i : Nat} {r r' : List Int} {kv v' : Value} (hr : rows[i]? = some r) (hk : kvs[i]? = some kv)
    (ho : OwnI w2 base v' r') (hg : w.grownBy w2 kv.ownBlock) (hat : ∀ g, v'.ownBlock = some g → kv.ownBlock = some g ∨ w.heap.size ≤ g) :
    ∃ ss', Heap (w2.setCell ⟨G, i, none⟩ v') base ss' ∧ Ans ss' j G n (kvs.set i v') (rows.set i r') ∧ (∀ k, k ≠ j → k ≠ j + 1 + i → ss'[k]? = ss[k]?) ∧ ss'.length = ss.length ∧ w2.cell? ⟨G, i, none⟩ = some kv ∧ w2.frozen? ⟨G, i, none⟩ = false := by
  have hi : i < n := by have := (List.getElem?_eq_some_iff.1 hr).1; rw [ha.rl] at this; exact this
  have hrow := ha.row i r kv hr hk
  have h1 : Heap w2 base (ss.set (j + 1 + i) ⟨v', 3, 1, r'.length, r'.map intV⟩) := h.turn hrow (fun k hk2 hne => hg.block k hk2 (fun e => hne e.symm)) ho hat
  have k0 : (ss.set (j + 1 + i) ⟨v', 3, 1, r'.length, r'.map intV⟩)[j]? = some ⟨rowN G n, 22, 1, n, kvs⟩ := by rw [set_ne (by omega)]; exact ha.head
  have h2 := h1.store k0 i v'
  generalize hs' : (ss.set (j + 1 + i) ⟨v', 3, 1, r'.length, r'.map intV⟩).set j ⟨rowN G n, 22, 1, n, kvs.set i v'⟩ = ss' at *
  have hks : ∀ k, k ≠ j → k ≠ j + 1 + i → ss'[k]? = ss[k]? := fun k h1 h2 => by rw [← hs', set_ne (Ne.symm h1), set_ne (Ne.symm h2)]
  have hlen : ss'.length = ss.length := by rw [← hs']; simp
  have hjl : j < ss.length := (List.getElem?_eq_some_iff.1 ha.head).1
  have hil : j + 1 + i < ss.length := (List.getElem?_eq_some_iff.1 hrow).1
  refine ⟨ss', by rw [← hs']; exact h2, ⟨by simp [ha.kl], by simp [ha.rl], ?_, fun k r0 kv0 hr0 hk0 => ?_⟩, hks, hlen, h1.cell k0 (j := i) hk, h1.fz k0 i⟩
  · rw [← hs']; exact set_eq k0
  · rw [List.getElem?_set] at hr0 hk0
    by_cases e : i = k
    · subst e
      rw [if_pos rfl, if_pos (by rw [ha.rl]; exact hi)] at hr0
      rw [if_pos rfl, if_pos (by rw [ha.kl]; exact hi)] at hk0
      cases hr0; cases hk0
      rw [← hs', set_ne (by omega)]
      exact set_eq hrow
    · rw [if_neg e] at hr0 hk0
      rw [hks _ (by omega) (by omega)]
      exact ha.row k r0 kv0 hr0 hk0
/-- both answers, and two rows of truths behind them -/
structure RLs (w1 wr : World) (gA gB n : Nat) (ka kb : List Value) (ra rb : List (List Int)) (ss : List Slot) : Prop where
  low : Below w1.heap.size w1 wr
  heap : Heap wr w1.heap.size ss
  aA : Ans ss 0 gA n ka ra
  aB : Ans ss (n + 1) gB n kb rb
def boS (g n : Nat) (l : List Bool) : Slot := ⟨rowN g n, 4, 1, n, l.map Value.bool⟩
structure RLi (w1 wr : World) (gA gB n : Nat) (ka kb : List Value) (ra rb : List (List Int)) (hA hB : Nat) (a b : List Bool) (ss : List Slot) : Prop where
  st : RLs w1 wr gA gB n ka kb ra rb ss
  s0 : ss[2 * n + 2]? = some (boS hA n a)
  s1 : ss[2 * n + 3]? = some (boS hB n b)
/-- two rows of truths more -/
theorem RLs.more {w1 wr w2 : World} {gA gB n : Nat} {ka kb : List Value} {ra rb : List (List Int)} {ss : List Slot} (h : RLs w1 wr gA gB n ka kb ra rb ss) (hl : ss.length = 2 * n + 2) (hb : Below wr.heap.size wr w2) {hA hB : Nat} {a b : List Bool} (oa : OwnB w2 wr.heap.size hA n a) (ob : OwnB w2 wr.heap.size hB n b) (hne : hA ≠ hB) : RLi w1 w2 gA gB n ka kb ra rb hA hB a b (ss ++ [boS hA n a, boS hB n b]) := by
  have hsz := h.low.size
  have h1 := h.heap.more (s := boS hA n a) hb (own_mono oa hsz) (fun g hg => by cases hg; exact oa.lt'.1)
  have hB2 : (boS hB n b).At w2 w1.heap.size := own_mono ob hsz
  have h2 : Heap w2 w1.heap.size ((ss ++ [boS hA n a]) ++ [boS hB n b]) := by
    refine ⟨fun i s hs => ?_, fun i j x y g hij hx hy hg => ?_⟩
    · rcases Nat.lt_or_ge i (ss ++ [boS hA n a]).length with hi | hi
      · rw [List.getElem?_append_left hi] at hs; exact h1.own i s hs
      · rw [List.getElem?_append_right hi] at hs
        rcases hd : i - (ss ++ [boS hA n a]).length with _ | k
        · rw [hd] at hs; cases hs; exact hB2
        · rw [hd] at hs; simp at hs
    · have key : ∀ (i : Nat) (s : Slot) (g : Nat), (ss ++ [boS hA n a])[i]? = some s → s.v.ownBlock = some g → g ≠ hB := fun i s g hs hg e => by
        rcases Nat.lt_or_ge i ss.length with hi | hi
        · rw [List.getElem?_append_left hi] at hs
          have := ((h.heap.own i s hs).lt g hg).2
          have := ob.lt'.1
          omega
        · rw [List.getElem?_append_right hi] at hs
          rcases hd : i - ss.length with _ | k
          · rw [hd] at hs; cases hs; cases hg; exact hne e
          · rw [hd] at hs; simp at hs
      rcases Nat.lt_or_ge i (ss ++ [boS hA n a]).length with hi | hi
      · rw [List.getElem?_append_left hi] at hx
        rcases Nat.lt_or_ge j (ss ++ [boS hA n a]).length with hj | hj
        · rw [List.getElem?_append_left hj] at hy; exact h1.apart i j x y g hij hx hy hg
        · rw [List.getElem?_append_right hj] at hy
          rcases hd : j - (ss ++ [boS hA n a]).length with _ | k
          · rw [hd] at hy; cases hy
            intro hc
            cases hc
            exact key i x _ hx hg rfl
          · rw [hd] at hy; simp at hy
      · rw [List.getElem?_append_right hi] at hx
        rcases hd : i - (ss ++ [boS hA n a]).length with _ | k
        · rw [hd] at hx; cases hx
          cases hg
          rcases Nat.lt_or_ge j (ss ++ [boS hA n a]).length with hj | hj
          · rw [List.getElem?_append_left hj] at hy
            intro hc
            exact key j y _ hy hc rfl
          · rw [List.getElem?_append_right hj] at hy
            rcases hd2 : j - (ss ++ [boS hA n a]).length with _ | k
            · exact absurd (by omega) hij
            · rw [hd2] at hy; simp at hy
        · rw [hd] at hx; simp at hx
  have e : (ss ++ [boS hA n a]) ++ [boS hB n b] = ss ++ [boS hA n a, boS hB n b] := by simp
  rw [e] at h2
  have hat : ∀ i, i < ss.length → (ss ++ [boS hA n a, boS hB n b])[i]? = ss[i]? := fun i hi => List.getElem?_append_left hi
  refine ⟨⟨below_trans h.low hb, h2, h.aA.of fun i _ hi => hat i (by omega), h.aB.of fun i _ hi => hat i (by omega)⟩, ?_, ?_⟩
  · rw [List.getElem?_append_right (by omega), show 2 * n + 2 - ss.length = 0 by omega]; rfl
  · rw [List.getElem?_append_right (by omega), show 2 * n + 3 - ss.length = 1 by omega]; rfl
/-- without them again -/
theorem RLi.less {w1 wr : World} {gA gB n : Nat} {ka kb : List Value} {ra rb : List (List Int)} {hA hB : Nat} {a b : List Bool} {ss : List Slot} (h : RLi w1 wr gA gB n ka kb ra rb hA hB a b ss) (hl : 2 * n + 2 ≤ ss.length) : RLs w1 wr gA gB n ka kb ra rb (ss.take (2 * n + 2)) ∧ (ss.take (2 * n + 2)).length = 2 * n + 2 := by
  have hat : ∀ i, i < 2 * n + 2 → (ss.take (2 * n + 2))[i]? = ss[i]? := fun i hi => by rw [List.getElem?_take, if_pos hi]
  have hle : ∀ i s, (ss.take (2 * n + 2))[i]? = some s → ss[i]? = some s := fun i s hs => by
    rw [List.getElem?_take] at hs
    split at hs
    · exact hs
    · cases hs
  refine ⟨⟨h.st.low, ⟨fun i s hs => h.st.heap.own i s (hle i s hs), fun i j x y g hij hx hy => h.st.heap.apart i j x y g hij (hle i x hx) (hle j y hy)⟩, h.st.aA.of fun i _ hi => hat i (by omega), h.st.aB.of fun i _ hi => hat i (by omega)⟩, by rw [List.length_take]; omega⟩
theorem RLs.below {w1 wr w2 : World} {gA gB n : Nat} {ka kb : List Value} {ra rb : List (List Int)} {ss : List Slot} (h : RLs w1 wr gA gB n ka kb ra rb ss) (hb : Below wr.heap.size wr w2) : RLs w1 w2 gA gB n ka kb ra rb ss := ⟨below_trans h.low hb, h.heap.below hb, h.aA, h.aB⟩
theorem RLi.below {w1 wr w2 : World} {gA gB n : Nat} {ka kb : List Value} {ra rb : List (List Int)} {hA hB : Nat} {a b : List Bool} {ss : List Slot} (h : RLi w1 wr gA gB n ka kb ra rb hA hB a b ss) (hb : Below wr.heap.size wr w2) : RLi w1 w2 gA gB n ka kb ra rb hA hB a b ss := ⟨h.st.below hb, h.s0, h.s1⟩
theorem bo_at {l : List Bool} {n i : Nat} (hl : l.length = n) (hi : i < n) : (l.map Value.bool)[i]? = some (.bool (l.getD i false)) := by
  rw [List.getElem?_map, List.getElem?_eq_getElem (by omega), getD_of (by omega)]; rfl
theorem RLi.truths {w1 wr : World} {gA gB n : Nat} {ka kb : List Value} {ra rb : List (List Int)} {hA hB : Nat} {a b : List Bool} {ss : List Slot} (h : RLi w1 wr gA gB n ka kb ra rb hA hB a b ss) {i : Nat} (hi : i < n) : wr.cell? ⟨hA, i, none⟩ = some (.bool (a.getD i false)) ∧ wr.cell? ⟨hB, i, none⟩ = some (.bool (b.getD i false)) := by
  have la : a.length = n := by have := (h.st.heap.own _ _ h.s0).1; simpa [boS] using this
  have lb : b.length = n := by have := (h.st.heap.own _ _ h.s1).1; simpa [boS] using this
  exact ⟨h.st.heap.cell h.s0 (bo_at la hi), h.st.heap.cell h.s1 (bo_at lb hi)⟩
theorem below_grow2 {w0 w w2 : World} {row : Option Nat} (h : Below w0.heap.size w0 w) (hg : w.grownBy w2 row) (hr : ∀ g, row = some g → w0.heap.size ≤ g) : Below w0.heap.size w0 w2 := below_grownB h hg hr h.size
/-- into the one -/
theorem RLi.tellA {w1 wr w2 : World} {gA gB n : Nat} {ka kb : List Value} {ra rb : List (List Int)} {hA hB : Nat} {a b : List Bool} {ss : List Slot} (h : RLi w1 wr gA gB n ka kb ra rb hA hB a b ss) {i : Nat} {r r' : List Int} {kv v' : Value} (hr : ra[i]? = some r) (hk : ka[i]? = some kv)
    (ho : OwnI w2 w1.heap.size v' r') (hg : wr.grownBy w2 kv.ownBlock) (hat : ∀ g, v'.ownBlock = some g → kv.ownBlock = some g ∨ wr.heap.size ≤ g) :
    (∃ ss', RLi w1 (w2.setCell ⟨gA, i, none⟩ v') gA gB n (ka.set i v') kb (ra.set i r') rb hA hB a b ss' ∧ ss'.length = ss.length) ∧ w2.cell? ⟨gA, i, none⟩ = some kv ∧ w2.frozen? ⟨gA, i, none⟩ = false := by
  have hi : i < n := by have := (List.getElem?_eq_some_iff.1 hr).1; rw [h.st.aA.rl] at this; exact this
  obtain ⟨ss', q1, q2, q3, q4, q5, q6⟩ := h.st.heap.toldAt h.st.aA hr hk ho hg hat
  have hbl := (h.st.heap.lt h.st.aA.head).1
  have hlow := below_grow2 h.st.low hg (fun g hg' => ((h.st.heap.own _ _ (h.st.aA.row i r kv hr hk)).lt g hg').1)
  exact ⟨⟨ss', ⟨⟨hlow.setCell (p := ⟨gA, i, none⟩) hbl _, q1, q2, h.st.aB.of fun k h1 h2 => q3 k (by omega) (by omega)⟩, by rw [q3 _ (by omega) (by omega)]; exact h.s0, by rw [q3 _ (by omega) (by omega)]; exact h.s1⟩, q4⟩, q5, q6⟩
/-- into the other one -/
theorem RLi.tellB {w1 wr w2 : World} {gA gB n : Nat} {ka kb : List Value} {ra rb : List (List Int)} {hA hB : Nat} {a b : List Bool} {ss : List Slot} (h : RLi w1 wr gA gB n ka kb ra rb hA hB a b ss) {i : Nat} {r r' : List Int} {kv v' : Value} (hr : rb[i]? = some r) (hk : kb[i]? = some kv)
    (ho : OwnI w2 w1.heap.size v' r') (hg : wr.grownBy w2 kv.ownBlock) (hat : ∀ g, v'.ownBlock = some g → kv.ownBlock = some g ∨ wr.heap.size ≤ g) :
    (∃ ss', RLi w1 (w2.setCell ⟨gB, i, none⟩ v') gA gB n ka (kb.set i v') ra (rb.set i r') hA hB a b ss' ∧ ss'.length = ss.length) ∧ w2.cell? ⟨gB, i, none⟩ = some kv ∧ w2.frozen? ⟨gB, i, none⟩ = false := by
  have hi : i < n := by have := (List.getElem?_eq_some_iff.1 hr).1; rw [h.st.aB.rl] at this; exact this
  obtain ⟨ss', q1, q2, q3, q4, q5, q6⟩ := h.st.heap.toldAt h.st.aB hr hk ho hg hat
  have hbl := (h.st.heap.lt h.st.aB.head).1
  have hlow := below_grow2 h.st.low hg (fun g hg' => ((h.st.heap.own _ _ (h.st.aB.row i r kv hr hk)).lt g hg').1)
  exact ⟨⟨ss', ⟨⟨hlow.setCell (p := ⟨gB, i, none⟩) hbl _, q1, h.st.aA.of fun k h1 h2 => q3 k (by omega) (by omega), q2⟩, by rw [q3 _ (by omega) (by omega)]; exact h.s0, by rw [q3 _ (by omega) (by omega)]; exact h.s1⟩, q4⟩, q5, q6⟩
end Go.Proofs.YtcggbedjhglmmaaGreatDoor
/- The document's side: fields that a kind does not name are 0. -/
namespace Go.Proofs.YtcggbedjhglmmaaGreatDoor
open Go.RowKit

def plainB (x : In) : Bool := (decide (x.kind = 1 ∨ x.kind = 2 ∨ x.kind = 3 ∨ x.kind = 4 ∨ x.kind = 5 ∨ x.kind = 6 ∨ x.kind = 9) || x.dst == 0) && ((x.kind == 4 || x.op == 0) && ((x.kind == 2 || x.bits == 0) && ((decide (6 ≤ x.kind ∧ x.kind ≤ 9) || x.ref == 0) && ((x.kind != 2 && x.kind != 8) || x.args.length == 0))))
set_option maxRecDepth 100000 in
set_option maxHeartbeats 1000000 in
theorem plain_1 (op dst bits ref : Int) (args : List Int) (xv : Value) (w : World) (hA : IntsAt w xv args) : Calls Tryz.prog 80 #[.agg #[.int .u8 1, .int .u8 op, .int .i64 dst, xv, .int .u64 bits, .int .i64 ref]] w fun e w' => e = .returned (.bool (plainB ⟨1, op, dst, args, bits, ref⟩)) ∧ Below w.heap.size w w' := by
  obtain ⟨xa, xc, rfl, hxl⟩ := hA.form
  obtain ⟨R, hR⟩ : ∃ R, R = plainB ⟨1, op, dst, args, bits, ref⟩ := ⟨_, rfl⟩
  rw [← hR]
  unfold plainB at hR
  dsimp only at hR
  clear hA
  generalize args.length = n at *
  by_cases h_op : op = 0
  rotate_left
  · have f1_op : ((op : Int) == 0) = false := beq_false_of_ne (by omega)
    have f2_op : ((op : Int) != 0) = true := bne_iff_ne.2 (by omega)
    have HR : Hid (R = false) := by show R = false; rw [hR]; simp [*]
    clear hR
    go_enter Tryz.func80, Tryz.ntmps80
    go_wp2
    go_ret
    exact ⟨ret_bool HR.out.symm, below_alloc (Below.refl _ _) _⟩
  subst h_op
  by_cases h_bits : bits = 0
  rotate_left
  · have f1_bits : ((bits : Int) == 0) = false := beq_false_of_ne (by omega)
    have f2_bits : ((bits : Int) != 0) = true := bne_iff_ne.2 (by omega)
    have HR : Hid (R = false) := by show R = false; rw [hR]; simp [*]
    clear hR
    go_enter Tryz.func80, Tryz.ntmps80
    go_wp2
    go_ret
    exact ⟨ret_bool HR.out.symm, below_alloc (Below.refl _ _) _⟩
  subst h_bits
  by_cases h_ref : ref = 0
  rotate_left
  · have f1_ref : ((ref : Int) == 0) = false := beq_false_of_ne (by omega)
    have f2_ref : ((ref : Int) != 0) = true := bne_iff_ne.2 (by omega)
    have HR : Hid (R = false) := by show R = false; rw [hR]; simp [*]
    clear hR
    go_enter Tryz.func80, Tryz.ntmps80
    go_wp2
    go_ret
    exact ⟨ret_bool HR.out.symm, below_alloc (Below.refl _ _) _⟩
  subst h_ref
  have HR : Hid (R = true) := by show R = true; rw [hR]; simp
  clear hR
  go_enter Tryz.func80, Tryz.ntmps80
  go_wp2
  go_ret
  exact ⟨ret_bool HR.out.symm, below_alloc (Below.refl _ _) _⟩
set_option maxRecDepth 100000 in
set_option maxHeartbeats 1000000 in
theorem plain_2 (op dst bits ref : Int) (args : List Int) (xv : Value) (w : World) (hA : IntsAt w xv args) : Calls Tryz.prog 80 #[.agg #[.int .u8 2, .int .u8 op, .int .i64 dst, xv, .int .u64 bits, .int .i64 ref]] w fun e w' => e = .returned (.bool (plainB ⟨2, op, dst, args, bits, ref⟩)) ∧ Below w.heap.size w w' := by
  obtain ⟨xa, xc, rfl, hxl⟩ := hA.form
  obtain ⟨R, hR⟩ : ∃ R, R = plainB ⟨2, op, dst, args, bits, ref⟩ := ⟨_, rfl⟩
  rw [← hR]
  unfold plainB at hR
  dsimp only at hR
  clear hA
  generalize args.length = n at *
  by_cases h_op : op = 0
  rotate_left
  · have f1_op : ((op : Int) == 0) = false := beq_false_of_ne (by omega)
    have f2_op : ((op : Int) != 0) = true := bne_iff_ne.2 (by omega)
    have HR : Hid (R = false) := by show R = false; rw [hR]; simp [*]
    clear hR
    go_enter Tryz.func80, Tryz.ntmps80
    go_wp2
    go_ret
    exact ⟨ret_bool HR.out.symm, below_alloc (Below.refl _ _) _⟩
  subst h_op
  by_cases h_ref : ref = 0
  rotate_left
  · have f1_ref : ((ref : Int) == 0) = false := beq_false_of_ne (by omega)
    have f2_ref : ((ref : Int) != 0) = true := bne_iff_ne.2 (by omega)
    have HR : Hid (R = false) := by show R = false; rw [hR]; simp [*]
    clear hR
    go_enter Tryz.func80, Tryz.ntmps80
    go_wp2
    go_ret
    exact ⟨ret_bool HR.out.symm, below_alloc (Below.refl _ _) _⟩
  subst h_ref
  by_cases h_n : n = 0
  rotate_left
  · have f1_n : ((n : Int) == 0) = false := beq_false_of_ne (by omega)
    have f2_n : ((n : Int) != 0) = true := bne_iff_ne.2 (by omega)
    have HR : Hid (R = false) := by show R = false; rw [hR]; simp [*]
    clear hR
    go_enter Tryz.func80, Tryz.ntmps80
    go_wp2
    go_ret
    exact ⟨ret_bool HR.out.symm, below_alloc (Below.refl _ _) _⟩
  subst h_n
  have HR : Hid (R = true) := by show R = true; rw [hR]; simp
  clear hR
  go_enter Tryz.func80, Tryz.ntmps80
  go_wp2
  go_ret
  exact ⟨ret_bool HR.out.symm, below_alloc (Below.refl _ _) _⟩
set_option maxRecDepth 100000 in
set_option maxHeartbeats 1000000 in
theorem plain_3 (op dst bits ref : Int) (args : List Int) (xv : Value) (w : World) (hA : IntsAt w xv args) : Calls Tryz.prog 80 #[.agg #[.int .u8 3, .int .u8 op, .int .i64 dst, xv, .int .u64 bits, .int .i64 ref]] w fun e w' => e = .returned (.bool (plainB ⟨3, op, dst, args, bits, ref⟩)) ∧ Below w.heap.size w w' := by
  obtain ⟨xa, xc, rfl, hxl⟩ := hA.form
  obtain ⟨R, hR⟩ : ∃ R, R = plainB ⟨3, op, dst, args, bits, ref⟩ := ⟨_, rfl⟩
  rw [← hR]
  unfold plainB at hR
  dsimp only at hR
  clear hA
  generalize args.length = n at *
  by_cases h_op : op = 0
  rotate_left
  · have f1_op : ((op : Int) == 0) = false := beq_false_of_ne (by omega)
    have f2_op : ((op : Int) != 0) = true := bne_iff_ne.2 (by omega)
    have HR : Hid (R = false) := by show R = false; rw [hR]; simp [*]
    clear hR
    go_enter Tryz.func80, Tryz.ntmps80
    go_wp2
    go_ret
    exact ⟨ret_bool HR.out.symm, below_alloc (Below.refl _ _) _⟩
  subst h_op
  by_cases h_bits : bits = 0
  rotate_left
  · have f1_bits : ((bits : Int) == 0) = false := beq_false_of_ne (by omega)
    have f2_bits : ((bits : Int) != 0) = true := bne_iff_ne.2 (by omega)
    have HR : Hid (R = false) := by show R = false; rw [hR]; simp [*]
    clear hR
    go_enter Tryz.func80, Tryz.ntmps80
    go_wp2
    go_ret
    exact ⟨ret_bool HR.out.symm, below_alloc (Below.refl _ _) _⟩
  subst h_bits
  by_cases h_ref : ref = 0
  rotate_left
  · have f1_ref : ((ref : Int) == 0) = false := beq_false_of_ne (by omega)
    have f2_ref : ((ref : Int) != 0) = true := bne_iff_ne.2 (by omega)
    have HR : Hid (R = false) := by show R = false; rw [hR]; simp [*]
    clear hR
    go_enter Tryz.func80, Tryz.ntmps80
    go_wp2
    go_ret
    exact ⟨ret_bool HR.out.symm, below_alloc (Below.refl _ _) _⟩
  subst h_ref
  have HR : Hid (R = true) := by show R = true; rw [hR]; simp
  clear hR
  go_enter Tryz.func80, Tryz.ntmps80
  go_wp2
  go_ret
  exact ⟨ret_bool HR.out.symm, below_alloc (Below.refl _ _) _⟩
set_option maxRecDepth 100000 in
set_option maxHeartbeats 1000000 in
theorem plain_4 (op dst bits ref : Int) (args : List Int) (xv : Value) (w : World) (hA : IntsAt w xv args) : Calls Tryz.prog 80 #[.agg #[.int .u8 4, .int .u8 op, .int .i64 dst, xv, .int .u64 bits, .int .i64 ref]] w fun e w' => e = .returned (.bool (plainB ⟨4, op, dst, args, bits, ref⟩)) ∧ Below w.heap.size w w' := by
  obtain ⟨xa, xc, rfl, hxl⟩ := hA.form
  obtain ⟨R, hR⟩ : ∃ R, R = plainB ⟨4, op, dst, args, bits, ref⟩ := ⟨_, rfl⟩
  rw [← hR]
  unfold plainB at hR
  dsimp only at hR
  clear hA
  generalize args.length = n at *
  by_cases h_bits : bits = 0
  rotate_left
  · have f1_bits : ((bits : Int) == 0) = false := beq_false_of_ne (by omega)
    have f2_bits : ((bits : Int) != 0) = true := bne_iff_ne.2 (by omega)
    have HR : Hid (R = false) := by show R = false; rw [hR]; simp [*]
    clear hR
    go_enter Tryz.func80, Tryz.ntmps80
    go_wp2
    go_ret
    exact ⟨ret_bool HR.out.symm, below_alloc (Below.refl _ _) _⟩
  subst h_bits
  by_cases h_ref : ref = 0
  rotate_left
  · have f1_ref : ((ref : Int) == 0) = false := beq_false_of_ne (by omega)
    have f2_ref : ((ref : Int) != 0) = true := bne_iff_ne.2 (by omega)
    have HR : Hid (R = false) := by show R = false; rw [hR]; simp [*]
    clear hR
    go_enter Tryz.func80, Tryz.ntmps80
    go_wp2
    go_ret
    exact ⟨ret_bool HR.out.symm, below_alloc (Below.refl _ _) _⟩
  subst h_ref
  have HR : Hid (R = true) := by show R = true; rw [hR]; simp
  clear hR
  go_enter Tryz.func80, Tryz.ntmps80
  go_wp2
  go_ret
  exact ⟨ret_bool HR.out.symm, below_alloc (Below.refl _ _) _⟩
set_option maxRecDepth 100000 in
set_option maxHeartbeats 1000000 in
theorem plain_5 (op dst bits ref : Int) (args : List Int) (xv : Value) (w : World) (hA : IntsAt w xv args) : Calls Tryz.prog 80 #[.agg #[.int .u8 5, .int .u8 op, .int .i64 dst, xv, .int .u64 bits, .int .i64 ref]] w fun e w' => e = .returned (.bool (plainB ⟨5, op, dst, args, bits, ref⟩)) ∧ Below w.heap.size w w' := by
  obtain ⟨xa, xc, rfl, hxl⟩ := hA.form
  obtain ⟨R, hR⟩ : ∃ R, R = plainB ⟨5, op, dst, args, bits, ref⟩ := ⟨_, rfl⟩
  rw [← hR]
  unfold plainB at hR
  dsimp only at hR
  clear hA
  generalize args.length = n at *
  by_cases h_op : op = 0
  rotate_left
  · have f1_op : ((op : Int) == 0) = false := beq_false_of_ne (by omega)
    have f2_op : ((op : Int) != 0) = true := bne_iff_ne.2 (by omega)
    have HR : Hid (R = false) := by show R = false; rw [hR]; simp [*]
    clear hR
    go_enter Tryz.func80, Tryz.ntmps80
    go_wp2
    go_ret
    exact ⟨ret_bool HR.out.symm, below_alloc (Below.refl _ _) _⟩
  subst h_op
  by_cases h_bits : bits = 0
  rotate_left
  · have f1_bits : ((bits : Int) == 0) = false := beq_false_of_ne (by omega)
    have f2_bits : ((bits : Int) != 0) = true := bne_iff_ne.2 (by omega)
    have HR : Hid (R = false) := by show R = false; rw [hR]; simp [*]
    clear hR
    go_enter Tryz.func80, Tryz.ntmps80
    go_wp2
    go_ret
    exact ⟨ret_bool HR.out.symm, below_alloc (Below.refl _ _) _⟩
  subst h_bits
  by_cases h_ref : ref = 0
  rotate_left
  · have f1_ref : ((ref : Int) == 0) = false := beq_false_of_ne (by omega)
    have f2_ref : ((ref : Int) != 0) = true := bne_iff_ne.2 (by omega)
    have HR : Hid (R = false) := by show R = false; rw [hR]; simp [*]
    clear hR
    go_enter Tryz.func80, Tryz.ntmps80
    go_wp2
    go_ret
    exact ⟨ret_bool HR.out.symm, below_alloc (Below.refl _ _) _⟩
  subst h_ref
  have HR : Hid (R = true) := by show R = true; rw [hR]; simp
  clear hR
  go_enter Tryz.func80, Tryz.ntmps80
  go_wp2
  go_ret
  exact ⟨ret_bool HR.out.symm, below_alloc (Below.refl _ _) _⟩
set_option maxRecDepth 100000 in
set_option maxHeartbeats 1000000 in
theorem plain_6 (op dst bits ref : Int) (args : List Int) (xv : Value) (w : World) (hA : IntsAt w xv args) : Calls Tryz.prog 80 #[.agg #[.int .u8 6, .int .u8 op, .int .i64 dst, xv, .int .u64 bits, .int .i64 ref]] w fun e w' => e = .returned (.bool (plainB ⟨6, op, dst, args, bits, ref⟩)) ∧ Below w.heap.size w w' := by
  obtain ⟨xa, xc, rfl, hxl⟩ := hA.form
  obtain ⟨R, hR⟩ : ∃ R, R = plainB ⟨6, op, dst, args, bits, ref⟩ := ⟨_, rfl⟩
  rw [← hR]
  unfold plainB at hR
  dsimp only at hR
  clear hA
  generalize args.length = n at *
  by_cases h_op : op = 0
  rotate_left
  · have f1_op : ((op : Int) == 0) = false := beq_false_of_ne (by omega)
    have f2_op : ((op : Int) != 0) = true := bne_iff_ne.2 (by omega)
    have HR : Hid (R = false) := by show R = false; rw [hR]; simp [*]
    clear hR
    go_enter Tryz.func80, Tryz.ntmps80
    go_wp2
    go_ret
    exact ⟨ret_bool HR.out.symm, below_alloc (Below.refl _ _) _⟩
  subst h_op
  by_cases h_bits : bits = 0
  rotate_left
  · have f1_bits : ((bits : Int) == 0) = false := beq_false_of_ne (by omega)
    have f2_bits : ((bits : Int) != 0) = true := bne_iff_ne.2 (by omega)
    have HR : Hid (R = false) := by show R = false; rw [hR]; simp [*]
    clear hR
    go_enter Tryz.func80, Tryz.ntmps80
    go_wp2
    go_ret
    exact ⟨ret_bool HR.out.symm, below_alloc (Below.refl _ _) _⟩
  subst h_bits
  have HR : Hid (R = true) := by show R = true; rw [hR]; simp
  clear hR
  go_enter Tryz.func80, Tryz.ntmps80
  go_wp2
  go_ret
  exact ⟨ret_bool HR.out.symm, below_alloc (Below.refl _ _) _⟩
set_option maxRecDepth 100000 in
set_option maxHeartbeats 1000000 in
theorem plain_7 (op dst bits ref : Int) (args : List Int) (xv : Value) (w : World) (hA : IntsAt w xv args) : Calls Tryz.prog 80 #[.agg #[.int .u8 7, .int .u8 op, .int .i64 dst, xv, .int .u64 bits, .int .i64 ref]] w fun e w' => e = .returned (.bool (plainB ⟨7, op, dst, args, bits, ref⟩)) ∧ Below w.heap.size w w' := by
  obtain ⟨xa, xc, rfl, hxl⟩ := hA.form
  obtain ⟨R, hR⟩ : ∃ R, R = plainB ⟨7, op, dst, args, bits, ref⟩ := ⟨_, rfl⟩
  rw [← hR]
  unfold plainB at hR
  dsimp only at hR
  clear hA
  generalize args.length = n at *
  by_cases h_dst : dst = 0
  rotate_left
  · have f1_dst : ((dst : Int) == 0) = false := beq_false_of_ne (by omega)
    have f2_dst : ((dst : Int) != 0) = true := bne_iff_ne.2 (by omega)
    have HR : Hid (R = false) := by show R = false; rw [hR]; simp [*]
    clear hR
    go_enter Tryz.func80, Tryz.ntmps80
    go_wp2
    go_ret
    exact ⟨ret_bool HR.out.symm, below_alloc (Below.refl _ _) _⟩
  subst h_dst
  by_cases h_op : op = 0
  rotate_left
  · have f1_op : ((op : Int) == 0) = false := beq_false_of_ne (by omega)
    have f2_op : ((op : Int) != 0) = true := bne_iff_ne.2 (by omega)
    have HR : Hid (R = false) := by show R = false; rw [hR]; simp [*]
    clear hR
    go_enter Tryz.func80, Tryz.ntmps80
    go_wp2
    go_ret
    exact ⟨ret_bool HR.out.symm, below_alloc (Below.refl _ _) _⟩
  subst h_op
  by_cases h_bits : bits = 0
  rotate_left
  · have f1_bits : ((bits : Int) == 0) = false := beq_false_of_ne (by omega)
    have f2_bits : ((bits : Int) != 0) = true := bne_iff_ne.2 (by omega)
    have HR : Hid (R = false) := by show R = false; rw [hR]; simp [*]
    clear hR
    go_enter Tryz.func80, Tryz.ntmps80
    go_wp2
    go_ret
    exact ⟨ret_bool HR.out.symm, below_alloc (Below.refl _ _) _⟩
  subst h_bits
  have HR : Hid (R = true) := by show R = true; rw [hR]; simp
  clear hR
  go_enter Tryz.func80, Tryz.ntmps80
  go_wp2
  go_ret
  exact ⟨ret_bool HR.out.symm, below_alloc (Below.refl _ _) _⟩
set_option maxRecDepth 100000 in
set_option maxHeartbeats 1000000 in
theorem plain_8 (op dst bits ref : Int) (args : List Int) (xv : Value) (w : World) (hA : IntsAt w xv args) : Calls Tryz.prog 80 #[.agg #[.int .u8 8, .int .u8 op, .int .i64 dst, xv, .int .u64 bits, .int .i64 ref]] w fun e w' => e = .returned (.bool (plainB ⟨8, op, dst, args, bits, ref⟩)) ∧ Below w.heap.size w w' := by
  obtain ⟨xa, xc, rfl, hxl⟩ := hA.form
  obtain ⟨R, hR⟩ : ∃ R, R = plainB ⟨8, op, dst, args, bits, ref⟩ := ⟨_, rfl⟩
  rw [← hR]
  unfold plainB at hR
  dsimp only at hR
  clear hA
  generalize args.length = n at *
  by_cases h_dst : dst = 0
  rotate_left
  · have f1_dst : ((dst : Int) == 0) = false := beq_false_of_ne (by omega)
    have f2_dst : ((dst : Int) != 0) = true := bne_iff_ne.2 (by omega)
    have HR : Hid (R = false) := by show R = false; rw [hR]; simp [*]
    clear hR
    go_enter Tryz.func80, Tryz.ntmps80
    go_wp2
    go_ret
    exact ⟨ret_bool HR.out.symm, below_alloc (Below.refl _ _) _⟩
  subst h_dst
  by_cases h_op : op = 0
  rotate_left
  · have f1_op : ((op : Int) == 0) = false := beq_false_of_ne (by omega)
    have f2_op : ((op : Int) != 0) = true := bne_iff_ne.2 (by omega)
    have HR : Hid (R = false) := by show R = false; rw [hR]; simp [*]
    clear hR
    go_enter Tryz.func80, Tryz.ntmps80
    go_wp2
    go_ret
    exact ⟨ret_bool HR.out.symm, below_alloc (Below.refl _ _) _⟩
  subst h_op
  by_cases h_bits : bits = 0
  rotate_left
  · have f1_bits : ((bits : Int) == 0) = false := beq_false_of_ne (by omega)
    have f2_bits : ((bits : Int) != 0) = true := bne_iff_ne.2 (by omega)
    have HR : Hid (R = false) := by show R = false; rw [hR]; simp [*]
    clear hR
    go_enter Tryz.func80, Tryz.ntmps80
    go_wp2
    go_ret
    exact ⟨ret_bool HR.out.symm, below_alloc (Below.refl _ _) _⟩
  subst h_bits
  by_cases h_n : n = 0
  rotate_left
  · have f1_n : ((n : Int) == 0) = false := beq_false_of_ne (by omega)
    have f2_n : ((n : Int) != 0) = true := bne_iff_ne.2 (by omega)
    have HR : Hid (R = false) := by show R = false; rw [hR]; simp [*]
    clear hR
    go_enter Tryz.func80, Tryz.ntmps80
    go_wp2
    go_ret
    exact ⟨ret_bool HR.out.symm, below_alloc (Below.refl _ _) _⟩
  subst h_n
  have HR : Hid (R = true) := by show R = true; rw [hR]; simp
  clear hR
  go_enter Tryz.func80, Tryz.ntmps80
  go_wp2
  go_ret
  exact ⟨ret_bool HR.out.symm, below_alloc (Below.refl _ _) _⟩
set_option maxRecDepth 100000 in
set_option maxHeartbeats 1000000 in
theorem plain_9 (op dst bits ref : Int) (args : List Int) (xv : Value) (w : World) (hA : IntsAt w xv args) : Calls Tryz.prog 80 #[.agg #[.int .u8 9, .int .u8 op, .int .i64 dst, xv, .int .u64 bits, .int .i64 ref]] w fun e w' => e = .returned (.bool (plainB ⟨9, op, dst, args, bits, ref⟩)) ∧ Below w.heap.size w w' := by
  obtain ⟨xa, xc, rfl, hxl⟩ := hA.form
  obtain ⟨R, hR⟩ : ∃ R, R = plainB ⟨9, op, dst, args, bits, ref⟩ := ⟨_, rfl⟩
  rw [← hR]
  unfold plainB at hR
  dsimp only at hR
  clear hA
  generalize args.length = n at *
  by_cases h_op : op = 0
  rotate_left
  · have f1_op : ((op : Int) == 0) = false := beq_false_of_ne (by omega)
    have f2_op : ((op : Int) != 0) = true := bne_iff_ne.2 (by omega)
    have HR : Hid (R = false) := by show R = false; rw [hR]; simp [*]
    clear hR
    go_enter Tryz.func80, Tryz.ntmps80
    go_wp2
    go_ret
    exact ⟨ret_bool HR.out.symm, below_alloc (Below.refl _ _) _⟩
  subst h_op
  by_cases h_bits : bits = 0
  rotate_left
  · have f1_bits : ((bits : Int) == 0) = false := beq_false_of_ne (by omega)
    have f2_bits : ((bits : Int) != 0) = true := bne_iff_ne.2 (by omega)
    have HR : Hid (R = false) := by show R = false; rw [hR]; simp [*]
    clear hR
    go_enter Tryz.func80, Tryz.ntmps80
    go_wp2
    go_ret
    exact ⟨ret_bool HR.out.symm, below_alloc (Below.refl _ _) _⟩
  subst h_bits
  have HR : Hid (R = true) := by show R = true; rw [hR]; simp
  clear hR
  go_enter Tryz.func80, Tryz.ntmps80
  go_wp2
  go_ret
  exact ⟨ret_bool HR.out.symm, below_alloc (Below.refl _ _) _⟩
set_option maxRecDepth 100000 in
set_option maxHeartbeats 1000000 in
theorem plain_10 (op dst bits ref : Int) (args : List Int) (xv : Value) (w : World) (hA : IntsAt w xv args) : Calls Tryz.prog 80 #[.agg #[.int .u8 10, .int .u8 op, .int .i64 dst, xv, .int .u64 bits, .int .i64 ref]] w fun e w' => e = .returned (.bool (plainB ⟨10, op, dst, args, bits, ref⟩)) ∧ Below w.heap.size w w' := by
  obtain ⟨xa, xc, rfl, hxl⟩ := hA.form
  obtain ⟨R, hR⟩ : ∃ R, R = plainB ⟨10, op, dst, args, bits, ref⟩ := ⟨_, rfl⟩
  rw [← hR]
  unfold plainB at hR
  dsimp only at hR
  clear hA
  generalize args.length = n at *
  by_cases h_dst : dst = 0
  rotate_left
  · have f1_dst : ((dst : Int) == 0) = false := beq_false_of_ne (by omega)
    have f2_dst : ((dst : Int) != 0) = true := bne_iff_ne.2 (by omega)
    have HR : Hid (R = false) := by show R = false; rw [hR]; simp [*]
    clear hR
    go_enter Tryz.func80, Tryz.ntmps80
    go_wp2
    go_ret
    exact ⟨ret_bool HR.out.symm, below_alloc (Below.refl _ _) _⟩
  subst h_dst
  by_cases h_op : op = 0
  rotate_left
  · have f1_op : ((op : Int) == 0) = false := beq_false_of_ne (by omega)
    have f2_op : ((op : Int) != 0) = true := bne_iff_ne.2 (by omega)
    have HR : Hid (R = false) := by show R = false; rw [hR]; simp [*]
    clear hR
    go_enter Tryz.func80, Tryz.ntmps80
    go_wp2
    go_ret
    exact ⟨ret_bool HR.out.symm, below_alloc (Below.refl _ _) _⟩
  subst h_op
  by_cases h_bits : bits = 0
  rotate_left
  · have f1_bits : ((bits : Int) == 0) = false := beq_false_of_ne (by omega)
    have f2_bits : ((bits : Int) != 0) = true := bne_iff_ne.2 (by omega)
    have HR : Hid (R = false) := by show R = false; rw [hR]; simp [*]
    clear hR
    go_enter Tryz.func80, Tryz.ntmps80
    go_wp2
    go_ret
    exact ⟨ret_bool HR.out.symm, below_alloc (Below.refl _ _) _⟩
  subst h_bits
  by_cases h_ref : ref = 0
  rotate_left
  · have f1_ref : ((ref : Int) == 0) = false := beq_false_of_ne (by omega)
    have f2_ref : ((ref : Int) != 0) = true := bne_iff_ne.2 (by omega)
    have HR : Hid (R = false) := by show R = false; rw [hR]; simp [*]
    clear hR
    go_enter Tryz.func80, Tryz.ntmps80
    go_wp2
    go_ret
    exact ⟨ret_bool HR.out.symm, below_alloc (Below.refl _ _) _⟩
  subst h_ref
  have HR : Hid (R = true) := by show R = true; rw [hR]; simp
  clear hR
  go_enter Tryz.func80, Tryz.ntmps80
  go_wp2
  go_ret
  exact ⟨ret_bool HR.out.symm, below_alloc (Below.refl _ _) _⟩
theorem rplain_any (x : In) (xv : Value) (w : World) (hA : IntsAt w xv x.args) (h1 : 1 ≤ x.kind) (h2 : x.kind ≤ 10) : Calls Tryz.prog 80 #[inV x xv] w fun e w' => e = .returned (.bool (plainB x)) ∧ Below w.heap.size w w' := by
  obtain ⟨k, op, dst, args, bits, ref⟩ := x
  dsimp only at h1 h2 hA
  have hk : k = 1 ∨ k = 2 ∨ k = 3 ∨ k = 4 ∨ k = 5 ∨ k = 6 ∨ k = 7 ∨ k = 8 ∨ k = 9 ∨ k = 10 := by omega
  rcases hk with rfl | rfl | rfl | rfl | rfl | rfl | rfl | rfl | rfl | rfl
  · exact plain_1 op dst bits ref args xv w hA
  · exact plain_2 op dst bits ref args xv w hA
  · exact plain_3 op dst bits ref args xv w hA
  · exact plain_4 op dst bits ref args xv w hA
  · exact plain_5 op dst bits ref args xv w hA
  · exact plain_6 op dst bits ref args xv w hA
  · exact plain_7 op dst bits ref args xv w hA
  · exact plain_8 op dst bits ref args xv w hA
  · exact plain_9 op dst bits ref args xv w hA
  · exact plain_10 op dst bits ref args xv w hA
end Go.Proofs.YtcggbedjhglmmaaGreatDoor
