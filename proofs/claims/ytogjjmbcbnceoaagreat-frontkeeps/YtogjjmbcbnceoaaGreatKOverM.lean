/- A row put to a row of one's own; marks. -/
import Derived.Test.YtogjjmbcbnceoaaGreatDSameN
import Derived.Test.YtogjjmbcbnceoaaGreatDHp
namespace Go.Proofs.YtogjjmbcbnceoaaGreat
open Go.RowKit

/-- A row put to a row of one's own. -/
theorem wpList_append_row (w : World) {ops : Array Oper} {rest : List Oper} {o : Oper} {a : Act} {Q : Exit → Act → World → Prop}
    (hg : o.guard = none) (s x : Operand) (hop : o.op = Op.call { callee := Callee.builtin Builtin.append, args := #[s, x], argTypes := #[23, 23] }) (hty : o.type = 23)
    (base : Nat) (v y : Value) (xs ys : List Int) (hs : a.eval s = v) (hx : a.eval x = y) (hv : OwnI w base v xs) (hy : IntsAt w y ys) (hl : xs.length + ys.length ≤ 1000000) (hb : base ≤ w.heap.size)
    (hK : ∀ v' w', OwnI w' base v' (xs ++ ys) → w.grownBy w' v.ownBlock → wpList Tryz.prog ops Q rest (a.put o.dst v') w') : wpList Tryz.prog ops Q (o :: rest) a w := by
  obtain ⟨i0, hi0, hz0, hz1, hz2⟩ := info_parts infoI
  obtain ⟨ya, yc, rfl, _⟩ := hy.form
  by_cases h0 : ys.length = 0
  · have e : ys = [] := List.eq_nil_of_length_eq_zero h0
    subst e
    obtain ⟨va, vc, hve, _⟩ := (OwnI.at' hv (by omega)).form
    have hcap : xs.length ≤ vc := by rw [hve] at hv; exact (OwnI.at' hv (by omega)).cap
    refine wpList_append_none w hg s x _ hop v _ hs hx ?_ (hK v w (by simpa using hv) ⟨rfl, rfl, rfl, Nat.le_refl _, fun _ _ _ => rfl⟩)
    rw [hve, hty]
    exact append_none va xs.length vc hcap ya yc w
  · obtain ⟨g, oo, ha, hg2, _⟩ := hy.get (i := 0) (by omega)
    subst ha
    refine wpList_append_own_at w hg s x _ hop base 3 i0 (.int .i64 0) 1 8 Tryz.underlying23 hi0 hz0 hz1 hz2 rfl (by decide) v xs.length (xs.map intV) hs hv ⟨g, oo, none⟩ ys.length yc (ys.map intV) hx (by simp) (fun j u hj => ?_) (fun u hu => ?_) (by unfold maxLen; omega) (by omega) hb (fun v' w' ho hgr _ _ => hK v' w' ?_ hgr)
    · rw [List.getElem?_map] at hj
      obtain ⟨z, hz, rfl⟩ := Option.map_eq_some_iff.1 hj
      obtain ⟨g2, o2, e2, _, c2⟩ := hy.get (i := j) ((List.getElem?_eq_some_iff.1 hz).1)
      cases e2
      have hd : ys.getD j 0 = z := by unfold List.getD; rw [hz]; rfl
      rw [Addr.add_lit, c2, hd]
    · obtain ⟨z, _, rfl⟩ := List.mem_map.1 hu; rfl
    · show World.ownsRow _ _ _ _ _ _ _
      simpa using ho
def markI (k i : Int) : Int := 1000003 * (k + 7) + i
def marks (k : Int) (n : Nat) : List Int := (List.range n).map fun (i : Nat) => markI k (i : Int)
theorem marks_len (k : Int) (n : Nat) : (marks k n).length = n := by simp [marks]
theorem marks_succ (k : Int) (n : Nat) : marks k (n + 1) = marks k n ++ [markI k (n : Int)] := by simp [marks, List.range_succ]
theorem marks_get {k : Int} {n i : Nat} (h : i < n) : (marks k n)[i]? = some (markI k (i : Int)) := by
  unfold marks
  rw [List.getElem?_map, List.getElem?_range h]
  rfl
set_option maxRecDepth 100000 in
theorem mark_any (k i : Int) (h1 : 0 ≤ k) (h2 : k ≤ 1000000) (h3 : 0 ≤ i) (h4 : i ≤ 1000000000) (w : World) : Calls Tryz.prog 29 #[.int .i64 k, .int .i64 i] w fun e w' => e = .returned (.int .i64 (markI k i)) ∧ w = w' := by
  go_enter Tryz.func29, Tryz.ntmps29
  go_wp2
  go_ret
  exact ⟨rfl, rfl⟩
theorem make_room (n : Nat) (hn : n ≤ 1000000) (W : World) : (Instr.makeSlice 23 (.int .i64 0) (.int .i64 ((n : Int) + 12))).run Tryz.prog W = .ok (.slice (some ⟨W.heap.size, 0, none⟩) 0 (n + 12)) (W.alloc (.cells (madeCells #[.int .i64 0] (n + 12)) 3)) := by
  obtain ⟨i0, hi0, hz0, hz1, hz2⟩ := info_parts infoI
  have hr := run_make (P := Tryz.prog) W 23 3 i0 (.int .i64 0) Tryz.underlying23 hi0 hz0 .i64 .i64 0 ((n : Int) + 12) (Int.le_refl _) (by omega) (by rw [hz2]; omega) (by omega)
  have e1 : ((n : Int) + 12).toNat = n + 12 := by omega
  rw [e1, hz1, Nat.mul_one] at hr
  exact hr
theorem room_own (W : World) (n : Nat) (hn : n ≤ 1000000) : OwnI (W.alloc (.cells (madeCells #[.int .i64 0] (n + 12)) 3)) W.heap.size (.slice (some ⟨W.heap.size, 0, none⟩) 0 (n + 12)) [] :=
  World.ownsRow_made W _ (n + 12) (Nat.le_refl _) (by unfold maxLen; omega) (by simp [size_madeCells])
theorem slice_up {g m c f : Nat} (hf : f ≤ c) : ∀ W, (Instr.slice 23 (.slice (some ⟨g, 0, none⟩) m c) none (some (.int .i64 (f : Int))) none).run Tryz.prog W = .ok (.slice (some ⟨g, 0, none⟩) f c) W := fun W => by
  have hs : ∀ W : World, (sizeOf (Tryz.prog.elem 23)).run Tryz.prog W = .ok 1 W := fun W => by kernel_rfl
  have hu : Tryz.prog.underlying 23 = some (.slice (Tryz.prog.elem 23)) := by kernel_rfl
  rw [run_slice_h W 23 _ m c hu .i64 f (by omega) (by omega), hs]
  simp [Result.andThen, sliced, Addr.add]
/-- A list lent: it lies in memory of its own, twelve marks behind it. -/
def LentAt (w : World) (base g cap : Nat) (l : List Int) : Prop := w.ownsRow base 3 1 (.slice (some ⟨g, 0, none⟩) (l.length + 12) cap) (l.length + 12) ((l ++ marks 1 12).map intV)
theorem LentAt.below {w w' : World} {base g cap : Nat} {l : List Int} (h : LentAt w base g cap l) (hb : Below w.heap.size w w') : LentAt w' base g cap l := owns_below h hb
theorem LentAt.same {w w' : World} {base g cap : Nat} {l : List Int} (h : LentAt w base g cap l) (hb : w'.heap[g]? = w.heap[g]?) : LentAt w' base g cap l := owns_same h fun k hk => by cases hk; exact hb
theorem LentAt.room {w : World} {base g cap : Nat} {l : List Int} (h : LentAt w base g cap l) : l.length + 12 ≤ cap ∧ cap ≤ maxLen ∧ base ≤ g ∧ g < w.heap.size := by
  obtain ⟨g', cap', hv, h1, h2, h3, h4⟩ := own_form (n := l.length + 11) h
  cases hv
  exact ⟨h3, h4, h1, h2⟩
theorem LentAt.ints {w : World} {base g cap : Nat} {l : List Int} (h : LentAt w base g cap l) (hl : l.length ≤ 1000000) : IntsAt w (.slice (some ⟨g, 0, none⟩) l.length cap) l := by
  refine ⟨_, _, rfl, ⟨by have := h.room.1; omega, by omega⟩, .inr ⟨g, 0, rfl, h.room.2.2.2, fun j u hj => ?_⟩⟩
  have hjl : j < l.length := by have := (List.getElem?_eq_some_iff.1 hj).1; simpa using this
  have := h.cells (g := g) rfl j u (by rw [List.map_append, List.getElem?_append_left (by simpa using hjl)]; exact hj)
  rwa [Addr.add_lit] at this
end Go.Proofs.YtogjjmbcbnceoaaGreat
/- Lists lent with marks behind them. -/
namespace Go.Proofs.YtogjjmbcbnceoaaGreat
open Go.RowKit

set_option maxRecDepth 100000 in
set_option maxHeartbeats 1000000 in
theorem lent_any (l : List Int) (v : Value) (w : World) (h : IntsAt w v l) (hl : l.length ≤ 100000) : Calls Tryz.prog 8 #[v] w fun e w' => ∃ g cap, e = .returned (.slice (some ⟨g, 0, none⟩) l.length cap) ∧ LentAt w' w.heap.size g cap l ∧ Below w.heap.size w w' := by
  obtain ⟨a, c, rfl, _⟩ := h.form
  obtain ⟨i0, hi0, hz0, hz1, hz2⟩ := info_parts infoI
  have hmk := make_room l.length (by omega)
  have HO : Hid _ := room_own w l.length (by omega)
  have HB : Hid (Below w.heap.size w (w.alloc (.cells (madeCells #[.int .i64 0] (l.length + 12)) 3))) := below_alloc (Below.refl _ _) _
  have HI : Hid (IntsAt (w.alloc (.cells (madeCells #[.int .i64 0] (l.length + 12)) 3)) (.slice a l.length c) l) := h.below HB.out
  have HM : Hid (∀ (i : Nat) (W : World), i < 12 → _) := fun i W hi => mark_any 1 (i : Int) (by omega) (by omega) (by omega) (by omega) W
  obtain ⟨n, hn⟩ : ∃ n, n = l.length := ⟨_, rfl⟩
  have HN : Hid (n = l.length) := hn
  rw [← hn] at HO HB HI hmk hl
  rw [← hn]
  clear h hn
  go_enter Tryz.func8, Tryz.ntmps8
  go_wp2_with (at_builtin; clear hmk; go_loud (refine wpList_append_row _ rfl _ _ rfl rfl w.heap.size _ _ [] l rfl rfl HO.out HI.out ?c0 ?c1 ?_))
  case c0 => have := HN.out; simp; omega
  case c1 => simp
  intro v1 w1 ho hg
  have HB1 : Hid (Below w.heap.size w w1) := below_grown HB.out hg (fun q hq => by cases hq; exact Nat.le_refl _)
  have HO1 : Hid (OwnI w1 w.heap.size v1 (l ++ marks 1 0)) := by
    show World.ownsRow _ _ _ _ _ _ _
    simpa [marks] using ho
  clear ho hg HO HB HI
  go_wp2
  go_loopw [3, 4] (fun vo vi wr => ∃ i : Nat, vi = .int .i64 i ∧ i ≤ 12 ∧ Hid (Below w.heap.size w wr ∧ OwnI wr w.heap.size vo (l ++ marks 1 i))) (fun _ vi _ => 12 - (intOf vi).toNat)
  case atStart => exact ⟨0, rfl, by omega, HB1.out, HO1.out⟩
  case round =>
    obtain ⟨i, rfl, hi, hr⟩ := hrel
    clear HB1 HO1
    by_cases hin : i < 12
    · have hin' : (i : Int) < 12 := by omega
      have HOW : Hid (OwnI wr w.heap.size _ (l ++ marks 1 i)) := hr.out.2
      have HLN : Hid ((l ++ marks 1 i).length = n + i) := by show _ = _; rw [List.length_append, marks_len, HN.out]
      go_wp2_with (first
        | (go_at_call 29; go_loud (refine Calls.mono (by exact HM.out i _ hin) ?_; rintro e w2 ⟨rfl, rfl⟩))
        | (at_builtin; go_loud (refine wpList_append_own_at _ rfl _ _ 23 rfl w.heap.size 3 i0 (.int .i64 0) 1 8 Tryz.underlying23 hi0 hz0 hz1 hz2 rfl (by decide) _ (l ++ marks 1 i).length ((l ++ marks 1 i).map intV) rfl (HOW.out.alloc _) ⟨wr.heap.size, 0, none⟩ 1 1 [intV (markI 1 i)] rfl rfl ?c1 ?c2 ?c3 ?c4 ?c5 ?_)))
      case c1 => exact cell_one_new _ (intV (markI 1 i)) 3
      case c2 => intro u hu; simp at hu; subst hu; rfl
      case c3 => have := HLN.out; unfold maxLen; omega
      case c4 => have := HLN.out; omega
      case c5 => have := hr.out.1.size; simp; omega
      intro v2 w2 ho hg2 _ hat
      have HF : Hid (Below w.heap.size w w2) := below_grown (below_alloc hr.out.1 (.cells #[intV (markI 1 i)] 3)) hg2 (fun q hqq => (HOW.out.lt q hqq).1)
      have HO : Hid (OwnI w2 w.heap.size v2 (l ++ marks 1 (i + 1))) := by
        show World.ownsRow _ _ _ _ _ _ _
        rw [marks_succ, ← List.append_assoc]
        simpa [Nat.add_assoc] using ho
      clear ho hg2 hat
      go_wp2
      go_roundw
      case rel => exact ⟨i + 1, by first | rfl | (congr 1; omega), by omega, HF.out, HO.out⟩
      case measure => simp [intOf]; omega
    · obtain rfl : i = 12 := by omega
      have HOW := hr.out.2
      change wr.ownsRow _ _ _ _ (l ++ marks 1 12).length _ at HOW
      rw [List.length_append, marks_len, ← HN.out] at HOW
      obtain ⟨g, cap, rfl, q1, q2, q3, q4⟩ := own_form (n := n + 11) HOW
      have hsl := slice_cut (g := g) (m := n + 11 + 1) (c := cap) (f := n) q3 (by omega)
      have HW : Hid _ := HOW
      clear HOW
      go_wp2
      go_ret
      exact ⟨g, cap, rfl, by rw [HN.out] at HW; exact HW.out, hr.out.1⟩
end Go.Proofs.YtogjjmbcbnceoaaGreat
/- Is a list that was lent as it was? Written over. -/
namespace Go.Proofs.YtogjjmbcbnceoaaGreat
open Go.RowKit

theorem lent_cell {w : World} {base g cap : Nat} {l : List Int} (h : LentAt w base g cap l) {i : Nat} : (i < l.length → w.cell? ⟨g, i, none⟩ = some (.int .i64 (l.getD i 0))) ∧ (l.length ≤ i → i < l.length + 12 → w.cell? ⟨g, i, none⟩ = some (.int .i64 (markI 1 ((i : Int) - l.length)))) := by
  have hc : ∀ (x : Int), (l ++ marks 1 12)[i]? = some x → w.cell? ⟨g, i, none⟩ = some (.int .i64 x) := fun x hx => by
    have := h.cells (g := g) rfl i (intV x) (by rw [List.getElem?_map, hx]; rfl)
    rw [Addr.add_lit, Nat.zero_add] at this
    exact this
  constructor
  · intro hi
    exact hc _ (by rw [List.getElem?_append_left hi]; exact getD_some hi)
  · intro h1 h2
    refine hc _ ?_
    rw [List.getElem?_append_right h1, marks_get (by omega)]
    congr 2
    omega
set_option maxRecDepth 100000 in
set_option maxHeartbeats 1000000 in
theorem kept_any (l : List Int) (v : Value) (base g cap : Nat) (w : World) (hL : LentAt w base g cap l) (h : IntsAt w v l) (hl : l.length ≤ 100000) : Calls Tryz.prog 13 #[.slice (some ⟨g, 0, none⟩) l.length cap, v] w fun e w' => e = .returned (.bool true) ∧ ∃ k, w' = w.drewN k := by
  obtain ⟨a, c, rfl, _⟩ := h.form
  have HI : Hid (∀ i, i < l.length → ∃ g2 o2, a = some ⟨g2, o2, none⟩ ∧ w.cell? ⟨g2, o2 + i, none⟩ = some (.int .i64 (l.getD i 0))) := fun i hi => by
    obtain ⟨g2, o2, e2, _, k2⟩ := h.get (i := i) hi
    exact ⟨g2, o2, e2, k2⟩
  have HL : Hid (∀ i : Nat, _) := fun i => lent_cell hL (i := i)
  obtain ⟨r1, r2, r3, r4⟩ := hL.room
  have HM : Hid (∀ (x : Int) (W : World), 0 ≤ x → x < 12 → _) := fun x W h0 h1 => mark_any 1 x (by omega) (by omega) (by omega) (by omega) W
  have hcapx : cap ≤ 9223372036854775807 := r2
  clear hL h r2
  obtain ⟨n, hn⟩ : ∃ n, n = l.length := ⟨_, rfl⟩
  rw [← hn] at HI HL r1 hl
  rw [← hn]
  clear hn
  have hsl : ∀ W, (Instr.slice 23 (.slice (some ⟨g, 0, none⟩) n cap) none (some (.int .i64 ((n : Int) + 12))) none).run Tryz.prog W = .ok (.slice (some ⟨g, 0, none⟩) (n + 12) cap) W := fun W => slice_up (g := g) (m := n) (c := cap) (f := n + 12) r1 W
  go_enter Tryz.func13, Tryz.ntmps13
  go_wp2
  clear hsl
  go_loopw [6] (fun vi wr => ∃ i : Nat, vi = .int .i64 i ∧ i ≤ n + 12 ∧ Hid (∃ k, wr = w.drewN k)) (fun vi _ => n + 12 - (intOf vi).toNat)
  case atStart => exact ⟨0, rfl, by omega, 0, rfl⟩
  case round =>
    obtain ⟨i, rfl, hi, hr⟩ := hrel
    obtain ⟨q, hq⟩ := hr.out
    have HQ : Hid (wr = w.drewN q) := hq
    clear hq hr
    by_cases hin : i < n
    · obtain ⟨g2, o2, rfl, k2⟩ := HI.out i hin
      have k2' : wr.cell? ⟨g2, o2 + i, none⟩ = some (.int .i64 (l.getD i 0)) := by rw [HQ.out]; exact k2
      have k1' : wr.cell? ⟨g, i, none⟩ = some (.int .i64 (l.getD i 0)) := by rw [HQ.out]; exact (HL.out i).1 hin
      have hin' : (i : Int) < n := by omega
      have hin2 : (i : Int) < (n : Int) + 12 := by omega
      have hge : decide (n ≤ i) = false := decide_eq_false (by omega)
      have hd1 : decide (i < n) = true := decide_eq_true (by omega)
      clear HI HL k2
      go_wp2
      go_quiet (fail)
      go_wp2
      go_roundw
      case rel => exact ⟨i + 1, by first | rfl | (congr 1; omega), by omega, by first | exact ⟨_, HQ.out⟩ | exact ⟨_, by rw [HQ.out]; exact drewN_add _ _ _⟩⟩
      case measure => simp [intOf]; omega
    · by_cases hin3 : i < n + 12
      · have k1' : wr.cell? ⟨g, i, none⟩ = some (.int .i64 (markI 1 ((i : Int) - n))) := by rw [HQ.out]; exact (HL.out i).2 (by omega) hin3
        have hin' : ¬ ((i : Int) < n) := by omega
        have hin2 : (i : Int) < (n : Int) + 12 := by omega
        have hge : decide (n ≤ i) = true := decide_eq_true (by omega)
        have hd1 : decide (i < n) = false := decide_eq_false (by omega)
        have HMM : Hid (∀ W, Calls Tryz.prog 29 #[.int .i64 1, .int .i64 ((i : Int) - n)] W fun e w' => e = .returned (.int .i64 (markI 1 ((i : Int) - n))) ∧ ∃ d, w' = W.drewN d) := fun W => (HM.out ((i : Int) - n) W (by omega) (by omega)).mono fun e w' hh => ⟨hh.1, 0, hh.2 ▸ rfl⟩
        clear HI HL hin
        go_wp2
        go_quiet ((go_at_call 29; exact Calls.quiet_of (HMM.out _)))
        go_wp2
        go_roundw
        case rel => exact ⟨i + 1, by first | rfl | (congr 1; omega), by omega, by first | exact ⟨_, HQ.out⟩ | exact ⟨_, by rw [HQ.out]; exact drewN_add _ _ _⟩⟩
        case measure => simp [intOf]; omega
      · obtain rfl : i = n + 12 := by omega
        have hin2 : ¬ (((n + 12 : Nat) : Int) < (n : Int) + 12) := by omega
        clear HI HL
        go_wp2
        go_ret
        exact ⟨rfl, q, HQ.out⟩
end Go.Proofs.YtogjjmbcbnceoaaGreat
/- A list that was lent, written over, its marks too. -/
namespace Go.Proofs.YtogjjmbcbnceoaaGreat
open Go.RowKit

/-- Nothing has changed but one block (and what is new). -/
structure But (w w' : World) (g : Nat) : Prop where
  size : w'.heap.size = w.heap.size
  same : ∀ k, k ≠ g → w'.heap[k]? = w.heap[k]?
  low : Below g w w'
theorem But.set {w w' : World} {g : Nat} (h : But w w' g) (o : Nat) (u : Value) : But w (w'.setCell ⟨g, o, none⟩ u) g :=
  ⟨by rw [← h.size]; simp [World.setCell], fun k hk => (Below.heap_setCell _ _ _ _ hk).trans (h.same k hk), h.low.setCell (Nat.le_refl _) _⟩
set_option maxRecDepth 100000 in
set_option maxHeartbeats 1000000 in
theorem over_any2 (l : List Int) (base g cap : Nat) (w : World) (hL : LentAt w base g cap l) (hl : l.length ≤ 100000) : Calls Tryz.prog 15 #[.slice (some ⟨g, 0, none⟩) l.length cap] w fun e w' => e = .returned (.tuple #[]) ∧ But w w' g := by
  obtain ⟨r1, r2, r3, r4⟩ := hL.room
  have HM : Hid (∀ (x : Int) (W : World), 0 ≤ x → x ≤ 1000000 → _) := fun x W h0 h1 => mark_any 2 x (by omega) (by omega) (by omega) (by omega) W
  have hcapx : cap ≤ 9223372036854775807 := r2
  have HL : Hid (∃ xs, w.ownsRow base 3 1 (.slice (some ⟨g, 0, none⟩) (l.length + 12) cap) (l.length + 12) xs) := ⟨_, hL⟩
  clear hL r2
  generalize l.length = n at *
  have hsl : ∀ W, (Instr.slice 23 (.slice (some ⟨g, 0, none⟩) n cap) none (some (.int .i64 ((n : Int) + 12))) none).run Tryz.prog W = .ok (.slice (some ⟨g, 0, none⟩) (n + 12) cap) W := fun W => slice_up (g := g) (m := n) (c := cap) (f := n + 12) r1 W
  go_enter Tryz.func15, Tryz.ntmps15
  go_wp2
  clear hsl
  go_loopw [3] (fun vi wr => ∃ i : Nat, vi = .int .i64 i ∧ i ≤ n + 12 ∧ Hid (But w wr g ∧ ∃ xs, wr.ownsRow base 3 1 (.slice (some ⟨g, 0, none⟩) (n + 12) cap) (n + 12) xs)) (fun vi _ => n + 12 - (intOf vi).toNat)
  case atStart => exact ⟨0, rfl, by omega, ⟨rfl, fun _ _ => rfl, Below.refl _ _⟩, HL.out⟩
  case round =>
    obtain ⟨i, rfl, hi, hr⟩ := hrel
    obtain ⟨xs, hxs⟩ := hr.out.2
    have HXS : Hid _ := hxs
    by_cases hin : i < n + 12
    · have hin2 : (i : Int) < (n : Int) + 12 := by omega
      obtain ⟨u, hu⟩ : ∃ u, xs[i]? = some u := ⟨xs[i]'(by have := hxs.1; omega), List.getElem?_eq_getElem _⟩
      have c0 : wr.cell? ⟨g, i, none⟩ = some u := by rw [hxs.cellAt i (by omega)]; exact hu
      have f0 : wr.frozen? ⟨g, i, none⟩ = false := hxs.frozenAt i
      have HN : Hid (∃ xs, (wr.setCell ⟨g, i, none⟩ (.int .i64 (markI 2 i))).ownsRow base 3 1 (.slice (some ⟨g, 0, none⟩) (n + 12) cap) (n + 12) xs) := ⟨_, (World.ownsRow.stored hxs i (.int .i64 (markI 2 i))).1⟩
      have HB : Hid (But w (wr.setCell ⟨g, i, none⟩ (.int .i64 (markI 2 i))) g) := hr.out.1.set _ _
      clear hxs hu HL
      go_wp2_with (go_at_call 29; go_loud (refine Calls.mono (by exact HM.out (i : Int) _ (by omega) (by omega)) ?_; rintro e w2 ⟨rfl, rfl⟩))
      go_roundw
      case rel => exact ⟨i + 1, by first | rfl | (congr 1; omega), by omega, HB.out, HN.out⟩
      case measure => simp [intOf]; omega
    · obtain rfl : i = n + 12 := by omega
      have hin2 : ¬ (((n + 12 : Nat) : Int) < (n : Int) + 12) := by omega
      clear HL hxs
      go_wp2
      exact bodyPost_end (results_none rfl _ _ _) rfl ⟨rfl, hr.out.1⟩
end Go.Proofs.YtogjjmbcbnceoaaGreat
