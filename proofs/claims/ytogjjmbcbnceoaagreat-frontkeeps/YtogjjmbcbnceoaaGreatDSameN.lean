/- Nothing put to a list. -/
import Derived.Test.YtogjjmbcbnceoaaGreatDMem
import Derived.Deep.Upon
import Derived.ArgAppend
namespace Go.Proofs.YtogjjmbcbnceoaaGreat
open Go.RowKit

theorem append_none (base : Option Addr) (n c : Nat) (hle : n ≤ c) (a : Option Addr) (c2 : Nat) (W : World) : (Builtin.append_ #[23, 23] 23 #[.slice base n c, .slice a 0 c2]).run Tryz.prog W = .ok (.slice base n c) W := by
  obtain ⟨i0, hi0, hz0, hz1, hz2⟩ := info_parts infoI
  refine run_append_nothing W 23 23 23 3 i0 Tryz.underlying23 hi0 base n c hle _ ?_
  refine ⟨.inl ⟨_, Tryz.underlying23⟩, fun w' => by simp [Builtin.lenOf], ?_, ?_, by simp, by simp⟩
  · cases a with
    | none => simp [Builtin.firstCells]
    | some a => simp [Builtin.firstCells]; first | rfl | simp [loadCells]
  · cases a with
    | none => simp [Builtin.firstCells]
    | some a => simp [Builtin.firstCells]; first | rfl | simp [loadCells]
theorem wpList_append_none {P : Program} (w : World) {ops : Array Oper} {rest : List Oper} {o : Oper} {a : Act} {Q : Exit → Act → World → Prop}
    (hg : o.guard = none) (s x : Operand) (t : TypeId) (hop : o.op = Op.call { callee := Callee.builtin Builtin.append, args := #[s, x], argTypes := #[t, t] }) (v y : Value) (hs : a.eval s = v) (hx : a.eval x = y)
    (hrun : (Builtin.append_ #[t, t] o.type #[v, y]).run P w = .ok v w) (hK : wpList P ops Q rest (a.put o.dst v) w) : wpList P ops Q (o :: rest) a w := by
  refine wpList_plain hg fun K hK' => ?_
  unfold Oper.wp
  simp [execOp, hop, resolve, invoke, builtin, hs, hx, hrun, Result.andThen]
  exact hK' _ _ hK
end Go.Proofs.YtogjjmbcbnceoaaGreat
/- Rows compared, rows of rows compared: nothing but draws. -/
namespace Go.Proofs.YtogjjmbcbnceoaaGreat
open Go.RowKit

theorem drewN_zero (w : World) : w = w.drewN 0 := rfl
theorem drewN_add (w : World) (a b : Nat) : (w.drewN a).drewN b = w.drewN (a + b) := by simp [World.drewN, Nat.add_assoc]
theorem below_of_drew {w w' : World} (h : ∃ k, w' = w.drewN k) : Below w.heap.size w w' := by
  obtain ⟨k, rfl⟩ := h
  exact below_drewN (Below.refl _ _) k
theorem take_nextR {α : Type} {xs ys : List α} {i : Nat} {x : α} (h : xs.take i = ys.take i) (h1 : xs[i]? = some x) (h2 : ys[i]? = some x) : xs.take (i + 1) = ys.take (i + 1) := by
  rw [List.take_add_one, List.take_add_one, h, h1, h2]
set_option maxRecDepth 100000 in
set_option maxHeartbeats 1000000 in
theorem sameI_any (xs ys : List Int) (v1 v2 : Value) (w : World) (h1 : IntsAt w v1 xs) (h2 : IntsAt w v2 ys) : Calls Tryz.prog 18 #[v1, v2] w fun e w' => e = .returned (.bool (decide (xs = ys))) ∧ ∃ k, w' = w.drewN k := by
  obtain ⟨a1, c1, rfl, hb1⟩ := h1.form
  obtain ⟨a2, c2, rfl, hb2⟩ := h2.form
  by_cases hl : xs.length = ys.length
  · have HI : Hid (∀ i, i < xs.length → ∃ g1 o1 g2 o2 x y, a1 = some ⟨g1, o1, none⟩ ∧ a2 = some ⟨g2, o2, none⟩ ∧ xs[i]? = some x ∧ ys[i]? = some y ∧ w.cell? ⟨g1, o1 + i, none⟩ = some (.int .i64 x) ∧ w.cell? ⟨g2, o2 + i, none⟩ = some (.int .i64 y)) := fun i hi => by
      obtain ⟨g1, o1, e1, l1, k1⟩ := h1.get hi
      obtain ⟨g2, o2, e2, l2, k2⟩ := h2.get (i := i) (by omega)
      exact ⟨g1, o1, g2, o2, _, _, e1, e2, getD_some hi, getD_some (by omega), k1, k2⟩
    have HD : Hid (∀ (i : Nat) (x y : Int), xs[i]? = some x → ys[i]? = some y → x ≠ y → decide (xs = ys) = false) := fun i x y e1 e2 hn => decide_eq_false (fun he => by rw [he, e2] at e1; cases e1; exact hn rfl)
    have HE : Hid (xs.take xs.length = ys.take xs.length → decide (xs = ys) = true) := fun he => decide_eq_true (by rw [List.take_length, hl, List.take_length] at he; exact he)
    have hl' : (ys.length : Int) = (xs.length : Int) := by omega
    generalize hN : xs.length = n at *
    obtain ⟨R, hR⟩ : ∃ R, R = decide (xs = ys) := ⟨_, rfl⟩
    rw [← hR]
    have HR : Hid _ := hR
    clear h1 h2 hR hN hb2
    rw [← hl]
    go_enter Tryz.func18, Tryz.ntmps18
    go_wp2
    go_loopw [5] (fun vi wr => ∃ i : Nat, vi = .int .i64 i ∧ i ≤ n ∧ Hid (xs.take i = ys.take i ∧ ∃ k, wr = w.drewN k)) (fun vi _ => n - (intOf vi).toNat)
    case atStart => exact ⟨0, rfl, by omega, rfl, 0, rfl⟩
    case round =>
      obtain ⟨i, rfl, hi, hr⟩ := hrel
      obtain ⟨q, hq⟩ := hr.out.2
      have HQ : Hid (wr = w.drewN q) := hq
      clear hq
      by_cases hin : i < n
      · obtain ⟨g1, o1, g2, o2, x, y, rfl, rfl, e1, e2, k1, k2⟩ := HI.out i hin
        have k1' : wr.cell? ⟨g1, o1 + i, none⟩ = some (.int .i64 x) := by rw [HQ.out]; exact k1
        have k2' : wr.cell? ⟨g2, o2 + i, none⟩ = some (.int .i64 y) := by rw [HQ.out]; exact k2
        have hin' : (i : Int) < n := by omega
        have E1 : Hid _ := e1
        have E2 : Hid _ := e2
        clear HI e1 e2
        by_cases hxy : x = y
        · subst hxy
          have HT : Hid _ := take_next hr.out.1 E1.out E2.out
          clear E1 E2 hr
          go_wp2
          go_quiet (fail)
          go_wp2
          go_roundw
          case rel => exact ⟨i + 1, by first | rfl | (congr 1; omega), by omega, HT.out, by first | exact ⟨_, HQ.out⟩ | exact ⟨_, by rw [HQ.out]; exact drewN_add _ _ _⟩⟩
          case measure => simp [intOf]; omega
        · have HX : Hid (R = false) := HR.out.trans (HD.out i x y E1.out E2.out hxy)
          clear E1 E2 hr
          go_wp2
          go_quiet (fail)
          go_wp2
          go_ret
          exact ⟨ret_bool HX.out.symm, by first | exact ⟨_, HQ.out⟩ | exact ⟨_, by rw [HQ.out]; exact drewN_add _ _ _⟩⟩
      · obtain rfl : i = n := by omega
        have HX : Hid (R = true) := HR.out.trans (HE.out hr.out.1)
        clear HI hr
        go_wp2
        go_ret
        exact ⟨ret_bool HX.out.symm, by first | exact ⟨_, HQ.out⟩ | exact ⟨_, by rw [HQ.out]; exact drewN_add _ _ _⟩⟩
  · have hne : decide (xs = ys) = false := decide_eq_false (fun he => hl (by rw [he]))
    rw [hne]
    have hl' : ¬ (xs.length : Int) = (ys.length : Int) := by omega
    clear h1 h2 hl hne
    go_enter Tryz.func18, Tryz.ntmps18
    go_wp2
    go_ret
    exact ⟨rfl, 0, rfl⟩
theorem getR_some {l : List (List Int)} {i : Nat} (h : i < l.length) : l[i]? = some (l.getD i []) := by rw [List.getElem?_eq_getElem h, getD_of h]
theorem IntsAt.drew {w : World} {v : Value} {l : List Int} (h : IntsAt w v l) (k : Nat) : IntsAt (w.drewN k) v l := h.below (below_drewN (Below.refl _ _) k)
set_option maxRecDepth 100000 in
set_option maxHeartbeats 1000000 in
theorem sameR_any (xs ys : List (List Int)) (v1 v2 : Value) (w : World) (h1 : NetAt w v1 xs) (h2 : NetAt w v2 ys) : Calls Tryz.prog 19 #[v1, v2] w fun e w' => e = .returned (.bool (decide (xs = ys))) ∧ ∃ k, w' = w.drewN k := by
  obtain ⟨a1, c1, rfl, hb1⟩ := h1.form
  obtain ⟨a2, c2, rfl, hb2⟩ := h2.form
  by_cases hl : xs.length = ys.length
  · have HI : Hid (∀ i, i < xs.length → ∃ g1 o1 g2 o2 x y q1 q2, a1 = some ⟨g1, o1, none⟩ ∧ a2 = some ⟨g2, o2, none⟩ ∧ xs[i]? = some x ∧ ys[i]? = some y ∧ w.cell? ⟨g1, o1 + i, none⟩ = some q1 ∧ w.cell? ⟨g2, o2 + i, none⟩ = some q2 ∧ IntsAt w q1 x ∧ IntsAt w q2 y) := fun i hi => by
      obtain ⟨g1, o1, r1, s1, e1, l1, k1, i1⟩ := h1.get hi
      obtain ⟨g2, o2, r2, s2, e2, l2, k2, i2⟩ := h2.get (i := i) (by omega)
      exact ⟨g1, o1, g2, o2, _, _, _, _, e1, e2, getR_some hi, getR_some (by omega), k1, k2, i1, i2⟩
    have HD : Hid (∀ (i : Nat) (x y : List Int), xs[i]? = some x → ys[i]? = some y → x ≠ y → decide (xs = ys) = false) := fun i x y e1 e2 hn => decide_eq_false (fun he => by rw [he, e2] at e1; cases e1; exact hn rfl)
    have HE : Hid (xs.take xs.length = ys.take xs.length → decide (xs = ys) = true) := fun he => decide_eq_true (by rw [List.take_length, hl, List.take_length] at he; exact he)
    have hl' : (ys.length : Int) = (xs.length : Int) := by omega
    generalize hN : xs.length = n at *
    obtain ⟨R, hR⟩ : ∃ R, R = decide (xs = ys) := ⟨_, rfl⟩
    rw [← hR]
    have HR : Hid _ := hR
    clear h1 h2 hR hN hb2
    rw [← hl]
    go_enter Tryz.func19, Tryz.ntmps19
    go_wp2
    go_loopw [5] (fun vi wr => ∃ i : Nat, vi = .int .i64 i ∧ i ≤ n ∧ Hid (xs.take i = ys.take i ∧ ∃ k, wr = w.drewN k)) (fun vi _ => n - (intOf vi).toNat)
    case atStart => exact ⟨0, rfl, by omega, rfl, 0, rfl⟩
    case round =>
      obtain ⟨i, rfl, hi, hr⟩ := hrel
      obtain ⟨q, hq⟩ := hr.out.2
      have HQ : Hid (wr = w.drewN q) := hq
      clear hq
      by_cases hin : i < n
      · obtain ⟨g1, o1, g2, o2, x, y, q1, q2, rfl, rfl, e1, e2, k1, k2, i1, i2⟩ := HI.out i hin
        have k1' : wr.cell? ⟨g1, o1 + i, none⟩ = some q1 := by rw [HQ.out]; exact k1
        have k2' : wr.cell? ⟨g2, o2 + i, none⟩ = some q2 := by rw [HQ.out]; exact k2
        have hin' : (i : Int) < n := by omega
        have E1 : Hid _ := e1
        have E2 : Hid _ := e2
        have HC : Hid (∀ k, Calls Tryz.prog 18 #[q1, q2] (wr.drewN k) fun e w' => e = .returned (.bool (decide (x = y))) ∧ ∃ d, w' = (wr.drewN k).drewN d) := fun k => sameI_any _ _ _ _ _ (by rw [HQ.out]; exact (i1.drew q).drew k) (by rw [HQ.out]; exact (i2.drew q).drew k)
        clear HI e1 e2 i1 i2 k1 k2
        by_cases hxy : x = y
        · subst hxy
          rw [decide_eq_true rfl] at HC
          have HT : Hid _ := take_nextR hr.out.1 E1.out E2.out
          clear E1 E2 hr
          go_wp2
          go_quiet ((go_at_call 18; exact Calls.quiet_of (HC.out _)))
          go_wp2
          go_roundw
          case rel => exact ⟨i + 1, by first | rfl | (congr 1; omega), by omega, HT.out, by first | exact ⟨_, HQ.out⟩ | exact ⟨_, by rw [HQ.out]; exact drewN_add _ _ _⟩⟩
          case measure => simp [intOf]; omega
        · have HX : Hid (R = false) := HR.out.trans (HD.out i x y E1.out E2.out hxy)
          rw [decide_eq_false hxy] at HC
          clear E1 E2 hr
          go_wp2
          go_quiet ((go_at_call 18; exact Calls.quiet_of (HC.out _)))
          go_wp2
          go_ret
          exact ⟨ret_bool HX.out.symm, by first | exact ⟨_, HQ.out⟩ | exact ⟨_, by rw [HQ.out]; exact drewN_add _ _ _⟩⟩
      · obtain rfl : i = n := by omega
        have HX : Hid (R = true) := HR.out.trans (HE.out hr.out.1)
        clear HI hr
        go_wp2
        go_ret
        exact ⟨ret_bool HX.out.symm, by first | exact ⟨_, HQ.out⟩ | exact ⟨_, by rw [HQ.out]; exact drewN_add _ _ _⟩⟩
  · have hne : decide (xs = ys) = false := decide_eq_false (fun he => hl (by rw [he]))
    rw [hne]
    have hl' : ¬ (xs.length : Int) = (ys.length : Int) := by omega
    clear h1 h2 hl hne
    go_enter Tryz.func19, Tryz.ntmps19
    go_wp2
    go_ret
    exact ⟨rfl, 0, rfl⟩
end Go.Proofs.YtogjjmbcbnceoaaGreat
