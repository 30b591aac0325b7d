/- Small facts of the walk, elsewhere. -/
import Derived.Test.YtabpnjakfoofpaaGreatDoorGOrd3
import Derived.Test.YtabpnjakfoofpaaGreatDoorGAhd1M
import Derived.BigQuiet
namespace Go.Proofs.YtabpnjakfoofpaaGreatDoor
end Go.Proofs.YtabpnjakfoofpaaGreatDoor
/- Rows of rows, and rows compared. -/
namespace Go.Proofs.YtabpnjakfoofpaaGreatDoor
open Go.RowKit

theorem getD_of {α : Type} {l : List α} {i : Nat} (h : i < l.length) (d : α) : l.getD i d = l[i] := by
  unfold List.getD
  rw [List.getElem?_eq_getElem h]
  rfl
structure NetAt (w : World) (v : Value) (nx : List (List Int)) : Prop where
  row : ∃ kvs : List Value, kvs.length = nx.length ∧ RowAt w v nx.length kvs ∧ ∀ (i : Nat) (r : List Int) (kv : Value), nx[i]? = some r → kvs[i]? = some kv → IntsAt w kv r
theorem NetAt.below {w w' : World} {v : Value} {nx : List (List Int)} (h : NetAt w v nx) (hb : Below w.heap.size w w') : NetAt w' v nx := by
  obtain ⟨kvs, h1, h2, h3⟩ := h.row
  exact ⟨kvs, h1, h2.below hb, fun i r kv e1 e2 => (h3 i r kv e1 e2).below hb⟩
theorem NetAt.form {w : World} {v : Value} {nx : List (List Int)} (h : NetAt w v nx) : ∃ a c, v = .slice a nx.length c ∧ nx.length ≤ 140737488355328 := by
  obtain ⟨_, _, ⟨a, c, hv, hn, _⟩, _⟩ := h.row
  exact ⟨a, c, hv, hn.2⟩
theorem NetAt.get {w : World} {a : Option Addr} {n c : Nat} {nx : List (List Int)} (h : NetAt w (.slice a n c) nx) {i : Nat} (hi : i < nx.length) : ∃ g o ra rc, a = some ⟨g, o, none⟩ ∧ g < w.heap.size ∧ w.cell? ⟨g, o + i, none⟩ = some (.slice ra (nx.getD i []).length rc) ∧ IntsAt w (.slice ra (nx.getD i []).length rc) (nx.getD i []) := by
  obtain ⟨kvs, hl, ⟨a', c', hv, _, hc⟩, hk⟩ := h.row
  cases hv
  rcases hc with h0 | ⟨g, o, ha, hg, hc⟩
  · omega
  · have e : nx[i]? = some (nx.getD i []) := by simp [List.getD, List.getElem?_eq_getElem hi]
    have e2 : kvs[i]? = some (kvs[i]'(by omega)) := List.getElem?_eq_getElem _
    have hI := hk i _ _ e e2
    obtain ⟨ra, rc, he, _⟩ := hI.form
    have h2 := hc i _ e2
    rw [he] at h2 hI
    exact ⟨g, o, ra, rc, ha, hg, h2, hI⟩
theorem RowsIn.at' {w : World} {base G n : Nat} {kvs : List Value} {rows : List (List Int)} (h : RowsIn w base G n kvs rows) (hn : n ≤ 140737488355328) (hl : ∀ r ∈ rows, r.length ≤ 140737488355328) : NetAt w (.slice (some ⟨G, 0, none⟩) n n) rows := by
  refine ⟨kvs, by rw [h.klen, h.rlen], ⟨_, _, by rw [h.rlen], ⟨by rw [h.rlen]; omega, by rw [h.rlen]; exact hn⟩, .inr ⟨G, 0, rfl, h.ltG.2, fun j u hj => ?_⟩⟩, fun i r kv e1 e2 => (h.kid i r kv e1 e2).1.at' (hl r (List.mem_of_getElem? e1))⟩
  rw [Nat.zero_add]
  exact h.cellG hj
theorem drewN_zero (w : World) : w = w.drewN 0 := rfl
theorem drewN_add (w : World) (a b : Nat) : (w.drewN a).drewN b = w.drewN (a + b) := by simp [World.drewN, Nat.add_assoc]
theorem below_of_drew {w w' : World} (h : ∃ k, w' = w.drewN k) : Below w.heap.size w w' := by
  obtain ⟨k, rfl⟩ := h
  exact below_drewN (Below.refl _ _) k
theorem take_nextR {α : Type} {xs ys : List α} {i : Nat} {x : α} (h : xs.take i = ys.take i) (h1 : xs[i]? = some x) (h2 : ys[i]? = some x) : xs.take (i + 1) = ys.take (i + 1) := by
  rw [List.take_add_one, List.take_add_one, h, h1, h2]
set_option maxRecDepth 100000 in
set_option maxHeartbeats 1000000 in
theorem sameI_any (xs ys : List Int) (v1 v2 : Value) (w : World) (h1 : IntsAt w v1 xs) (h2 : IntsAt w v2 ys) : Calls Tryz.prog 7 #[v1, v2] w fun e w' => e = .returned (.bool (decide (xs = ys))) ∧ ∃ k, w' = w.drewN k := by
  obtain ⟨a1, c1, rfl, hb1⟩ := h1.form
  obtain ⟨a2, c2, rfl, hb2⟩ := h2.form
  by_cases hl : xs.length = ys.length
  · have HI : Hid (∀ i, i < xs.length → ∃ g1 o1 g2 o2 x y, a1 = some ⟨g1, o1, none⟩ ∧ a2 = some ⟨g2, o2, none⟩ ∧ xs[i]? = some x ∧ ys[i]? = some y ∧ w.cell? ⟨g1, o1 + i, none⟩ = some (.int .i64 x) ∧ w.cell? ⟨g2, o2 + i, none⟩ = some (.int .i64 y)) := fun i hi => by
      obtain ⟨g1, o1, e1, l1, k1⟩ := h1.get hi
      obtain ⟨g2, o2, e2, l2, k2⟩ := h2.get (i := i) (by omega)
      exact ⟨g1, o1, g2, o2, _, _, e1, e2, getD_some hi, getD_some (by omega), k1, k2⟩
    have HD : Hid (∀ (i : Nat) (x y : Int), xs[i]? = some x → ys[i]? = some y → x ≠ y → decide (xs = ys) = false) := fun i x y e1 e2 hn => decide_eq_false (fun he => by rw [he, e2] at e1; cases e1; exact hn rfl)
    have HE : Hid (xs.take xs.length = ys.take xs.length → decide (xs = ys) = true) := fun he => decide_eq_true (by rw [List.take_length, hl, List.take_length] at he; exact he)
    have hl' : (ys.length : Int) = (xs.length : Int) := by omega
    generalize hN : xs.length = n at *
    obtain ⟨R, hR⟩ : ∃ R, R = decide (xs = ys) := ⟨_, rfl⟩
    rw [← hR]
    have HR : Hid _ := hR
    clear h1 h2 hR hN hb2
    rw [← hl]
    go_enter Tryz.func7, Tryz.ntmps7
    go_wp2
    go_loopw [5] (fun vi wr => ∃ i : Nat, vi = .int .i64 i ∧ i ≤ n ∧ Hid (xs.take i = ys.take i ∧ ∃ k, wr = w.drewN k)) (fun vi _ => n - (intOf vi).toNat)
    case atStart => exact ⟨0, rfl, by omega, rfl, 0, rfl⟩
    case round =>
      obtain ⟨i, rfl, hi, hr⟩ := hrel
      obtain ⟨q, hq⟩ := hr.out.2
      have HQ : Hid (wr = w.drewN q) := hq
      clear hq
      by_cases hin : i < n
      · obtain ⟨g1, o1, g2, o2, x, y, rfl, rfl, e1, e2, k1, k2⟩ := HI.out i hin
        have k1' : wr.cell? ⟨g1, o1 + i, none⟩ = some (.int .i64 x) := by rw [HQ.out]; exact k1
        have k2' : wr.cell? ⟨g2, o2 + i, none⟩ = some (.int .i64 y) := by rw [HQ.out]; exact k2
        have hin' : (i : Int) < n := by omega
        have E1 : Hid _ := e1
        have E2 : Hid _ := e2
        clear HI e1 e2
        by_cases hxy : x = y
        · subst hxy
          have HT : Hid _ := take_next hr.out.1 E1.out E2.out
          clear E1 E2 hr
          go_wp2
          go_quiet (fail)
          go_wp2
          go_roundw
          case rel => exact ⟨i + 1, by first | rfl | (congr 1; omega), by omega, HT.out, by first | exact ⟨_, HQ.out⟩ | exact ⟨_, by rw [HQ.out]; exact drewN_add _ _ _⟩⟩
          case measure => simp [intOf]; omega
        · have HX : Hid (R = false) := HR.out.trans (HD.out i x y E1.out E2.out hxy)
          clear E1 E2 hr
          go_wp2
          go_quiet (fail)
          go_wp2
          go_ret
          exact ⟨ret_bool HX.out.symm, by first | exact ⟨_, HQ.out⟩ | exact ⟨_, by rw [HQ.out]; exact drewN_add _ _ _⟩⟩
      · obtain rfl : i = n := by omega
        have HX : Hid (R = true) := HR.out.trans (HE.out hr.out.1)
        clear HI hr
        go_wp2
        go_ret
        exact ⟨ret_bool HX.out.symm, by first | exact ⟨_, HQ.out⟩ | exact ⟨_, by rw [HQ.out]; exact drewN_add _ _ _⟩⟩
  · have hne : decide (xs = ys) = false := decide_eq_false (fun he => hl (by rw [he]))
    rw [hne]
    have hl' : ¬ (xs.length : Int) = (ys.length : Int) := by omega
    clear h1 h2 hl hne
    go_enter Tryz.func7, Tryz.ntmps7
    go_wp2
    go_ret
    exact ⟨rfl, 0, rfl⟩
theorem getR_some {l : List (List Int)} {i : Nat} (h : i < l.length) : l[i]? = some (l.getD i []) := by rw [List.getElem?_eq_getElem h, getD_of h]
theorem IntsAt.drew {w : World} {v : Value} {l : List Int} (h : IntsAt w v l) (k : Nat) : IntsAt (w.drewN k) v l := h.below (below_drewN (Below.refl _ _) k)
set_option maxRecDepth 100000 in
set_option maxHeartbeats 1000000 in
theorem sameR_any (xs ys : List (List Int)) (v1 v2 : Value) (w : World) (h1 : NetAt w v1 xs) (h2 : NetAt w v2 ys) : Calls Tryz.prog 10 #[v1, v2] w fun e w' => e = .returned (.bool (decide (xs = ys))) ∧ ∃ k, w' = w.drewN k := by
  obtain ⟨a1, c1, rfl, hb1⟩ := h1.form
  obtain ⟨a2, c2, rfl, hb2⟩ := h2.form
  by_cases hl : xs.length = ys.length
  · have HI : Hid (∀ i, i < xs.length → ∃ g1 o1 g2 o2 x y q1 q2, a1 = some ⟨g1, o1, none⟩ ∧ a2 = some ⟨g2, o2, none⟩ ∧ xs[i]? = some x ∧ ys[i]? = some y ∧ w.cell? ⟨g1, o1 + i, none⟩ = some q1 ∧ w.cell? ⟨g2, o2 + i, none⟩ = some q2 ∧ IntsAt w q1 x ∧ IntsAt w q2 y) := fun i hi => by
      obtain ⟨g1, o1, r1, s1, e1, l1, k1, i1⟩ := h1.get hi
      obtain ⟨g2, o2, r2, s2, e2, l2, k2, i2⟩ := h2.get (i := i) (by omega)
      exact ⟨g1, o1, g2, o2, _, _, _, _, e1, e2, getR_some hi, getR_some (by omega), k1, k2, i1, i2⟩
    have HD : Hid (∀ (i : Nat) (x y : List Int), xs[i]? = some x → ys[i]? = some y → x ≠ y → decide (xs = ys) = false) := fun i x y e1 e2 hn => decide_eq_false (fun he => by rw [he, e2] at e1; cases e1; exact hn rfl)
    have HE : Hid (xs.take xs.length = ys.take xs.length → decide (xs = ys) = true) := fun he => decide_eq_true (by rw [List.take_length, hl, List.take_length] at he; exact he)
    have hl' : (ys.length : Int) = (xs.length : Int) := by omega
    generalize hN : xs.length = n at *
    obtain ⟨R, hR⟩ : ∃ R, R = decide (xs = ys) := ⟨_, rfl⟩
    rw [← hR]
    have HR : Hid _ := hR
    clear h1 h2 hR hN hb2
    rw [← hl]
    go_enter Tryz.func10, Tryz.ntmps10
    go_wp2
    go_loopw [5] (fun vi wr => ∃ i : Nat, vi = .int .i64 i ∧ i ≤ n ∧ Hid (xs.take i = ys.take i ∧ ∃ k, wr = w.drewN k)) (fun vi _ => n - (intOf vi).toNat)
    case atStart => exact ⟨0, rfl, by omega, rfl, 0, rfl⟩
    case round =>
      obtain ⟨i, rfl, hi, hr⟩ := hrel
      obtain ⟨q, hq⟩ := hr.out.2
      have HQ : Hid (wr = w.drewN q) := hq
      clear hq
      by_cases hin : i < n
      · obtain ⟨g1, o1, g2, o2, x, y, q1, q2, rfl, rfl, e1, e2, k1, k2, i1, i2⟩ := HI.out i hin
        have k1' : wr.cell? ⟨g1, o1 + i, none⟩ = some q1 := by rw [HQ.out]; exact k1
        have k2' : wr.cell? ⟨g2, o2 + i, none⟩ = some q2 := by rw [HQ.out]; exact k2
        have hin' : (i : Int) < n := by omega
        have E1 : Hid _ := e1
        have E2 : Hid _ := e2
        have HC : Hid (∀ k, Calls Tryz.prog 7 #[q1, q2] (wr.drewN k) fun e w' => e = .returned (.bool (decide (x = y))) ∧ ∃ d, w' = (wr.drewN k).drewN d) := fun k => sameI_any _ _ _ _ _ (by rw [HQ.out]; exact (i1.drew q).drew k) (by rw [HQ.out]; exact (i2.drew q).drew k)
        clear HI e1 e2 i1 i2 k1 k2
        by_cases hxy : x = y
        · subst hxy
          rw [decide_eq_true rfl] at HC
          have HT : Hid _ := take_nextR hr.out.1 E1.out E2.out
          clear E1 E2 hr
          go_wp2
          go_quiet ((go_at_call 7; exact Calls.quiet_of (HC.out _)))
          go_wp2
          go_roundw
          case rel => exact ⟨i + 1, by first | rfl | (congr 1; omega), by omega, HT.out, by first | exact ⟨_, HQ.out⟩ | exact ⟨_, by rw [HQ.out]; exact drewN_add _ _ _⟩⟩
          case measure => simp [intOf]; omega
        · have HX : Hid (R = false) := HR.out.trans (HD.out i x y E1.out E2.out hxy)
          rw [decide_eq_false hxy] at HC
          clear E1 E2 hr
          go_wp2
          go_quiet ((go_at_call 7; exact Calls.quiet_of (HC.out _)))
          go_wp2
          go_ret
          exact ⟨ret_bool HX.out.symm, by first | exact ⟨_, HQ.out⟩ | exact ⟨_, by rw [HQ.out]; exact drewN_add _ _ _⟩⟩
      · obtain rfl : i = n := by omega
        have HX : Hid (R = true) := HR.out.trans (HE.out hr.out.1)
        clear HI hr
        go_wp2
        go_ret
        exact ⟨ret_bool HX.out.symm, by first | exact ⟨_, HQ.out⟩ | exact ⟨_, by rw [HQ.out]; exact drewN_add _ _ _⟩⟩
  · have hne : decide (xs = ys) = false := decide_eq_false (fun he => hl (by rw [he]))
    rw [hne]
    have hl' : ¬ (xs.length : Int) = (ys.length : Int) := by omega
    clear h1 h2 hl hne
    go_enter Tryz.func10, Tryz.ntmps10
    go_wp2
    go_ret
    exact ⟨rfl, 0, rfl⟩
end Go.Proofs.YtabpnjakfoofpaaGreatDoor
