/- Two rows of ints, compared. -/
import Derived.Test.YtbejgachdhfakaaGreatDoorGQ
import Derived.BigQuiet
import Derived.Test.YtbejgachdhfakaaGreatDoorR3
import Derived.Test.YtbejgachdhfakaaGreatDoorR4
import Derived.Deep.RegionWith
import Derived.Test.YtbejgachdhfakaaGreatDoorGD
import Derived.Laws.OwnMore
namespace Go.Proofs.YtbejgachdhfakaaGreatDoor
open Go.RowKit

theorem take_next {xs ys : List Int} {i : Nat} {x : Int} (h : xs.take i = ys.take i) (h1 : xs[i]? = some x) (h2 : ys[i]? = some x) : xs.take (i + 1) = ys.take (i + 1) := by
  rw [List.take_add_one, List.take_add_one, h, h1, h2]
set_option maxRecDepth 100000 in
set_option maxHeartbeats 1000000 in
theorem equal_any (xs ys : List Int) (v1 v2 : Value) (w : World) (h1 : IntsAt w v1 xs) (h2 : IntsAt w v2 ys) (hx : xs.length < 4611686018427387904) : Calls Tryz.prog 25 #[v1, v2] w fun e w' => e = .returned (.bool (decide (xs = ys))) ∧ Below w.heap.size w w' := by
  obtain ⟨a1, c1, rfl, q1⟩ := h1
  obtain ⟨a2, c2, rfl, q2⟩ := h2
  by_cases hl : xs.length = ys.length
  · have HI : Hid (∀ i, i < xs.length → ∃ g1 o1 g2 o2 x y, a1 = some ⟨g1, o1, none⟩ ∧ a2 = some ⟨g2, o2, none⟩ ∧ g1 < w.heap.size ∧ g2 < w.heap.size ∧ xs[i]? = some x ∧ ys[i]? = some y ∧ w.cell? ⟨g1, o1 + i, none⟩ = some (.int .i64 x) ∧ w.cell? ⟨g2, o2 + i, none⟩ = some (.int .i64 y)) := fun i hi => by
      rcases q1 with rfl | ⟨g1, o1, rfl, l1, k1⟩
      · simp at hi
      rcases q2 with rfl | ⟨g2, o2, rfl, l2, k2⟩
      · rw [hl] at hi; simp at hi
      have e1 : xs[i]? = some xs[i] := List.getElem?_eq_getElem hi
      have e2 : ys[i]? = some (ys[i]'(by omega)) := List.getElem?_eq_getElem (by omega)
      exact ⟨g1, o1, g2, o2, _, _, rfl, rfl, l1, l2, e1, e2, k1 i _ e1, k2 i _ e2⟩
    have HD : Hid (∀ (i : Nat) (x y : Int), xs[i]? = some x → ys[i]? = some y → x ≠ y → decide (xs = ys) = false) := fun i x y e1 e2 hn => decide_eq_false (fun he => by rw [he, e2] at e1; cases e1; exact hn rfl)
    have HE : Hid (xs.take xs.length = ys.take xs.length → decide (xs = ys) = true) := fun he => decide_eq_true (by rw [List.take_length, hl, List.take_length] at he; exact he)
    have hl' : (ys.length : Int) = (xs.length : Int) := by omega
    generalize hN : xs.length = n at *
    obtain ⟨R, hR⟩ : ∃ R, R = decide (xs = ys) := ⟨_, rfl⟩
    rw [← hR]
    have HR : Hid _ := hR
    clear q1 q2 hR hN
    rw [← hl]
    go_enter Tryz.func25, Tryz.ntmps25
    go_wp2
    go_loopw [13] (fun vi wr => ∃ i : Nat, vi = .int .i64 i ∧ i ≤ n ∧ Hid (xs.take i = ys.take i ∧ Below w.heap.size w wr)) (fun vi _ => n - (intOf vi).toNat)
    case atStart => exact ⟨0, rfl, by omega, rfl, Below.refl _ _⟩
    case round =>
      obtain ⟨i, rfl, hi, hr⟩ := hrel
      by_cases hin : i < n
      · obtain ⟨g1, o1, g2, o2, x, y, rfl, rfl, l1, l2, e1, e2, k1, k2⟩ := HI.out i hin
        have k1' : wr.cell? ⟨g1, o1 + i, none⟩ = some (.int .i64 x) := (hr.out.2.cell (p := ⟨g1, o1 + i, none⟩) l1).trans k1
        have k2' : wr.cell? ⟨g2, o2 + i, none⟩ = some (.int .i64 y) := (hr.out.2.cell (p := ⟨g2, o2 + i, none⟩) l2).trans k2
        have hin' : (i : Int) < n := by omega
        have E1 : Hid _ := e1
        have E2 : Hid _ := e2
        clear k1 k2 HI e1 e2 l1 l2
        by_cases hxy : x = y
        · subst hxy
          have HT : Hid _ := take_next hr.out.1 E1.out E2.out
          clear E1 E2
          go_wp2
          go_quiet (fail)
          go_wp2
          go_roundw
          case rel => exact ⟨i + 1, by first | rfl | (congr 1; omega), by omega, HT.out, by first | exact hr.out.2 | exact hr.out.2.trans ⟨rfl, rfl, rfl, Nat.le_refl _, fun _ _ => rfl⟩⟩
          case measure => simp [intOf]; omega
        · have HX : Hid (R = false) := HR.out.trans (HD.out i x y E1.out E2.out hxy)
          clear E1 E2
          go_wp2
          go_quiet (fail)
          go_wp2
          go_ret
          exact ⟨ret_bool HX.out.symm, by first | exact hr.out.2 | exact hr.out.2.trans ⟨rfl, rfl, rfl, Nat.le_refl _, fun _ _ => rfl⟩⟩
      · obtain rfl : i = n := by omega
        have HX : Hid (R = true) := HR.out.trans (HE.out hr.out.1)
        clear HI
        go_wp2
        go_ret
        exact ⟨ret_bool HX.out.symm, hr.out.2⟩
  · have hne : decide (xs = ys) = false := decide_eq_false (fun he => hl (by rw [he]))
    rw [hne]
    have hl' : ¬ (xs.length : Int) = (ys.length : Int) := by omega
    clear q1 q2 hl hne hx
    go_enter Tryz.func25, Tryz.ntmps25
    go_wp2
    go_ret
    exact ⟨rfl, Below.refl _ _⟩
end Go.Proofs.YtbejgachdhfakaaGreatDoor
/- A node's kids: as many as its kind has, of the right kinds. -/
namespace Go.Proofs.YtbejgachdhfakaaGreatDoor
open Go.RowKit

theorem node_kind {w : World} {g o : Nat} {kvs : List Value} {ns : List Nr} (h : NodesAt w g o kvs ns) {m : Nat} (hm : m < ns.length) : w.cell? ⟨g, o + m * 8, none⟩ = some (.int .u8 (nodeAt ns (m : Int)).kind) := by
  have e1 : ns[m]? = some (nodeAt ns (m : Int)) := by
    unfold nodeAt
    rw [Int.toNat_natCast, List.getD, List.getElem?_eq_getElem hm]; rfl
  have e2 : kvs[m]? = some (kvs[m]'(by rw [h.len]; exact hm)) := List.getElem?_eq_getElem _
  have := h.cell m _ _ e1 e2 0 _ rfl
  rw [Nat.mul_comm m 8]
  exact this
set_option maxRecDepth 100000 in
set_option maxHeartbeats 1000000 in
theorem rightKids_at (ns : List Nr) (g og c : Nat) (kvs : List Value) (k : Nat) (p : Int) (nm : ByteArray) (t o b z : Int) (ka : Option Addr) (kc : Nat) (ks : List Int) (w : World) (hk : k ≤ 21) (hN : NodesAt w g og kvs ns) (hS : ShapesAt w) (h0 : 0 < w.heap.size)
    (hK : IntsAt w (.slice ka ks.length kc) ks) (hr : ∀ x ∈ ks, 0 ≤ x ∧ x < ns.length) (hl : ks.length < 4611686018427387904) :
    Calls Tryz.prog 27 #[.slice (some ⟨g, og, none⟩) ns.length c, nV k p nm t o b z ka ks.length kc] w fun e w' => e = .returned (.bool (decide ((shapeOf k).2.2.2.2.1 ≤ ks.length) && decide (ks.length ≤ (shapeOf k).2.2.2.2.2) && standAll ns ((shapeOf k).2.2.2.1 : Int) ((shapeOf k).2.2.1 : Int) ks)) ∧ Below w.heap.size w w' := by
  obtain ⟨c0, c1, c2, c3, c4, c5⟩ := shape_cells hS hk
  have k1 : (k : Int) < 22 := by omega
  have hg := hN.lt
  generalize (shapeOf k).1 = sn at c0
  generalize (shapeOf k).2.1 = st at c1
  generalize ((shapeOf k).2.2.1 : Int) = s2 at c2 ⊢
  generalize ((shapeOf k).2.2.2.1 : Int) = s3 at c3 ⊢
  generalize (shapeOf k).2.2.2.2.1 = s4 at c4 ⊢
  generalize (shapeOf k).2.2.2.2.2 = s5 at c5 ⊢
  have hB : Below w.heap.size w ((w.alloc (.cells (nArr k p nm t o b z ka ks.length kc) 46)).alloc (.cells #[.bool sn, .bool st, .int .u8 s2, .int .u8 s3, .int .i64 s4, .int .i64 s5] 131)) := ((Below.refl _ _).alloc (Nat.le_refl _) _).alloc (by simp) _
  have HB : Hid _ := hB
  have HI : Hid (∀ i, i < ks.length → ∃ g1 o1 m, ka = some ⟨g1, o1, none⟩ ∧ g1 < w.heap.size ∧ ks[i]? = some ((m : Nat) : Int) ∧ m < ns.length ∧ w.cell? ⟨g1, o1 + i, none⟩ = some (.int .i64 (m : Int)) ∧ w.cell? ⟨g, og + m * 8, none⟩ = some (.int .u8 (nodeAt ns (m : Int)).kind)) := fun i hi => by
    have e1 : ks[i]? = some ks[i] := List.getElem?_eq_getElem hi
    obtain ⟨hm0, hm1⟩ := hr _ (List.getElem_mem hi)
    obtain ⟨m, hm⟩ := Int.eq_ofNat_of_zero_le hm0
    rw [hm] at e1 hm1
    obtain ⟨a1, cc, hv, q⟩ := hK
    cases hv
    rcases q with rfl | ⟨g1, o1, rfl, l1, q1⟩
    · simp at hi
    · exact ⟨g1, o1, m, rfl, l1, e1, by omega, q1 i _ e1, node_kind hN (by omega)⟩
  have HST := stands_any
  clear hN hS hK hr hB
  by_cases h4 : ¬ s4 ≤ ks.length
  · rw [decide_eq_false h4, Bool.false_and, Bool.false_and]
    have h4' : (ks.length : Int) < s4 := by omega
    clear HI HST
    go_enter Tryz.func27, Tryz.ntmps27
    go_wp2
    go_ret
    exact ⟨rfl, HB.out⟩
  replace h4 : s4 ≤ ks.length := by omega
  by_cases h5 : ¬ ks.length ≤ s5
  · rw [decide_eq_true h4, decide_eq_false h5, Bool.true_and, Bool.false_and]
    have h4' : ¬ (ks.length : Int) < s4 := by omega
    have h5' : (s5 : Int) < ks.length := by omega
    clear HI HST
    go_enter Tryz.func27, Tryz.ntmps27
    go_wp2
    go_ret
    exact ⟨rfl, HB.out⟩
  replace h5 : ks.length ≤ s5 := by omega
  rw [decide_eq_true h4, decide_eq_true h5, Bool.true_and, Bool.true_and]
  have h4' : ¬ (ks.length : Int) < s4 := by omega
  have h5' : ¬ (s5 : Int) < ks.length := by omega
  obtain ⟨R, hR⟩ : ∃ R, R = standAll ns s3 s2 ks := ⟨_, rfl⟩
  rw [← hR]
  have HR : Hid (R = standAll ns s3 s2 (ks.drop 0)) := hR
  clear hR h4 h5
  go_enter Tryz.func27, Tryz.ntmps27
  go_wp2
  go_loop [6, 32] (fun vw vi => ∃ (i : Nat) (s : Int), vw = .int .u8 s ∧ vi = .int .i64 i ∧ i ≤ ks.length ∧ Hid (R = standAll ns s3 s (ks.drop i))) (fun _ vi => ks.length - (intOf vi).toNat)
  case atStart => exact ⟨0, s2, rfl, rfl, by omega, HR.out⟩
  case round =>
    obtain ⟨i, s, rfl, rfl, hi, hr⟩ := hrel
    by_cases hin : i < ks.length
    · obtain ⟨g1, o1, m, rfl, l1, e1, hm, q1, q2⟩ := HI.out i hin
      have hin' : (i : Int) < ks.length := by omega
      have hd : ks.drop i = (m : Int) :: ks.drop (i + 1) := by
        rw [List.getElem?_eq_getElem hin] at e1
        rw [← Option.some.inj e1]
        exact List.drop_eq_getElem_cons hin
      have HX : Hid (R = (standsB (nodeAt ns (m : Int)).kind s && standAll ns s3 s3 (ks.drop (i + 1)))) := by
        have := hr.out
        rw [hd] at this
        exact this
      have hm' : (m : Int) < ns.length := by omega
      generalize (nodeAt ns (m : Int)).kind = kd at q2 HX
      clear HI hr hd e1 HR
      cases hst : standsB kd s with
      | false =>
        have HS1 : ∀ W, Calls Tryz.prog 55 #[.int .u8 kd, .int .u8 s] W fun e w' => e = .returned (.bool false) ∧ w' = W := fun W => by have := HST kd s W; rwa [hst] at this
        have HY : Hid (R = false) := by have := HX.out; rw [hst] at this; exact this
        clear HST HX hst
        go_wp2_with (go_at_call 55; refine (HS1 _).mono ?_; rintro e w' ⟨rfl, rfl⟩)
        go_ret
        exact ⟨ret_bool HY.out.symm, HB.out⟩
      | true =>
        have HS1 : ∀ W, Calls Tryz.prog 55 #[.int .u8 kd, .int .u8 s] W fun e w' => e = .returned (.bool true) ∧ w' = W := fun W => by have := HST kd s W; rwa [hst] at this
        have HY : Hid (R = standAll ns s3 s3 (ks.drop (i + 1))) := by have := HX.out; rw [hst, Bool.true_and] at this; exact this
        clear HST HX hst
        go_wp2_with (go_at_call 55; refine (HS1 _).mono ?_; rintro e w' ⟨rfl, rfl⟩)
        refine ⟨⟨i + 1, s3, rfl, by first | rfl | (congr 1; omega), by omega, HY.out⟩, by simp [intOf]; omega⟩
    · obtain rfl : i = ks.length := by omega
      have HY : Hid (R = true) := by have := hr.out; rw [List.drop_length] at this; exact this
      clear HI hr HR HST
      go_wp2
      go_ret
      exact ⟨ret_bool HY.out.symm, HB.out⟩
end Go.Proofs.YtbejgachdhfakaaGreatDoor
/- How much is open at once within a node. -/
namespace Go.Proofs.YtbejgachdhfakaaGreatDoor
open Go.RowKit

theorem node_cells {w : World} {g o : Nat} {kvs : List Value} {ns : List Nr} (h : NodesAt w g o kvs ns) {m : Nat} (hm : m < ns.length) : ∃ ka kc, w.cell? ⟨g, o + m * 8, none⟩ = some (.int .u8 (nodeAt ns (m : Int)).kind) ∧ w.cell? ⟨g, o + m * 8 + 1, none⟩ = some (.int .i64 (nodeAt ns (m : Int)).pl) ∧ w.cell? ⟨g, o + m * 8 + 2, none⟩ = some (.string (nodeAt ns (m : Int)).name) ∧ w.cell? ⟨g, o + m * 8 + 3, none⟩ = some (.int .u8 (nodeAt ns (m : Int)).typ) ∧ w.cell? ⟨g, o + m * 8 + 4, none⟩ = some (.int .u8 (nodeAt ns (m : Int)).op) ∧ w.cell? ⟨g, o + m * 8 + 5, none⟩ = some (.int .u64 (nodeAt ns (m : Int)).bits) ∧ w.cell? ⟨g, o + m * 8 + 6, none⟩ = some (.int .i64 (nodeAt ns (m : Int)).size) ∧ w.cell? ⟨g, o + m * 8 + 7, none⟩ = some (.slice ka (nodeAt ns (m : Int)).kids.length kc) ∧ IntsAt w (.slice ka (nodeAt ns (m : Int)).kids.length kc) (nodeAt ns (m : Int)).kids := by
  have e1 : ns[m]? = some (nodeAt ns (m : Int)) := by
    unfold nodeAt
    rw [Int.toNat_natCast, List.getD, List.getElem?_eq_getElem hm]; rfl
  have e2 : kvs[m]? = some (kvs[m]'(by rw [h.len]; exact hm)) := List.getElem?_eq_getElem _
  have hc := h.cell m _ _ e1 e2
  have hk := h.kid m _ _ e1 e2
  generalize kvs[m]'(by rw [h.len]; exact hm) = kv at hc hk
  obtain ⟨ka, kc, rfl, hq⟩ := hk
  rw [Nat.mul_comm m 8]
  exact ⟨ka, kc, hc 0 _ rfl, hc 1 _ rfl, hc 2 _ rfl, hc 3 _ rfl, hc 4 _ rfl, hc 5 _ rfl, hc 6 _ rfl, hc 7 _ rfl, ka, kc, rfl, hq⟩
theorem max_nat (a b : Nat) : (if (a : Int) ≤ (b : Int) then (b : Int) else (a : Int)) = ((max a b : Nat) : Int) := by
  by_cases h : a ≤ b
  · rw [if_pos (by omega), Nat.max_eq_right h]
  · rw [if_neg (by omega), Nat.max_eq_left (by omega)]
set_option maxRecDepth 100000 in
set_option maxHeartbeats 2000000 in
theorem opens_at (ns : List Nr) (g og c : Nat) (kvs : List Value) (gs os0 cs : Nat) (os : List Nat) (N : Nat) (k p : Int) (nm : ByteArray) (t o b z : Int) (ka : Option Addr) (kc : Nat) (ks : List Int) (w : World) (hN : NodesAt w g og kvs ns) (hO : OpsAt w 1) (h1 : 1 < w.heap.size)
    (hgs : gs < w.heap.size) (hos : ∀ (j : Nat) (x : Nat), os[j]? = some x → w.cell? ⟨gs, os0 + j, none⟩ = some (.int .i64 (x : Int))) (hNs : os.length ≤ N) (hb : ∀ x ∈ os, x ≤ 1000000000)
    (hK : IntsAt w (.slice ka ks.length kc) ks) (hr : ∀ x ∈ ks, 0 ≤ x ∧ x < ns.length ∧ x < os.length) (hl : ks.length < 4611686018427387904) :
    Calls Tryz.prog 28 #[.slice (some ⟨g, og, none⟩) ns.length c, .slice (some ⟨gs, os0, none⟩) N cs, nV k p nm t o b z ka ks.length kc] w fun e w' => e = .returned (.int .i64 ((opensF ns os (rankI k o) 0 0 ks + if opensK k = true then 1 else 0 : Nat) : Int)) ∧ Below w.heap.size w w' := by
  have HP : Hid (∀ (W : World) (k' p' : Int) (nm' : ByteArray) (t' o' b' z' : Int) (ka' : Option Addr) (kn' kc' : Nat) (i : Int), Below w.heap.size w W → Calls Tryz.prog 56 #[nV k p nm t o b z ka ks.length kc, nV k' p' nm' t' o' b' z' ka' kn' kc', .int .i64 i] W fun e w' => e = .returned (.bool (parenB (rankI k o) (rankI k' o') i)) ∧ Below W.heap.size W w') := fun W k' p' nm' t' o' b' z' ka' kn' kc' i hb =>
    paren_any k p nm t o b z ka ks.length kc k' p' nm' t' o' b' z' ka' kn' kc' i W (fun i e he => by
      have hx : ∀ j, W.cell? ⟨1, j, none⟩ = w.cell? ⟨1, j, none⟩ := fun j => hb.cell (p := ⟨1, j, none⟩) h1
      rw [hx, hx, hx, hx]
      exact hO i e he) (Nat.lt_of_lt_of_le h1 hb.size)
  have HI : Hid (∀ i, i < ks.length → ∃ g1 o1 m, ka = some ⟨g1, o1, none⟩ ∧ g1 < w.heap.size ∧ ks[i]? = some ((m : Nat) : Int) ∧ m < ns.length ∧ m < os.length ∧ w.cell? ⟨g1, o1 + i, none⟩ = some (.int .i64 (m : Int)) ∧ w.cell? ⟨gs, os0 + m, none⟩ = some (.int .i64 (os.getD m 0 : Nat)) ∧ os.getD m 0 ≤ 1000000000) := fun i hi => by
    have e1 : ks[i]? = some ks[i] := List.getElem?_eq_getElem hi
    obtain ⟨hm0, hm1, hm2⟩ := hr _ (List.getElem_mem hi)
    obtain ⟨m, hm⟩ := Int.eq_ofNat_of_zero_le hm0
    rw [hm] at e1 hm1 hm2
    obtain ⟨a1, cc, hv, q⟩ := hK
    cases hv
    have hmo : m < os.length := by omega
    have eo : os[m]? = some (os.getD m 0) := by rw [List.getD, List.getElem?_eq_getElem hmo]; rfl
    rcases q with rfl | ⟨g1, o1, rfl, l1, q1⟩
    · simp at hi
    · exact ⟨g1, o1, m, rfl, l1, e1, by omega, hmo, q1 i _ e1, hos m _ eo, hb _ (List.mem_of_getElem? eo)⟩
  have HNC : Hid (∀ m, m < ns.length → _) := fun m hm => node_cells hN hm
  have hg := hN.lt
  have H0 : Hid (Below w.heap.size w (w.alloc (.cells (nArr k p nm t o b z ka ks.length kc) 46)) ∧ Box (w.alloc (.cells (nArr k p nm t o b z ka ks.length kc) 46)) w.heap.size [.int .u8 k, .int .i64 p, .string nm, .int .u8 t, .int .u8 o, .int .u64 b, .int .i64 z, .slice ka ks.length kc]) := ⟨nBelow _ _ _, Box.new w _ 46⟩
  obtain ⟨r, hrk⟩ : ∃ r, r = rankI k o := ⟨_, rfl⟩
  rw [← hrk] at HP ⊢
  obtain ⟨R, hR⟩ : ∃ R, R = opensF ns os r 0 0 ks := ⟨_, rfl⟩
  rw [← hR]
  have HR : Hid (R = opensF ns os r 0 0 (ks.drop 0)) := hR
  obtain ⟨S, hS⟩ : ∃ S : Nat, S = R + if opensK k = true then 1 else 0 := ⟨_, rfl⟩
  rw [← hS]
  have HS : Hid _ := hS
  clear hS hR hrk hN hO hos hK hr hb
  go_enter Tryz.func28, Tryz.ntmps28
  go_wp2
  go_loopw [7, 14] (fun vm vi wr => ∃ i most : Nat, vm = .int .i64 most ∧ vi = .int .i64 i ∧ i ≤ ks.length ∧ Hid (R = opensF ns os r most i (ks.drop i) ∧ most ≤ 1000000001 ∧ Below w.heap.size w wr ∧ Box wr w.heap.size [.int .u8 k, .int .i64 p, .string nm, .int .u8 t, .int .u8 o, .int .u64 b, .int .i64 z, .slice ka ks.length kc])) (fun _ vi _ => ks.length - (intOf vi).toNat)
  case atStart => exact ⟨0, 0, rfl, rfl, by omega, HR.out, by omega, H0.out.1, H0.out.2⟩
  case round =>
    obtain ⟨i, most, rfl, rfl, hi, hq⟩ := hrel
    clear HR H0
    by_cases hin : i < ks.length
    · obtain ⟨g1, o1, m, rfl, l1, e1, hmn, hmo, q1, q2, q3⟩ := HI.out i hin
      have hin' : (i : Int) < ks.length := by omega
      have hd : ks.drop i = (m : Int) :: ks.drop (i + 1) := by
        rw [List.getElem?_eq_getElem hin] at e1
        rw [← Option.some.inj e1]
        exact List.drop_eq_getElem_cons hin
      obtain ⟨kka, kkc, n0, n1, n2, n3, n4, n5, n6, n7, _⟩ := HNC.out m hmn
      have c1 : wr.cell? ⟨g1, o1 + i, none⟩ = some (.int .i64 (m : Int)) := (hq.out.2.2.1.cell (p := ⟨g1, o1 + i, none⟩) l1).trans q1
      have c2 : wr.cell? ⟨gs, os0 + m, none⟩ = some (.int .i64 (os.getD m 0 : Nat)) := (hq.out.2.2.1.cell (p := ⟨gs, os0 + m, none⟩) hgs).trans q2
      have cc : ∀ j, wr.cell? ⟨g, j, none⟩ = w.cell? ⟨g, j, none⟩ := fun j => hq.out.2.2.1.cell (p := ⟨g, j, none⟩) hg
      rw [← cc] at n0 n1 n2 n3 n4 n5 n6 n7
      obtain ⟨b0, b1, b2, b3, b4, b5, b6, b7⟩ := box8 hq.out.2.2.2
      have hlt := hq.out.2.2.2.lt
      have hmn' : (m : Int) < ns.length := by omega
      have hmo' : (m : Int) < N := by omega
      have HX : Hid (R = opensF ns os r (max most (os.getD m 0 + if parenB r (rankI (nodeAt ns (m : Int)).kind (nodeAt ns (m : Int)).op) (i : Int) = true then 1 else 0)) (i + 1) (ks.drop (i + 1))) := by
        have := hq.out.1
        rw [hd] at this
        exact this
      have HP2 := fun W hb => HP.out W (nodeAt ns (m : Int)).kind (nodeAt ns (m : Int)).pl (nodeAt ns (m : Int)).name (nodeAt ns (m : Int)).typ (nodeAt ns (m : Int)).op (nodeAt ns (m : Int)).bits (nodeAt ns (m : Int)).size kka (nodeAt ns (m : Int)).kids.length kkc (i : Int) hb
      have HBR : Hid _ := hq.out.2.2.1
      have HBX : Hid _ := hq.out.2.2.2
      have HMO : Hid (most ≤ 1000000001) := hq.out.2.1
      clear HI HNC q1 q2 cc e1 hd hq HP
      generalize parenB r (rankI (nodeAt ns (m : Int)).kind (nodeAt ns (m : Int)).op) (i : Int) = pb at HX HP2
      generalize os.getD m 0 = ov at c2 HX q3
      generalize (nodeAt ns (m : Int)).kind = y0 at *
      generalize (nodeAt ns (m : Int)).pl = y1 at *
      generalize (nodeAt ns (m : Int)).name = y2 at *
      generalize (nodeAt ns (m : Int)).typ = y3 at *
      generalize (nodeAt ns (m : Int)).op = y4 at *
      generalize (nodeAt ns (m : Int)).bits = y5 at *
      generalize (nodeAt ns (m : Int)).size = y6 at *
      generalize (nodeAt ns (m : Int)).kids.length = y7 at *
      have HP3 : Hid _ := HP2
      clear HP2
      have dr : Hid (Below w.heap.size w wr.drew) := HBR.out.trans ⟨rfl, rfl, rfl, Nat.le_refl _, fun _ _ => rfl⟩
      go_wp2
      go_region_with (go_at_call 56; refine Calls.mono (by exact HP3.out _ dr.out) ?_; rintro e w1 ⟨rfl, hb1⟩; have HB1 : Hid (Below w.heap.size w w1) := dr.out.trans (hb1.mono dr.out.size); have HBX1 : Hid _ := HBX.out.below (w' := w1) ⟨hb1.os, hb1.tape, hb1.output, hb1.size, hb1.block⟩; clear hb1)
      all_goals
        cases pb with
        | false =>
          have HY : Hid (R = opensF ns os r (max most ov) (i + 1) (ks.drop (i + 1))) := HX.out
          clear HP3 HX
          go_wp2
          go_roundw
          case rel => exact ⟨i + 1, max most ov, by first | rfl | exact congrArg _ (max_nat _ _), by first | rfl | (congr 1; omega), by omega, HY.out, by have := HMO.out; omega, HB1.out, HBX1.out⟩
          case measure => simp [intOf]; omega
        | true =>
          have HY : Hid (R = opensF ns os r (max most (ov + 1)) (i + 1) (ks.drop (i + 1))) := HX.out
          have hov : (ov : Int) ≤ 1000000000 := by omega
          clear HP3 HX
          go_wp2
          go_roundw
          case rel => exact ⟨i + 1, max most (ov + 1), by first | rfl | exact congrArg _ (max_nat _ _), by first | rfl | (congr 1; omega), by omega, HY.out, by have := HMO.out; omega, HB1.out, HBX1.out⟩
          case measure => simp [intOf]; omega
    · obtain rfl : i = ks.length := by omega
      have HY : Hid (R = most) := by have := hq.out.1; rw [List.drop_length] at this; exact this
      have HBR : Hid (Below w.heap.size w wr) := hq.out.2.2.1
      have b0 := hq.out.2.2.2.cell 0 _ rfl
      have hmo : (most : Int) ≤ 1000000001 := by have := hq.out.2.1; omega
      clear HI HNC HP hq
      by_cases k3 : k = 3
      · subst k3
        go_wp2
        go_ret
        exact ⟨ret_int (by rw [HS.out, HY.out] <;> simp [opensK]), HBR.out⟩
      by_cases k4 : k = 4
      · subst k4
        go_wp2
        go_ret
        exact ⟨ret_int (by rw [HS.out, HY.out] <;> simp [opensK]), HBR.out⟩
      by_cases k5 : k = 5
      · subst k5
        go_wp2
        go_ret
        exact ⟨ret_int (by rw [HS.out, HY.out] <;> simp [opensK]), HBR.out⟩
      by_cases k6 : k = 6
      · subst k6
        go_wp2
        go_ret
        exact ⟨ret_int (by rw [HS.out, HY.out] <;> simp [opensK]), HBR.out⟩
      by_cases k21 : k = 21
      · subst k21
        go_wp2
        go_ret
        exact ⟨ret_int (by rw [HS.out, HY.out] <;> simp [opensK]), HBR.out⟩
      go_wp2
      go_ret
      exact ⟨ret_int (by rw [HS.out, HY.out]; simp [opensK, k3, k4, k5, k6, k21]), HBR.out⟩
end Go.Proofs.YtbejgachdhfakaaGreatDoor
/- A function's head. -/
namespace Go.Proofs.YtbejgachdhfakaaGreatDoor
open Go.RowKit

/-- A row of parameters that is read. -/
def ParsAt (w : World) (v : Value) (ps : List (ByteArray × Int × Int)) : Prop := ∃ a c, v = .slice a ps.length c ∧ (ps = [] ∨ ∃ g o, a = some ⟨g, o, none⟩ ∧ g < w.heap.size ∧ ∀ (j : Nat) (p : ByteArray × Int × Int), ps[j]? = some p → w.cell? ⟨g, o + j * 3, none⟩ = some (.string p.1) ∧ w.cell? ⟨g, o + j * 3 + 1, none⟩ = some (.int .i64 p.2.1) ∧ w.cell? ⟨g, o + j * 3 + 2, none⟩ = some (.int .u8 p.2.2))
theorem ParsAt.below {w w' : World} {v : Value} {ps : List (ByteArray × Int × Int)} (h : ParsAt w v ps) (hb : Below w.heap.size w w') : ParsAt w' v ps := by
  obtain ⟨a, c, hv, hc⟩ := h
  refine ⟨a, c, hv, ?_⟩
  rcases hc with h0 | ⟨g, o, ha, hg, hc⟩
  · exact .inl h0
  · refine .inr ⟨g, o, ha, Nat.lt_of_lt_of_le hg hb.size, fun j k hk => ?_⟩
    have hx : ∀ q, w'.cell? ⟨g, q, none⟩ = w.cell? ⟨g, q, none⟩ := fun q => hb.cell (p := ⟨g, q, none⟩) hg
    rw [hx, hx, hx]
    exact hc j k hk
set_option maxRecDepth 100000 in
set_option maxHeartbeats 2000000 in
theorem rightHead_at (nm : ByteArray) (pl res body : Int) (ka : Option Addr) (kc : Nat) (ps : List (ByteArray × Int × Int)) (w : World) (hP : ParsAt w (.slice ka ps.length kc) ps) (hs : nm.size ≤ maxLen) (hps : ∀ p ∈ ps, p.1.size ≤ maxLen) (hl : ps.length < 1152921504606846976) :
    Calls Tryz.prog 29 #[.agg #[.string nm, .int .i64 pl, .slice ka ps.length kc, .int .u8 res, .int .i64 body]] w fun e w' => e = .returned (.bool (parsB ps && (nameB nm && typedB res))) ∧ Below w.heap.size w w' := by
  have HN : Hid (∀ (W : World) (s : ByteArray), s.size ≤ maxLen → Calls Tryz.prog 50 #[.string s] W fun e w' => e = .returned (.bool (nameB s)) ∧ Below W.heap.size W w') := fun W s hs => rightName_any s W hs
  have HT : Hid (∀ (t : Int) (W : World), Calls Tryz.prog 51 #[.int .u8 t] W fun e w' => e = .returned (.bool (typedB t)) ∧ w' = W) := rightType_any
  have HI : Hid (∀ i, i < ps.length → ∃ g1 o1 q, ka = some ⟨g1, o1, none⟩ ∧ g1 < w.heap.size ∧ ps[i]? = some q ∧ q.1.size ≤ maxLen ∧ w.cell? ⟨g1, o1 + i * 3, none⟩ = some (.string q.1) ∧ w.cell? ⟨g1, o1 + i * 3 + 1, none⟩ = some (.int .i64 q.2.1) ∧ w.cell? ⟨g1, o1 + i * 3 + 2, none⟩ = some (.int .u8 q.2.2)) := fun i hi => by
    have e1 : ps[i]? = some ps[i] := List.getElem?_eq_getElem hi
    obtain ⟨a1, cc, hv, q⟩ := hP
    cases hv
    rcases q with rfl | ⟨g1, o1, rfl, l1, q1⟩
    · simp at hi
    · exact ⟨g1, o1, ps[i], rfl, l1, e1, hps _ (List.getElem_mem hi), (q1 i _ e1).1, (q1 i _ e1).2.1, (q1 i _ e1).2.2⟩
  have H0 : Hid (Below w.heap.size w (w.alloc (.cells #[.string nm, .int .i64 pl, .slice ka ps.length kc, .int .u8 res, .int .i64 body] 49)) ∧ Box (w.alloc (.cells #[.string nm, .int .i64 pl, .slice ka ps.length kc, .int .u8 res, .int .i64 body] 49)) w.heap.size [.string nm, .int .i64 pl, .slice ka ps.length kc, .int .u8 res, .int .i64 body]) := ⟨nBelow _ _ _, Box.new w _ 49⟩
  obtain ⟨R, hR⟩ : ∃ R, R = (parsB ps && (nameB nm && typedB res)) := ⟨_, rfl⟩
  rw [← hR]
  have HR : Hid (R = (parsB (ps.drop 0) && (nameB nm && typedB res))) := hR
  have HSZ : Hid (nm.size ≤ maxLen) := hs
  clear hR hP hps hs
  go_enter Tryz.func29, Tryz.ntmps29
  go_wp2
  go_loopw [8] (fun vi wr => ∃ i : Nat, vi = .int .i64 i ∧ i ≤ ps.length ∧ Hid (R = (parsB (ps.drop i) && (nameB nm && typedB res)) ∧ Below w.heap.size w wr ∧ Box wr w.heap.size [.string nm, .int .i64 pl, .slice ka ps.length kc, .int .u8 res, .int .i64 body])) (fun vi _ => ps.length - (intOf vi).toNat)
  case atStart => exact ⟨0, rfl, by omega, HR.out, H0.out.1, H0.out.2⟩
  case round =>
    obtain ⟨i, rfl, hi, hq⟩ := hrel
    clear HR H0
    by_cases hin : i < ps.length
    · obtain ⟨g1, o1, q, rfl, l1, e1, hqs, q1, q2, q3⟩ := HI.out i hin
      have hin' : (i : Int) < ps.length := by omega
      have hd : ps.drop i = q :: ps.drop (i + 1) := by
        rw [List.getElem?_eq_getElem hin] at e1
        rw [← Option.some.inj e1]
        exact List.drop_eq_getElem_cons hin
      have HX : Hid (R = ((nameB q.1 && typedB q.2.2) && parsB (ps.drop (i + 1)) && (nameB nm && typedB res))) := by
        have := hq.out.1
        rw [hd] at this
        exact this
      have hx : ∀ j, wr.cell? ⟨g1, j, none⟩ = w.cell? ⟨g1, j, none⟩ := fun j => hq.out.2.1.cell (p := ⟨g1, j, none⟩) l1
      rw [← hx] at q1 q2 q3
      have HBR : Hid _ := hq.out.2.1
      have HBX : Hid _ := hq.out.2.2
      obtain ⟨q0, p1, t1⟩ := q
      dsimp only at q1 q2 q3 hqs HX
      have HQS : Hid _ := hqs
      clear HI hx e1 hd hq hqs
      have HA : Hid (Below wr.heap.size wr (wr.alloc (.cells #[.string q0, .int .i64 p1, .int .u8 t1] 84))) := nBelow _ _ _
      have HAB : Hid (Box (wr.alloc (.cells #[.string q0, .int .i64 p1, .int .u8 t1] 84)) wr.heap.size [.string q0, .int .i64 p1, .int .u8 t1]) := Box.new wr _ 84
      have HN1 : Hid (∀ W, Calls Tryz.prog 50 #[.string q0] W fun e w' => e = .returned (.bool (nameB q0)) ∧ Below W.heap.size W w') := fun W => HN.out W q0 HQS.out
      have HT1 : Hid (∀ W, Calls Tryz.prog 51 #[.int .u8 t1] W fun e w' => e = .returned (.bool (typedB t1)) ∧ w' = W) := HT.out t1
      cases hnb : nameB q0 with
      | false =>
        have HY : Hid (R = false) := by have := HX.out; rw [hnb] at this; simp at this; exact this
        rw [hnb] at HN1
        clear HX HT HN HT1 hnb
        go_wp2_with (go_at_call 50; refine Calls.mono (by exact HN1.out _) ?_; rintro e w1 ⟨rfl, hb1⟩; have HB1 : Hid (Below w.heap.size w w1) := (HBR.out.trans (HA.out.mono HBR.out.size)).trans (hb1.mono (Nat.le_trans HBR.out.size HA.out.size)); have c2 := (HAB.out.below hb1).cell 2 _ rfl; clear hb1)
        go_ret
        exact ⟨ret_bool HY.out.symm, HB1.out⟩
      | true =>
        rw [hnb] at HN1
        cases htb : typedB t1 with
        | false =>
          have HY : Hid (R = false) := by have := HX.out; rw [hnb, htb] at this; simp at this; exact this
          rw [htb] at HT1
          clear HX HT HN hnb htb
          go_wp2_with (first | (go_at_call 50; refine Calls.mono (by exact HN1.out _) ?_; rintro e w1 ⟨rfl, hb1⟩; have HB1 : Hid (Below w.heap.size w w1) := (HBR.out.trans (HA.out.mono HBR.out.size)).trans (hb1.mono (Nat.le_trans HBR.out.size HA.out.size)); have c2 := (HAB.out.below hb1).cell 2 _ rfl; clear hb1) | (go_at_call 51; refine Calls.mono (by exact HT1.out _) ?_; rintro e w' ⟨rfl, rfl⟩))
          go_ret
          exact ⟨ret_bool HY.out.symm, HB1.out⟩
        | true =>
          have HY : Hid (R = (parsB (ps.drop (i + 1)) && (nameB nm && typedB res))) := by have := HX.out; rw [hnb, htb] at this; simp at this; exact this
          rw [htb] at HT1
          clear HX HT HN hnb htb
          go_wp2_with (first | (go_at_call 50; refine Calls.mono (by exact HN1.out _) ?_; rintro e w1 ⟨rfl, hb1⟩; have HB1 : Hid (Below w.heap.size w w1) := (HBR.out.trans (HA.out.mono HBR.out.size)).trans (hb1.mono (Nat.le_trans HBR.out.size HA.out.size)); have c2 := (HAB.out.below hb1).cell 2 _ rfl; have HBX1 : Hid _ := (HBX.out.below HA.out).below hb1; clear hb1) | (go_at_call 51; refine Calls.mono (by exact HT1.out _) ?_; rintro e w' ⟨rfl, rfl⟩))
          go_roundw
          case rel => exact ⟨i + 1, by first | rfl | (congr 1; omega), by omega, HY.out, HB1.out, HBX1.out⟩
          case measure => simp [intOf]; omega
    · obtain rfl : i = ps.length := by omega
      have HY : Hid (R = (nameB nm && typedB res)) := by have := hq.out.1; rw [List.drop_length] at this; simp [parsB] at this; exact this
      have HBR : Hid _ := hq.out.2.1
      have HBX : Hid _ := hq.out.2.2
      have b0 := hq.out.2.2.cell 0 _ rfl
      have HN1 : Hid (∀ W, Calls Tryz.prog 50 #[.string nm] W fun e w' => e = .returned (.bool (nameB nm)) ∧ Below W.heap.size W w') := fun W => HN.out W nm HSZ.out
      have HT1 : Hid (∀ W, Calls Tryz.prog 51 #[.int .u8 res] W fun e w' => e = .returned (.bool (typedB res)) ∧ w' = W) := HT.out res
      clear HI hq HN HT
      cases hnb : nameB nm with
      | false =>
        have HZ : Hid (R = false) := by have := HY.out; rw [hnb] at this; simp at this; exact this
        rw [hnb] at HN1
        clear HY HT1 hnb
        go_wp2_with (go_at_call 50; refine Calls.mono (by exact HN1.out _) ?_; rintro e w1 ⟨rfl, hb1⟩; have HB1 : Hid (Below w.heap.size w w1) := HBR.out.trans (hb1.mono HBR.out.size); have c3 := (HBX.out.below hb1).cell 3 _ rfl; clear hb1)
        go_ret
        exact ⟨ret_bool HZ.out.symm, HB1.out⟩
      | true =>
        have HZ : Hid (R = typedB res) := by have := HY.out; rw [hnb] at this; simp at this; exact this
        rw [hnb] at HN1
        clear HY hnb
        go_wp2_with (first | (go_at_call 50; refine Calls.mono (by exact HN1.out _) ?_; rintro e w1 ⟨rfl, hb1⟩; have HB1 : Hid (Below w.heap.size w w1) := HBR.out.trans (hb1.mono HBR.out.size); have c3 := (HBX.out.below hb1).cell 3 _ rfl; clear hb1) | (go_at_call 51; refine Calls.mono (by exact HT1.out _) ?_; rintro e w' ⟨rfl, rfl⟩))
        go_ret
        exact ⟨ret_bool HZ.out.symm, HB1.out⟩
end Go.Proofs.YtbejgachdhfakaaGreatDoor
/- What stands while Right goes from node to node. -/
namespace Go.Proofs.YtbejgachdhfakaaGreatDoor
open Go.RowKit

/-- A row of the call's own, shorter. -/
theorem own_take {w : World} {base : Nat} {e : TypeId} {a : Option Addr} {n c : Nat} {xs : List Value} (h : w.ownsRow base e 1 (.slice a n c) n xs) {f : Nat} (hf : f ≤ n) : w.ownsRow base e 1 (.slice a f c) f (xs.take f) := by
  rcases h.2 with ⟨hv, h0⟩ | ⟨g, cap, cur, hv, hb, hg, h1, h2, h3, h4⟩
  · cases hv
    obtain rfl : f = 0 := by omega
    exact ⟨by simp, .inl ⟨rfl, rfl⟩⟩
  · cases hv
    refine ⟨by rw [List.length_take, h.1]; omega, .inr ⟨g, c, cur, rfl, hb, hg, by omega, h2, h3, ?_⟩⟩
    rw [← h4, List.take_take]
    congr 1
    omega
theorem ints_take (l : List Nat) (k : Nat) : (ints l).take k = ints (l.take k) := (List.map_take ..).symm
theorem ints_app (l m : List Nat) : ints (l ++ m) = ints l ++ ints m := List.map_append ..
/-- The ints behind a place of an own row. -/
theorem ints_drop {w : World} {base : Nat} {g c : Nat} {en : List Nat} (h : w.ownsRow base 3 1 (.slice (some ⟨g, 0, none⟩) en.length c) en.length (ints en)) {f : Nat} {a' : Option Addr} {n' c' : Nat} (hn : n' = en.length - f) (ha : n' = 0 ∨ a' = some ⟨g, f, none⟩) : IntsAt w (.slice a' n' c') (asInts (en.drop f)) := by
  have hl : (asInts (en.drop f)).length = n' := by simp; omega
  refine ⟨a', c', by rw [hl], ?_⟩
  rcases ha with h0 | rfl
  · left
    apply List.eq_nil_of_length_eq_zero
    omega
  · by_cases h0 : n' = 0
    · left
      apply List.eq_nil_of_length_eq_zero
      omega
    refine .inr ⟨g, f, rfl, (h.lt g rfl).2, fun j k hk => ?_⟩
    have hk' : en[f + j]? = some k.toNat ∧ (k.toNat : Int) = k := by
      rw [List.getElem?_map, List.getElem?_drop] at hk
      cases he : en[f + j]? with
      | none => rw [he] at hk; cases hk
      | some x =>
        rw [he] at hk
        simp at hk
        subst hk
        simp
    have := h.cells (g := g) rfl (f + j) (.int .i64 k) (by rw [List.getElem?_map, hk'.1]; simp [hk'.2])
    simpa [Addr.add_lit] using this
/-- Right's own memory: the tree's variable, the row of what has ended, the row of what is open. -/
structure RS (w wr : World) (nv fv : Value) (N : Nat) (v : Value) (en os : List Nat) (i : Nat) : Prop where
  bel : Below w.heap.size w wr
  sz : w.heap.size + 2 ≤ wr.heap.size
  tree : Box wr w.heap.size [nv, fv]
  own : wr.ownsRow (w.heap.size + 2) 3 1 v en.length (ints en)
  opn : wr.ownsRow (w.heap.size + 1) 3 1 (.slice (some ⟨w.heap.size + 1, 0, none⟩) N N) N (ints os ++ List.replicate (N - os.length) (.int .i64 0))
  hos : os.length = i
  hen : ∀ e ∈ en, e < i
  enl : en.length ≤ i
  hbd : ∀ x ∈ os, x ≤ 2 * i
theorem RS.below {w wr W : World} {nv fv v : Value} {N i : Nat} {en os : List Nat} (h : RS w wr nv fv N v en os i) (hb : Below wr.heap.size wr W) : RS w W nv fv N v en os i :=
  { h with
    bel := h.bel.trans (hb.mono h.bel.size)
    sz := Nat.le_trans h.sz hb.size
    tree := h.tree.below hb
    own := Sc.owns_below h.own hb
    opn := Sc.owns_below h.opn hb }
theorem set_zero (os : List Nat) (N x : Nat) (h : os.length < N) : (ints os ++ List.replicate (N - os.length) (Value.int .i64 0)).set os.length (.int .i64 (x : Int)) = ints (os ++ [x]) ++ List.replicate (N - (os ++ [x]).length) (Value.int .i64 0) := by
  have hl : (ints os).length = os.length := by simp
  rw [List.set_append_right _ _ (by rw [hl]; exact Nat.le_refl _), hl, Nat.sub_self]
  obtain ⟨k, hk⟩ : ∃ k, N - os.length = k + 1 := ⟨N - os.length - 1, by omega⟩
  rw [hk, List.replicate_succ, List.set_cons_zero, ints_app, List.append_assoc]
  congr 1
  have : N - (os ++ [x]).length = k := by rw [List.length_append]; simp only [List.length_cons, List.length_nil]; omega
  rw [this]
  rfl
theorem own_ge {w wr : World} {v : Value} {n : Nat} {xs : List Value} (h : wr.ownsRow (w.heap.size + 2) 3 1 v n xs) {k : Nat} (hk : k < w.heap.size + 2) : v.ownBlock ≠ some k := by
  intro hc
  have := (h.lt k hc).1
  omega
/-- One node more: what it opens is stored, it stands for its kids. -/
theorem RS.step {w wr W w5 : World} {nv fv v v' : Value} {N i x f : Nat} {en os : List Nat} (h : RS w wr nv fv N v en os i) (hN : i < N) (hx : x ≤ 2 * (i + 1)) (hf : f ≤ en.length)
    (hW : Below (wr.setCell ⟨w.heap.size + 1, i, none⟩ (.int .i64 (x : Int))).heap.size (wr.setCell ⟨w.heap.size + 1, i, none⟩ (.int .i64 (x : Int))) W) (hg : W.grownBy w5 v.ownBlock) (ho : w5.ownsRow (w.heap.size + 2) 3 1 v' (f + 1) (ints (en.take f) ++ [natV i])) :
    RS w w5 nv fv N v' (en.take f ++ [i]) (os ++ [x]) (i + 1) := by
  have hsz : (wr.setCell ⟨w.heap.size + 1, i, none⟩ (.int .i64 (x : Int))).heap.size = wr.heap.size := by simp [World.setCell]
  have hs := h.sz
  have hWs := hW.size
  rw [hsz] at hWs
  have hs5 := hg.size
  have hb5 : ∀ k, k < w.heap.size + 2 → k ≠ w.heap.size + 1 → w5.heap[k]? = wr.heap[k]? := fun k hk hne => by
    rw [hg.block k (by omega) (fun hc => own_ge h.own hk hc.symm), hW.block k (by omega), Below.heap_setCell _ _ _ _ hne]
  have hst := (h.opn.stored i (.int .i64 (x : Int))).1
  rw [show (ints os ++ List.replicate (N - os.length) (Value.int .i64 0)).set i (.int .i64 (x : Int)) = ints (os ++ [x]) ++ List.replicate (N - (os ++ [x]).length) (Value.int .i64 0) by rw [← h.hos]; exact set_zero os N x (by rw [h.hos]; exact hN)] at hst
  refine { bel := ⟨?_, ?_, ?_, by omega, ?_⟩, sz := by omega, tree := h.tree.same (hb5 _ (by omega) (by omega)), own := ?_, opn := ?_, hos := by simp [h.hos], hen := ?_, enl := ?_, hbd := ?_ }
  · exact hg.os.trans (hW.os.trans h.bel.os)
  · exact hg.tape.trans (hW.tape.trans h.bel.tape)
  · exact hg.output.trans (hW.output.trans h.bel.output)
  · intro k hk
    exact (hb5 k (by omega) (by omega)).trans (h.bel.block k hk)
  · rw [ints_app, show (en.take f ++ [i]).length = f + 1 by simp; omega]
    exact ho
  · exact (Sc.owns_below hst hW).kept hg (.inr (fun hc => own_ge h.own (k := w.heap.size + 1) (by omega) hc.symm))
  · intro e he
    rcases List.mem_append.1 he with he | he
    · have := h.hen e (List.mem_of_mem_take he)
      omega
    · simp at he
      omega
  · have := h.enl
    simp
    omega
  · intro y hy
    rcases List.mem_append.1 hy with hy | hy
    · have := h.hbd y hy
      omega
    · simp at hy
      omega
end Go.Proofs.YtbejgachdhfakaaGreatDoor
