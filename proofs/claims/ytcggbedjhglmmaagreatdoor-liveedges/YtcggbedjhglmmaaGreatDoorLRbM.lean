/- Rows of rows, and rows compared. -/
import Derived.Test.YtcggbedjhglmmaaGreatDoorGAhd1M
import Derived.Test.YtcggbedjhglmmaaGreatDoorLMemM
import Derived.BigQuiet
import Derived.Test.YtcggbedjhglmmaaGreatDoorLRfM
import Derived.Test.YtcggbedjhglmmaaGreatDoorGChk3M
namespace Go.Proofs.YtcggbedjhglmmaaGreatDoor
open Go.RowKit

theorem getD_of {α : Type} {l : List α} {i : Nat} (h : i < l.length) (d : α) : l.getD i d = l[i] := by
  unfold List.getD
  rw [List.getElem?_eq_getElem h]
  rfl
structure NetAt (w : World) (v : Value) (nx : List (List Int)) : Prop where
  row : ∃ kvs : List Value, kvs.length = nx.length ∧ RowAt w v nx.length kvs ∧ ∀ (i : Nat) (r : List Int) (kv : Value), nx[i]? = some r → kvs[i]? = some kv → IntsAt w kv r
theorem NetAt.below {w w' : World} {v : Value} {nx : List (List Int)} (h : NetAt w v nx) (hb : Below w.heap.size w w') : NetAt w' v nx := by
  obtain ⟨kvs, h1, h2, h3⟩ := h.row
  exact ⟨kvs, h1, h2.below hb, fun i r kv e1 e2 => (h3 i r kv e1 e2).below hb⟩
theorem NetAt.form {w : World} {v : Value} {nx : List (List Int)} (h : NetAt w v nx) : ∃ a c, v = .slice a nx.length c ∧ nx.length ≤ 140737488355328 := by
  obtain ⟨_, _, ⟨a, c, hv, hn, _⟩, _⟩ := h.row
  exact ⟨a, c, hv, hn.2⟩
theorem NetAt.get {w : World} {a : Option Addr} {n c : Nat} {nx : List (List Int)} (h : NetAt w (.slice a n c) nx) {i : Nat} (hi : i < nx.length) : ∃ g o ra rc, a = some ⟨g, o, none⟩ ∧ g < w.heap.size ∧ w.cell? ⟨g, o + i, none⟩ = some (.slice ra (nx.getD i []).length rc) ∧ IntsAt w (.slice ra (nx.getD i []).length rc) (nx.getD i []) := by
  obtain ⟨kvs, hl, ⟨a', c', hv, _, hc⟩, hk⟩ := h.row
  cases hv
  rcases hc with h0 | ⟨g, o, ha, hg, hc⟩
  · omega
  · have e : nx[i]? = some (nx.getD i []) := by simp [List.getD, List.getElem?_eq_getElem hi]
    have e2 : kvs[i]? = some (kvs[i]'(by omega)) := List.getElem?_eq_getElem _
    have hI := hk i _ _ e e2
    obtain ⟨ra, rc, he, _⟩ := hI.form
    have h2 := hc i _ e2
    rw [he] at h2 hI
    exact ⟨g, o, ra, rc, ha, hg, h2, hI⟩
theorem RowsIn.at' {w : World} {base G n : Nat} {kvs : List Value} {rows : List (List Int)} (h : RowsIn w base G n kvs rows) (hn : n ≤ 140737488355328) (hl : ∀ r ∈ rows, r.length ≤ 140737488355328) : NetAt w (.slice (some ⟨G, 0, none⟩) n n) rows := by
  refine ⟨kvs, by rw [h.klen, h.rlen], ⟨_, _, by rw [h.rlen], ⟨by rw [h.rlen]; omega, by rw [h.rlen]; exact hn⟩, .inr ⟨G, 0, rfl, h.ltG.2, fun j u hj => ?_⟩⟩, fun i r kv e1 e2 => (h.kid i r kv e1 e2).1.at' (hl r (List.mem_of_getElem? e1))⟩
  rw [Nat.zero_add]
  exact h.cellG hj
theorem drewN_zero (w : World) : w = w.drewN 0 := rfl
theorem drewN_add (w : World) (a b : Nat) : (w.drewN a).drewN b = w.drewN (a + b) := by simp [World.drewN, Nat.add_assoc]
theorem below_of_drew {w w' : World} (h : ∃ k, w' = w.drewN k) : Below w.heap.size w w' := by
  obtain ⟨k, rfl⟩ := h
  exact below_drewN (Below.refl _ _) k
theorem take_nextR {α : Type} {xs ys : List α} {i : Nat} {x : α} (h : xs.take i = ys.take i) (h1 : xs[i]? = some x) (h2 : ys[i]? = some x) : xs.take (i + 1) = ys.take (i + 1) := by
  rw [List.take_add_one, List.take_add_one, h, h1, h2]
set_option maxRecDepth 100000 in
set_option maxHeartbeats 1000000 in
theorem sameI_any (xs ys : List Int) (v1 v2 : Value) (w : World) (h1 : IntsAt w v1 xs) (h2 : IntsAt w v2 ys) : Calls Tryz.prog 27 #[v1, v2] w fun e w' => e = .returned (.bool (decide (xs = ys))) ∧ ∃ k, w' = w.drewN k := by
  obtain ⟨a1, c1, rfl, hb1⟩ := h1.form
  obtain ⟨a2, c2, rfl, hb2⟩ := h2.form
  by_cases hl : xs.length = ys.length
  · have HI : Hid (∀ i, i < xs.length → ∃ g1 o1 g2 o2 x y, a1 = some ⟨g1, o1, none⟩ ∧ a2 = some ⟨g2, o2, none⟩ ∧ xs[i]? = some x ∧ ys[i]? = some y ∧ w.cell? ⟨g1, o1 + i, none⟩ = some (.int .i64 x) ∧ w.cell? ⟨g2, o2 + i, none⟩ = some (.int .i64 y)) := fun i hi => by
      obtain ⟨g1, o1, e1, l1, k1⟩ := h1.get hi
      obtain ⟨g2, o2, e2, l2, k2⟩ := h2.get (i := i) (by omega)
      exact ⟨g1, o1, g2, o2, _, _, e1, e2, getD_some hi, getD_some (by omega), k1, k2⟩
    have HD : Hid (∀ (i : Nat) (x y : Int), xs[i]? = some x → ys[i]? = some y → x ≠ y → decide (xs = ys) = false) := fun i x y e1 e2 hn => decide_eq_false (fun he => by rw [he, e2] at e1; cases e1; exact hn rfl)
    have HE : Hid (xs.take xs.length = ys.take xs.length → decide (xs = ys) = true) := fun he => decide_eq_true (by rw [List.take_length, hl, List.take_length] at he; exact he)
    have hl' : (ys.length : Int) = (xs.length : Int) := by omega
    generalize hN : xs.length = n at *
    obtain ⟨R, hR⟩ : ∃ R, R = decide (xs = ys) := ⟨_, rfl⟩
    rw [← hR]
    have HR : Hid _ := hR
    clear h1 h2 hR hN hb2
    rw [← hl]
    go_enter Tryz.func27, Tryz.ntmps27
    go_wp2
    go_loopw [5] (fun vi wr => ∃ i : Nat, vi = .int .i64 i ∧ i ≤ n ∧ Hid (xs.take i = ys.take i ∧ ∃ k, wr = w.drewN k)) (fun vi _ => n - (intOf vi).toNat)
    case atStart => exact ⟨0, rfl, by omega, rfl, 0, rfl⟩
    case round =>
      obtain ⟨i, rfl, hi, hr⟩ := hrel
      obtain ⟨q, hq⟩ := hr.out.2
      have HQ : Hid (wr = w.drewN q) := hq
      clear hq
      by_cases hin : i < n
      · obtain ⟨g1, o1, g2, o2, x, y, rfl, rfl, e1, e2, k1, k2⟩ := HI.out i hin
        have k1' : wr.cell? ⟨g1, o1 + i, none⟩ = some (.int .i64 x) := by rw [HQ.out]; exact k1
        have k2' : wr.cell? ⟨g2, o2 + i, none⟩ = some (.int .i64 y) := by rw [HQ.out]; exact k2
        have hin' : (i : Int) < n := by omega
        have E1 : Hid _ := e1
        have E2 : Hid _ := e2
        clear HI e1 e2
        by_cases hxy : x = y
        · subst hxy
          have HT : Hid _ := take_next hr.out.1 E1.out E2.out
          clear E1 E2 hr
          go_wp2
          go_quiet (fail)
          go_wp2
          go_roundw
          case rel => exact ⟨i + 1, by first | rfl | (congr 1; omega), by omega, HT.out, by first | exact ⟨_, HQ.out⟩ | exact ⟨_, by rw [HQ.out]; exact drewN_add _ _ _⟩⟩
          case measure => simp [intOf]; omega
        · have HX : Hid (R = false) := HR.out.trans (HD.out i x y E1.out E2.out hxy)
          clear E1 E2 hr
          go_wp2
          go_quiet (fail)
          go_wp2
          go_ret
          exact ⟨ret_bool HX.out.symm, by first | exact ⟨_, HQ.out⟩ | exact ⟨_, by rw [HQ.out]; exact drewN_add _ _ _⟩⟩
      · obtain rfl : i = n := by omega
        have HX : Hid (R = true) := HR.out.trans (HE.out hr.out.1)
        clear HI hr
        go_wp2
        go_ret
        exact ⟨ret_bool HX.out.symm, by first | exact ⟨_, HQ.out⟩ | exact ⟨_, by rw [HQ.out]; exact drewN_add _ _ _⟩⟩
  · have hne : decide (xs = ys) = false := decide_eq_false (fun he => hl (by rw [he]))
    rw [hne]
    have hl' : ¬ (xs.length : Int) = (ys.length : Int) := by omega
    clear h1 h2 hl hne
    go_enter Tryz.func27, Tryz.ntmps27
    go_wp2
    go_ret
    exact ⟨rfl, 0, rfl⟩
theorem getR_some {l : List (List Int)} {i : Nat} (h : i < l.length) : l[i]? = some (l.getD i []) := by rw [List.getElem?_eq_getElem h, getD_of h]
theorem IntsAt.drew {w : World} {v : Value} {l : List Int} (h : IntsAt w v l) (k : Nat) : IntsAt (w.drewN k) v l := h.below (below_drewN (Below.refl _ _) k)
set_option maxRecDepth 100000 in
set_option maxHeartbeats 1000000 in
theorem sameR_any (xs ys : List (List Int)) (v1 v2 : Value) (w : World) (h1 : NetAt w v1 xs) (h2 : NetAt w v2 ys) : Calls Tryz.prog 9 #[v1, v2] w fun e w' => e = .returned (.bool (decide (xs = ys))) ∧ ∃ k, w' = w.drewN k := by
  obtain ⟨a1, c1, rfl, hb1⟩ := h1.form
  obtain ⟨a2, c2, rfl, hb2⟩ := h2.form
  by_cases hl : xs.length = ys.length
  · have HI : Hid (∀ i, i < xs.length → ∃ g1 o1 g2 o2 x y q1 q2, a1 = some ⟨g1, o1, none⟩ ∧ a2 = some ⟨g2, o2, none⟩ ∧ xs[i]? = some x ∧ ys[i]? = some y ∧ w.cell? ⟨g1, o1 + i, none⟩ = some q1 ∧ w.cell? ⟨g2, o2 + i, none⟩ = some q2 ∧ IntsAt w q1 x ∧ IntsAt w q2 y) := fun i hi => by
      obtain ⟨g1, o1, r1, s1, e1, l1, k1, i1⟩ := h1.get hi
      obtain ⟨g2, o2, r2, s2, e2, l2, k2, i2⟩ := h2.get (i := i) (by omega)
      exact ⟨g1, o1, g2, o2, _, _, _, _, e1, e2, getR_some hi, getR_some (by omega), k1, k2, i1, i2⟩
    have HD : Hid (∀ (i : Nat) (x y : List Int), xs[i]? = some x → ys[i]? = some y → x ≠ y → decide (xs = ys) = false) := fun i x y e1 e2 hn => decide_eq_false (fun he => by rw [he, e2] at e1; cases e1; exact hn rfl)
    have HE : Hid (xs.take xs.length = ys.take xs.length → decide (xs = ys) = true) := fun he => decide_eq_true (by rw [List.take_length, hl, List.take_length] at he; exact he)
    have hl' : (ys.length : Int) = (xs.length : Int) := by omega
    generalize hN : xs.length = n at *
    obtain ⟨R, hR⟩ : ∃ R, R = decide (xs = ys) := ⟨_, rfl⟩
    rw [← hR]
    have HR : Hid _ := hR
    clear h1 h2 hR hN hb2
    rw [← hl]
    go_enter Tryz.func9, Tryz.ntmps9
    go_wp2
    go_loopw [5] (fun vi wr => ∃ i : Nat, vi = .int .i64 i ∧ i ≤ n ∧ Hid (xs.take i = ys.take i ∧ ∃ k, wr = w.drewN k)) (fun vi _ => n - (intOf vi).toNat)
    case atStart => exact ⟨0, rfl, by omega, rfl, 0, rfl⟩
    case round =>
      obtain ⟨i, rfl, hi, hr⟩ := hrel
      obtain ⟨q, hq⟩ := hr.out.2
      have HQ : Hid (wr = w.drewN q) := hq
      clear hq
      by_cases hin : i < n
      · obtain ⟨g1, o1, g2, o2, x, y, q1, q2, rfl, rfl, e1, e2, k1, k2, i1, i2⟩ := HI.out i hin
        have k1' : wr.cell? ⟨g1, o1 + i, none⟩ = some q1 := by rw [HQ.out]; exact k1
        have k2' : wr.cell? ⟨g2, o2 + i, none⟩ = some q2 := by rw [HQ.out]; exact k2
        have hin' : (i : Int) < n := by omega
        have E1 : Hid _ := e1
        have E2 : Hid _ := e2
        have HC : Hid (∀ k, Calls Tryz.prog 27 #[q1, q2] (wr.drewN k) fun e w' => e = .returned (.bool (decide (x = y))) ∧ ∃ d, w' = (wr.drewN k).drewN d) := fun k => sameI_any _ _ _ _ _ (by rw [HQ.out]; exact (i1.drew q).drew k) (by rw [HQ.out]; exact (i2.drew q).drew k)
        clear HI e1 e2 i1 i2 k1 k2
        by_cases hxy : x = y
        · subst hxy
          rw [decide_eq_true rfl] at HC
          have HT : Hid _ := take_nextR hr.out.1 E1.out E2.out
          clear E1 E2 hr
          go_wp2
          go_quiet ((go_at_call 27; exact Calls.quiet_of (HC.out _)))
          go_wp2
          go_roundw
          case rel => exact ⟨i + 1, by first | rfl | (congr 1; omega), by omega, HT.out, by first | exact ⟨_, HQ.out⟩ | exact ⟨_, by rw [HQ.out]; exact drewN_add _ _ _⟩⟩
          case measure => simp [intOf]; omega
        · have HX : Hid (R = false) := HR.out.trans (HD.out i x y E1.out E2.out hxy)
          rw [decide_eq_false hxy] at HC
          clear E1 E2 hr
          go_wp2
          go_quiet ((go_at_call 27; exact Calls.quiet_of (HC.out _)))
          go_wp2
          go_ret
          exact ⟨ret_bool HX.out.symm, by first | exact ⟨_, HQ.out⟩ | exact ⟨_, by rw [HQ.out]; exact drewN_add _ _ _⟩⟩
      · obtain rfl : i = n := by omega
        have HX : Hid (R = true) := HR.out.trans (HE.out hr.out.1)
        clear HI hr
        go_wp2
        go_ret
        exact ⟨ret_bool HX.out.symm, by first | exact ⟨_, HQ.out⟩ | exact ⟨_, by rw [HQ.out]; exact drewN_add _ _ _⟩⟩
  · have hne : decide (xs = ys) = false := decide_eq_false (fun he => hl (by rw [he]))
    rw [hne]
    have hl' : ¬ (xs.length : Int) = (ys.length : Int) := by omega
    clear h1 h2 hl hne
    go_enter Tryz.func9, Tryz.ntmps9
    go_wp2
    go_ret
    exact ⟨rfl, 0, rfl⟩
end Go.Proofs.YtcggbedjhglmmaaGreatDoor
/- The document's side: does a phi ask a variable at a block's end? -/
namespace Go.Proofs.YtcggbedjhglmmaaGreatDoor
open Go.RowKit

def phiB (k : Nat) (v : Int) (x : In) : Bool := x.kind == 1 && x.args.getD k 0 == v
def byK (L : List In) (v fr : Int) : List Int → Nat → Bool
  | [], _ => false
  | a :: r, k => ((a == fr) && L.any (phiB k v)) || byK L v fr r (k + 1)
theorem byK_drop {L : List In} {v fr : Int} {row : List Int} {k : Nat} (h : k < row.length) : byK L v fr (row.drop k) k = (((row.getD k 0 == fr) && L.any (phiB k v)) || byK L v fr (row.drop (k + 1)) (k + 1)) := by
  have e : row.getD k 0 = row[k] := by simp [List.getD, List.getElem?_eq_getElem h]
  rw [e, List.drop_eq_getElem_cons h]
  rfl
theorem any_dropR {L : List In} {p : In → Bool} {i : Nat} (h : i < L.length) : (L.drop i).any p = (p (L.getD i default) || (L.drop (i + 1)).any p) := by
  have e : L.getD i default = L[i] := by simp [List.getD, List.getElem?_eq_getElem h]
  rw [e, List.drop_eq_getElem_cons h]
  rfl
theorem getD_memI {L : List In} {i : Nat} (h : i < L.length) : L.getD i default ∈ L := by
  have e : L.getD i default = L[i] := by simp [List.getD, List.getElem?_eq_getElem h]
  rw [e]; exact List.getElem_mem h
theorem byK_iff {L : List In} {v fr : Int} : ∀ {row : List Int} {j : Nat}, byK L v fr row j = true ↔ ∃ k : Nat, row[k]? = some fr ∧ ∃ x ∈ L, x.kind = 1 ∧ x.args.getD (j + k) 0 = v
  | [], j => by simp [byK]
  | a :: r, j => by
    rw [byK, Bool.or_eq_true, byK_iff (row := r) (j := j + 1)]
    constructor
    · rintro (h | ⟨k, h1, x, m, h2, h3⟩)
      · rw [Bool.and_eq_true, List.any_eq_true] at h
        obtain ⟨h1, x, m, h2⟩ := h
        unfold phiB at h2
        rw [Bool.and_eq_true] at h2
        exact ⟨0, by simpa using h1, x, m, by simpa using h2.1, by simpa using h2.2⟩
      · exact ⟨k + 1, by simpa using h1, x, m, h2, by rw [show j + (k + 1) = j + 1 + k by omega]; exact h3⟩
    · rintro ⟨k, h1, x, m, h2, h3⟩
      rcases k with _ | k
      · refine .inl ?_
        rw [Bool.and_eq_true, List.any_eq_true]
        exact ⟨by simpa using h1, x, m, by unfold phiB; rw [h2]; simpa using h3⟩
      · exact .inr ⟨k, by simpa using h1, x, m, h2, by rw [show j + 1 + k = j + (k + 1) by omega]; exact h3⟩
theorem byK_is {bs : List Bl} {ah : List (List Int)} {fr to : Nat} {v : Int} (hp : ∀ x ∈ (bs.getD to default).ins, x.kind = 1 → x.args.length = (ah.getD to []).length) :
    byK (bs.getD to default).ins v fr (ah.getD to []) 0 = decL (phiAsk bs ah fr to v) := by
  rw [Bool.eq_iff_iff, decL_iff, byK_iff]
  unfold phiAsk
  constructor
  · rintro ⟨k, h1, x, m, h2, h3⟩
    refine ⟨k, h1, x, m, h2, ?_⟩
    have hk : k < (ah.getD to []).length := (List.getElem?_eq_some_iff.1 h1).1
    rw [Nat.zero_add] at h3
    have hx := hp x m h2
    rw [List.getElem?_eq_getElem (by omega), ← h3, List.getD, List.getElem?_eq_getElem (by omega)]
    rfl
  · rintro ⟨k, h1, x, m, h2, h3⟩
    refine ⟨k, h1, x, m, h2, ?_⟩
    rw [Nat.zero_add, List.getD, h3]
    rfl
set_option maxRecDepth 100000 in
set_option maxHeartbeats 4000000 in
theorem rbyphi_any (G : Gr) (pv vv av bv ahv : Value) (ah : List (List Int)) (fr to : Nat) (v : Int) (w : World) (h : GrAt w pv vv av bv G) (ha : NetAt w ahv ah) (hto : to < G.blocks.length) (hal : ah.length = G.blocks.length) (hp : ∀ x ∈ (G.blocks.getD to default).ins, x.kind = 1 → x.args.length = (ah.getD to []).length) :
    Calls Tryz.prog 50 #[.agg #[.string G.name, pv, .int .u8 G.result, vv, av, bv], ahv, .int .i64 (fr : Int), .int .i64 (to : Int), .int .i64 v] w fun e w' => e = .returned (.bool (decL (phiAsk G.blocks ah fr to v))) ∧ Below w.heap.size w w' := by
  obtain ⟨R, hR⟩ : ∃ R, R = decL (phiAsk G.blocks ah fr to v) := ⟨_, rfl⟩
  rw [← hR]
  rw [← byK_is hp] at hR
  have HPL : Hid (∀ i, i < (G.blocks.getD to default).ins.length → ((G.blocks.getD to default).ins.getD i default).kind = 1 → ((G.blocks.getD to default).ins.getD i default).args.length = (ah.getD to []).length) := fun i hi => hp _ (getD_memI hi)
  obtain ⟨pa, pc, va, vc, aa, ac, ba, bc, rfl, rfl, rfl, rfl, _, _, _, hbl⟩ := h.openF
  obtain ⟨g, o, iv, rfl, hg, c0, c1, c2, c3, c4, c5, hins⟩ := h.bs.get (i := to) hto
  obtain ⟨ia, ic, rfl, hil⟩ := hins.form
  obtain ⟨na, nc, rfl, hnl⟩ := ha.form
  obtain ⟨gn, on, ra, rc, rfl, hgn, cn, hrow⟩ := ha.get (i := to) (by omega)
  obtain ⟨_, _, _, hrl⟩ := hrow.form
  clear h hp ha c1 c2 c3 c4 c5
  rw [hal] at *
  generalize G.name = nm at *
  generalize G.params.length = pl at *
  generalize G.vars.length = m at *
  generalize G.arrs.length = al at *
  generalize G.result = r at *
  generalize G.blocks.length = n at *
  generalize (G.blocks.getD to default).ins = L at *
  generalize ah.getD to [] = row at *
  have HI : Hid (∀ i, i < L.length → _) := fun i hi => hins.get (i := i) hi
  have HW : Hid (∀ i, i < row.length → _) := fun i hi => hrow.get (i := i) hi
  have hto' : (to : Int) < n := by omega
  have HR : Hid (byK L v fr (row.drop 0) 0 = R) := hR.symm
  have H0 : Hid (Below w.heap.size w (w.alloc (.cells #[.string nm, .slice pa pl pc, .int .u8 r, .slice va m vc, .slice aa al ac, .slice (some ⟨g, o, none⟩) n bc] 28)) ∧ Box (w.alloc (.cells #[.string nm, .slice pa pl pc, .int .u8 r, .slice va m vc, .slice aa al ac, .slice (some ⟨g, o, none⟩) n bc] 28)) w.heap.size [.string nm, .slice pa pl pc, .int .u8 r, .slice va m vc, .slice aa al ac, .slice (some ⟨g, o, none⟩) n bc]) := ⟨below_alloc (Below.refl _ _) _, Box.new w [.string nm, .slice pa pl pc, .int .u8 r, .slice va m vc, .slice aa al ac, .slice (some ⟨g, o, none⟩) n bc] 28⟩
  clear hR hins hrow hal
  have HC : Hid (∀ W, Below w.heap.size w W → W.cell? ⟨g, o + to * 6, none⟩ = some (.slice ia L.length ic) ∧ W.cell? ⟨gn, on + to, none⟩ = some (.slice ra row.length rc)) := fun W hb => ⟨(hb.cell (p := ⟨g, o + to * 6, none⟩) hg).trans c0, (hb.cell (p := ⟨gn, on + to, none⟩) hgn).trans cn⟩
  clear c0 cn
  go_enter Tryz.func50, Tryz.ntmps50
  go_wp2
  go_loopw [11] (fun vk wr => ∃ k : Nat, vk = .int .i64 k ∧ k ≤ row.length ∧ Hid (byK L v fr (row.drop k) k = R ∧ Below w.heap.size w wr ∧ Box wr w.heap.size [.string nm, .slice pa pl pc, .int .u8 r, .slice va m vc, .slice aa al ac, .slice (some ⟨g, o, none⟩) n bc])) (fun vk _ => row.length - (intOf vk).toNat)
  case atStart => exact ⟨0, rfl, by omega, HR.out, H0.out⟩
  case round =>
    obtain ⟨k, rfl, hk, hr⟩ := hrel
    clear HR H0
    generalize wr = wo at *
    obtain ⟨e0, e1, e2, e3, e4, e5⟩ := box6 hr.out.2.2
    have hwl := hr.out.2.2.lt
    obtain ⟨c0, cn⟩ := HC.out _ hr.out.2.1
    by_cases hkn : k < row.length
    · obtain ⟨gr, or, rfl, hgr, cr⟩ := HW.out k hkn
      have hkn' : (k : Int) < row.length := by omega
      have cr' : wo.cell? ⟨gr, or + k, none⟩ = some (.int .i64 (row.getD k 0)) := (hr.out.2.1.cell (p := ⟨gr, or + k, none⟩) hgr).trans cr
      have HDD : Hid _ := byK_drop (L := L) (v := v) (fr := fr) hkn
      rw [hr.out.1] at HDD
      clear HW cr
      generalize row.getD k 0 = y at *
      by_cases hy : y = (fr : Int)
      · subst hy
        have hyn : ((fr : Int) != (fr : Int)) = false := by simp
        have HX : Hid (((L.drop 0).any (phiB k v) || byK L v fr (row.drop (k + 1)) (k + 1)) = R) := by show _ = _; have h9 := HDD.out; rw [List.drop_zero]; simpa using h9.symm
        have HQ : Hid _ := hr.out.2
        clear HDD hr
        go_wp2
        clear e0 e1 e2 e3 e4 e5 c0 cn cr' hyn
        go_loopw [12] (fun vi wr => ∃ i : Nat, vi = .int .i64 i ∧ i ≤ L.length ∧ Hid (((L.drop i).any (phiB k v) || byK L v fr (row.drop (k + 1)) (k + 1)) = R ∧ Below w.heap.size w wr ∧ Box wr w.heap.size [.string nm, .slice pa pl pc, .int .u8 r, .slice va m vc, .slice aa al ac, .slice (some ⟨g, o, none⟩) n bc])) (fun vi _ => L.length - (intOf vi).toNat)
        case atStart => exact ⟨0, rfl, by omega, HX.out, HQ.out⟩
        case round =>
          obtain ⟨i, rfl, hi, hq⟩ := hrel
          clear HX HQ
          obtain ⟨e0, e1, e2, e3, e4, e5⟩ := box6 hq.out.2.2
          have hwq := hq.out.2.2.lt
          obtain ⟨c0, cn⟩ := HC.out _ hq.out.2.1
          by_cases hin : i < L.length
          · obtain ⟨gi, oi, xv, rfl, hgi, d0, d1, d2, d3, d4, d5, hxa⟩ := HI.out i hin
            obtain ⟨xa, xc, rfl, hxl⟩ := hxa.form
            have hin' : (i : Int) < L.length := by omega
            have hcl : ∀ j, wr.cell? ⟨gi, j, none⟩ = w.cell? ⟨gi, j, none⟩ := fun j => hq.out.2.1.cell (p := ⟨gi, j, none⟩) hgi
            rw [← hcl] at d0 d1 d2 d3 d4 d5
            have HDD : Hid _ := any_dropR (L := L) (p := phiB k v) hin
            have HQQ := hq.out.1
            rw [HDD.out] at HQQ
            have HQ : Hid _ := hq.out.2
            have hpl := HPL.out i hin
            have HBA : Hid (∀ o, Below w.heap.size w (wr.alloc o)) := fun o => below_alloc hq.out.2.1 o
            have HBB : Hid (∀ o', Box (wr.alloc o') w.heap.size [.string nm, .slice pa pl pc, .int .u8 r, .slice va m vc, .slice aa al ac, .slice (some ⟨g, o, none⟩) n bc]) := fun o' => hq.out.2.2.below (below_alloc (Below.refl _ _) o')
            clear hcl HI HDD hq
            generalize L.getD i default = X at *
            obtain ⟨xk, xo, xd, xs, xb, xr⟩ := X
            dsimp only at *
            rw [show phiB k v ⟨xk, xo, xd, xs, xb, xr⟩ = (xk == 1 && xs.getD k 0 == v) from rfl] at HQQ
            by_cases hx : xk = 1
            · subst hx
              have hxl2 := hpl rfl
              obtain ⟨gx, ox, rfl, hgx, cx⟩ := hxa.get (i := k) (by omega)
              have hkx : (k : Int) < xs.length := by omega
              have cx' : ∀ o, (wr.alloc o).cell? ⟨gx, ox + k, none⟩ = some (.int .i64 (xs.getD k 0)) := fun o => ((HBA.out o).cell (p := ⟨gx, ox + k, none⟩) hgx).trans cx
              clear hxa cx
              generalize xs.getD k 0 = y at *
              generalize xs.length = xl at *
              by_cases hyv : y = v
              · subst hyv
                have HX : Hid (true = R) := by show _ = _; simpa using HQQ
                clear HQQ
                go_wp2
                go_ret
                exact ⟨ret_bool HX.out, HBA.out _⟩
              · have hyf : (y == v) = false := beq_false_of_ne hyv
                have HX : Hid (((L.drop (i + 1)).any (phiB k v) || byK L v fr (row.drop (k + 1)) (k + 1)) = R) := by show _ = _; rw [hyf] at HQQ; simpa using HQQ
                clear HQQ
                go_wp2
                go_roundw
                case rel => exact ⟨i + 1, by first | rfl | (congr 1; omega), by omega, HX.out, HBA.out _, HBB.out _⟩
                case measure => simp [intOf]; omega
            · have hxf : (xk == 1) = false := beq_false_of_ne hx
              have HX : Hid (((L.drop (i + 1)).any (phiB k v) || byK L v fr (row.drop (k + 1)) (k + 1)) = R) := by show _ = _; rw [hxf] at HQQ; simpa using HQQ
              clear HQQ
              go_wp2
              go_roundw
              case rel => exact ⟨i + 1, by first | rfl | (congr 1; omega), by omega, HX.out, HBA.out _, HBB.out _⟩
              case measure => simp [intOf]; omega
          · obtain rfl : i = L.length := by omega
            have HX : Hid (byK L v fr (row.drop (k + 1)) (k + 1) = R) := by show _ = _; have h9 := hq.out.1; rw [List.drop_length] at h9; simpa using h9
            have HQ : Hid _ := hq.out.2
            clear hq HI
            go_wp2
            go_roundw
            case rel => exact ⟨k + 1, by first | rfl | (congr 1; omega), by omega, HX.out, HQ.out⟩
            case measure => simp [intOf]; omega
      · have hyn : (y != (fr : Int)) = true := bne_iff_ne.2 hy
        have HX : Hid (byK L v fr (row.drop (k + 1)) (k + 1) = R) := by show _ = _; have h9 := HDD.out; rw [beq_false_of_ne hy] at h9; simpa using h9.symm
        have HQ : Hid _ := hr.out.2
        clear HDD hr
        go_wp2
        go_roundw
        case rel => exact ⟨k + 1, by first | rfl | (congr 1; omega), by omega, HX.out, HQ.out⟩
        case measure => simp [intOf]; omega
    · obtain rfl : k = row.length := by omega
      have HX : Hid (false = R) := by show _ = _; have h9 := hr.out.1; rw [List.drop_length] at h9; exact h9
      have HQ : Hid _ := hr.out.2.1
      clear hr
      go_wp2
      go_ret
      exact ⟨ret_bool HX.out, HQ.out⟩
end Go.Proofs.YtcggbedjhglmmaaGreatDoor
