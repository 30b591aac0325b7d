/- The walk through a trimmed graph: its blocks in their order. Plain. -/
import Derived.Test.YtabpnjakfoofpaaGreatDoorGTrPM
import Derived.Test.YtabpnjakfoofpaaGreatDoorGDfs2M
import Derived.Test.YtabpnjakfoofpaaGreatDoorGAhd2M
import Derived.Test.YtabpnjakfoofpaaGreatDoorGAhd1M
import Derived.BigQuiet
namespace Go.Proofs.YtabpnjakfoofpaaGreatDoor

theorem dfs_fuel (ts : List Tm) : ∀ (f f' : Nat) (a : Nat) (met : List Bool) (left : List Int), met.length = ts.length → cntF met ≤ f → cntF met ≤ f' → dfs ts f a met left = dfs ts f' a met left := by
  intro f
  induction f with
  | zero =>
    intro f' a met left hl h1 h2
    have all : ∀ k, met.getD k true = true := fun k => by
      cases e : met.getD k true with
      | true => rfl
      | false => have := cntF_set e; omega
    have hf : ∀ (g : Nat) (ys : List Int), ys.foldl (stepOf ts g) (met, left) = (met, left) := fun g ys => by
      induction ys with
      | nil => rfl
      | cons y ys ih => rw [List.foldl_cons, stepOf_out (.inr (all _))]; exact ih
    rw [dfs_eq, dfs_eq, hf, hf]
  | succ f ih =>
    intro f' a met left hl h1 h2
    have hf : ∀ (ys : List Int) (s : List Bool × List Int), s.1.length = ts.length → cntF s.1 ≤ f + 1 → cntF s.1 ≤ f' → ys.foldl (stepOf ts (f + 1)) s = ys.foldl (stepOf ts f') s := fun ys => by
      induction ys with
      | nil => intro s _ _ _; rfl
      | cons y ys ih2 =>
        intro s hs c1 c2
        rw [List.foldl_cons, List.foldl_cons]
        have e : stepOf ts (f + 1) s y = stepOf ts f' s y := by
          obtain ⟨m, l⟩ := s
          dsimp only at hs c1 c2
          by_cases h : inB y m.length = true ∧ m.getD y.toNat true = false
          · obtain ⟨q1, q2⟩ := h
            have e1 : ((y.toNat : Nat) : Int) = y := by rw [inB_iff] at q1; omega
            have hc := cntF_set q2
            obtain ⟨g, rfl⟩ : ∃ g, f' = g + 1 := ⟨f' - 1, by omega⟩
            rw [← e1, stepOf_in q2, stepOf_in q2]
            exact ih g _ _ _ (by simpa using hs) (by omega) (by omega)
          · have ho : inB y m.length = false ∨ m.getD y.toNat true = true := by
              rcases Decidable.not_and_iff_or_not.1 h with h | h
              · exact .inl (by simpa using h)
              · exact .inr (by simpa using h)
            rw [stepOf_out ho, stepOf_out ho]
        obtain ⟨p1, p2, _, _⟩ := step_all (ts := ts) s y hs c1
        rw [← e]
        exact ih2 _ p1 (by omega) (by omega)
    rw [dfs_eq, dfs_eq, hf _ (met, left) hl h1 h2]

/-- marks of the old blocks and of the new ones -/
structure MetR (O : List Int) (n : Nat) (met met' : List Bool) : Prop where
  l1 : met.length = n
  l2 : met'.length = O.length
  eq : ∀ j, j < O.length → met'.getD j true = met.getD (O.getD j 0).toNat true
theorem MetR.at {ts : List Tm} {O : List Int} {met met' : List Bool} (r : MetR O ts.length met met') {y : Int} (hy : y ∈ O) : met'.getD (placeOf O y).toNat true = met.getD y.toNat true := by
  obtain ⟨p1, p2, p3⟩ := place_in hy
  rw [p1, Int.toNat_natCast, r.eq _ p2, List.getD_eq_getElem?_getD (l := O), p3]; rfl
theorem MetR.set {ts : List Tm} {O : List Int} (h : Ordered ts O) {met met' : List Bool} (r : MetR O ts.length met met') {y : Int} (hy : y ∈ O) : MetR O ts.length (met.set y.toNat true) (met'.set (placeOf O y).toNat true) := by
  obtain ⟨p1, p2, p3⟩ := place_in hy
  obtain ⟨k, rfl, hk⟩ := h.nat y hy
  refine ⟨by simp [r.l1], by simp [r.l2], fun j hj => ?_⟩
  have hjs : O[j]? = some O[j] := List.getElem?_eq_getElem hj
  have hjd : O.getD j 0 = O[j] := by rw [List.getD_eq_getElem?_getD, hjs]; rfl
  obtain ⟨q, hq, hql⟩ := h.nat O[j] (List.getElem_mem hj)
  rw [getD_set (by rw [r.l2, p1, Int.toNat_natCast]; exact p2), hjd, hq, Int.toNat_natCast, Int.toNat_natCast, getD_set (by rw [r.l1]; exact hk), p1, Int.toNat_natCast]
  by_cases e : k = q
  · subst e
    have h9 := place_at h.nodup hjs
    rw [hq, p1] at h9
    rw [if_pos rfl, if_pos (by omega)]
  · rw [if_neg e, if_neg]
    · rw [r.eq j hj, hjd, hq, Int.toNat_natCast]
    · intro e2
      rw [e2, hjs] at p3
      have := Option.some.inj p3
      omega
theorem dfs_sim {ts : List Tm} {O : List Int} (h : Ordered ts O) {us : List Tm} (hu : ∀ (j : Nat) c, O[j]? = some c → us.getD j default = ledT O ts.length (ts.getD c.toNat default)) :
    ∀ (f a : Nat) (met met' : List Bool) (left : List Int), MetR O ts.length met met' → (a : Int) ∈ O → MetR O ts.length (dfs ts f a met left).1 (dfs us f (placeOf O a).toNat met' (left.map (placeOf O))).1 ∧ (dfs us f (placeOf O a).toNat met' (left.map (placeOf O))).2 = (dfs ts f a met left).2.map (placeOf O) := by
  intro f
  induction f with
  | zero =>
    intro a met met' left r ha
    refine ⟨r, ?_⟩
    have h9 := (place_in ha).1
    simp only [dfs, List.map_append, List.map_cons, List.map_nil]
    rw [h9]; rfl
  | succ f ih =>
    intro a met met' left r ha
    have hf : ∀ (ys : List Int), (∀ y ∈ ys, inB y ts.length = true ↔ y ∈ O) → ∀ (s : List Bool × List Int) (m' : List Bool), MetR O ts.length s.1 m' → MetR O ts.length (ys.foldl (stepOf ts (f + 1)) s).1 ((ys.map fun y => if inB y ts.length = true then placeOf O y else y).foldl (stepOf us (f + 1)) (m', s.2.map (placeOf O))).1 ∧ ((ys.map fun y => if inB y ts.length = true then placeOf O y else y).foldl (stepOf us (f + 1)) (m', s.2.map (placeOf O))).2 = (ys.foldl (stepOf ts (f + 1)) s).2.map (placeOf O) := fun ys => by
      induction ys with
      | nil => intro _ s m' r; exact ⟨r, rfl⟩
      | cons y ys ih2 =>
        intro hy s m' r
        rw [List.foldl_cons, List.map_cons, List.foldl_cons]
        have hyO := hy y (by simp)
        obtain ⟨m, l⟩ := s
        dsimp only at r
        have hstep : MetR O ts.length (stepOf ts (f + 1) (m, l) y).1 (stepOf us (f + 1) (m', l.map (placeOf O)) (if inB y ts.length = true then placeOf O y else y)).1 ∧ (stepOf us (f + 1) (m', l.map (placeOf O)) (if inB y ts.length = true then placeOf O y else y)).2 = (stepOf ts (f + 1) (m, l) y).2.map (placeOf O) := by
          by_cases hin : inB y ts.length = true
          · rw [if_pos hin]
            have hyo := hyO.1 hin
            obtain ⟨k, rfl, hk⟩ := h.nat y hyo
            obtain ⟨p1, p2, p3⟩ := place_in hyo
            have hm := r.at hyo
            rw [Int.toNat_natCast] at hm
            cases e : m.getD k true with
            | true =>
              rw [stepOf_out (.inr (by rw [Int.toNat_natCast]; exact e)), stepOf_out (.inr (by rw [hm, e]))]
              exact ⟨r, rfl⟩
            | false =>
              have hp : placeOf O (k : Int) = ((placeOf O (k : Int)).toNat : Int) := by rw [p1]; simp
              rw [stepOf_in e]
              conv in (occs := 1) stepOf us (f + 1) _ _ => rw [hp]
              rw [stepOf_in (by rw [hm, e])]
              conv in (occs := 1) stepOf us (f + 1) _ _ => rw [hp]
              rw [stepOf_in (by rw [hm, e])]
              have := r.set h hyo
              rw [Int.toNat_natCast] at this
              exact ih k _ _ l this hyo
          · rw [if_neg hin, stepOf_out (.inl (by rw [r.l1]; simpa using hin)), stepOf_out (.inl (by
              rw [r.l2]
              have := order_len h
              have h9 : ¬ (0 ≤ y ∧ y < (ts.length : Int)) := fun hc => hin (inB_iff.2 hc)
              have : ¬ inB y O.length = true := fun hc => h9 (by have := inB_iff.1 hc; omega)
              simpa using this))]
            exact ⟨r, rfl⟩
        obtain ⟨s1, s2⟩ := hstep
        have := ih2 (fun z hz => hy z (by simp [hz])) (stepOf ts (f + 1) (m, l) y) _ s1
        rw [← s2] at this
        exact this
    obtain ⟨p1, p2, p3⟩ := place_in ha
    have hu9 := hu (placeOf O a).toNat a (by rw [p1, Int.toNat_natCast]; exact p3)
    have hn : namedT (us.getD (placeOf O a).toNat default) = (namedT (ts.getD a default)).map fun y => if inB y ts.length = true then placeOf O y else y := by
      rw [hu9, named_led, Int.toNat_natCast]
    obtain ⟨g1, g2⟩ := hf (namedT (ts.getD a default)) (fun y hy => named_closed h ha hy) (met, left) met' r
    rw [dfs_eq, dfs_eq, hn]
    refine ⟨g1, ?_⟩
    dsimp only at g2 ⊢
    rw [g2, List.map_append, List.map_cons, List.map_nil]
    congr 2
    rw [p1]; simp
theorem order_head {ts : List Tm} (h0 : 0 < ts.length) : ∃ r, orderT ts = 0 :: r := by
  unfold orderT
  rw [if_neg (by omega)]
  have : ∃ m l, dfs ts ts.length 0 ((List.replicate ts.length false).set 0 true) [] = (m, l ++ [((0 : Nat) : Int)]) := by
    rw [dfs_eq]; exact ⟨_, _, rfl⟩
  obtain ⟨m, l, e⟩ := this
  rw [e]
  simp
/-- the walk through what was trimmed tells its blocks one after another -/
theorem order_trim {ts us : List Tm} (hl : us.length = (orderT ts).length) (hu : ∀ (j : Nat) c, (orderT ts)[j]? = some c → us.getD j default = ledT (orderT ts) ts.length (ts.getD c.toNat default)) : orderT us = (List.range us.length).map fun i => ((i : Nat) : Int) := by
  by_cases h0 : ts.length = 0
  · have : orderT ts = [] := by unfold orderT; rw [if_pos h0]
    rw [this] at hl
    have hz : us.length = 0 := by simpa using hl
    unfold orderT
    rw [if_pos hz, hz]; rfl
  · have h0' : 0 < ts.length := by omega
    have ho := order_ok ts
    obtain ⟨r, hr⟩ := order_head h0'
    have hz : (0 : Int) ∈ orderT ts := ho.zero h0'
    have hk : us.length ≠ 0 := by rw [hl, hr]; simp
    have hp0 : placeOf (orderT ts) 0 = 0 := place_at ho.nodup (i := 0) (by rw [hr]; rfl)
    have hm : MetR (orderT ts) ts.length ((List.replicate ts.length false).set 0 true) ((List.replicate us.length false).set 0 true) := by
      have hb : MetR (orderT ts) ts.length (List.replicate ts.length false) (List.replicate us.length false) := by
        refine ⟨by simp, by simp [hl], fun j hj => ?_⟩
        have hjs : (orderT ts)[j]? = some (orderT ts)[j] := List.getElem?_eq_getElem hj
        obtain ⟨q, hq, hql⟩ := ho.nat _ (List.getElem_mem hj)
        have hjd : (orderT ts).getD j 0 = (q : Int) := by rw [List.getD_eq_getElem?_getD, hjs, hq]; rfl
        rw [hjd, Int.toNat_natCast, List.getD_eq_getElem?_getD, List.getD_eq_getElem?_getD, List.getElem?_replicate, List.getElem?_replicate, if_pos (by omega), if_pos hql]
      have := hb.set ho hz
      rw [hp0] at this
      exact this
    have h9 := (dfs_sim ho hu ts.length 0 _ _ [] hm hz).2
    have hc : ∀ n, cntF ((List.replicate n false).set 0 true) ≤ n := fun n => by unfold cntF; refine Nat.le_trans List.count_le_length ?_; simp
    have e1 : dfs us us.length 0 ((List.replicate us.length false).set 0 true) [] = dfs us ts.length 0 ((List.replicate us.length false).set 0 true) [] := dfs_fuel us _ _ _ _ _ (by simp) (hc _) (by have := hc us.length; have := order_len ho; omega)
    have e2 : orderT us = (orderT ts).map (placeOf (orderT ts)) := by
      conv => lhs; unfold orderT
      rw [if_neg hk, e1]
      have hp0' : (placeOf (orderT ts) ((0 : Nat) : Int)).toNat = 0 := by rw [show ((0 : Nat) : Int) = 0 from rfl, hp0]; rfl
      rw [hp0', List.map_nil] at h9
      rw [h9, ← List.map_reverse]
      congr 1
      conv => rhs; unfold orderT
      rw [if_neg (by omega)]
    rw [e2, hl]
    apply List.ext_getElem
    · simp
    · intro i h1 h2
      have hil : i < (orderT ts).length := by simpa using h1
      rw [List.getElem_map, List.getElem_map, List.getElem_range]
      exact place_at ho.nodup (List.getElem?_eq_getElem hil)
end Go.Proofs.YtabpnjakfoofpaaGreatDoor
/- Small facts of the walk, elsewhere. -/
namespace Go.Proofs.YtabpnjakfoofpaaGreatDoor
end Go.Proofs.YtabpnjakfoofpaaGreatDoor
/- Rows of rows, and rows compared. -/
namespace Go.Proofs.YtabpnjakfoofpaaGreatDoor
open Go.RowKit

theorem getD_of {α : Type} {l : List α} {i : Nat} (h : i < l.length) (d : α) : l.getD i d = l[i] := by
  unfold List.getD
  rw [List.getElem?_eq_getElem h]
  rfl
structure NetAt (w : World) (v : Value) (nx : List (List Int)) : Prop where
  row : ∃ kvs : List Value, kvs.length = nx.length ∧ RowAt w v nx.length kvs ∧ ∀ (i : Nat) (r : List Int) (kv : Value), nx[i]? = some r → kvs[i]? = some kv → IntsAt w kv r
theorem NetAt.below {w w' : World} {v : Value} {nx : List (List Int)} (h : NetAt w v nx) (hb : Below w.heap.size w w') : NetAt w' v nx := by
  obtain ⟨kvs, h1, h2, h3⟩ := h.row
  exact ⟨kvs, h1, h2.below hb, fun i r kv e1 e2 => (h3 i r kv e1 e2).below hb⟩
theorem NetAt.form {w : World} {v : Value} {nx : List (List Int)} (h : NetAt w v nx) : ∃ a c, v = .slice a nx.length c ∧ nx.length ≤ 140737488355328 := by
  obtain ⟨_, _, ⟨a, c, hv, hn, _⟩, _⟩ := h.row
  exact ⟨a, c, hv, hn.2⟩
theorem NetAt.get {w : World} {a : Option Addr} {n c : Nat} {nx : List (List Int)} (h : NetAt w (.slice a n c) nx) {i : Nat} (hi : i < nx.length) : ∃ g o ra rc, a = some ⟨g, o, none⟩ ∧ g < w.heap.size ∧ w.cell? ⟨g, o + i, none⟩ = some (.slice ra (nx.getD i []).length rc) ∧ IntsAt w (.slice ra (nx.getD i []).length rc) (nx.getD i []) := by
  obtain ⟨kvs, hl, ⟨a', c', hv, _, hc⟩, hk⟩ := h.row
  cases hv
  rcases hc with h0 | ⟨g, o, ha, hg, hc⟩
  · omega
  · have e : nx[i]? = some (nx.getD i []) := by simp [List.getD, List.getElem?_eq_getElem hi]
    have e2 : kvs[i]? = some (kvs[i]'(by omega)) := List.getElem?_eq_getElem _
    have hI := hk i _ _ e e2
    obtain ⟨ra, rc, he, _⟩ := hI.form
    have h2 := hc i _ e2
    rw [he] at h2 hI
    exact ⟨g, o, ra, rc, ha, hg, h2, hI⟩
theorem RowsIn.at' {w : World} {base G n : Nat} {kvs : List Value} {rows : List (List Int)} (h : RowsIn w base G n kvs rows) (hn : n ≤ 140737488355328) (hl : ∀ r ∈ rows, r.length ≤ 140737488355328) : NetAt w (.slice (some ⟨G, 0, none⟩) n n) rows := by
  refine ⟨kvs, by rw [h.klen, h.rlen], ⟨_, _, by rw [h.rlen], ⟨by rw [h.rlen]; omega, by rw [h.rlen]; exact hn⟩, .inr ⟨G, 0, rfl, h.ltG.2, fun j u hj => ?_⟩⟩, fun i r kv e1 e2 => (h.kid i r kv e1 e2).1.at' (hl r (List.mem_of_getElem? e1))⟩
  rw [Nat.zero_add]
  exact h.cellG hj
theorem drewN_zero (w : World) : w = w.drewN 0 := rfl
theorem drewN_add (w : World) (a b : Nat) : (w.drewN a).drewN b = w.drewN (a + b) := by simp [World.drewN, Nat.add_assoc]
theorem below_of_drew {w w' : World} (h : ∃ k, w' = w.drewN k) : Below w.heap.size w w' := by
  obtain ⟨k, rfl⟩ := h
  exact below_drewN (Below.refl _ _) k
theorem take_nextR {α : Type} {xs ys : List α} {i : Nat} {x : α} (h : xs.take i = ys.take i) (h1 : xs[i]? = some x) (h2 : ys[i]? = some x) : xs.take (i + 1) = ys.take (i + 1) := by
  rw [List.take_add_one, List.take_add_one, h, h1, h2]
set_option maxRecDepth 100000 in
set_option maxHeartbeats 1000000 in
theorem sameI_any (xs ys : List Int) (v1 v2 : Value) (w : World) (h1 : IntsAt w v1 xs) (h2 : IntsAt w v2 ys) : Calls Tryz.prog 7 #[v1, v2] w fun e w' => e = .returned (.bool (decide (xs = ys))) ∧ ∃ k, w' = w.drewN k := by
  obtain ⟨a1, c1, rfl, hb1⟩ := h1.form
  obtain ⟨a2, c2, rfl, hb2⟩ := h2.form
  by_cases hl : xs.length = ys.length
  · have HI : Hid (∀ i, i < xs.length → ∃ g1 o1 g2 o2 x y, a1 = some ⟨g1, o1, none⟩ ∧ a2 = some ⟨g2, o2, none⟩ ∧ xs[i]? = some x ∧ ys[i]? = some y ∧ w.cell? ⟨g1, o1 + i, none⟩ = some (.int .i64 x) ∧ w.cell? ⟨g2, o2 + i, none⟩ = some (.int .i64 y)) := fun i hi => by
      obtain ⟨g1, o1, e1, l1, k1⟩ := h1.get hi
      obtain ⟨g2, o2, e2, l2, k2⟩ := h2.get (i := i) (by omega)
      exact ⟨g1, o1, g2, o2, _, _, e1, e2, getD_some hi, getD_some (by omega), k1, k2⟩
    have HD : Hid (∀ (i : Nat) (x y : Int), xs[i]? = some x → ys[i]? = some y → x ≠ y → decide (xs = ys) = false) := fun i x y e1 e2 hn => decide_eq_false (fun he => by rw [he, e2] at e1; cases e1; exact hn rfl)
    have HE : Hid (xs.take xs.length = ys.take xs.length → decide (xs = ys) = true) := fun he => decide_eq_true (by rw [List.take_length, hl, List.take_length] at he; exact he)
    have hl' : (ys.length : Int) = (xs.length : Int) := by omega
    generalize hN : xs.length = n at *
    obtain ⟨R, hR⟩ : ∃ R, R = decide (xs = ys) := ⟨_, rfl⟩
    rw [← hR]
    have HR : Hid _ := hR
    clear h1 h2 hR hN hb2
    rw [← hl]
    go_enter Tryz.func7, Tryz.ntmps7
    go_wp2
    go_loopw [5] (fun vi wr => ∃ i : Nat, vi = .int .i64 i ∧ i ≤ n ∧ Hid (xs.take i = ys.take i ∧ ∃ k, wr = w.drewN k)) (fun vi _ => n - (intOf vi).toNat)
    case atStart => exact ⟨0, rfl, by omega, rfl, 0, rfl⟩
    case round =>
      obtain ⟨i, rfl, hi, hr⟩ := hrel
      obtain ⟨q, hq⟩ := hr.out.2
      have HQ : Hid (wr = w.drewN q) := hq
      clear hq
      by_cases hin : i < n
      · obtain ⟨g1, o1, g2, o2, x, y, rfl, rfl, e1, e2, k1, k2⟩ := HI.out i hin
        have k1' : wr.cell? ⟨g1, o1 + i, none⟩ = some (.int .i64 x) := by rw [HQ.out]; exact k1
        have k2' : wr.cell? ⟨g2, o2 + i, none⟩ = some (.int .i64 y) := by rw [HQ.out]; exact k2
        have hin' : (i : Int) < n := by omega
        have E1 : Hid _ := e1
        have E2 : Hid _ := e2
        clear HI e1 e2
        by_cases hxy : x = y
        · subst hxy
          have HT : Hid _ := take_next hr.out.1 E1.out E2.out
          clear E1 E2 hr
          go_wp2
          go_quiet (fail)
          go_wp2
          go_roundw
          case rel => exact ⟨i + 1, by first | rfl | (congr 1; omega), by omega, HT.out, by first | exact ⟨_, HQ.out⟩ | exact ⟨_, by rw [HQ.out]; exact drewN_add _ _ _⟩⟩
          case measure => simp [intOf]; omega
        · have HX : Hid (R = false) := HR.out.trans (HD.out i x y E1.out E2.out hxy)
          clear E1 E2 hr
          go_wp2
          go_quiet (fail)
          go_wp2
          go_ret
          exact ⟨ret_bool HX.out.symm, by first | exact ⟨_, HQ.out⟩ | exact ⟨_, by rw [HQ.out]; exact drewN_add _ _ _⟩⟩
      · obtain rfl : i = n := by omega
        have HX : Hid (R = true) := HR.out.trans (HE.out hr.out.1)
        clear HI hr
        go_wp2
        go_ret
        exact ⟨ret_bool HX.out.symm, by first | exact ⟨_, HQ.out⟩ | exact ⟨_, by rw [HQ.out]; exact drewN_add _ _ _⟩⟩
  · have hne : decide (xs = ys) = false := decide_eq_false (fun he => hl (by rw [he]))
    rw [hne]
    have hl' : ¬ (xs.length : Int) = (ys.length : Int) := by omega
    clear h1 h2 hl hne
    go_enter Tryz.func7, Tryz.ntmps7
    go_wp2
    go_ret
    exact ⟨rfl, 0, rfl⟩
theorem getR_some {l : List (List Int)} {i : Nat} (h : i < l.length) : l[i]? = some (l.getD i []) := by rw [List.getElem?_eq_getElem h, getD_of h]
theorem IntsAt.drew {w : World} {v : Value} {l : List Int} (h : IntsAt w v l) (k : Nat) : IntsAt (w.drewN k) v l := h.below (below_drewN (Below.refl _ _) k)
set_option maxRecDepth 100000 in
set_option maxHeartbeats 1000000 in
theorem sameR_any (xs ys : List (List Int)) (v1 v2 : Value) (w : World) (h1 : NetAt w v1 xs) (h2 : NetAt w v2 ys) : Calls Tryz.prog 10 #[v1, v2] w fun e w' => e = .returned (.bool (decide (xs = ys))) ∧ ∃ k, w' = w.drewN k := by
  obtain ⟨a1, c1, rfl, hb1⟩ := h1.form
  obtain ⟨a2, c2, rfl, hb2⟩ := h2.form
  by_cases hl : xs.length = ys.length
  · have HI : Hid (∀ i, i < xs.length → ∃ g1 o1 g2 o2 x y q1 q2, a1 = some ⟨g1, o1, none⟩ ∧ a2 = some ⟨g2, o2, none⟩ ∧ xs[i]? = some x ∧ ys[i]? = some y ∧ w.cell? ⟨g1, o1 + i, none⟩ = some q1 ∧ w.cell? ⟨g2, o2 + i, none⟩ = some q2 ∧ IntsAt w q1 x ∧ IntsAt w q2 y) := fun i hi => by
      obtain ⟨g1, o1, r1, s1, e1, l1, k1, i1⟩ := h1.get hi
      obtain ⟨g2, o2, r2, s2, e2, l2, k2, i2⟩ := h2.get (i := i) (by omega)
      exact ⟨g1, o1, g2, o2, _, _, _, _, e1, e2, getR_some hi, getR_some (by omega), k1, k2, i1, i2⟩
    have HD : Hid (∀ (i : Nat) (x y : List Int), xs[i]? = some x → ys[i]? = some y → x ≠ y → decide (xs = ys) = false) := fun i x y e1 e2 hn => decide_eq_false (fun he => by rw [he, e2] at e1; cases e1; exact hn rfl)
    have HE : Hid (xs.take xs.length = ys.take xs.length → decide (xs = ys) = true) := fun he => decide_eq_true (by rw [List.take_length, hl, List.take_length] at he; exact he)
    have hl' : (ys.length : Int) = (xs.length : Int) := by omega
    generalize hN : xs.length = n at *
    obtain ⟨R, hR⟩ : ∃ R, R = decide (xs = ys) := ⟨_, rfl⟩
    rw [← hR]
    have HR : Hid _ := hR
    clear h1 h2 hR hN hb2
    rw [← hl]
    go_enter Tryz.func10, Tryz.ntmps10
    go_wp2
    go_loopw [5] (fun vi wr => ∃ i : Nat, vi = .int .i64 i ∧ i ≤ n ∧ Hid (xs.take i = ys.take i ∧ ∃ k, wr = w.drewN k)) (fun vi _ => n - (intOf vi).toNat)
    case atStart => exact ⟨0, rfl, by omega, rfl, 0, rfl⟩
    case round =>
      obtain ⟨i, rfl, hi, hr⟩ := hrel
      obtain ⟨q, hq⟩ := hr.out.2
      have HQ : Hid (wr = w.drewN q) := hq
      clear hq
      by_cases hin : i < n
      · obtain ⟨g1, o1, g2, o2, x, y, q1, q2, rfl, rfl, e1, e2, k1, k2, i1, i2⟩ := HI.out i hin
        have k1' : wr.cell? ⟨g1, o1 + i, none⟩ = some q1 := by rw [HQ.out]; exact k1
        have k2' : wr.cell? ⟨g2, o2 + i, none⟩ = some q2 := by rw [HQ.out]; exact k2
        have hin' : (i : Int) < n := by omega
        have E1 : Hid _ := e1
        have E2 : Hid _ := e2
        have HC : Hid (∀ k, Calls Tryz.prog 7 #[q1, q2] (wr.drewN k) fun e w' => e = .returned (.bool (decide (x = y))) ∧ ∃ d, w' = (wr.drewN k).drewN d) := fun k => sameI_any _ _ _ _ _ (by rw [HQ.out]; exact (i1.drew q).drew k) (by rw [HQ.out]; exact (i2.drew q).drew k)
        clear HI e1 e2 i1 i2 k1 k2
        by_cases hxy : x = y
        · subst hxy
          rw [decide_eq_true rfl] at HC
          have HT : Hid _ := take_nextR hr.out.1 E1.out E2.out
          clear E1 E2 hr
          go_wp2
          go_quiet ((go_at_call 7; exact Calls.quiet_of (HC.out _)))
          go_wp2
          go_roundw
          case rel => exact ⟨i + 1, by first | rfl | (congr 1; omega), by omega, HT.out, by first | exact ⟨_, HQ.out⟩ | exact ⟨_, by rw [HQ.out]; exact drewN_add _ _ _⟩⟩
          case measure => simp [intOf]; omega
        · have HX : Hid (R = false) := HR.out.trans (HD.out i x y E1.out E2.out hxy)
          rw [decide_eq_false hxy] at HC
          clear E1 E2 hr
          go_wp2
          go_quiet ((go_at_call 7; exact Calls.quiet_of (HC.out _)))
          go_wp2
          go_ret
          exact ⟨ret_bool HX.out.symm, by first | exact ⟨_, HQ.out⟩ | exact ⟨_, by rw [HQ.out]; exact drewN_add _ _ _⟩⟩
      · obtain rfl : i = n := by omega
        have HX : Hid (R = true) := HR.out.trans (HE.out hr.out.1)
        clear HI hr
        go_wp2
        go_ret
        exact ⟨ret_bool HX.out.symm, by first | exact ⟨_, HQ.out⟩ | exact ⟨_, by rw [HQ.out]; exact drewN_add _ _ _⟩⟩
  · have hne : decide (xs = ys) = false := decide_eq_false (fun he => hl (by rw [he]))
    rw [hne]
    have hl' : ¬ (xs.length : Int) = (ys.length : Int) := by omega
    clear h1 h2 hl hne
    go_enter Tryz.func10, Tryz.ntmps10
    go_wp2
    go_ret
    exact ⟨rfl, 0, rfl⟩
end Go.Proofs.YtabpnjakfoofpaaGreatDoor
