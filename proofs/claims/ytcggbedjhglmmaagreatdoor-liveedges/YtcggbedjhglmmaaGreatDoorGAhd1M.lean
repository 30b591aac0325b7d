/- The law's own: among, known. -/
import Derived.Test.YtcggbedjhglmmaaGreatDoorLRfM
import Derived.Test.YtcggbedjhglmmaaGreatDoorGChk3M
import Derived.BigQuiet
import Derived.Test.YtcggbedjhglmmaaGreatDoorGMemM
import Derived.Deep.OwnRows
namespace Go.Proofs.YtcggbedjhglmmaaGreatDoor
open Go.RowKit

set_option maxRecDepth 100000 in
set_option maxHeartbeats 1000000 in
theorem amongL_any (l : List Int) (x : Int) (v : Value) (w : World) (h : IntsAt w v l) : Calls Tryz.prog 14 #[v, .int .i64 x] w fun e w' => e = .returned (.bool (memB l x)) ∧ w' = w := by
  obtain ⟨a, c, rfl, hll⟩ := h.form
  have HI : Hid (∀ i, i < l.length → _) := fun i hi => h.get (i := i) hi
  have HD : Hid (∀ i, i < l.length → _) := fun i hi => memB_drop (l := l) (x := x) hi
  have HZ : Hid (memB (l.drop l.length) x = false) := by show _ = _; rw [List.drop_length]; rfl
  obtain ⟨R, hR⟩ : ∃ R, R = memB l x := ⟨_, rfl⟩
  rw [← hR]
  have HR : Hid (memB (l.drop 0) x = R) := hR.symm
  obtain ⟨n, hn⟩ : ∃ n, n = l.length := ⟨_, rfl⟩
  rw [← hn] at HI HD HZ hll ⊢
  clear h hR hn
  go_enter Tryz.func14, Tryz.ntmps14
  go_wp2
  go_loopw [5] (fun vi wr => ∃ i : Nat, vi = .int .i64 i ∧ i ≤ n ∧ Hid (memB (l.drop i) x = R ∧ wr = w)) (fun vi _ => n - (intOf vi).toNat)
  case atStart => exact ⟨0, rfl, by omega, HR.out, rfl⟩
  case round =>
    obtain ⟨i, rfl, hi, hr⟩ := hrel
    have hw := hr.out.2
    subst hw
    clear HR
    by_cases hin : i < n
    · obtain ⟨g, o, rfl, hg, c0⟩ := HI.out i hin
      have hin' : (i : Int) < n := by omega
      have HDD : Hid _ := HD.out i hin
      rw [hr.out.1] at HDD
      clear HI HD HZ
      generalize l.getD i 0 = y at *
      by_cases hy : y = x
      · subst hy
        have HX : Hid (R = true) := by show R = true; have h9 := HDD.out; simpa using h9
        clear HDD
        go_wp2
        go_ret
        exact ⟨ret_bool HX.out.symm, rfl⟩
      · have hyf : (y == x) = false := beq_false_of_ne hy
        have HX : Hid (R = memB (l.drop (i + 1)) x) := by show R = memB (l.drop (i + 1)) x; have h9 := HDD.out; simpa [hy] using h9
        clear HDD
        go_wp2
        go_roundw
        case rel => exact ⟨i + 1, by first | rfl | (congr 1; omega), by omega, HX.out.symm, by first | rfl | trivial⟩
        case measure => simp [intOf]; omega
    · obtain rfl : i = n := by omega
      have HX : Hid (false = R) := by have h9 := hr.out.1; rw [HZ.out] at h9; exact h9
      clear HI HD HZ
      go_wp2
      go_ret
      exact ⟨ret_bool HX.out, rfl⟩
theorem all_dropZ {l : List Int} {i : Nat} {p : Int → Bool} (h : i < l.length) : (l.drop i).all p = (p (l.getD i 0) && (l.drop (i + 1)).all p) := by
  have e : l.getD i 0 = l[i] := by simp [List.getD, List.getElem?_eq_getElem h]
  rw [e, List.drop_eq_getElem_cons h]
  rfl
set_option maxRecDepth 100000 in
set_option maxHeartbeats 2000000 in
theorem known_any (G : Gr) (pv vv av bv v : Value) (l : List Int) (w : World) (h : GrAt w pv vv av bv G) (hv : IntsAt w v l) :
    Calls Tryz.prog 13 #[.agg #[.string G.name, pv, .int .u8 G.result, vv, av, bv], v] w fun e w' => e = .returned (.bool (l.all (inB · G.vars.length))) ∧ Below w.heap.size w w' := by
  obtain ⟨pa, pc, va, vc, aa, ac, ba, bc, rfl, rfl, rfl, rfl, _, hml, _, _⟩ := h.openF
  obtain ⟨a, c, rfl, hll⟩ := hv.form
  have HI : Hid (∀ i, i < l.length → _) := fun i hi => hv.get (i := i) hi
  obtain ⟨R, hR⟩ : ∃ R, R = l.all (inB · G.vars.length) := ⟨_, rfl⟩
  rw [← hR]
  have HR : Hid ((l.drop 0).all (inB · G.vars.length) = R) := hR.symm
  have HD : Hid (∀ i, i < l.length → _) := fun i hi => all_dropZ (l := l) (p := (inB · G.vars.length)) hi
  have HZ : Hid ((l.drop l.length).all (inB · G.vars.length) = true) := by show _ = _; rw [List.drop_length]; rfl
  clear h hv hR
  obtain ⟨nm, ps, r, vs, ars, bs⟩ := G
  dsimp only at *
  generalize ps.length = pl at *
  generalize vs.length = m at *
  generalize ars.length = al at *
  generalize bs.length = n at *
  generalize l.length = N at *
  have hml' : (m : Int) ≤ 140737488355328 := by omega
  have H0 : Hid (Below w.heap.size w (w.alloc (.cells #[.string nm, .slice pa pl pc, .int .u8 r, .slice va m vc, .slice aa al ac, .slice ba n bc] 28)) ∧ Box (w.alloc (.cells #[.string nm, .slice pa pl pc, .int .u8 r, .slice va m vc, .slice aa al ac, .slice ba n bc] 28)) w.heap.size [.string nm, .slice pa pl pc, .int .u8 r, .slice va m vc, .slice aa al ac, .slice ba n bc]) := ⟨below_alloc (Below.refl _ _) _, Box.new w [.string nm, .slice pa pl pc, .int .u8 r, .slice va m vc, .slice aa al ac, .slice ba n bc] 28⟩
  go_enter Tryz.func13, Tryz.ntmps13
  go_wp2
  go_loopw [5] (fun vi wr => ∃ i : Nat, vi = .int .i64 i ∧ i ≤ N ∧ Hid ((l.drop i).all (inB · m) = R ∧ Below w.heap.size w wr ∧ Box wr w.heap.size [.string nm, .slice pa pl pc, .int .u8 r, .slice va m vc, .slice aa al ac, .slice ba n bc])) (fun vi _ => N - (intOf vi).toNat)
  case atStart => exact ⟨0, rfl, by omega, HR.out, H0.out⟩
  case round =>
    obtain ⟨i, rfl, hi, hr⟩ := hrel
    clear HR H0
    generalize wr = wo at *
    obtain ⟨e0, e1, e2, e3, e4, e5⟩ := box6 hr.out.2.2
    have hwl := hr.out.2.2.lt
    by_cases hin : i < N
    · obtain ⟨g, o, rfl, hg, c0⟩ := HI.out i hin
      have hin' : (i : Int) < N := by omega
      have c0' : wo.cell? ⟨g, o + i, none⟩ = some (.int .i64 (l.getD i 0)) := (hr.out.2.1.cell (p := ⟨g, o + i, none⟩) hg).trans c0
      have hd := HD.out i hin
      rw [hr.out.1] at hd
      have HQ : Hid _ := hr.out.2
      clear hr HI HD HZ c0
      generalize l.getD i 0 = y at *
      by_cases h1 : y < 0
      · have HX : Hid (false = R) := by show _ = _; rw [hd, show inB y m = false from by unfold inB; simp; omega]; rfl
        have h1d : decide (y < 0) = true := decide_eq_true h1
        clear hd
        go_wp2
        go_quiet (fail)
        go_wp2
        go_ret
        exact ⟨ret_bool HX.out, by first | exact below_drewN HQ.out.1 _ | exact HQ.out.1⟩
      · have h1d : decide (y < 0) = false := decide_eq_false h1
        by_cases h2 : (m : Int) ≤ y
        · have HX : Hid (false = R) := by show _ = _; rw [hd, show inB y m = false from by unfold inB; simp; omega]; rfl
          have h2d : decide ((m : Int) ≤ y) = true := decide_eq_true h2
          clear hd
          go_wp2
          go_quiet (fail)
          go_wp2
          go_ret
          exact ⟨ret_bool HX.out, by first | exact below_drewN HQ.out.1 _ | exact HQ.out.1⟩
        · have h2d : decide ((m : Int) ≤ y) = false := decide_eq_false h2
          have HX : Hid ((l.drop (i + 1)).all (inB · m) = R) := by show _ = _; rw [hd, show inB y m = true from by unfold inB; simp; omega]; rfl
          clear hd
          go_wp2
          go_quiet (fail)
          go_wp2
          go_roundw
          case rel => exact ⟨i + 1, by first | rfl | (congr 1; omega), by omega, HX.out, by first | exact below_drewN HQ.out.1 _ | exact HQ.out.1, by first | exact HQ.out.2.below (below_drewN (Below.refl _ _) _) | exact HQ.out.2⟩
          case measure => simp [intOf]; omega
    · obtain rfl : i = N := by omega
      have HX : Hid (true = R) := by have h9 := hr.out.1; rw [HZ.out] at h9; exact h9
      have HQ : Hid _ := hr.out.2.1
      clear HI HD HZ hr
      go_wp2
      go_ret
      exact ⟨ret_bool HX.out, HQ.out⟩
end Go.Proofs.YtcggbedjhglmmaaGreatDoor
/- What stands ahead of a block: rising, just those with an edge to it, as many in all as there are edges. Plain. -/
namespace Go.Proofs.YtcggbedjhglmmaaGreatDoor

theorem putA_get {i : Int} {rows : List (List Int)} {to : Int} {j : Nat} (hj : j < rows.length) : (putA i rows to).getD j [] = rows.getD j [] ++ (if (j : Int) = to then [i] else []) := by
  unfold putA
  by_cases hb : inB to rows.length = true
  · rw [if_pos hb]
    rw [inB_iff] at hb
    simp only [List.getD, List.getElem?_modify, List.getElem?_eq_getElem hj]
    by_cases e : (j : Int) = to
    · have : to.toNat = j := by omega
      simp [e, this]
    · have : to.toNat ≠ j := by omega
      simp [e, this]
  · rw [if_neg hb]
    have e : ¬ (j : Int) = to := by
      rw [inB_iff] at hb
      omega
    simp [e]
theorem putsA_get {i : Int} {j : Nat} : ∀ {l : List Int} {rows : List (List Int)}, l.Nodup → j < rows.length → (putsA i rows l).getD j [] = rows.getD j [] ++ (if (j : Int) ∈ l then [i] else [])
  | [], rows, _, _ => by simp [putsA]
  | a :: l, rows, hn, hj => by
    unfold putsA
    rw [List.foldl_cons]
    have := putsA_get (i := i) (l := l) (rows := putA i rows a) (List.nodup_cons.1 hn).2 (by rw [putA_len]; exact hj)
    unfold putsA at this
    rw [this, putA_get hj]
    have hna := (List.nodup_cons.1 hn).1
    by_cases e : (j : Int) = a
    · subst e
      simp [hna]
    · simp [e]
def rowF (j : Nat) : List Tm → Nat → List Int
  | [], _ => []
  | t :: ts, i => (if (j : Int) ∈ nextT t then [(i : Int)] else []) ++ rowF j ts (i + 1)
theorem aheadF_get {j : Nat} : ∀ {ts : List Tm} {i : Nat} {rows : List (List Int)}, j < rows.length → (aheadF ts i rows).getD j [] = rows.getD j [] ++ rowF j ts i
  | [], _, _, _ => by simp [aheadF, rowF]
  | t :: ts, i, rows, hj => by
    unfold aheadF rowF
    rw [aheadF_get (by rw [putsA_len]; exact hj), putsA_get (next_nodup t) hj, List.append_assoc]
theorem aheadT_get {ts : List Tm} {j : Nat} (hj : j < ts.length) : (aheadT ts).getD j [] = rowF j ts 0 := by
  unfold aheadT
  rw [aheadF_get (by simpa using hj)]
  simp [List.getD, hj]
theorem rowF_mem {j : Nat} : ∀ {ts : List Tm} {i : Nat} {x : Int}, x ∈ rowF j ts i ↔ ∃ k : Nat, x = ((i + k : Nat) : Int) ∧ k < ts.length ∧ (j : Int) ∈ nextT (ts.getD k default)
  | [], _, _ => by simp [rowF]
  | t :: ts, i, x => by
    unfold rowF
    rw [List.mem_append, rowF_mem]
    constructor
    · rintro (h | ⟨k, rfl, hk, hm⟩)
      · split at h
        · simp only [List.mem_singleton] at h
          exact ⟨0, by simpa using h, by simp, by simpa using by assumption⟩
        · simp at h
      · exact ⟨k + 1, by omega, by simpa using hk, by simpa using hm⟩
    · rintro ⟨k, rfl, hk, hm⟩
      match k, hk, hm with
      | 0, _, hm =>
        left
        have : (j : Int) ∈ nextT t := by simpa using hm
        rw [if_pos this]; simp
      | k + 1, hk, hm => exact .inr ⟨k, by omega, by simpa using hk, by simpa using hm⟩
theorem rowF_lt {j : Nat} : ∀ {ts : List Tm} {i : Nat}, (rowF j ts i).Pairwise (· < ·)
  | [], _ => by simp [rowF]
  | t :: ts, i => by
    unfold rowF
    split
    · rw [List.cons_append, List.nil_append, List.pairwise_cons]
      refine ⟨fun x hx => ?_, rowF_lt⟩
      obtain ⟨k, rfl, _⟩ := rowF_mem.1 hx
      omega
    · simpa using rowF_lt
theorem mem_ahead {ts : List Tm} {j : Nat} (hj : j < ts.length) {x : Int} : x ∈ (aheadT ts).getD j [] ↔ ∃ k : Nat, x = (k : Int) ∧ k < ts.length ∧ (j : Int) ∈ nextT (ts.getD k default) := by
  rw [aheadT_get hj, rowF_mem]
  simp
theorem ahead_lt {ts : List Tm} {j : Nat} (hj : j < ts.length) : ((aheadT ts).getD j []).Pairwise (· < ·) := by rw [aheadT_get hj]; exact rowF_lt
/-- All edges. -/
def lensA (rows : List (List Int)) : Nat := (rows.map List.length).sum
def edgesT (n : Nat) (l : List Int) : Nat := l.countP (inB · n)
theorem lens_modify : ∀ (rows : List (List Int)) (k : Nat) (i : Int), k < rows.length → lensA (rows.modify k (· ++ [i])) = lensA rows + 1
  | [], k, _, h => by simp at h
  | r :: rows, 0, i, _ => by simp [lensA, List.modify]; omega
  | r :: rows, k + 1, i, h => by
    have := lens_modify rows k i (by simpa using h)
    simp [lensA, List.modify] at this ⊢
    omega
theorem lens_putA (i : Int) (rows : List (List Int)) (to : Int) : lensA (putA i rows to) = lensA rows + (if inB to rows.length then 1 else 0) := by
  unfold putA
  split
  · rename_i h
    rw [lens_modify _ _ _ (by rw [inB_iff] at h; omega)]
  · rfl
theorem lens_putsA (i : Int) : ∀ (l : List Int) (rows : List (List Int)), lensA (putsA i rows l) = lensA rows + edgesT rows.length l
  | [], rows => by simp [putsA, edgesT]
  | a :: l, rows => by
    have := lens_putsA i l (putA i rows a)
    unfold putsA at this ⊢
    rw [List.foldl_cons, this, lens_putA, putA_len]
    unfold edgesT
    rw [List.countP_cons]
    omega
def edgesF (n : Nat) (ts : List Tm) : Nat := (ts.map fun t => edgesT n (nextT t)).sum
theorem lens_aheadF : ∀ (ts : List Tm) (i : Nat) (rows : List (List Int)), lensA (aheadF ts i rows) = lensA rows + edgesF rows.length ts
  | [], _, rows => by simp [aheadF, edgesF]
  | t :: ts, i, rows => by
    unfold aheadF
    rw [lens_aheadF ts, lens_putsA, putsA_len]
    simp [edgesF]
    omega
theorem lens_rep : ∀ n, lensA (List.replicate n []) = 0
  | 0 => rfl
  | n + 1 => by
    have := lens_rep n
    simp [lensA, List.replicate_succ] at this ⊢
theorem lens_ahead (ts : List Tm) : lensA (aheadT ts) = edgesF ts.length ts := by
  unfold aheadT
  rw [lens_aheadF, lens_rep]
  simp
theorem next_len (t : Tm) : (nextT t).length ≤ 2 := by
  unfold nextT
  repeat' split
  all_goals simp
theorem edgesT_le (n : Nat) (t : Tm) : edgesT n (nextT t) ≤ 2 := Nat.le_trans List.countP_le_length (next_len t)
theorem edgesF_le (n : Nat) : ∀ ts : List Tm, edgesF n ts ≤ 2 * ts.length
  | [] => by simp [edgesF]
  | t :: ts => by
    have := edgesF_le n ts
    have := edgesT_le n t
    simp [edgesF] at *
    omega
end Go.Proofs.YtcggbedjhglmmaaGreatDoor
/- Rows of rows in memory of one's own. -/
namespace Go.Proofs.YtcggbedjhglmmaaGreatDoor
open Go.RowKit

structure RowsIn (w : World) (base G n : Nat) (kvs : List Value) (rows : List (List Int)) : Prop where
  klen : kvs.length = n
  rlen : rows.length = n
  own : w.ownsRow base 22 1 (.slice (some ⟨G, 0, none⟩) n n) n kvs
  kid : ∀ (i : Nat) (r : List Int) (kv : Value), rows[i]? = some r → kvs[i]? = some kv → OwnI w base kv r ∧ kv.ownBlock ≠ some G
  apart : ∀ (i j : Nat) (a b : Value) (g : Nat), i ≠ j → kvs[i]? = some a → kvs[j]? = some b → a.ownBlock = some g → b.ownBlock ≠ some g
theorem RowsIn.below {w w' : World} {base G n : Nat} {kvs : List Value} {rows : List (List Int)} (h : RowsIn w base G n kvs rows) (hb : Below w.heap.size w w') : RowsIn w' base G n kvs rows :=
  ⟨h.klen, h.rlen, owns_below h.own hb, fun i r kv h1 h2 => ⟨owns_below (h.kid i r kv h1 h2).1 hb, (h.kid i r kv h1 h2).2⟩, h.apart⟩
theorem RowsIn.cellG {w : World} {base G n : Nat} {kvs : List Value} {rows : List (List Int)} (h : RowsIn w base G n kvs rows) {t : Nat} {kv : Value} (hk : kvs[t]? = some kv) : w.cell? ⟨G, t, none⟩ = some kv := by
  have ht : t < n := by have := (List.getElem?_eq_some_iff.1 hk).1; rw [h.klen] at this; exact this
  rw [h.own.cellAt t (by omega)]
  exact hk
theorem RowsIn.fzG {w : World} {base G n : Nat} {kvs : List Value} {rows : List (List Int)} (h : RowsIn w base G n kvs rows) (t : Nat) : w.frozen? ⟨G, t, none⟩ = false := h.own.frozenAt t
theorem RowsIn.ltG {w : World} {base G n : Nat} {kvs : List Value} {rows : List (List Int)} (h : RowsIn w base G n kvs rows) : base ≤ G ∧ G < w.heap.size := h.own.lt G rfl
/-- One row is longer by one. -/
theorem RowsIn.push {w w2 : World} {base G n : Nat} {kvs : List Value} {rows : List (List Int)} (h : RowsIn w base G n kvs rows) {t : Nat} {r : List Int} {kv v' : Value} {x : Int} (hr : rows[t]? = some r) (hk : kvs[t]? = some kv)
    (ho : w2.ownsRow base 3 1 v' (r.length + 1) (r.map intV ++ [intV x])) (hg : w.grownBy w2 kv.ownBlock) (hat : v'.ownBlock = kv.ownBlock ∨ v'.ownBlock = some w.heap.size) :
    RowsIn (w2.setCell ⟨G, t, none⟩ v') base G n (kvs.set t v') (rows.modify t (· ++ [x])) ∧ w2.cell? ⟨G, t, none⟩ = some kv ∧ w2.frozen? ⟨G, t, none⟩ = false ∧
      (∀ k, k < w.heap.size → k ≠ G → kv.ownBlock ≠ some k → (w2.setCell ⟨G, t, none⟩ v').heap[k]? = w.heap[k]?) ∧ w.heap.size ≤ (w2.setCell ⟨G, t, none⟩ v').heap.size := by
  have hG := h.ltG
  have hkG := (h.kid t r kv hr hk).2
  have eG : w2.heap[G]? = w.heap[G]? := hg.block G hG.2 (fun e => hkG e.symm)
  have own2 : w2.ownsRow base 22 1 (.slice (some ⟨G, 0, none⟩) n n) n kvs := owns_same h.own fun q hq => by simp [Value.ownBlock] at hq; subst hq; exact eG
  have hvG : v'.ownBlock ≠ some G := by
    rcases hat with e | e
    · rw [e]; exact hkG
    · rw [e]; intro hc; cases hc; omega
  have htn : t < n := by have := (List.getElem?_eq_some_iff.1 hk).1; rw [h.klen] at this; exact this
  have cG : w2.cell? ⟨G, t, none⟩ = some kv := (World.cell?_of_block (w := w) (a := ⟨G, t, none⟩) eG).trans (h.cellG hk)
  have fG : w2.frozen? ⟨G, t, none⟩ = false := (World.frozen?_of_block (w := w) (a := ⟨G, t, none⟩) eG).trans (h.fzG t)
  refine ⟨⟨by simp [h.klen], by simp [h.rlen], (World.ownsRow.stored own2 t v').1, ?_, ?_⟩, cG, fG, ?_, ?_⟩
  · intro i q u hq hu
    rw [List.getElem?_modify] at hq
    rw [List.getElem?_set] at hu
    by_cases e : t = i
    · subst e
      rw [if_pos rfl, if_pos (by rw [h.klen]; exact htn)] at hu
      cases hu
      rw [hr] at hq
      simp at hq
      subst hq
      refine ⟨owns_other ?_ (by simpa using hvG) _, hvG⟩
      show World.ownsRow _ _ _ _ _ _ _
      simpa using ho
    · rw [if_neg e] at hu
      simp [e] at hq
      obtain ⟨k1, k2⟩ := h.kid i q u hq hu
      refine ⟨owns_other (owns_same k1 fun g hgu => hg.block g (k1.lt g hgu).2 (fun hc => h.apart t i kv u g e hk hu hc.symm hgu)) (by simpa using k2) _, k2⟩
  · intro i j a b g hij ha hb hag hbg
    rw [List.getElem?_set] at ha hb
    by_cases e1 : t = i
    · subst e1
      rw [if_pos rfl, if_pos (by rw [h.klen]; exact htn)] at ha
      cases ha
      rw [if_neg hij] at hb
      rcases hat with e | e
      · exact h.apart t j kv b g hij hk hb (by rw [← e]; exact hag) hbg
      · rw [e] at hag; cases hag
        have hj : j < rows.length := by have := (List.getElem?_eq_some_iff.1 hb).1; rw [h.klen] at this; rw [h.rlen]; exact this
        have := ((h.kid j _ b (List.getElem?_eq_getElem hj) hb).1.lt _ hbg).2
        omega
    · rw [if_neg e1] at ha
      by_cases e2 : t = j
      · subst e2
        rw [if_pos rfl, if_pos (by rw [h.klen]; exact htn)] at hb
        cases hb
        rcases hat with e | e
        · exact h.apart i t a kv g hij ha hk hag (by rw [← e]; exact hbg)
        · rw [e] at hbg; cases hbg
          have hj : i < rows.length := by have := (List.getElem?_eq_some_iff.1 ha).1; rw [h.klen] at this; rw [h.rlen]; exact this
          have := ((h.kid i _ a (List.getElem?_eq_getElem hj) ha).1.lt _ hag).2
          omega
      · rw [if_neg e2] at hb
        exact h.apart i j a b g hij ha hb hag hbg
  · intro k hk1 hk2 hk3
    exact (Below.heap_setCell _ _ _ _ (by simpa using hk2)).trans (hg.block k hk1 (fun e => hk3 e.symm))
  · simpa [World.setCell] using hg.size
theorem infoS : (Tryz.prog.info? 22).map (fun i => (i.zero, i.size, i.bytes)) = some (some (.slice none 0 0), 1, 24) := by kernel_rfl
theorem rows_new (w : World) (base n : Nat) (hb : base ≤ w.heap.size) (hn : n ≤ 1000000) : RowsIn (w.alloc (.cells (madeCells #[.slice none 0 0] n) 22)) base w.heap.size n (List.replicate n (.slice none 0 0)) (List.replicate n []) := by
  have r1 := World.ownsRow_lit (base := base) (e := 22) (size := 1) w (madeCells #[.slice none 0 0] n) n hb (by unfold maxLen; omega) (by simp [size_madeCells])
  rw [toList_madeCells_one] at r1
  refine ⟨by simp, by simp, r1, ?_, ?_⟩
  · intro i r kv h1 h2
    rw [List.getElem?_replicate] at h1 h2
    split at h1
    · rename_i hi
      rw [if_pos hi] at h2
      cases h1; cases h2
      exact ⟨World.ownsRow_nil _ _ _ _, by simp [Value.ownBlock]⟩
    · cases h1
  · intro i j a b g _ ha _ hg
    rw [List.getElem?_replicate] at ha
    split at ha
    · cases ha; simp [Value.ownBlock] at hg
    · cases ha
theorem lens_mem : ∀ {rows : List (List Int)} {r : List Int}, r ∈ rows → r.length ≤ lensA rows
  | a :: rows, r, h => by
    have e : lensA (a :: rows) = a.length + lensA rows := by simp [lensA]
    rcases List.mem_cons.1 h with rfl | h
    · omega
    · have := lens_mem h; omega
end Go.Proofs.YtcggbedjhglmmaaGreatDoor
