/- What stands ahead of a block: rising, just those with an edge to it, as many in all as there are edges. Plain. -/
import Derived.Test.YtdgpdmohfnealaaGreatDoorGMemM
import Derived.Test.YtdgpdmohfnealaaGreatDoorGLibM
import Derived.Deep.OwnRows
import Derived.Test.YtdgpdmohfnealaaGreatDoorGBoxM
namespace Go.Proofs.YtdgpdmohfnealaaGreatDoor

theorem putA_get {i : Int} {rows : List (List Int)} {to : Int} {j : Nat} (hj : j < rows.length) : (putA i rows to).getD j [] = rows.getD j [] ++ (if (j : Int) = to then [i] else []) := by
  unfold putA
  by_cases hb : inB to rows.length = true
  · rw [if_pos hb]
    rw [inB_iff] at hb
    simp only [List.getD, List.getElem?_modify, List.getElem?_eq_getElem hj]
    by_cases e : (j : Int) = to
    · have : to.toNat = j := by omega
      simp [e, this]
    · have : to.toNat ≠ j := by omega
      simp [e, this]
  · rw [if_neg hb]
    have e : ¬ (j : Int) = to := by
      rw [inB_iff] at hb
      omega
    simp [e]
theorem putsA_get {i : Int} {j : Nat} : ∀ {l : List Int} {rows : List (List Int)}, l.Nodup → j < rows.length → (putsA i rows l).getD j [] = rows.getD j [] ++ (if (j : Int) ∈ l then [i] else [])
  | [], rows, _, _ => by simp [putsA]
  | a :: l, rows, hn, hj => by
    unfold putsA
    rw [List.foldl_cons]
    have := putsA_get (i := i) (l := l) (rows := putA i rows a) (List.nodup_cons.1 hn).2 (by rw [putA_len]; exact hj)
    unfold putsA at this
    rw [this, putA_get hj]
    have hna := (List.nodup_cons.1 hn).1
    by_cases e : (j : Int) = a
    · subst e
      simp [hna]
    · simp [e]
def rowF (j : Nat) : List Tm → Nat → List Int
  | [], _ => []
  | t :: ts, i => (if (j : Int) ∈ nextT t then [(i : Int)] else []) ++ rowF j ts (i + 1)
theorem aheadF_get {j : Nat} : ∀ {ts : List Tm} {i : Nat} {rows : List (List Int)}, j < rows.length → (aheadF ts i rows).getD j [] = rows.getD j [] ++ rowF j ts i
  | [], _, _, _ => by simp [aheadF, rowF]
  | t :: ts, i, rows, hj => by
    unfold aheadF rowF
    rw [aheadF_get (by rw [putsA_len]; exact hj), putsA_get (next_nodup t) hj, List.append_assoc]
theorem aheadT_get {ts : List Tm} {j : Nat} (hj : j < ts.length) : (aheadT ts).getD j [] = rowF j ts 0 := by
  unfold aheadT
  rw [aheadF_get (by simpa using hj)]
  simp [List.getD, hj]
theorem rowF_mem {j : Nat} : ∀ {ts : List Tm} {i : Nat} {x : Int}, x ∈ rowF j ts i ↔ ∃ k : Nat, x = ((i + k : Nat) : Int) ∧ k < ts.length ∧ (j : Int) ∈ nextT (ts.getD k default)
  | [], _, _ => by simp [rowF]
  | t :: ts, i, x => by
    unfold rowF
    rw [List.mem_append, rowF_mem]
    constructor
    · rintro (h | ⟨k, rfl, hk, hm⟩)
      · split at h
        · simp only [List.mem_singleton] at h
          exact ⟨0, by simpa using h, by simp, by simpa using by assumption⟩
        · simp at h
      · exact ⟨k + 1, by omega, by simpa using hk, by simpa using hm⟩
    · rintro ⟨k, rfl, hk, hm⟩
      match k, hk, hm with
      | 0, _, hm =>
        left
        have : (j : Int) ∈ nextT t := by simpa using hm
        rw [if_pos this]; simp
      | k + 1, hk, hm => exact .inr ⟨k, by omega, by simpa using hk, by simpa using hm⟩
theorem rowF_lt {j : Nat} : ∀ {ts : List Tm} {i : Nat}, (rowF j ts i).Pairwise (· < ·)
  | [], _ => by simp [rowF]
  | t :: ts, i => by
    unfold rowF
    split
    · rw [List.cons_append, List.nil_append, List.pairwise_cons]
      refine ⟨fun x hx => ?_, rowF_lt⟩
      obtain ⟨k, rfl, _⟩ := rowF_mem.1 hx
      omega
    · simpa using rowF_lt
theorem mem_ahead {ts : List Tm} {j : Nat} (hj : j < ts.length) {x : Int} : x ∈ (aheadT ts).getD j [] ↔ ∃ k : Nat, x = (k : Int) ∧ k < ts.length ∧ (j : Int) ∈ nextT (ts.getD k default) := by
  rw [aheadT_get hj, rowF_mem]
  simp
theorem ahead_lt {ts : List Tm} {j : Nat} (hj : j < ts.length) : ((aheadT ts).getD j []).Pairwise (· < ·) := by rw [aheadT_get hj]; exact rowF_lt
/-- All edges. -/
def lensA (rows : List (List Int)) : Nat := (rows.map List.length).sum
def edgesT (n : Nat) (l : List Int) : Nat := l.countP (inB · n)
theorem lens_modify : ∀ (rows : List (List Int)) (k : Nat) (i : Int), k < rows.length → lensA (rows.modify k (· ++ [i])) = lensA rows + 1
  | [], k, _, h => by simp at h
  | r :: rows, 0, i, _ => by simp [lensA, List.modify]; omega
  | r :: rows, k + 1, i, h => by
    have := lens_modify rows k i (by simpa using h)
    simp [lensA, List.modify] at this ⊢
    omega
theorem lens_putA (i : Int) (rows : List (List Int)) (to : Int) : lensA (putA i rows to) = lensA rows + (if inB to rows.length then 1 else 0) := by
  unfold putA
  split
  · rename_i h
    rw [lens_modify _ _ _ (by rw [inB_iff] at h; omega)]
  · rfl
theorem lens_putsA (i : Int) : ∀ (l : List Int) (rows : List (List Int)), lensA (putsA i rows l) = lensA rows + edgesT rows.length l
  | [], rows => by simp [putsA, edgesT]
  | a :: l, rows => by
    have := lens_putsA i l (putA i rows a)
    unfold putsA at this ⊢
    rw [List.foldl_cons, this, lens_putA, putA_len]
    unfold edgesT
    rw [List.countP_cons]
    omega
def edgesF (n : Nat) (ts : List Tm) : Nat := (ts.map fun t => edgesT n (nextT t)).sum
theorem lens_aheadF : ∀ (ts : List Tm) (i : Nat) (rows : List (List Int)), lensA (aheadF ts i rows) = lensA rows + edgesF rows.length ts
  | [], _, rows => by simp [aheadF, edgesF]
  | t :: ts, i, rows => by
    unfold aheadF
    rw [lens_aheadF ts, lens_putsA, putsA_len]
    simp [edgesF]
    omega
theorem lens_rep : ∀ n, lensA (List.replicate n []) = 0
  | 0 => rfl
  | n + 1 => by
    have := lens_rep n
    simp [lensA, List.replicate_succ] at this ⊢
theorem lens_ahead (ts : List Tm) : lensA (aheadT ts) = edgesF ts.length ts := by
  unfold aheadT
  rw [lens_aheadF, lens_rep]
  simp
theorem next_len (t : Tm) : (nextT t).length ≤ 2 := by
  unfold nextT
  repeat' split
  all_goals simp
theorem edgesT_le (n : Nat) (t : Tm) : edgesT n (nextT t) ≤ 2 := Nat.le_trans List.countP_le_length (next_len t)
theorem edgesF_le (n : Nat) : ∀ ts : List Tm, edgesF n ts ≤ 2 * ts.length
  | [] => by simp [edgesF]
  | t :: ts => by
    have := edgesF_le n ts
    have := edgesT_le n t
    simp [edgesF] at *
    omega
end Go.Proofs.YtdgpdmohfnealaaGreatDoor
/- Rows of rows in memory of one's own. -/
namespace Go.Proofs.YtdgpdmohfnealaaGreatDoor
open Go.RowKit

structure RowsIn (w : World) (base G n : Nat) (kvs : List Value) (rows : List (List Int)) : Prop where
  klen : kvs.length = n
  rlen : rows.length = n
  own : w.ownsRow base 34 1 (.slice (some ⟨G, 0, none⟩) n n) n kvs
  kid : ∀ (i : Nat) (r : List Int) (kv : Value), rows[i]? = some r → kvs[i]? = some kv → OwnI w base kv r ∧ kv.ownBlock ≠ some G
  apart : ∀ (i j : Nat) (a b : Value) (g : Nat), i ≠ j → kvs[i]? = some a → kvs[j]? = some b → a.ownBlock = some g → b.ownBlock ≠ some g
theorem RowsIn.below {w w' : World} {base G n : Nat} {kvs : List Value} {rows : List (List Int)} (h : RowsIn w base G n kvs rows) (hb : Below w.heap.size w w') : RowsIn w' base G n kvs rows :=
  ⟨h.klen, h.rlen, owns_below h.own hb, fun i r kv h1 h2 => ⟨owns_below (h.kid i r kv h1 h2).1 hb, (h.kid i r kv h1 h2).2⟩, h.apart⟩
theorem RowsIn.cellG {w : World} {base G n : Nat} {kvs : List Value} {rows : List (List Int)} (h : RowsIn w base G n kvs rows) {t : Nat} {kv : Value} (hk : kvs[t]? = some kv) : w.cell? ⟨G, t, none⟩ = some kv := by
  have ht : t < n := by have := (List.getElem?_eq_some_iff.1 hk).1; rw [h.klen] at this; exact this
  rw [h.own.cellAt t (by omega)]
  exact hk
theorem RowsIn.fzG {w : World} {base G n : Nat} {kvs : List Value} {rows : List (List Int)} (h : RowsIn w base G n kvs rows) (t : Nat) : w.frozen? ⟨G, t, none⟩ = false := h.own.frozenAt t
theorem RowsIn.ltG {w : World} {base G n : Nat} {kvs : List Value} {rows : List (List Int)} (h : RowsIn w base G n kvs rows) : base ≤ G ∧ G < w.heap.size := h.own.lt G rfl
/-- One row is longer by one. -/
theorem RowsIn.push {w w2 : World} {base G n : Nat} {kvs : List Value} {rows : List (List Int)} (h : RowsIn w base G n kvs rows) {t : Nat} {r : List Int} {kv v' : Value} {x : Int} (hr : rows[t]? = some r) (hk : kvs[t]? = some kv)
    (ho : w2.ownsRow base 3 1 v' (r.length + 1) (r.map intV ++ [intV x])) (hg : w.grownBy w2 kv.ownBlock) (hat : v'.ownBlock = kv.ownBlock ∨ v'.ownBlock = some w.heap.size) :
    RowsIn (w2.setCell ⟨G, t, none⟩ v') base G n (kvs.set t v') (rows.modify t (· ++ [x])) ∧ w2.cell? ⟨G, t, none⟩ = some kv ∧ w2.frozen? ⟨G, t, none⟩ = false ∧
      (∀ k, k < w.heap.size → k ≠ G → kv.ownBlock ≠ some k → (w2.setCell ⟨G, t, none⟩ v').heap[k]? = w.heap[k]?) ∧ w.heap.size ≤ (w2.setCell ⟨G, t, none⟩ v').heap.size := by
  have hG := h.ltG
  have hkG := (h.kid t r kv hr hk).2
  have eG : w2.heap[G]? = w.heap[G]? := hg.block G hG.2 (fun e => hkG e.symm)
  have own2 : w2.ownsRow base 34 1 (.slice (some ⟨G, 0, none⟩) n n) n kvs := owns_same h.own fun q hq => by simp [Value.ownBlock] at hq; subst hq; exact eG
  have hvG : v'.ownBlock ≠ some G := by
    rcases hat with e | e
    · rw [e]; exact hkG
    · rw [e]; intro hc; cases hc; omega
  have htn : t < n := by have := (List.getElem?_eq_some_iff.1 hk).1; rw [h.klen] at this; exact this
  have cG : w2.cell? ⟨G, t, none⟩ = some kv := (World.cell?_of_block (w := w) (a := ⟨G, t, none⟩) eG).trans (h.cellG hk)
  have fG : w2.frozen? ⟨G, t, none⟩ = false := (World.frozen?_of_block (w := w) (a := ⟨G, t, none⟩) eG).trans (h.fzG t)
  refine ⟨⟨by simp [h.klen], by simp [h.rlen], (World.ownsRow.stored own2 t v').1, ?_, ?_⟩, cG, fG, ?_, ?_⟩
  · intro i q u hq hu
    rw [List.getElem?_modify] at hq
    rw [List.getElem?_set] at hu
    by_cases e : t = i
    · subst e
      rw [if_pos rfl, if_pos (by rw [h.klen]; exact htn)] at hu
      cases hu
      rw [hr] at hq
      simp at hq
      subst hq
      refine ⟨owns_other ?_ (by simpa using hvG) _, hvG⟩
      show World.ownsRow _ _ _ _ _ _ _
      simpa using ho
    · rw [if_neg e] at hu
      simp [e] at hq
      obtain ⟨k1, k2⟩ := h.kid i q u hq hu
      refine ⟨owns_other (owns_same k1 fun g hgu => hg.block g (k1.lt g hgu).2 (fun hc => h.apart t i kv u g e hk hu hc.symm hgu)) (by simpa using k2) _, k2⟩
  · intro i j a b g hij ha hb hag hbg
    rw [List.getElem?_set] at ha hb
    by_cases e1 : t = i
    · subst e1
      rw [if_pos rfl, if_pos (by rw [h.klen]; exact htn)] at ha
      cases ha
      rw [if_neg hij] at hb
      rcases hat with e | e
      · exact h.apart t j kv b g hij hk hb (by rw [← e]; exact hag) hbg
      · rw [e] at hag; cases hag
        have hj : j < rows.length := by have := (List.getElem?_eq_some_iff.1 hb).1; rw [h.klen] at this; rw [h.rlen]; exact this
        have := ((h.kid j _ b (List.getElem?_eq_getElem hj) hb).1.lt _ hbg).2
        omega
    · rw [if_neg e1] at ha
      by_cases e2 : t = j
      · subst e2
        rw [if_pos rfl, if_pos (by rw [h.klen]; exact htn)] at hb
        cases hb
        rcases hat with e | e
        · exact h.apart i t a kv g hij ha hk hag (by rw [← e]; exact hbg)
        · rw [e] at hbg; cases hbg
          have hj : i < rows.length := by have := (List.getElem?_eq_some_iff.1 ha).1; rw [h.klen] at this; rw [h.rlen]; exact this
          have := ((h.kid i _ a (List.getElem?_eq_getElem hj) ha).1.lt _ hag).2
          omega
      · rw [if_neg e2] at hb
        exact h.apart i j a b g hij ha hb hag hbg
  · intro k hk1 hk2 hk3
    exact (Below.heap_setCell _ _ _ _ (by simpa using hk2)).trans (hg.block k hk1 (fun e => hk3 e.symm))
  · simpa [World.setCell] using hg.size
theorem infoS : (Tryz.prog.info? 34).map (fun i => (i.zero, i.size, i.bytes)) = some (some (.slice none 0 0), 1, 24) := by kernel_rfl
theorem rows_new (w : World) (base n : Nat) (hb : base ≤ w.heap.size) (hn : n ≤ 1000000) : RowsIn (w.alloc (.cells (madeCells #[.slice none 0 0] n) 34)) base w.heap.size n (List.replicate n (.slice none 0 0)) (List.replicate n []) := by
  have r1 := World.ownsRow_lit (base := base) (e := 34) (size := 1) w (madeCells #[.slice none 0 0] n) n hb (by unfold maxLen; omega) (by simp [size_madeCells])
  rw [toList_madeCells_one] at r1
  refine ⟨by simp, by simp, r1, ?_, ?_⟩
  · intro i r kv h1 h2
    rw [List.getElem?_replicate] at h1 h2
    split at h1
    · rename_i hi
      rw [if_pos hi] at h2
      cases h1; cases h2
      exact ⟨World.ownsRow_nil _ _ _ _, by simp [Value.ownBlock]⟩
    · cases h1
  · intro i j a b g _ ha _ hg
    rw [List.getElem?_replicate] at ha
    split at ha
    · cases ha; simp [Value.ownBlock] at hg
    · cases ha
theorem lens_mem : ∀ {rows : List (List Int)} {r : List Int}, r ∈ rows → r.length ≤ lensA rows
  | a :: rows, r, h => by
    have e : lensA (a :: rows) = a.length + lensA rows := by simp [lensA]
    rcases List.mem_cons.1 h with rfl | h
    · omega
    · have := lens_mem h; omega
end Go.Proofs.YtdgpdmohfnealaaGreatDoor
/- Small facts of rows and folds. -/
namespace Go.Proofs.YtdgpdmohfnealaaGreatDoor
open Go.RowKit

theorem below_set {w0 w : World} {b : Nat} (h : Below w0.heap.size w0 w) (hb : w0.heap.size ≤ b) (j : Nat) (u : Value) : Below w0.heap.size w0 (w.setCell ⟨b, j, none⟩ u) := h.setCell (p := ⟨b, j, none⟩) hb u
theorem tms_getD {bs : List Bl} {k : Nat} (h : k < bs.length) : (tms bs).getD k default = (bs.getD k default).tm := by
  simp [tms, List.getD, List.getElem?_eq_getElem h]
theorem own_last {w : World} {base g c : Nat} {l : List Int} {x : Int} {n : Nat} (hn : n = l.length + 1) (h : OwnI w base (.slice (some ⟨g, 0, none⟩) n c) (l ++ [x])) : w.cell? ⟨g, l.length, none⟩ = some (.int .i64 x) := by
  subst hn
  rw [(own_snoc h).cellAt l.length (by omega)]
  simp
theorem drop_fold {α : Type} {L : List Int} {i : Nat} (h : i < L.length) (s : α) (F : α → Int → α) : (L.drop i).foldl F s = (L.drop (i + 1)).foldl F (F s (L.getD i 0)) := by
  rw [List.drop_eq_getElem_cons h, List.foldl_cons]
  congr 2
  simp [List.getD, List.getElem?_eq_getElem h]
end Go.Proofs.YtdgpdmohfnealaaGreatDoor
/- For each block those with an edge to it. -/
namespace Go.Proofs.YtdgpdmohfnealaaGreatDoor
open Go.RowKit

theorem drop_ahead {ts : List Tm} {i : Nat} (h : i < ts.length) (rows : List (List Int)) : aheadF (ts.drop i) i rows = aheadF (ts.drop (i + 1)) (i + 1) ((nextT (ts.getD i default)).foldl (putA (i : Int)) rows) := by
  have e : ts.getD i default = ts[i] := by simp [List.getD, List.getElem?_eq_getElem h]
  rw [e, List.drop_eq_getElem_cons h]
  rfl
theorem rows_own_frame {w w' : World} {base2 G : Nat} {nv kv : Value} {L : List Int} (h : OwnI w base2 nv L) (hG : G < base2) (hk : ∀ q, nv.ownBlock = some q → kv.ownBlock ≠ some q)
    (hb : ∀ k, k < w.heap.size → k ≠ G → kv.ownBlock ≠ some k → w'.heap[k]? = w.heap[k]?) : OwnI w' base2 nv L :=
  owns_same h fun q hq => hb q (h.lt q hq).2 (by have := (h.lt q hq).1; omega) (hk q hq)
set_option maxRecDepth 100000 in
set_option maxHeartbeats 2000000 in
theorem ahead_any (G : Gr) (pv vv av bv : Value) (w : World) (h : GrAt w pv vv av bv G) (hn : G.blocks.length ≤ 100000) :
    Calls Tryz.prog 30 #[.agg #[.string G.name, pv, .int .u8 G.result, vv, av, bv]] w fun e w' => ∃ kvs, e = .returned (.slice (some ⟨w.heap.size + 1, 0, none⟩) G.blocks.length G.blocks.length) ∧ RowsIn w' w.heap.size (w.heap.size + 1) G.blocks.length kvs (aheadT (tms G.blocks)) ∧ Below w.heap.size w w' := by
  obtain ⟨nm, ps, r, vs, ars, bs⟩ := G
  have hB := h.bs
  dsimp only at hB hn ⊢
  clear h
  obtain ⟨a, c, rfl, _⟩ := hB.form
  have HI : Hid (∀ i, i < bs.length → _) := fun i hi => hB.get hi
  have HT : Hid (∀ i, i < bs.length → (tms bs).getD i default = (bs.getD i default).tm) := fun i hi => tms_getD hi
  obtain ⟨n, hnn⟩ : ∃ n, n = bs.length := ⟨_, rfl⟩
  have htl : (tms bs).length = n := by simp [tms, hnn]
  rw [← hnn] at HI hn HT
  rw [← hnn]
  have hmk := run_make_row' (P := Tryz.prog) 87 34 (.slice none 0 0) 24 Tryz.underlying87 infoS rfl .i64 .i64 n (by omega) (by omega)
  obtain ⟨ts, hts⟩ : ∃ ts, ts = tms bs := ⟨_, rfl⟩
  rw [← hts] at htl HT
  rw [← hts]
  obtain ⟨R, hR⟩ : ∃ R, R = aheadT ts := ⟨_, rfl⟩
  rw [← hR]
  have HR : Hid (aheadF (ts.drop 0) 0 (List.replicate n []) = R) := by show _ = _; rw [hR, List.drop_zero, aheadT, htl]
  have HTL : Hid (ts.length = n) := htl
  have HRN : Hid (RowsIn ((w.alloc (.cells #[.string nm, pv, .int .u8 r, vv, av, .slice a n c] 40)).alloc (.cells (madeCells #[.slice none 0 0] n) 34)) w.heap.size (w.heap.size + 1) n (List.replicate n (.slice none 0 0)) (List.replicate n [])) := by
    have := rows_new (w.alloc (.cells #[.string nm, pv, .int .u8 r, vv, av, .slice a n c] 40)) w.heap.size n (below_alloc (Below.refl _ _) _).size (by omega)
    rwa [show (w.alloc (.cells #[.string nm, pv, .int .u8 r, vv, av, .slice a n c] 40)).heap.size = w.heap.size + 1 by simp] at this
  obtain ⟨i0, hi0, hz0, hz1, hz2⟩ := info_parts infoI
  clear hnn htl hts hR hB
  go_enter Tryz.func30, Tryz.ntmps30
  go_wp2
  go_loopw [15] (fun vi wr => ∃ (i : Nat) (kvs : List Value) (rows : List (List Int)), vi = .int .i64 i ∧ i ≤ n ∧ Hid (Below w.heap.size w wr ∧ RowsIn wr w.heap.size (w.heap.size + 1) n kvs rows ∧ aheadF (ts.drop i) i rows = R ∧ lensA rows ≤ 2 * i)) (fun vi _ => n - (intOf vi).toNat)
  case atStart => exact ⟨0, _, _, rfl, by omega, below_alloc (below_alloc (Below.refl _ _) _) _, HRN.out, HR.out, by rw [lens_rep]; omega⟩
  case round =>
    obtain ⟨i, kvs, rows, rfl, hi, hr⟩ := hrel
    clear HRN HR hmk
    generalize wr = wo at *
    by_cases hin : i < n
    · obtain ⟨g, o, iv, rfl, hg, c0, c1, c2, c3, c4, c5, hins⟩ := HI.out i hin
      obtain ⟨ia, ic, rfl, _⟩ := hins.form
      clear hins
      generalize hil : (bs.getD i default).ins.length = il at *
      have hin' : (i : Int) < n := by omega
      have hcl : ∀ j, wo.cell? ⟨g, j, none⟩ = w.cell? ⟨g, j, none⟩ := fun j => hr.out.1.cell (p := ⟨g, j, none⟩) hg
      rw [← hcl] at c0 c1 c2 c3 c4 c5
      have HNX : Hid (∀ W, Calls Tryz.prog 50 #[.agg #[.slice ia il ic, .int .u8 (bs.getD i default).tm.kind, .int .i64 (bs.getD i default).tm.arg, .int .i64 (bs.getD i default).tm.t0, .int .i64 (bs.getD i default).tm.t1, .int .u8 (bs.getD i default).tm.trap]] W fun e w' => ∃ v, e = .returned v ∧ OwnI w' W.heap.size v (nextT (bs.getD i default).tm) ∧ Below W.heap.size W w') := fun W => next_any (.slice ia il ic) (bs.getD i default).tm W
      have hlen := next_len (bs.getD i default).tm
      have HDA : Hid _ := drop_ahead (ts := ts) (i := i) (by rw [HTL.out]; exact hin) rows
      rw [HT.out i hin] at HDA
      generalize nextT (bs.getD i default).tm = L at *
      generalize (bs.getD i default).tm.kind = t0 at *
      generalize (bs.getD i default).tm.arg = t1 at *
      generalize (bs.getD i default).tm.t0 = t2 at *
      generalize (bs.getD i default).tm.t1 = t3 at *
      generalize (bs.getD i default).tm.trap = t4 at *
      obtain ⟨R2, hR2⟩ : ∃ R2, R2 = L.foldl (putA (i : Int)) rows := ⟨_, rfl⟩
      rw [← hR2] at HDA
      have HR2 : Hid (L.foldl (putA (i : Int)) rows = R2) := hR2.symm
      have HA0 : Hid (Below wo.heap.size wo (wo.alloc (.cells #[.slice ia il ic, .int .u8 t0, .int .i64 t1, .int .i64 t2, .int .i64 t3, .int .u8 t4] 48))) := below_alloc (Below.refl _ _) _
      clear hR2 hcl HI hil
      go_wp2_with (go_at_call 50; go_loud (refine Calls.mono (by exact HNX.out _) ?_; rintro e w1 ⟨v, rfl, ho1, hb1⟩; obtain ⟨va, vc, rfl, _⟩ := (OwnI.at' ho1 (by omega)).form; have HO1 : Hid (OwnI w1 wo.heap.size (.slice va L.length vc) L) := own_mono ho1 HA0.out.size; have HB1 : Hid (Below wo.heap.size wo w1) := below_trans HA0.out hb1; clear ho1 hb1))
      go_loopw [23] (fun vk wq => ∃ (k : Nat) (kvs : List Value) (rows : List (List Int)), vk = .int .i64 k ∧ k ≤ L.length ∧ Hid (Below w.heap.size w wq ∧ RowsIn wq w.heap.size (w.heap.size + 1) n kvs rows ∧ (L.drop k).foldl (putA (i : Int)) rows = R2 ∧ lensA rows ≤ 2 * i + k ∧ OwnI wq wo.heap.size (.slice va L.length vc) L ∧ ∀ q, (Value.slice va L.length vc).ownBlock = some q → ∀ kv ∈ kvs, kv.ownBlock ≠ some q)) (fun vk _ => L.length - (intOf vk).toNat)
      case atStart =>
        refine ⟨0, kvs, rows, rfl, by omega, below_trans hr.out.1 HB1.out, hr.out.2.1.below HB1.out, HR2.out, hr.out.2.2.2, HO1.out, ?_⟩
        intro q hq kv hkv hc
        obtain ⟨j, hj, he⟩ := List.mem_iff_getElem.1 hkv
        have hjr : j < rows.length := by rw [hr.out.2.1.rlen, ← hr.out.2.1.klen]; exact hj
        have h1 := (hr.out.2.1.kid j _ kv (List.getElem?_eq_getElem hjr) (by rw [List.getElem?_eq_getElem hj, he])).1
        have := (h1.lt q hc).2
        have := (HO1.out.lt q hq).1
        omega
      case round =>
        obtain ⟨k, kvs2, rows2, rfl, hk, hq⟩ := hrel
        clear HB1 HO1 HR2
        have HWR : Hid (w.heap.size + 1 < wo.heap.size) := hr.out.2.1.ltG.2
        by_cases hkn : k < L.length
        · obtain ⟨gv, ov, rfl, hgv, cv⟩ := (OwnI.at' hq.out.2.2.2.2.1 (by omega)).get hkn
          have HD : Hid _ := drop_fold hkn rows2 (putA (i : Int))
          have hkn' : (k : Int) < L.length := by omega
          generalize hto : L.getD k 0 = to at *
          have HPL : Hid (∀ W, Calls Tryz.prog 43 #[.int .i64 to, .int .i64 (n : Int)] W fun e w' => e = .returned (.bool (inB to n)) ∧ w' = W) := fun W => isPlace_any to n W
          have hrl := hq.out.2.1.rlen
          have hkl := hq.out.2.1.klen
          by_cases hb : inB to n = true
          · obtain ⟨t, ht⟩ : ∃ t : Nat, to = (t : Int) := Int.eq_ofNat_of_zero_le (inB_iff.1 hb).1
            subst ht
            have htn : t < n := by have := (inB_iff.1 hb).2; omega
            have htn' : (t : Int) < n := by omega
            have er : rows2[t]? = some (rows2[t]'(by omega)) := List.getElem?_eq_getElem _
            have ek : kvs2[t]? = some (kvs2[t]'(by omega)) := List.getElem?_eq_getElem _
            have hrm : rows2[t]'(by omega) ∈ rows2 := List.getElem_mem _
            have hkm : kvs2[t]'(by omega) ∈ kvs2 := List.getElem_mem _
            generalize rows2[t]'(by omega) = rw at er hrm
            generalize kvs2[t]'(by omega) = kv at ek hkm
            obtain ⟨ka, kc, rfl, _⟩ := (OwnI.at' (hq.out.2.1.kid t rw kv er ek).1 (by have := lens_mem hrm; have := hq.out.2.2.2.1; omega)).form
            have hrw : rw.length ≤ 300000 := by have := lens_mem hrm; have := hq.out.2.2.2.1; omega
            have cG := hq.out.2.1.cellG ek
            have fG := hq.out.2.1.fzG t
            rw [hb] at HPL
            have hx0 : (L.drop (k + 1)).foldl (putA (i : Int)) (rows2.modify t (· ++ [(i : Int)])) = R2 := by
              rw [← hq.out.2.2.1, HD.out]
              congr 1
              unfold putA
              rw [hrl, if_pos hb, Int.toNat_natCast]
            have hl0 : lensA (rows2.modify t (· ++ [(i : Int)])) ≤ 2 * i + (k + 1) := by
              rw [lens_modify _ _ _ (by omega)]
              have := hq.out.2.2.2.1
              omega
            have HX : Hid _ := hx0
            have HL0 : Hid _ := hl0
            have HER : Hid _ := er
            have HEK : Hid _ := ek
            have HKM : Hid _ := hkm
            have hwr : w.heap.size + 1 < wr.heap.size := hq.out.2.1.ltG.2
            have HA1 : Hid (Below wr.heap.size wr (wr.alloc (.cells #[.int .i64 (i : Int)] 3))) := below_alloc (Below.refl _ _) _
            have hok0 := (hq.out.2.1.kid t rw _ er ek).1
            generalize hrl0 : rw.length = rl at *
            have HOK : Hid (wr.ownsRow w.heap.size 3 1 (.slice ka rl kc) rl (rw.map intV)) := by
              have h9 : wr.ownsRow w.heap.size 3 1 (.slice ka rl kc) rw.length (rw.map intV) := hok0
              rw [hrl0] at h9
              exact h9
            clear hok0
            have HRL : Hid (rw.length = rl) := hrl0
            clear hrl0
            clear hx0 hl0 er ek hkm hrm hrl hkl hto HD
            go_wp2_with (first
              | (go_at_call 43; refine Calls.mono (HPL.out _) ?_; rintro e wx ⟨rfl, hwx⟩; subst wx)
              | (at_builtin; go_loud (refine wpList_append_own_at _ rfl _ _ 34 rfl w.heap.size 3 i0 (.int .i64 0) 1 8 Tryz.underlying34 hi0 hz0 hz1 hz2 rfl (by decide) _ rl (rw.map intV) rfl (HOK.out.alloc _) ⟨wr.heap.size, 0, none⟩ 1 1 [intV i] rfl rfl ?c1 ?c2 ?c3 ?c4 ?c5 ?_)))
            case c1 => exact cell_one_new wr (intV i) 3
            case c2 => intro u hu; simp at hu; subst hu; rfl
            case c3 => unfold maxLen; omega
            case c4 => omega
            case c5 => simp; omega
            intro v2 w2 ho hg2 _ hat
            obtain ⟨g2, cc2, rfl, _, _, _, _⟩ := own_form ho
            obtain ⟨hP, q3, q4, hF, hZ⟩ := (hq.out.2.1.below HA1.out).push HER.out HEK.out (by rw [HRL.out]; exact ho) hg2 (by simpa using hat)
            have HFR : Hid (Below w.heap.size w (w2.setCell ⟨w.heap.size + 1, t, none⟩ (.slice (some ⟨g2, 0, none⟩) (rl + 1) cc2)) ∧ OwnI (w2.setCell ⟨w.heap.size + 1, t, none⟩ (.slice (some ⟨g2, 0, none⟩) (rl + 1) cc2)) wo.heap.size (.slice (some ⟨gv, ov, none⟩) L.length vc) L) := by
              refine ⟨?_, ?_⟩
              · refine below_set ?_ (by omega) _ _
                exact below_grown (below_trans hq.out.1 HA1.out) hg2 (fun q hqq => (HOK.out.lt q hqq).1)
              · refine rows_own_frame (w := wr.alloc (.cells #[.int .i64 (i : Int)] 3)) (kv := .slice ka rl kc) (owns_below hq.out.2.2.2.2.1 HA1.out) HWR.out (fun q hqq => hq.out.2.2.2.2.2 q hqq _ HKM.out) hF
            have HNK : Hid (∀ q, (Value.slice (some ⟨gv, ov, none⟩) L.length vc).ownBlock = some q → ∀ kv ∈ kvs2.set t (.slice (some ⟨g2, 0, none⟩) (rl + 1) cc2), kv.ownBlock ≠ some q) := by
              intro q hqq kv hkv
              rcases List.mem_or_eq_of_mem_set hkv with hkv | rfl
              · exact hq.out.2.2.2.2.2 q hqq kv hkv
              · rcases hat with e | e
                · rw [e]; exact hq.out.2.2.2.2.2 q hqq _ HKM.out
                · rw [e]
                  intro hc
                  cases hc
                  have := (hq.out.2.2.2.2.1.lt _ hqq).2
                  omega
            have HP : Hid _ := hP
            clear hP hF hZ ho hg2 hat
            go_wp2
            go_roundw
            case rel => exact ⟨k + 1, _, _, by first | rfl | (congr 1; omega), by omega, HFR.out.1, HP.out, HX.out, HL0.out, HFR.out.2, HNK.out⟩
            case measure => simp [intOf]; omega
          · have hbf : inB to n = false := by simpa using hb
            rw [hbf] at HPL
            have hx0 : (L.drop (k + 1)).foldl (putA (i : Int)) rows2 = R2 := by
              rw [← hq.out.2.2.1, HD.out]
              congr 1
              unfold putA
              rw [hrl, if_neg (by rw [hbf]; simp)]
            have HX : Hid _ := hx0
            clear hx0 HD hto
            go_wp2_with (go_at_call 43; refine Calls.mono (HPL.out _) ?_; rintro e wx ⟨rfl, hwx⟩; subst wx)
            go_roundw
            case rel => exact ⟨k + 1, kvs2, rows2, by first | rfl | (congr 1; omega), by omega, hq.out.1, hq.out.2.1, HX.out, by have := hq.out.2.2.2.1; omega, hq.out.2.2.2.2⟩
            case measure => simp [intOf]; omega
        · obtain rfl : k = L.length := by omega
          have hx0 : rows2 = R2 := by have := hq.out.2.2.1; rw [List.drop_length] at this; exact this
          have HX : Hid _ := hx0
          clear hx0
          go_wp2
          go_roundw
          case rel => exact ⟨i + 1, kvs2, rows2, by first | rfl | (congr 1; omega), by omega, hq.out.1, hq.out.2.1, by rw [HX.out, ← HDA.out]; exact hr.out.2.2.1, by have := hq.out.2.2.2.1; omega⟩
          case measure => simp [intOf]; omega
    · obtain rfl : i = n := by omega
      have hfin : rows = R := by have := hr.out.2.2.1; rw [← HTL.out, List.drop_length] at this; exact this
      have HFI : Hid _ := hfin
      clear HI hfin
      go_wp2
      go_ret
      exact ⟨kvs, rfl, by rw [← HFI.out]; exact hr.out.2.1, hr.out.1⟩
end Go.Proofs.YtdgpdmohfnealaaGreatDoor
