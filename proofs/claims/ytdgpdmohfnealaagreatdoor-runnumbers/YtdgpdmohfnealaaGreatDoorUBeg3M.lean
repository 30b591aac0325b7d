/- A graph is called for the first time: what is kept of it. -/
import Derived.Test.YtdgpdmohfnealaaGreatDoorULateM
import Derived.Test.YtdgpdmohfnealaaGreatDoorUBegN
import Derived.Test.YtdgpdmohfnealaaGreatDoorGRight2
namespace Go.Proofs.YtdgpdmohfnealaaGreatDoor
open Go.RowKit

theorem Heap.join {w : World} {base : Nat} {ss ts : List Slot} (h : Heap w base ss) (ht : Heap w base ts) (hn : ∀ (i j : Nat) (a b : Slot) (g : Nat), ss[i]? = some a → ts[j]? = some b → a.v.ownBlock = some g → b.v.ownBlock ≠ some g) : Heap w base (ss ++ ts) := by
  have key : ∀ (i : Nat) (s : Slot), (ss ++ ts)[i]? = some s → (i < ss.length ∧ ss[i]? = some s) ∨ (ss.length ≤ i ∧ ts[i - ss.length]? = some s) := fun i s hs => by
    rw [List.getElem?_append] at hs
    split at hs
    · exact .inl ⟨by assumption, hs⟩
    · exact .inr ⟨by omega, hs⟩
  refine ⟨fun i s hs => ?_, fun i j a b g hij ha hb hga hgb => ?_⟩
  · rcases key i s hs with ⟨_, hs⟩ | ⟨_, hs⟩
    · exact h.own i s hs
    · exact ht.own _ s hs
  · rcases key i a ha with ⟨_, ha⟩ | ⟨_, ha⟩ <;> rcases key j b hb with ⟨_, hb⟩ | ⟨_, hb⟩
    · exact h.apart i j a b g hij ha hb hga hgb
    · exact hn i _ a b g ha hb hga hgb
    · exact hn j _ b a g hb ha hgb hga
    · exact ht.apart _ _ a b g (by omega) ha hb hga hgb
def rowSlot (kv : Value) (r : List Int) : Slot := ⟨kv, 3, 1, r.length, r.map intV⟩
def rowsSlots (G : Nat) (n : Nat) (kvs : List Value) (rows : List (List Int)) : List Slot := ⟨.slice (some ⟨G, 0, none⟩) n n, 34, 1, n, kvs⟩ :: List.zipWith rowSlot kvs rows
theorem zip_at {kvs : List Value} {rows : List (List Int)} {i : Nat} {s : Slot} (h : (List.zipWith rowSlot kvs rows)[i]? = some s) : ∃ kv r, kvs[i]? = some kv ∧ rows[i]? = some r ∧ s = rowSlot kv r := by
  rw [List.getElem?_zipWith] at h
  cases h1 : kvs[i]? <;> cases h2 : rows[i]? <;> rw [h1, h2] at h <;> simp at h
  exact ⟨_, _, rfl, rfl, h.symm⟩
theorem heap_rows {w : World} {base G n : Nat} {kvs : List Value} {rows : List (List Int)} (h : RowsIn w base G n kvs rows) : Heap w base (rowsSlots G n kvs rows) := by
  refine ⟨fun i s hs => ?_, fun i j a b g hij ha hb hga hgb => ?_⟩
  · cases i with
    | zero => simp [rowsSlots] at hs; subst hs; exact h.own
    | succ i =>
      have hs' : (List.zipWith rowSlot kvs rows)[i]? = some s := hs
      obtain ⟨kv, r, h1, h2, rfl⟩ := zip_at hs'
      exact (h.kid i r kv h2 h1).1
  · cases i with
    | zero =>
      simp [rowsSlots] at ha
      subst ha
      cases j with
      | zero => exact hij rfl
      | succ j =>
        have hs' : (List.zipWith rowSlot kvs rows)[j]? = some b := hb
        obtain ⟨kv, r, h1, h2, rfl⟩ := zip_at hs'
        cases hga
        exact (h.kid j r kv h2 h1).2 hgb
    | succ i =>
      have hs' : (List.zipWith rowSlot kvs rows)[i]? = some a := ha
      obtain ⟨kv, r, h1, h2, rfl⟩ := zip_at hs'
      cases j with
      | zero =>
        simp [rowsSlots] at hb
        subst hb
        cases hgb
        exact (h.kid i r kv h2 h1).2 hga
      | succ j =>
        have hs2 : (List.zipWith rowSlot kvs rows)[j]? = some b := hb
        obtain ⟨kv2, r2, h3, h4, rfl⟩ := zip_at hs2
        exact h.apart i j kv kv2 g (by omega) h1 h3 hga hgb
theorem rows_ge {w : World} {base G n : Nat} {kvs : List Value} {rows : List (List Int)} (h : RowsIn w base G n kvs rows) (j : Nat) (b : Slot) (g : Nat) (hb : (rowsSlots G n kvs rows)[j]? = some b) (hg : b.v.ownBlock = some g) : base ≤ g ∧ g < w.heap.size :=
  ((heap_rows h).own j b hb).lt g hg
theorem AhIn.app {ss : List Slot} {i0 : Nat} {v : Value} {rows : List (List Int)} (h : AhIn ss i0 v rows) (ts : List Slot) : AhIn (ss ++ ts) i0 v rows := by
  obtain ⟨j, kvs, g, hj, hv, h1, h2, h3⟩ := h
  have key : ∀ (i : Nat) (s : Slot), ss[i]? = some s → (ss ++ ts)[i]? = some s := fun i s hs => by rw [List.getElem?_append_left (List.getElem?_eq_some_iff.1 hs).1]; exact hs
  exact ⟨j, kvs, g, hj, hv, key _ _ h1, h2, fun b r kv hr hk => key _ _ (h3 b r kv hr hk)⟩
theorem app_at {α : Type} {ss ts : List α} {i : Nat} {s : α} (h : ss[i]? = some s) : (ss ++ ts)[i]? = some s := by rw [List.getElem?_append_left (List.getElem?_eq_some_iff.1 h).1]; exact h
theorem flat_two {cl : List (Value × Value)} {f : Nat} {x : Value × Value} (hf : f < cl.length) : (flat prCells (cl.set f x)) = ((flat prCells cl).set (f * 2) x.1).set (f * 2 + 1) x.2 := by
  obtain ⟨y, hy⟩ : ∃ y, cl[f]? = some y := ⟨_, List.getElem?_eq_getElem hf⟩
  have h1 := flat_set prCells_len cl f 0 y (x.1, y.2) x.1 hy (by omega) rfl
  rw [Nat.add_zero] at h1
  rw [h1]
  have h2 := flat_set prCells_len (cl.set f (x.1, y.2)) f 1 (x.1, y.2) x x.2 (by rw [List.getElem?_set, if_pos rfl, if_pos hf]) (by omega) rfl
  rw [h2, List.set_set]
/-- What stands behind the makings and the stores. -/
theorem Rn.fresh {E : Env} {w w1 : World} {V : Vals} {ss : List Slot} {S : St} (h : Rn E w V ss S) {f : Nat} (hf : S.nw[f]? = some Option.none) (hb : Below w.heap.size w w1) {G N m bs2 : Nat} {kvs : List Value} (hbs : w.heap.size ≤ bs2)
    (hr : RowsIn w1 bs2 G (tms (E.P.getD f default).blocks).length kvs (aheadT (tms (E.P.getD f default).blocks))) (hN : w.heap.size ≤ N) (hNn : N < bs2 ∨ ∀ (j : Nat) (b : Slot), (rowsSlots G (tms (E.P.getD f default).blocks).length kvs (aheadT (tms (E.P.getD f default).blocks)))[j]? = some b → b.v.ownBlock ≠ some N)
    (ho : w1.ownsRow w.heap.size 3 1 (newV N m) m (List.replicate m (intV 0))) :
    ∃ V' ss', Rn E ((w1.setCell ⟨E.C, f * 2, Option.none⟩ (newV G (tms (E.P.getD f default).blocks).length)).setCell ⟨E.C, f * 2 + 1, Option.none⟩ (newV N m)) V' ss' (S.anew f (List.replicate m 0)) ∧ V'.cv = V.cv ∧ V'.kv = V.kv ∧ V'.rv = V.rv ∧ V'.wv = V.wv ∧ V'.sv = V.sv ∧ ss'[5]? = ss[5]? := by
  obtain ⟨ts, hts⟩ : ∃ ts, ts = rowsSlots G (tms (E.P.getD f default).blocks).length kvs (aheadT (tms (E.P.getD f default).blocks)) := ⟨_, rfl⟩
  rw [← hts] at hNn
  have hfl := (List.getElem?_eq_some_iff.1 hf).1
  have hfp : f < E.P.length := by rw [← h.nwl]; exact hfl
  have hfc : f < V.cl.length := by rw [h.cll]; exact hfp
  obtain ⟨hcl, h7⟩ := h.none f hf
  have hbase := h.low.size
  have slen : 7 + E.P.length ≤ ss.length := by
    obtain ⟨q, hq⟩ : ∃ q, E.P.length = q + 1 := ⟨E.P.length - 1, by omega⟩
    have hql : q < S.nw.length := by rw [h.nwl]; omega
    have : ∃ s, ss[7 + q]? = some s := by
      cases hc : S.nw[q]? with
      | none => rw [List.getElem?_eq_none_iff] at hc; omega
      | some o =>
        cases o with
        | none => exact ⟨_, (h.none q hc).2⟩
        | some l => obtain ⟨a, N', _, e, _⟩ := h.news q l hc; exact ⟨_, e⟩
    obtain ⟨s, hs⟩ := this
    have := (List.getElem?_eq_some_iff.1 hs).1
    omega
  have hoB : w1.ownsRow E.w0.heap.size 3 1 (newV N m) m (List.replicate m (intV 0)) := own_mono ho hbase
  have H1 := h.heap.turn (s' := ⟨newV N m, 3, 1, m, List.replicate m (intV 0)⟩) h7 (fun k hk _ => hb.block k hk) hoB (fun g hg => by cases hg; exact .inr hN)
  have HT0 := heap_rows hr
  rw [← hts] at HT0
  have HT : Heap w1 E.w0.heap.size ts := ⟨fun i s hs => own_mono (HT0.own i s hs) (by omega), HT0.apart⟩
  have HJ : Heap w1 E.w0.heap.size (ss.set (7 + f) ⟨newV N m, 3, 1, m, List.replicate m (intV 0)⟩ ++ ts) := by
    refine H1.join HT fun i j a b g ha hb' hga hgb => ?_
    have hge := (HT0.own j b hb').lt g hgb
    rw [List.getElem?_set] at ha
    by_cases e : 7 + f = i
    · rw [if_pos e] at ha
      split at ha
      · cases ha
        have e2 : g = N := by cases hga; rfl
        subst e2
        rcases hNn with hc | hc
        · omega
        · exact hc j b hb' hgb
      · cases ha
    · rw [if_neg e] at ha
      have := ((h.heap.own i a ha).lt g hga).2
      omega
  obtain ⟨s2, hs2⟩ : ∃ s2, s2 = ss.set (7 + f) ⟨newV N m, 3, 1, m, List.replicate m (intV 0)⟩ ++ ts := ⟨_, rfl⟩
  rw [← hs2] at HJ
  have old : ∀ (i : Nat) (s : Slot), i ≠ 7 + f → ss[i]? = some s → s2[i]? = some s := fun i s hi hs => by rw [hs2]; exact app_at (set_other hs (Ne.symm hi))
  have z1 := old 1 _ (by omega) h.s1
  have K1 := HJ.store z1 (f * 2) (newV G (tms (E.P.getD f default).blocks).length)
  have z2 : (s2.set 1 ⟨.slice (some ⟨E.C, 0, Option.none⟩) E.P.length E.P.length, 89, 2, E.P.length, (flat prCells V.cl).set (f * 2) (newV G (tms (E.P.getD f default).blocks).length)⟩)[1]? = _ := set_self z1
  have K2 := K1.store z2 (f * 2 + 1) (newV N m)
  have hC := (HJ.lt z1).1
  have L1 : Below E.w0.heap.size E.w0 w1 := below_trans h.low hb
  have L2 := below_set (below_set L1 hC (f * 2) (newV G (tms (E.P.getD f default).blocks).length)) hC (f * 2 + 1) (newV N m)
  have put : ∀ (i : Nat) (s : Slot), i ≠ 7 + f → i ≠ 1 → ss[i]? = some s → ((s2.set 1 ⟨.slice (some ⟨E.C, 0, Option.none⟩) E.P.length E.P.length, 89, 2, E.P.length, (flat prCells V.cl).set (f * 2) (newV G (tms (E.P.getD f default).blocks).length)⟩).set 1 ⟨.slice (some ⟨E.C, 0, Option.none⟩) E.P.length E.P.length, 89, 2, E.P.length, ((flat prCells V.cl).set (f * 2) (newV G (tms (E.P.getD f default).blocks).length)).set (f * 2 + 1) (newV N m)⟩)[i]? = some s := fun i s h1 h2 hs => set_other (set_other (old i s h1 hs) (Ne.symm h2)) (Ne.symm h2)
  have ah : ∀ (v : Value) (rows : List (List Int)), AhIn ss (7 + E.P.length) v rows → AhIn ((s2.set 1 ⟨.slice (some ⟨E.C, 0, Option.none⟩) E.P.length E.P.length, 89, 2, E.P.length, (flat prCells V.cl).set (f * 2) (newV G (tms (E.P.getD f default).blocks).length)⟩).set 1 ⟨.slice (some ⟨E.C, 0, Option.none⟩) E.P.length E.P.length, 89, 2, E.P.length, ((flat prCells V.cl).set (f * 2) (newV G (tms (E.P.getD f default).blocks).length)).set (f * 2 + 1) (newV N m)⟩) (7 + E.P.length) v rows := fun v rows hA => by
    rw [hs2]
    exact (((hA.set (by omega) _).app ts).set (by omega) _).set (by omega) _
  refine ⟨{ V with cl := V.cl.set f (newV G (tms (E.P.getD f default).blocks).length, newV N m) }, _, ⟨L2, h.prog, K2, put 0 _ (by omega) (by omega) h.s0, ?_, put 2 _ (by omega) (by omega) h.s2, put 3 _ (by omega) (by omega) h.s3, put 4 _ (by omega) (by omega) h.s4, ?_, put 6 _ (by omega) (by omega) h.s6, by show (V.cl.set f _).length = _; rw [List.length_set]; exact h.cll, by show (S.nw.set f _).length = _; rw [List.length_set]; exact h.nwl, ?_, ?_⟩, rfl, rfl, rfl, rfl, rfl, ?_⟩
  · rw [flat_two hfc]
    exact set_self z2
  · obtain ⟨ws, hw⟩ := h.s5
    exact ⟨ws, put 5 _ (by omega) (by omega) hw⟩
  · intro i l hl
    replace hl : (S.nw.set f (some (List.replicate m 0)))[i]? = some (some l) := hl
    rw [List.getElem?_set] at hl
    by_cases e : f = i
    · rw [if_pos e, if_pos hfl] at hl
      cases hl
      subst e
      refine ⟨newV G (tms (E.P.getD f default).blocks).length, N, ?_, ?_, ?_⟩
      · show (V.cl.set f _)[f]? = _
        rw [List.getElem?_set, if_pos rfl, if_pos hfc, List.length_replicate]
      · rw [List.length_replicate, List.map_replicate]
        refine set_other (set_other ?_ (by omega)) (by omega)
        rw [hs2]
        exact app_at (set_self h7)
      · have hl0 : (ss.set (7 + f) (⟨newV N m, 3, 1, m, List.replicate m (intV 0)⟩ : Slot)).length = ss.length := List.length_set
        have tat : ∀ (j : Nat) (s : Slot), ts[j]? = some s → ((s2.set 1 ⟨.slice (some ⟨E.C, 0, Option.none⟩) E.P.length E.P.length, 89, 2, E.P.length, (flat prCells V.cl).set (f * 2) (newV G (tms (E.P.getD f default).blocks).length)⟩).set 1 ⟨.slice (some ⟨E.C, 0, Option.none⟩) E.P.length E.P.length, 89, 2, E.P.length, ((flat prCells V.cl).set (f * 2) (newV G (tms (E.P.getD f default).blocks).length)).set (f * 2 + 1) (newV N m)⟩)[ss.length + j]? = some s := fun j s hs => by
          refine set_other (set_other ?_ (by omega)) (by omega)
          rw [hs2, List.getElem?_append_right (by omega), hl0, Nat.add_sub_cancel_left]
          exact hs
        have hal := aheadT_len (tms (E.P.getD f default).blocks)
        refine ⟨ss.length, kvs, G, slen, by rw [hal], ?_, by rw [hr.klen, hal], fun b r kv h1 h2 => ?_⟩
        · rw [hal]
          have := tat 0 _ (by rw [hts]; rfl)
          rw [Nat.add_zero] at this
          exact this
        · rw [Nat.add_assoc, Nat.add_comm 1 b]
          refine tat (b + 1) _ ?_
          rw [hts]
          show (List.zipWith rowSlot kvs _)[b]? = _
          rw [List.getElem?_zipWith, h1, h2]
          rfl
    · rw [if_neg e] at hl
      obtain ⟨a, N', h1, h2, h3⟩ := h.news i l hl
      refine ⟨a, N', ?_, put _ _ (by omega) (by omega) h2, ah _ _ h3⟩
      show (V.cl.set f _)[i]? = _
      rw [List.getElem?_set, if_neg e]
      exact h1
  · intro i hi
    replace hi : (S.nw.set f (some (List.replicate m 0)))[i]? = some Option.none := hi
    rw [List.getElem?_set] at hi
    by_cases e : f = i
    · rw [if_pos e, if_pos hfl] at hi
      cases hi
    · rw [if_neg e] at hi
      obtain ⟨h1, h2⟩ := h.none i hi
      refine ⟨?_, put _ _ (by omega) (by omega) h2⟩
      show (V.cl.set f _)[i]? = _
      rw [List.getElem?_set, if_neg e]
      exact h1
  · refine (set_same (by omega)).trans ((set_same (by omega)).trans ?_)
    rw [hs2]
    obtain ⟨ws, hw⟩ := h.s5
    rw [hw]
    exact app_at (set_other hw (by omega))
end Go.Proofs.YtdgpdmohfnealaaGreatDoor
/- A graph is called for the first time: all of it. -/
namespace Go.Proofs.YtdgpdmohfnealaaGreatDoor
open Go.RowKit

theorem begin_new {E : Env} {w : World} {V : Vals} {ss : List Slot} {S : St} (h : Rn E w V ss S) {f : Nat} (hg : S.nw[f]? = some none) (hd : S.calls.length < E.dep) (hcb : S.calls.length ≤ 1000000000)
    (hbl : (E.P.getD f default).blocks.length ≤ 100000) (hvl : (E.P.getD f default).vars.length ≤ 1000000) (hal : (E.P.getD f default).arrs.length ≤ 1000000) (hb0 : 0 < (E.P.getD f default).blocks.length)
    {ps : List Int} (hps : (E.P.getD f default).params = ps) (hpr : ∀ v ∈ ps, 0 ≤ v ∧ v < (cellsOf (E.P.getD f default) : Int)) (hpn : ps.length ≤ 1000) (hkl : S.kept.length + ps.length ≤ 1000000000) (hst : S.steps ≤ 1000000000000)
    {aa : Option Addr} {ac : Nat} {xs : List Int} (hA : ∀ (W : World) (V' : Vals) (ss' : List Slot) (S' : St), Rn E W V' ss' S' → V'.wv = V.wv → ss'[5]? = ss[5]? → ∀ i, i < ps.length → ∃ ag ao, aa = some ⟨ag, ao, none⟩ ∧ W.cell? ⟨ag, ao + i, none⟩ = some (wordV (xs.getD i 0))) :
    Calls Tryz.prog 16 #[ptr E.B, .int .i64 (f : Int), .slice aa ps.length ac] w fun e w' => e = .returned (.bool (((S.anew f (List.replicate (cellsOf (E.P.getD f default)) 0)).begun f ((List.range ps.length).map fun i => ((ps.getD i 0).toNat, xs.getD i 0))).step E.lim).2) ∧ ∃ V' ss', Rn E w' V' ss' (((S.anew f (List.replicate (cellsOf (E.P.getD f default)) 0)).begun f ((List.range ps.length).map fun i => ((ps.getD i 0).toNat, xs.getD i 0))).step E.lim).1 := by
  obtain ⟨b0, b1, b2, b3, b4, b5, b6, b7, b8, b9, b10, b11, b12, b13⟩ := h.box
  have hfl := (List.getElem?_eq_some_iff.1 hg).1
  have hgl : f < E.P.length := by rw [← h.nwl]; exact hfl
  obtain ⟨hcl, _⟩ := h.none f hg
  have k0 := h.heap.cell h.s1 (flat_at prCells_len V.cl f 0 _ _ hcl rfl)
  have k1 := h.heap.cell h.s1 (flat_at prCells_len V.cl f 1 _ _ hcl rfl)
  rw [Nat.add_zero] at k0
  have hCl := h.heap.lt h.s1
  have hBl := h.heap.lt h.s0
  have hBC : ¬ E.B = E.C := fun e => h.heap.apart 0 1 _ _ E.B (by omega) h.s0 h.s1 rfl (by rw [e]; rfl)
  obtain ⟨ca, cc, _, _, _, hcv, _⟩ := own_ends (h.heap.own 2 _ h.s2) (Nat.zero_le _)
  obtain ⟨ka, kc, _, _, _, hkv, _⟩ := own_ends (h.heap.own 3 _ h.s3) (Nat.zero_le _)
  obtain ⟨ra, rc, _, _, _, hrv, _⟩ := own_ends (h.heap.own 4 _ h.s4) (Nat.zero_le _)
  dsimp only at hcv hkv hrv
  have hp := h.prog
  obtain ⟨qa, qc, hq, _⟩ := hp.form
  rw [hq] at hp
  obtain ⟨pg, po, pv, vv, av, bv, rfl, hlt, c0, c1, c2, c3, c4, c5, hG⟩ := hp.get hgl
  have hpc : ¬ pg = E.C := by have := hCl.1; omega
  have hpi := hG.ps
  rw [hps] at hpi
  obtain ⟨pa, pc, hpv, _⟩ := hpi.form
  obtain ⟨_, _, va, vc, aa2, ac2, ba, bc, _, hvv, hav, hbv, _, _, _, _⟩ := hG.openF
  have hGB := hG.bs
  rw [hbv] at hGB
  obtain ⟨bg, bo, iv, rfl, _⟩ := hGB.get hb0
  have hGA : ∀ W, Below w.heap.size w W → GrAt W pv vv av bv (E.P.getD f default) := fun W hW => hG.below (below_trans h.low hW)
  rw [hpv] at hpi c1
  rw [hvv] at c3
  rw [hav] at c4
  rw [hbv] at c5
  have low : ∀ (W : World), Below E.w0.heap.size E.w0 W → ∀ j (u : Value), E.w0.cell? ⟨pg, j, none⟩ = some u → W.cell? ⟨pg, j, none⟩ = some u := fun W hW j u hu => (hW.cell (p := ⟨pg, j, none⟩) hlt).trans hu
  obtain ⟨m, hm⟩ : ∃ m, m = (E.P.getD f default).vars.length + (E.P.getD f default).arrs.length := ⟨_, rfl⟩
  have hmc : cellsOf (E.P.getD f default) = m := hm.symm
  rw [hmc] at hpr ⊢
  obtain ⟨S0, hS0⟩ : ∃ S0, S0 = S.anew f (List.replicate m 0) := ⟨_, rfl⟩
  rw [← hS0]
  have hS0c : S0.calls = S.calls := by rw [hS0]; rfl
  have hS0k : S0.kept = S.kept := by rw [hS0]; rfl
  have hS0r : S0.rows = S.rows := by rw [hS0]; rfl
  have hS0s : S0.steps = S.steps := by rw [hS0]; rfl
  have hS0d : S0.deep = S.deep := by rw [hS0]; rfl
  have hS0n : S0.nw[f]? = some (some (List.replicate m 0)) := by
    rw [hS0]
    show (S.nw.set f _)[f]? = _
    rw [List.getElem?_set, if_pos rfl, if_pos hfl]
  have htl : (tms (E.P.getD f default).blocks).length = (E.P.getD f default).blocks.length := by simp [tms]
  have htop : ∀ d, ((S0.addC f).deeper d).top = ⟨f, 0, 0, S0.kept.length, S0.rows.length⟩ := fun d => by
    show (S0.calls ++ [_]).getLastD default = _
    simp
  obtain ⟨D, hD⟩ : ∃ D, D = max S0.deep (S0.calls.length + 1) := ⟨_, rfl⟩
  obtain ⟨S1, hS1⟩ : ∃ S1, S1 = (S0.addC f).deeper D := ⟨_, rfl⟩
  have hnn0 : ∀ c, (List.replicate m (0 : Int)).getD c 0 = 0 := fun c => by
    simp only [List.getD, List.getElem?_replicate]
    split <;> rfl
  have hA1 : Asks E S1 S.calls.length (List.replicate m 0) := by
    rw [hS1]
    refine ⟨by show (S0.calls ++ [_]).length = _; simp [hS0c], by omega, ?_, fun c => by rw [hnn0]; exact ⟨Int.le_refl _, by omega⟩⟩
    rw [htop]
    exact hS0n
  have hbeg : ∀ qs, S0.begun f qs = S1.sets qs := fun qs => by rw [hS1, hD]; rfl
  rw [hbeg]
  obtain ⟨qs, hqs⟩ : ∃ qs, qs = (List.range ps.length).map fun i => ((ps.getD i 0).toNat, xs.getD i 0) := ⟨_, rfl⟩
  rw [← hqs]
  have hql : qs.length = ps.length := by rw [hqs]; simp
  have fresh : ∀ (w1 : World) (a N bs2 : Nat) (kvs : List Value), Below w.heap.size w w1 → w.heap.size ≤ bs2 → RowsIn w1 bs2 a (E.P.getD f default).blocks.length kvs (aheadT (tms (E.P.getD f default).blocks)) → w.heap.size ≤ N → (N < bs2 ∨ ∀ (j : Nat) (b : Slot), (rowsSlots a (tms (E.P.getD f default).blocks).length kvs (aheadT (tms (E.P.getD f default).blocks)))[j]? = some b → b.v.ownBlock ≠ some N) → w1.ownsRow w.heap.size 3 1 (newV N m) m (List.replicate m (intV 0)) →
      ∃ V0 ss0, Rn E ((w1.setCell ⟨E.C, f * 2, none⟩ (newV a (E.P.getD f default).blocks.length)).setCell ⟨E.C, f * 2 + 1, none⟩ (newV N m)) V0 ss0 S0 ∧ V0.cv = V.cv ∧ V0.kv = V.kv ∧ V0.rv = V.rv ∧ V0.wv = V.wv ∧ ss0[5]? = ss[5]? := fun w1 a N bs2 kvs q1 q2 q3 q4 q5 q6 => by
    have q3' : RowsIn w1 bs2 a (tms (E.P.getD f default).blocks).length kvs (aheadT (tms (E.P.getD f default).blocks)) := by rw [htl]; exact q3
    obtain ⟨V0, ss0, r0, e1, e2, e3, e4, _, e6⟩ := h.fresh hg q1 q2 q3' q4 q5 q6
    rw [htl, ← hS0] at r0
    exact ⟨V0, ss0, r0, e1, e2, e3, e4, e6⟩
  refine begin_new_walk (bs := E.w0.heap.size) (B := E.B) (C := E.C) (f := f) (n := E.P.length) (qc := qc) (pg := pg) (po := po) (pl := E.P.length) (cn := S.calls.length) (cc := cc) (dep := E.dep) (kl := S.kept.length) (kc := kc) (rl := S.rows.length) (rc := rc) (ac := ac) (pn := ps.length) (pc := pc) (vn := (E.P.getD f default).vars.length) (vc := vc) (an := (E.P.getD f default).arrs.length) (ac2 := ac2) (bn := (E.P.getD f default).blocks.length) (bc := bc) (ba := bg) (bo := bo) (fl := flat clCells S.calls) (ca := ca) (ka := ka) (ra := ra) (aa := aa) (pa := pa) (va := va) (aa2 := aa2) (nm := (E.P.getD f default).name) (rs := (E.P.getD f default).result)
    (Aq := fun W a w' => ∃ kvs, RowsIn w' W.heap.size a (E.P.getD f default).blocks.length kvs (aheadT (tms (E.P.getD f default).blocks)))
    (Q0 := fun w5 => ∃ V0 ss0, Rn E w5 V0 ss0 S0 ∧ V0.cv = V.cv ∧ V0.kv = V.kv ∧ V0.rv = V.rv ∧ V0.wv = V.wv ∧ ss0[5]? = ss[5]?)
    (Q1 := fun w1 => ∃ V0 ss0, Rn E w1 V0 ss0 (S0.addC f) ∧ V0.wv = V.wv ∧ ss0[5]? = ss[5]?) (R := fun i wq => ∃ V0 ss' l', Rn E wq V0 ss' (S1.sets (qs.take i)) ∧ V0.wv = V.wv ∧ ss'[5]? = ss[5]? ∧ Asks E (S1.sets (qs.take i)) S.calls.length l' ∧ l'.length = m ∧ (S1.sets (qs.take i)).kept.length ≤ S.kept.length + i ∧ (S1.sets (qs.take i)).steps = S.steps)
    (by rw [← hq]; exact b0) b2 b3 (by rw [← hcv]; exact b4) (by omega) (by omega) (by omega) k1 (Nat.lt_of_lt_of_le hlt h.low.size) hCl.2 hBl.2 hBC hpc (low _ h.low _ _ c0) (low _ h.low _ _ c1) (low _ h.low _ _ c2) (low _ h.low _ _ c3) (low _ h.low _ _ c4) (low _ h.low _ _ c5) (by omega) (by omega)
    (fun W hW => ?_) (fun W w1 a q1 q2 q3 => ?_) (fun W w1 a q1 q2 q3 => ?_) (fun w5 q5 => ?_) ⟨h.heap.fz h.s1 _, h.heap.fz h.s1 _⟩ k0 hcb (fun w1 hq1 => ?_) (by omega) (fun i wq hi hq1 => ?_) (fun wq hq1 W k hW => ?_)
  · have hGW := hGA W hW
    rw [hpv, hvv, hav, hbv] at hGW
    refine (ahead_any _ _ _ _ _ W hGW hbl).mono ?_
    rintro e w' ⟨kvs, rfl, hr, hb⟩
    exact ⟨_, rfl, hb, kvs, hr⟩
  · obtain ⟨kvs, hr⟩ := q3
    rw [← hm]
    have hb1 := below_trans q1 q2
    refine fresh _ a w1.heap.size W.heap.size kvs (below_alloc hb1 _) q1.size (hr.below (below_alloc (Below.refl _ _) _)) hb1.size (.inr fun j b hj hb => ?_) ?_
    · have := (rows_ge (by rw [htl]; exact hr) j b _ hj hb).2
      omega
    · have := own_ints_new w1 m (by omega)
      have h2 := own_mono this hb1.size
      rw [List.map_replicate, List.length_replicate] at h2
      exact h2
  · obtain ⟨kvs, hr⟩ := q3
    rw [← hm] at hr ⊢
    rw [← hm] at q2
    have hb1 := below_trans (below_alloc q1 (.cells (madeCells #[.int .i64 0] m) 3)) q2
    refine fresh _ a W.heap.size _ kvs hb1 (below_alloc q1 _).size hr q1.size (.inl (by simp)) ?_
    have := own_ints_new W m (by omega)
    have h2 := owns_below (own_mono this q1.size) q2
    rw [List.map_replicate, List.length_replicate] at h2
    exact h2
  · obtain ⟨V0, ss0, r0, e1, e2, e3, e4, e5⟩ := q5
    refine ⟨by rw [← hq]; exact r0.box.1, by rw [← hcv, ← e1]; exact r0.box.2.2.2.2.1, by rw [← hkv, ← e2]; exact r0.box.2.2.2.2.2.1, by rw [← hrv, ← e3]; exact r0.box.2.2.2.2.2.2.1, fun k ob => ?_, fun k => ?_, r0.low.size, fun k ob w2 cv' ho hgr hat => ?_⟩
    · rw [← hcv, ← e1]
      exact ((r0.drewN k).alloc ob).box.2.2.2.2.1
    · rw [← hcv, ← e1, ← hS0c]
      exact (r0.drewN k).heap.own 2 _ r0.s2
    · rw [← hcv, ← e1] at hgr hat ⊢
      have hRA := (r0.drewN k).alloc ob
      have hBW : w2.heap[E.B]? = ((w5.drewN k).alloc ob).heap[E.B]? := hgr.block E.B (hRA.heap.lt hRA.s0).2 (fun e => r0.heap.apart 2 0 _ _ E.B (by omega) r0.s2 r0.s0 e.symm rfl)
      refine ⟨(World.cell?_of_block (w := (w5.drewN k).alloc ob) (a := ⟨E.B, 4, none⟩) hBW).trans hRA.box.2.2.2.2.1, (World.frozen?_of_block (w := (w5.drewN k).alloc ob) (a := ⟨E.B, 4, none⟩) hBW).trans (hRA.fz 4), ?_⟩
      rw [← hS0c, ← hS0k, ← hS0r] at ho
      obtain ⟨ss2, r2, e6⟩ := hRA.addC ho hgr hat
      exact ⟨_, ss2, r2, e4, e6.trans e5⟩
  · obtain ⟨V0, ss', hR, h4, h5⟩ := hq1
    obtain ⟨c1', cc1, _, _, _, hcv1, _⟩ := own_ends (hR.heap.own 2 _ hR.s2) (Nat.zero_le _)
    dsimp only at hcv1
    have hlen : (S0.addC f).calls.length = S.calls.length + 1 := by show (S0.calls ++ [_]).length = _; simp [hS0c]
    rw [hlen] at hcv1
    refine ⟨c1', cc1, S0.deep, by rw [← hcv1]; exact hR.box.2.2.2.2.1, hR.box.2.2.2.2.2.2.2.2.2.2.2.2.2, hR.fz 13, fun k => ?_⟩
    have eD : (max (S0.deep : Int) ((S.calls.length : Int) + 1)) = (D : Int) := by rw [hD, hS0c]; omega
    rw [eD]
    obtain ⟨s2, r2, h52⟩ := (hR.drewN k).numW (S' := S1) 13 (intV D) (by rw [hS1]; rfl) (by rw [hS1]; rfl) (by rw [hS1]; rfl) (by rw [hS1]; rfl) (by rw [hS1]; rfl) (by rw [hS1]; rfl)
    refine ⟨⟨V0, s2, List.replicate m 0, ?_, h4, h52.trans h5, ?_, by simp, ?_, ?_⟩, (r2.low.cell (p := ⟨pg, po + f * 6 + 1, none⟩) hlt).trans c1⟩
    · rw [List.take_zero]; exact r2
    · rw [List.take_zero]; exact hA1
    · rw [List.take_zero]; show S1.kept.length ≤ _; rw [hS1]; show S0.kept.length ≤ _; rw [hS0k]; exact Nat.le_refl _
    · rw [List.take_zero]; show S1.steps = _; rw [hS1]; exact hS0s
  · obtain ⟨V0, ss', l', hR, h4, h5, hAs, hl', hkk, hsteps⟩ := hq1
    obtain ⟨pgg, poo, hpa, hpl, hpc⟩ := hpi.get (i := i) hi
    obtain ⟨ag, ao, haa, hac⟩ := hA wq _ ss' _ hR h4 h5 i hi
    have hge : ps[i]? = some (ps.getD i 0) := by rw [List.getD, List.getElem?_eq_getElem hi]; rfl
    obtain ⟨hv1, hv3⟩ := hpr (ps.getD i 0) (List.mem_of_getElem? hge)
    obtain ⟨v, hvn⟩ : ∃ v : Nat, ps.getD i 0 = (v : Int) := Int.eq_ofNat_of_zero_le hv1
    rw [hvn] at hpc hv3
    refine ⟨pgg, poo, v, ag, ao, xs.getD i 0, hpa, haa, (hR.low.cell (p := ⟨pgg, poo + i, none⟩) hpl).trans hpc, hac, fun W k hW => ?_⟩
    subst hW
    have hqi : qs.take (i + 1) = qs.take i ++ [(v, xs.getD i 0)] := by
      rw [List.take_add_one, hqs]
      have : ((List.range ps.length).map fun i => ((ps.getD i 0).toNat, xs.getD i 0))[i]? = some (v, xs.getD i 0) := by
        rw [List.getElem?_map, List.getElem?_range hi]
        simp only [Option.map_some, hvn, Int.toNat_natCast]
      rw [this]
      rfl
    refine (set_anyW (hR.drewN k) hAs v (by omega) (xs.getD i 0) (by omega)).mono ?_
    rintro e w' ⟨he, kv2, s2, r2, h52⟩
    obtain ⟨l2, hAs2, hl2⟩ := hAs.set (c := v) (by omega) (xs.getD i 0)
    refine ⟨he, { V0 with kv := kv2 }, s2, l2, ?_⟩
    rw [hqi, St.sets_snoc]
    refine ⟨r2, h4, h52.trans h5, hAs2, by rw [hl2, hl'], ?_, ?_⟩
    · have := St.set_kept (S1.sets (qs.take i)) v (xs.getD i 0)
      show ((S1.sets (qs.take i)).set v (xs.getD i 0)).kept.length ≤ _
      omega
    · rw [← hsteps]
      show ((S1.sets (qs.take i)).set v (xs.getD i 0)).steps = _
      unfold St.set
      split <;> rfl
  · obtain ⟨V0, ss', l', hR, h4, h5, hAs, hl', hkk, hsteps⟩ := hq1
    rw [← hql, List.take_length] at hR hsteps
    subst hW
    refine (step_any (hR.drewN k) (by omega)).mono ?_
    rintro e w' ⟨he, s2, r2⟩
    exact ⟨he, _, s2, r2⟩
end Go.Proofs.YtdgpdmohfnealaaGreatDoor
