/- Live's loop: what stands from strip to strip. -/
import Derived.Test.YtcggbedjhglmmaaGreatDoorLJnM
import Derived.Test.YtcggbedjhglmmaaGreatDoorLToldM
namespace Go.Proofs.YtcggbedjhglmmaaGreatDoor
open Go.RowKit

def Kx (q : Nat) (ss ss' : List Slot) : Prop := ∀ j x, q ≤ j → ss[j]? = some x → ss'[j]? = some x
theorem Kx.trans {q : Nat} {a b c : List Slot} (h : Kx q a b) (g : Kx q b c) : Kx q a c := fun j x hj hx => g j x hj (h j x hj hx)
theorem Kx.app (q : Nat) (a b : List Slot) : Kx q a (a ++ b) := fun j x _ hx => by rw [List.getElem?_append_left (List.getElem?_eq_some_iff.1 hx).1]; exact hx
theorem Kp.kx {a b : List Slot} (h : Kp a b) : Kx 7 a b := fun j x hj hx => by rw [h.at' j hj]; exact hx
theorem Ans.kx {ss ss' : List Slot} {q j G n : Nat} {kvs : List Value} {rows : List (List Int)} (h : Ans ss j G n kvs rows) (k : Kx q ss ss') (hj : q ≤ j) : Ans ss' j G n kvs rows :=
  ⟨h.kl, h.rl, k _ _ hj h.head, fun i r kv hr hv => k _ _ (by omega) (h.row i r kv hr hv)⟩
structure StIn (ss : List Slot) (q G m : Nat) (ts : List V3) (all : List Sp) : Prop where
  tl : ts.length = m
  al : all.length = m
  head : ss[q]? = some ⟨.slice (some ⟨G, 0, none⟩) m m, 64, 3, m, flat v3Cells ts⟩
  row : ∀ (i : Nat) (t : V3) (s : Sp), ts[i]? = some t → all[i]? = some s → ss[q + (1 + 3 * i)]? = some (mkSlot t.1 s.sets) ∧ ss[q + (1 + 3 * i + 1)]? = some (mkSlot t.2.1 s.asks) ∧ ss[q + (1 + 3 * i + 2)]? = some (mkSlot t.2.2 s.hands)
theorem StIn.kx {ss ss' : List Slot} {p q G m : Nat} {ts : List V3} {all : List Sp} (h : StIn ss q G m ts all) (k : Kx p ss ss') (hq : p ≤ q) : StIn ss' q G m ts all :=
  ⟨h.tl, h.al, k _ _ hq h.head, fun i t s ht hs => ⟨k _ _ (by omega) (h.row i t s ht hs).1, k _ _ (by omega) (h.row i t s ht hs).2.1, k _ _ (by omega) (h.row i t s ht hs).2.2⟩⟩
theorem StIn.of {w0 w : World} {G m : Nat} {ss pre : List Slot} {ts : List V3} {all : List Sp} (h : Sts w0 w G m ss ts all) : StIn (pre ++ ss) pre.length G m ts all := by
  have e : ∀ j, (pre ++ ss)[pre.length + j]? = ss[j]? := fun j => by rw [List.getElem?_append_right (by omega)]; congr 1; omega
  refine ⟨h.tl, h.al, ?_, fun i t s ht hs => ?_⟩
  · have := e 0; rw [Nat.add_zero] at this; rw [this]; exact h.head
  · rw [e, e, e]; exact h.row i t s ht hs
/-- the answers so far, and the strips -/
def Mid (bs : List Bl) (ah : List (List Int)) (nv n gA gB SG m : Nat) (ts : List V3) (ss : List Slot) (k : Nat) : Prop :=
  ∃ ka kb ra rb, Ans ss 7 gA n ka ra ∧ Ans ss (8 + n) gB n kb rb ∧ StIn ss (9 + 2 * n) SG m ts (stripsP bs ah nv) ∧ (∀ i, i < n → ra.getD i [] = rowV (fun v => liveIn bs ah v i) (64 * k)) ∧ (∀ i, i < n → rb.getD i [] = rowV (fun v => liveOut bs ah v i) (64 * k))
theorem Mid.kx {bs : List Bl} {ah : List (List Int)} {nv n gA gB SG m : Nat} {ts : List V3} {ss ss' : List Slot} {k : Nat} (h : Mid bs ah nv n gA gB SG m ts ss k) (x : Kx 7 ss ss') : Mid bs ah nv n gA gB SG m ts ss' k := by
  obtain ⟨ka, kb, ra, rb, h1, h2, h3, h4, h5⟩ := h
  exact ⟨ka, kb, ra, rb, h1.kx x (by omega), h2.kx x (by omega), h3.kx x (by omega), h4, h5⟩
def Lv (E : FEnv) (bs : List Bl) (ah : List (List Int)) (nv gA gB SG m : Nat) (ts : List V3) (w : World) (k : Nat) : Prop :=
  ∃ wv mv ss f, Fw E w wv mv ss f ∧ Clean E.n f ∧ Mid bs ah nv E.n gA gB SG m ts ss k
def bxS (g : Nat) (sv av hv : Value) : Slot := ⟨.slice (some ⟨g, 0, none⟩) 1 1, 64, 3, 1, [sv, av, hv]⟩
theorem own_val {w : World} {base : Nat} {e : TypeId} {sz : Nat} {v : Value} {n : Nat} {cs : List Value} (h : w.ownsRow base e sz v n cs) : ∃ a c, v = .slice a n c := by
  rcases own_shape h with ⟨e, e0⟩ | ⟨g, c, e, _⟩
  · exact ⟨none, 0, by rw [e, e0]⟩
  · exact ⟨_, _, e⟩
/-- what is known of the graph -/
structure Gk (E : FEnv) (bs : List Bl) (ah : List (List Int)) (nv : Nat) : Prop where
  en : E.n = bs.length
  n : E.n ≤ 100000
  st : StpOk bs ah nv
  nv : nv ≤ 800000
  he : ∀ i j : Nat, (i : Int) ∈ ah.getD j [] ↔ j ∈ nxB bs i
  al : ah.length = bs.length
  nx : ∀ i, i < bs.length → ∀ j ∈ nxB bs i, j < bs.length
theorem begin_step {E : FEnv} {bs : List Bl} {ah : List (List Int)} {nv gA gB SG m : Nat} {ts : List V3} {w : World} {k : Nat} (g : Gk E bs ah nv) (h : Lv E bs ah nv gA gB SG m ts w k) (hk : k < m) :
    ∃ a1 n1 c1 a2 n2 c2 a3 n3 c3, w.cell? ⟨SG, k * 3, none⟩ = some (.slice a1 n1 c1) ∧ w.cell? ⟨SG, k * 3 + 1, none⟩ = some (.slice a2 n2 c2) ∧ w.cell? ⟨SG, k * 3 + 2, none⟩ = some (.slice a3 n3 c3) ∧ ts[k]? = some (.slice a1 n1 c1, .slice a2 n2 c2, .slice a3 n3 c3) ∧
      (Calls Tryz.prog 20 #[ptr E.F, .agg #[.slice a1 n1 c1, .slice a2 n2 c2, .slice a3 n3 c3]] (w.alloc (.cells #[.slice a1 n1 c1, .slice a2 n2 c2, .slice a3 n3 c3] 64)) fun e w' => e = .returned (.tuple #[]) ∧ ∃ f ss1, SetR E (nxB bs) (sA ((stripsP bs ah nv).getD k default)) (sS ((stripsP bs ah nv).getD k default)) (sP ((stripsP bs ah nv).getD k default)) ss1 w' f ∧ Mid bs ah nv E.n gA gB SG m ts ss1 k ∧ ∃ j, 9 + 2 * E.n < j ∧ ss1[j]? = some (bxS w.heap.size (.slice a1 n1 c1) (.slice a2 n2 c2) (.slice a3 n3 c3))) := by
  obtain ⟨wv, mv, ss, f, hF, hC, hM⟩ := h
  obtain ⟨ka, kb, ra, rb, h1, h2, h3, h4, h5⟩ := hM
  have htk : ts[k]? = some (ts[k]'(by rw [h3.tl]; exact hk)) := List.getElem?_eq_getElem _
  generalize ts[k]'(by rw [h3.tl]; exact hk) = t at htk
  have hak : (stripsP bs ah nv)[k]? = some ((stripsP bs ah nv).getD k default) := by
    have : k < (stripsP bs ah nv).length := by rw [h3.al]; exact hk
    simp [List.getElem?_eq_getElem this]
  have hr := h3.row k t _ htk hak
  have o1 := hF.heap.own _ _ hr.1
  have o2 := hF.heap.own _ _ hr.2.1
  have o3 := hF.heap.own _ _ hr.2.2
  obtain ⟨t1, t2, t3⟩ := t
  obtain ⟨a1, c1, e1⟩ := own_val o1
  obtain ⟨a2, c2, e2⟩ := own_val o2
  obtain ⟨a3, c3, e3⟩ := own_val o3
  change t1 = _ at e1
  change t2 = _ at e2
  change t3 = _ at e3
  generalize hn1 : (mkSlot t1 ((stripsP bs ah nv).getD k default).sets).n = n1 at e1
  generalize hn2 : (mkSlot t2 ((stripsP bs ah nv).getD k default).asks).n = n2 at e2
  generalize hn3 : (mkSlot t3 ((stripsP bs ah nv).getD k default).hands).n = n3 at e3
  subst e1; subst e2; subst e3
  have hsl := strips_len g.st.gr
  have hsz := g.st.sz
  have hF1 := hF.boxed [.slice a1 n1 c1, .slice a2 n2 c2, .slice a3 n3 c3] 64 rfl
  have hql : 9 + 2 * E.n < ss.length := (List.getElem?_eq_some_iff.1 h3.head).1
  have hsp : SpOk E.n ((stripsP bs ah nv).getD k default) := by rw [g.en]; exact strips_sp g.st.gr k
  have hst : StripAt (ss ++ [bxS w.heap.size (.slice a1 n1 c1) (.slice a2 n2 c2) (.slice a3 n3 c3)]) 0 (.slice a1 n1 c1) (.slice a2 n2 c2) (.slice a3 n3 c3) ((stripsP bs ah nv).getD k default) :=
    ⟨⟨_, by omega, Kx.app 0 _ _ _ _ (Nat.zero_le _) hr.1⟩, ⟨_, by omega, Kx.app 0 _ _ _ _ (Nat.zero_le _) hr.2.1⟩, ⟨_, by omega, Kx.app 0 _ _ _ _ (Nat.zero_le _) hr.2.2⟩⟩
  refine ⟨a1, n1, c1, a2, n2, c2, a3, n3, c3, hF.heap.cell h3.head (flat_at v3Cells_len ts k 0 _ _ htk rfl), hF.heap.cell h3.head (flat_at v3Cells_len ts k 1 _ _ htk rfl), hF.heap.cell h3.head (flat_at v3Cells_len ts k 2 _ _ htk rfl), htk, ?_⟩
  refine Calls.mono (begin_any (nx := nxB bs) g.n hF1 hC hsp hst ⟨Nat.le_trans (hsl.s k).2 hsz, Nat.le_trans (hsl.a k).2 hsz, Nat.le_trans (hsl.h k).2 hsz⟩) ?_
  rintro e w' ⟨rfl, f', ssx, hS, hK⟩
  have kx : Kx 7 ss ssx := ((Kx.app 7 ss _).trans (Kx.app 7 _ _)).trans hK.kx
  refine ⟨rfl, f', ssx, hS, Mid.kx ⟨ka, kb, ra, rb, h1, h2, h3, h4, h5⟩ kx, ss.length, hql, ((Kx.app 7 _ _).trans hK.kx) _ _ (by omega) ?_⟩
  rw [List.getElem?_append_right (Nat.le_refl _), Nat.sub_self]
  rfl
theorem SetR.bits {E : FEnv} {bs : List Bl} {ah : List (List Int)} {nv : Nat} (g : Gk E bs ah nv) {k : Nat} {ss : List Slot} {w : World} {f : Fl} (h : SetR E (nxB bs) (sA ((stripsP bs ah nv).getD k default)) (sS ((stripsP bs ah nv).getD k default)) (sP ((stripsP bs ah nv).getD k default)) ss w f) (hw : f.wt = []) :
    (∀ i, i < E.n → ∀ b, b < 64 → ((wAt f.into i).testBit b = true ↔ liveIn bs ah ((64 * k + b : Nat) : Int) i)) ∧ (∀ i, i < E.n → ∀ b, b < 64 → ((wAt f.out i).testBit b = true ↔ liveOut bs ah ((64 * k + b : Nat) : Int) i)) ∧ ∀ i, wAt f.news i = 0 := by
  obtain ⟨_, hI, hA, hP⟩ := h
  obtain ⟨d1, d2, d3⟩ := hI.done hw hA hP (fun i hi j hj => by rw [g.en] at hi ⊢; exact g.nx i hi j hj)
  have e : ∀ b, b < 64 → strip (stripsP bs ah nv) (64 * k + b) = (stripsP bs ah nv).getD k default ∧ (64 * k + b) % 64 = b := fun b hb => ⟨by unfold strip; congr 1; omega, by omega⟩
  refine ⟨fun i hi b hb => ?_, fun i hi b hb => ?_, d3⟩
  · have hl := (strip_live g.st.gr g.he g.al g.nx (64 * k + b) (i := i) (by rw [← g.en]; exact hi)).1
    rw [(e b hb).1, (e b hb).2] at hl
    exact (d1 i b hi).trans hl
  · have hl := (strip_live g.st.gr g.he g.al g.nx (64 * k + b) (i := i) (by rw [← g.en]; exact hi)).2
    rw [(e b hb).1, (e b hb).2] at hl
    exact (d2 i b hi).trans hl
/-- what stands ahead of the end of a strip -/
def Lv2 (E : FEnv) (bs : List Bl) (ah : List (List Int)) (nv gA gB SG m : Nat) (ts : List V3) (w : World) (f : Fl) (k g : Nat) (sv av hv : Value) : Prop :=
  ∃ wv mv ss, Fw E w wv mv ss f ∧ Mid bs ah nv E.n gA gB SG m ts ss k ∧ ∃ j, 9 + 2 * E.n < j ∧ ss[j]? = some (bxS g sv av hv)
theorem FI.mets {E : FEnv} {nx : Nat → List Nat} {A S P : Nat → Nat → Prop} {X : Nat → Nat → Nat → Prop} {f : Fl} (h : FI E.n nx A S P X f) : ∀ i ∈ f.met, i < E.n := fun i hi => Nat.lt_of_not_le fun hc => ((h.met i).1 hi).elim (fun k => k (wAt_out h.li hc)) (fun k => k (wAt_out h.lo hc))
theorem tell_step {E : FEnv} {bs : List Bl} {ah : List (List Int)} {nv gA gB SG m : Nat} {ts : List V3} {w : World} {f : Fl} {k b0 : Nat} {ss1 : List Slot} {sv av hv : Value} (g : Gk E bs ah nv) (hT : TzAt w) (hb0 : 0 < E.w0.heap.size) (hk : k < m) (h : SetR E (nxB bs) (sA ((stripsP bs ah nv).getD k default)) (sS ((stripsP bs ah nv).getD k default)) (sP ((stripsP bs ah nv).getD k default)) ss1 w f) (hw : f.wt = []) (hM : Mid bs ah nv E.n gA gB SG m ts ss1 k) (hbx : ∃ j, 9 + 2 * E.n < j ∧ ss1[j]? = some (bxS b0 sv av hv)) :
    Calls Tryz.prog 22 #[ptr E.F, .int .i64 ((k : Int) * 64), rowN gA E.n, rowN gB E.n] w fun e w' => e = .returned (.tuple #[]) ∧ Lv2 E bs ah nv gA gB SG m ts w' f (k + 1) b0 sv av hv := by
  obtain ⟨q1, q2, q3⟩ := SetR.bits g h hw
  obtain ⟨⟨wv, mv, ss, hF, hK⟩, hI, _, _⟩ := h
  obtain ⟨ka, kb, ra, rb, h1, h2, h3, h4, h5⟩ := hM.kx hK.kx
  obtain ⟨j, hj, hbx⟩ := hbx
  have hbx' := hK.kx j _ (by omega) hbx
  have hmm : m = (nv + 63) / 64 := by rw [← h3.al, (strips_ok g.st.gr).len]
  have hnv := g.nv
  have hlen : ∀ i, (ra.getD i []).length ≤ 900000 ∧ (rb.getD i []).length ≤ 900000 := fun i => by
    by_cases hi : i < E.n
    · rw [h4 i hi, h5 i hi]
      have := rowV_len (fun v => liveIn bs ah v i) (64 * k)
      have := rowV_len (fun v => liveOut bs ah v i) (64 * k)
      omega
    · rw [List.getD_eq_getElem?_getD, List.getElem?_eq_none (by rw [h1.rl]; omega), List.getD_eq_getElem?_getD, List.getElem?_eq_none (by rw [h2.rl]; omega)]
      simp
  have hmet := hI.mets
  have hml := nodup_lenN hI.nm hmet
  have hn := g.n
  have ht := tell_any hF hT hb0 (ja := 7) (jb := 8 + E.n) (by omega) (by omega) h1 h2 (k * 64) (by omega) hlen hmet (by omega) hI.nm hI.li hI.lo
  rw [show (((k * 64 : Nat)) : Int) = (k : Int) * 64 by omega] at ht
  refine Calls.mono ht ?_
  rintro e w' ⟨rfl, ss', ka', kb', hF', hl', hk', a1, a2⟩
  have kx : Kx (9 + 2 * E.n) ss ss' := fun z x hz hx => by rw [hk' z (by omega)]; exact hx
  refine ⟨rfl, wv, mv, ss', hF', ⟨ka', kb', _, _, a1, a2, h3.kx kx (Nat.le_refl _), fun i hi => ?_, fun i hi => ?_⟩, j, hj, kx j _ (by omega) hbx'⟩
  · rw [toldR_all hI.nm (fun z hz => by rw [h1.rl]; exact hmet z hz) (fun z hz => (hI.met z).2 (.inl hz)), h4 i hi]
    exact rowV_told _ k _ (q1 i hi)
  · rw [toldR_all hI.nm (fun z hz => by rw [h2.rl]; exact hmet z hz) (fun z hz => (hI.met z).2 (.inr hz)), h5 i hi]
    exact rowV_told _ k _ (q2 i hi)
theorem end_step {E : FEnv} {bs : List Bl} {ah : List (List Int)} {nv gA gB SG m : Nat} {ts : List V3} {w0 w : World} {f : Fl} {k b0 : Nat} {ss1 : List Slot} {sv av hv : Value} (g : Gk E bs ah nv) (hk : k < m) (h : SetR E (nxB bs) (sA ((stripsP bs ah nv).getD k default)) (sS ((stripsP bs ah nv).getD k default)) (sP ((stripsP bs ah nv).getD k default)) ss1 w0 f) (hw : f.wt = []) (ht : ts[k]? = some (sv, av, hv)) (h2 : Lv2 E bs ah nv gA gB SG m ts w f (k + 1) b0 sv av hv) :
    w.cell? ⟨b0, 0, none⟩ = some sv ∧ w.cell? ⟨b0, 1, none⟩ = some av ∧ w.cell? ⟨b0, 2, none⟩ = some hv ∧ b0 < w.heap.size ∧ Calls Tryz.prog 23 #[ptr E.F, .agg #[sv, av, hv]] w fun e w' => e = .returned (.tuple #[]) ∧ Lv E bs ah nv gA gB SG m ts w' (k + 1) := by
  obtain ⟨_, _, q3⟩ := SetR.bits g h hw
  obtain ⟨_, hI, _, _⟩ := h
  obtain ⟨wv, mv, ss, hF, hM, j, hj, hbx⟩ := h2
  obtain ⟨ka, kb, ra, rb, h1, h2, h3, h4, h5⟩ := hM
  have hak : (stripsP bs ah nv)[k]? = some ((stripsP bs ah nv).getD k default) := by
    have : k < (stripsP bs ah nv).length := by rw [h3.al]; exact hk
    simp [List.getElem?_eq_getElem this]
  have hr := h3.row k _ _ ht hak
  have hsp : SpOk E.n ((stripsP bs ah nv).getD k default) := by rw [g.en]; exact strips_sp g.st.gr k
  have hst : StripAt ss 0 sv av hv ((stripsP bs ah nv).getD k default) := ⟨⟨_, by omega, hr.1⟩, ⟨_, by omega, hr.2.1⟩, ⟨_, by omega, hr.2.2⟩⟩
  have hsl := strips_len g.st.gr
  have hmet := hI.mets
  have hml := nodup_lenN hI.nm hmet
  have hn := g.n
  refine ⟨hF.heap.cell hbx (j := 0) rfl, hF.heap.cell hbx (j := 1) rfl, hF.heap.cell hbx (j := 2) rfl, (hF.heap.lt hbx).2, ?_⟩
  refine Calls.mono (fend_any hF hsp hst (Nat.le_trans (hsl.s k).2 g.st.sz) (fun i b hb => ?_) hI.met q3 hw hmet (by omega)) ?_
  · by_cases hi : i < E.n
    · exact (hI.set i b hi).1 hb
    · unfold tb at hb; rw [wAt_out hI.ls (by omega)] at hb; simp at hb
  · rintro e w' ⟨rfl, f', wv', mv', ssx, hF', hC', hK'⟩
    exact ⟨rfl, wv', mv', ssx, f', hF', hC', Mid.kx ⟨ka, kb, ra, rb, h1, h2, h3, h4, h5⟩ ((Kx.app 7 _ _).trans hK'.kx)⟩
/-- the rows told, as memory of their own -/
theorem ans_rows {w : World} {base base' : Nat} {ss : List Slot} {j G n : Nat} {kvs : List Value} {rows : List (List Int)} (hh : Heap w base ss) (hb : base' ≤ base) (h : Ans ss j G n kvs rows) : RowsIn w base' G n kvs rows := by
  have kr : ∀ {i : Nat} {kv : Value}, kvs[i]? = some kv → ∃ r, rows[i]? = some r ∧ ss[j + 1 + i]? = some ⟨kv, 3, 1, r.length, r.map intV⟩ := fun {i kv} hk => by
    have hi : i < rows.length := by have := (List.getElem?_eq_some_iff.1 hk).1; rw [h.kl] at this; rw [h.rl]; exact this
    exact ⟨_, List.getElem?_eq_getElem hi, h.row i _ kv (List.getElem?_eq_getElem hi) hk⟩
  refine ⟨h.kl, h.rl, own_low (hh.own _ _ h.head) hb, fun i r kv hr hk => ⟨own_low (hh.own _ _ (h.row i r kv hr hk)) hb, fun hc => hh.apart (j + 1 + i) j _ _ G (by omega) (h.row i r kv hr hk) h.head hc rfl⟩, fun a b x y z hab ha hb2 hx hy => ?_⟩
  obtain ⟨r1, _, s1⟩ := kr ha
  obtain ⟨r2, _, s2⟩ := kr hb2
  exact hh.apart (j + 1 + a) (j + 1 + b) _ _ z (by omega) s1 s2 hx hy
theorem rows_are {rows : List (List Int)} {n nv m : Nat} {p : Nat → Int → Prop} (hl : rows.length = n) (hm : m = (nv + 63) / 64) (hp : ∀ i v, p i v → v < (nv : Int)) (h : ∀ i, i < n → rows.getD i [] = rowV (p i) (64 * m)) : rows = (List.range n).map fun i => rowV (p i) nv := by
  refine List.ext_getElem (by simp [hl]) fun i h1 h2 => ?_
  have hi : i < n := by rw [← hl]; exact h1
  have := h i hi
  rw [hm, rowV_full (hp i), List.getD_eq_getElem?_getD, List.getElem?_eq_getElem h1] at this
  simpa using this
end Go.Proofs.YtcggbedjhglmmaaGreatDoor
