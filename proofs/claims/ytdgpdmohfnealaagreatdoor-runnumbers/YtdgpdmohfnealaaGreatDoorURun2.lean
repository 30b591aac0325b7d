/- The runner's loops: a run as the document sees it. -/
import Derived.Test.YtdgpdmohfnealaaGreatDoorURunM
namespace Go.Proofs.YtdgpdmohfnealaaGreatDoor
open Go.RowKit

theorem doI_nx (G : Gr) (f : Fr) (x : In) (k : Nat) : ({ f with nx := k } : Fr).doI G x = { f.doI G x with nx := k } := by
  unfold Fr.doI Fr.reck Fr.elem Fr.put
  dsimp only
  repeat' split
  all_goals first | rfl | (exfalso; omega) | (split <;> first | rfl | (exfalso; omega))
/-- A run, step by step. -/
def stN (E : Env) (g : Nat) (ws : List Int) (n : Nat) : HS × Bool := HS.iter E.P E.lim E.dep n (HS.first E.P E.lim E.dep g ws)
theorem stN_next {E : Env} {g : Nat} {ws : List Int} {n : Nat} (h : (stN E g ws n).2 = true) : stN E g ws (n + 1) = (stN E g ws n).1.next E.P E.lim E.dep := by
  unfold stN at h ⊢
  exact HS.iter_one (H := (HS.iter E.P E.lim E.dep n (HS.first E.P E.lim E.dep g ws)).1) (by rw [← h])
theorem stN_stop {E : Env} {g : Nat} {ws : List Int} {a b : Nat} (ha : (stN E g ws a).2 = false) (hb : (stN E g ws b).2 = false) : stN E g ws a = stN E g ws b := by
  unfold stN at *
  rcases Nat.le_total a b with h | h
  · obtain ⟨c, rfl⟩ := Nat.exists_eq_add_of_le h
    rw [HS.iter_add, HS.iter_stop ha]
  · obtain ⟨c, rfl⟩ := Nat.exists_eq_add_of_le h
    rw [HS.iter_add, HS.iter_stop hb]
theorem stN_lt {E : Env} {g : Nat} {ws : List Int} {n N : Nat} (h : (stN E g ws n).2 = true) (hN : (stN E g ws N).2 = false) : n < N := by
  rcases Nat.lt_or_ge n N with h1 | h1
  · exact h1
  · obtain ⟨c, rfl⟩ := Nat.exists_eq_add_of_le h1
    unfold stN at h hN
    rw [HS.iter_add, HS.iter_stop hN, hN] at h
    cases h
/-- Where the last call's block lies. -/
structure CxOk (E : Env) (pg po : Nat) (V : Vals) (f : Fr) (fs : List Fr) (x : Cx) : Prop where
  cv : ∃ cc, V.cv = .slice (some ⟨x.cb, 0, none⟩) (x.m + 1) cc ∧ x.m + 1 ≤ cc ∧ cc ≤ maxLen
  m : x.m = fs.length
  tg : x.tg = f.g
  tb : x.tb = f.b
  lt : pg < E.w0.heap.size
  blk : E.w0.cell? ⟨pg, po + x.tg * 6 + 5, none⟩ = some (.slice (some ⟨x.bg, x.bo, none⟩) x.bn x.bc)
  bn : x.bn = (grOf E.P f).blocks.length
  bl : x.bg < E.w0.heap.size
  ins : E.w0.cell? ⟨x.bg, x.bo + x.tb * 6, none⟩ = some (.slice x.ia x.il x.ic)
  inl : x.il = (insOf E.P f).length
  at' : InsAt E.w0 (.slice x.ia x.il x.ic) (insOf E.P f)
  tm : TmAt E.w0 x.bg (x.bo + x.tb * 6 + 1) (tmOf E.P f)
theorem cx_of {E : Env} {pg po np qc : Nat} (hp : GrsAt E.w0 (.slice (some ⟨pg, po, none⟩) np qc) E.P) {w : World} {V : Vals} {ss : List Slot} {S : St} (h : Rn E w V ss S) {f : Fr} {fs : List Fr} {F : Nat → Nat → Nat} (hi : Hi E.P S (f :: fs) F) (hf : FrOk E.P f) : ∃ x, CxOk E pg po V f fs x := by
  obtain ⟨F0, c, cs, ho⟩ := hi.opn
  obtain ⟨cb, cc, hcv, hc1, hc2, _⟩ := h.last ho.clen
  obtain ⟨pg', po', pv, vv, av, bv, e, hlt, _, _, _, _, _, c5, hG⟩ := hp.get hf.gl
  cases e
  obtain ⟨_, _, _, _, _, _, ba, bc, _, _, _, hbv, _, _, _, _⟩ := hG.openF
  have hbs := hG.bs
  rw [hbv] at hbs c5
  obtain ⟨bg, bo, iv, rfl, hbg, d0, d1, d2, d3, d4, d5, hins⟩ := hbs.get hf.bl
  obtain ⟨ia, ic, hiv, hil⟩ := hins.form
  rw [hiv] at hins d0
  exact ⟨⟨cb, fs.length, f.g, f.b, bg, bo, (grOf E.P f).blocks.length, bc, (insOf E.P f).length, ic, ia⟩, ⟨cc, hcv, hc1, hc2⟩, rfl, rfl, rfl, hlt, c5, rfl, hbg, d0, rfl, hins, hbg, d1, d2, d3, d4, d5⟩
theorem ins_at {w : World} {a : Option Addr} {n c : Nat} {l : List In} (h : InsAt w (.slice a n c) l) {i : Nat} (hi : i < l.length) : ∃ g o av, a = some ⟨g, o, none⟩ ∧ InAt w g (o + i * 6) av (l.getD i default) := by
  obtain ⟨g, o, av, e, hg, c0, c1, c2, c3, c4, c5, hA⟩ := h.get hi
  exact ⟨g, o, av, e, hg, c0, c1, c2, c3, c4, c5, hA⟩
/-- A state of the runner's loops. -/
def GS (E : Env) (pg po g : Nat) (ws : List Int) (n : Nat) (x : Cx) (w : World) : Prop :=
  ∃ V ss S f fs, Rn E w V ss S ∧ Sim E.P S (stN E g ws n).1 ∧ (stN E g ws n).1.frs = f :: fs ∧ (stN E g ws n).2 = true ∧ CxOk E pg po V f fs x
theorem words_at {E : Env} {V : Vals} {ss : List Slot} {ws : List Int} (hw : HasW ss V ws) {w : World} {S : St} (h : Rn E w V ss S) : ∃ aa ac, V.wv = .slice aa ws.length ac ∧ ∀ (W : World) (V' : Vals) (ss' : List Slot) (S' : St), Rn E W V' ss' S' → V'.wv = V.wv → ss'[5]? = ss[5]? → ∀ i, i < ws.length → ∃ ag ao, aa = some ⟨ag, ao, none⟩ ∧ W.cell? ⟨ag, ao + i, none⟩ = some (wordV (ws.getD i 0)) := by
  rcases own_shape (h.heap.own 5 _ hw) with ⟨hv, hn⟩ | ⟨g, c, hv, _⟩
  · dsimp only at hv hn
    exact ⟨none, 0, by rw [hv, hn], fun W V' ss' S' _ _ _ i hi => by omega⟩
  · dsimp only at hv
    refine ⟨some ⟨g, 0, none⟩, c, hv, fun W V' ss' S' hR _ h5 i hi => ⟨g, 0, rfl, ?_⟩⟩
    unfold HasW at hw
    rw [← h5, hv] at hw
    have := hR.heap.cell hw (j := i) (u := wordV (ws.getD i 0)) (by
      rw [List.getElem?_map, List.getElem?_eq_getElem hi]
      simp [List.getD, List.getElem?_eq_getElem hi])
    rw [Nat.zero_add]
    exact this
theorem runner_any {E : Env} {C : Nat} (hB : RunB E C) {pg po np qc : Nat} (hpp : E.ppv = .slice (some ⟨pg, po, none⟩) np qc) {w : World} {V : Vals} {ss : List Slot} {S : St} (h : Rn E w V ss S) (hs : Sim E.P S HS.zero) {g N : Nat} (hg : g < E.P.length) {aa : Option Addr} {ac : Nat} {ws : List Int} (hw : ∀ v, Sc.word (ws.getD v 0))
    (hA : ∀ (W : World) (V' : Vals) (ss' : List Slot) (S' : St), Rn E W V' ss' S' → V'.wv = V.wv → ss'[5]? = ss[5]? → ∀ i, i < (E.P.getD g default).params.length → ∃ ag ao, aa = some ⟨ag, ao, none⟩ ∧ W.cell? ⟨ag, ao + i, none⟩ = some (wordV (ws.getD i 0)))
    (hN : (stN E g ws N).2 = false) (hbd : ∀ n, (stN E g ws n).2 = true → (stN E g ws n).1.steps ≤ 1000000000000 ∧ (stN E g ws n).1.shows.length ≤ 1000000000) :
    Calls Tryz.prog 12 #[ptr E.B, .int .i64 (g : Int), .slice aa (E.P.getD g default).params.length ac] w fun e w' => e = .returned (.tuple #[]) ∧ ∃ V' ss' S', Rn E w' V' ss' S' ∧ Sim E.P S' (stN E g ws N).1 := by
  have hp := h.prog
  rw [hpp] at hp
  have hnp : np = E.P.length := by
    obtain ⟨a, c, e, _⟩ := hp.form
    cases e
    rfl
  have hdd := hB.dep
  have hz0 : S.steps = 0 := hs.steps
  have hc0 : S.calls.length = 0 := by
    obtain ⟨F, hi⟩ := hs.hi
    have := hi.lay.len
    rw [List.length_reverse] at this
    exact this
  have hbeg := fun W k (hW : W = w.drewN k) => begin_sim hB (hW ▸ h.drewN k : Rn E W V ss S) hs (by omega) (by omega) hg (aa := aa) (ac := ac) (ws := ws) hA
  have stat : ∀ n w' V' ss' S', Rn E w' V' ss' S' → Sim E.P S' (stN E g ws n).1 → (stN E g ws n).2 = true → ∃ x, GS E pg po g ws n x w' := fun n w' V' ss' S' hR hS ht => by
    obtain ⟨h1, h2, h3⟩ := iter_ok hB.ok hB.bits hg hw n ht
    cases hfr : (stN E g ws n).1.frs with
    | nil => exact (h2 hfr).elim
    | cons f fs =>
      have h1' : HOk E.P (stN E g ws n).1.frs := h1
      obtain ⟨F, hi⟩ := hS.hi
      rw [hfr] at hi h1'
      obtain ⟨x, hx⟩ := cx_of hp hR hi h1'.1
      exact ⟨x, V', ss', S', f, fs, hR, hS, hfr, ht, hx⟩
  refine run_walk (B := E.B) (pg := pg) (po := po) (np := np) (qc := qc) (f := g) (N := N) (G := GS E pg po g ws) (Qn := fun n w => ∃ V ss S, Rn E w V ss S ∧ Sim E.P S (stN E g ws (n + 1)).1) (Qe := fun w' => ∃ V' ss' S', Rn E w' V' ss' S' ∧ Sim E.P S' (stN E g ws N).1) (bs := fun n => (stN E g ws (n + 1)).2) (b0 := (stN E g ws 0).2) (fun W k hW => ?_) (fun n x W hG => ?_) (fun n x W hG => ?_) (fun n x W k hG => ?_) (fun n W hq => ?_)
  · refine (hbeg W k hW).mono ?_
    rintro e w' ⟨he, V', ss', S', hR, hS⟩
    refine ⟨he, fun ht => stat 0 w' V' ss' S' hR hS ht, fun hf => ⟨V', ss', S', hR, ?_⟩⟩
    rw [← stN_stop hf hN]
    exact hS
  · obtain ⟨V', ss', S', f, fs, hR, hS, hfr, ht, hx⟩ := hG
    obtain ⟨h1, h2, h3⟩ := iter_ok hB.ok hB.bits hg hw n ht
    have h1' : HOk E.P (stN E g ws n).1.frs := h1
    obtain ⟨F, hi⟩ := hS.hi
    rw [hfr] at hi h1'
    obtain ⟨F0, c, cs, ho⟩ := hi.opn
    obtain ⟨cc, hcv, hc1, hc2⟩ := hx.cv
    obtain ⟨cb', cc', hcv', _, _, _, t0, t1, t2, _, _⟩ := hR.last ho.clen
    have hxm := hx.m
    rw [hcv, hxm] at hcv'
    cases hcv'
    have b4 := hR.box.2.2.2.2.1
    rw [hcv] at b4
    rw [ho.top, ho.cg, ← hx.tg, ← hx.m] at t0
    rw [ho.top, ho.cb, ← hx.tb, ← hx.m] at t1
    have hfl := h3.frs
    have hfd := h3.deep
    have hfr' : (HS.iter E.P E.lim E.dep n (HS.first E.P E.lim E.dep g ws)).1.frs = f :: fs := hfr
    rw [hfr', List.length_cons] at hfl
    refine ⟨fun W' k hW' => now_at E.B x.cb x.m cc W' (by rw [hW']; exact b4) (by omega), by rw [← hpp]; exact hR.box.1, t0, t1, (hR.low.cell (p := ⟨pg, po + x.tg * 6 + 5, none⟩) hx.lt).trans hx.blk, ?_, ?_, stN_lt ht hN⟩
    · have := h1'.1.gl
      have := hx.tg
      omega
    · have := h1'.1.bl
      have := hx.tb
      have := hx.bn
      omega
  · obtain ⟨V', ss', S', f, fs, hR, hS, hfr, ht, hx⟩ := hG
    obtain ⟨h1, h2, h3⟩ := iter_ok hB.ok hB.bits hg hw n ht
    have h1' : HOk E.P (stN E g ws n).1.frs := h1
    obtain ⟨hst, hsh⟩ := hbd n ht
    have hnext := stN_next ht
    obtain ⟨F, hi⟩ := hS.hi
    rw [hfr] at hi h1'
    obtain ⟨F0, c, cs, ho⟩ := hi.opn
    obtain ⟨cc, hcv, hc1, hc2⟩ := hx.cv
    have hxm := hx.m
    have hfl := h3.frs
    have hfd := h3.deep
    have hfr' : (HS.iter E.P E.lim E.dep n (HS.first E.P E.lim E.dep g ws)).1.frs = f :: fs := hfr
    rw [hfr', List.length_cons] at hfl
    have hd : fs.length + 1 ≤ E.dep := by omega
    have hf := h1'.1
    obtain ⟨cb', cc', hcv', _, _, _, t0, t1, t2, _, _⟩ := hR.last ho.clen
    rw [hcv, hxm] at hcv'
    cases hcv'
    rw [ho.top, ho.cx, ← hxm] at t2
    have h2s := hR.s2
    rw [hcv, ho.clen, ← hxm] at h2s
    have low : ∀ (W : World) (V' : Vals) (ss' : List Slot) (S' : St), Rn E W V' ss' S' → ∀ (p j : Nat) (u : Value), p < E.w0.heap.size → E.w0.cell? ⟨p, j, none⟩ = some u → W.cell? ⟨p, j, none⟩ = some u := fun W V' ss' S' hR p j u hp hu => (hR.low.cell (p := ⟨p, j, none⟩) hp).trans hu
    have hnl := hf.nl
    have hil := hB.ins f.g f.b
    have hil' : (insOf E.P f).length ≤ 1000000 := hil
    obtain ⟨H, hH⟩ : ∃ H, H = (stN E g ws n).1 := ⟨_, rfl⟩
    rw [← hH] at hS hfr hst hsh hnext
    have hsteps : S'.steps = H.steps := hS.steps
    have hshows : S'.shows = H.shows := hS.shows
    refine ⟨f.nx, t2, hR.heap.fz h2s _, low _ _ _ _ hR _ _ _ hx.bl hx.ins, by omega, fun hlt => ?_, fun hge W' j hW' => ?_⟩
    · have hlt' : f.nx < (insOf E.P f).length := by have := hx.inl; omega
      obtain ⟨ig, io, av, hia, hxi⟩ := ins_at hx.at' hlt'
      have hG : GOk E.P (grOf E.P f) := gOk hB hf.gl
      have hI : InOk E.P (grOf E.P f) ((insOf E.P f).getD f.nx default) := hG.ins f.b hf.bl _ hlt'
      have hn1 : ¬ ((insOf E.P f).getD f.nx default).kind = 1 := hG.tail f.b hf.bl _ hf.np hlt'
      obtain ⟨x', hx'⟩ : ∃ x', x' = (insOf E.P f).getD f.nx default := ⟨_, rfl⟩
      rw [← hx'] at hxi hI hn1
      have hnx : H.next E.P E.lim E.dep = if x'.kind = 9 then ({ H with frs := { f with nx := f.nx + 1 } :: fs } : HS).begin E.P E.lim E.dep x'.ref.toNat (x'.args.map fun v => f.ev v.toNat) else ({ H with frs := { f.doI (grOf E.P f) x' with nx := f.nx + 1 } :: fs, shows := H.shows ++ showI (grOf E.P f) f x' }, true) := by
        unfold HS.next
        rw [hfr]
        dsimp only
        rw [if_pos hlt', ← hx']
      obtain ⟨S1, hS1⟩ : ∃ S1, S1 = S'.ahead fs.length (f.nx + 1) := ⟨_, rfl⟩
      have O1 : Opn E.P S1 { f with nx := f.nx + 1 } fs F F0 { c with nx := f.nx + 1 } cs := by rw [hS1]; exact ho.ahead (f.nx + 1)
      have R1 : ∀ j i, ∃ s1, Rn E (((W.drewN j).setCell ⟨x.cb, x.m * 5 + 2, none⟩ (.int .i64 ((f.nx : Int) + 1))).drewN i) V' s1 S1 := fun j i => by
        obtain ⟨s1, r1, _⟩ := (hR.drewN j).lastSet (m := fs.length) ho.clen (by rw [hcv, hxm]) 2 (by omega) (intV ((f.nx + 1 : Nat) : Int)) { S'.top with nx := f.nx + 1 } rfl
        have e : (intV ((f.nx + 1 : Nat) : Int)) = .int .i64 ((f.nx : Int) + 1) := by rw [Int.natCast_add]; rfl
        rw [e] at r1
        refine ⟨s1, ?_⟩
        rw [hS1, hxm]
        exact r1.drewN i
      have hsz1 : S1.steps = S'.steps ∧ S1.shows = S'.shows ∧ S1.fin = S'.fin ∧ S1.val = S'.val ∧ S1.trap = S'.trap ∧ S1.deep = S'.deep := by rw [hS1]; exact ⟨rfl, rfl, rfl, rfl, rfl, rfl⟩
      refine ⟨ig, io, x'.kind, hia, fun j => ?_, ?_⟩
      · obtain ⟨s1, r1⟩ := R1 j 0
        exact low _ _ _ _ r1 _ _ _ hxi.lt hxi.c0
      · by_cases h9 : x'.kind = 9
        · right
          rw [if_pos h9] at hnx
          have hc := hI.call h9
          refine ⟨h9, x'.ref, av, fun j => ?_, fun j => ?_, fun W2 j i hW2 => ?_⟩
          · obtain ⟨s1, r1⟩ := R1 j 0
            exact low _ _ _ _ r1 _ _ _ hxi.lt hxi.c5
          · obtain ⟨s1, r1⟩ := R1 j 0
            exact low _ _ _ _ r1 _ _ _ hxi.lt hxi.c3
          · obtain ⟨s1, r1⟩ := R1 j i
            subst hW2
            obtain ⟨l, ha, hl⟩ := O1.asks (by omega)
            have hl' : l.length = cellsOf (grOf E.P f) := hl
            have hcl : (grOf E.P f).vars.length ≤ l.length := by rw [hl']; unfold cellsOf; omega
            have hal : x'.args.length ≤ 8 := by
              have := (gOk hB (g := x'.ref.toNat) (by omega)).par.1
              omega
            refine (read_any r1 ha hxi.args (fun v hv => by have := hI.args v hv; omega) (by omega)).mono ?_
            rintro e w2 ⟨wv, rfl, s2, r2, hwv⟩
            have hmap : (x'.args.map fun v => S1.get v.toNat) = x'.args.map fun v => f.ev v.toNat := List.map_congr_left fun v hv => by
              have := hI.args v hv
              exact O1.get (v := v.toNat) (by show _ < (grOf E.P f).vars.length; omega)
            rw [hmap] at hwv
            obtain ⟨aa2, ac2, hwe, hcells⟩ := words_at hwv r2
            dsimp only at hwe
            have hlen2 : (x'.args.map fun v => f.ev v.toNat).length = (E.P.getD x'.ref.toNat default).params.length := by rw [List.length_map]; exact hc.2.2
            rw [hlen2] at hwe hcells
            refine ⟨wv, rfl, low _ _ _ _ r2 _ _ _ hxi.lt hxi.c5, low _ _ _ _ r2 _ _ _ hxi.lt hxi.c3, fun W3 i3 hW3 => ?_⟩
            subst hW3
            have hS1' : Sim E.P S1 ({ H with frs := { f with nx := f.nx + 1 } :: fs } : HS) := ⟨⟨F, O1.hi⟩, hsz1.2.1.trans hS.shows, hsz1.2.2.1.trans hS.fin, hsz1.2.2.2.1.trans hS.val, hsz1.2.2.2.2.1.trans hS.trap, hsz1.1.trans hS.steps, hsz1.2.2.2.2.2.trans hS.deep⟩
            have href : x'.ref = ((x'.ref.toNat : Nat) : Int) := by omega
            have hcalls : S1.calls.length ≤ 1000000000 := by rw [O1.clen]; omega
            rw [hwe]
            have := begin_sim hB (r2.drewN i3) hS1' (by omega) hcalls (g := x'.ref.toNat) (by omega) (aa := aa2) (ac := ac2) (ws := x'.args.map fun v => f.ev v.toNat) hcells
            rw [← hnx, ← hnext, ← href] at this
            refine this.mono ?_
            rintro e w3 ⟨he, V3, s3, S3, r3, sim3⟩
            exact ⟨he, low _ _ _ _ r3 _ _ _ hxi.lt hxi.c5, low _ _ _ _ r3 _ _ _ hxi.lt hxi.c3, V3, s3, S3, r3, sim3⟩
        · left
          rw [if_neg h9] at hnx
          refine ⟨by simpa using h9, fun W2 j i hW2 => ?_⟩
          obtain ⟨s1, r1⟩ := R1 j i
          subst hW2
          refine (do_sim hB r1 O1 hd (by rw [hsz1.2.1, hshows]; exact hsh) hf.ev (x := x') hI hn1 h9 hxi).mono ?_
          rintro e w2 ⟨he, V2, s2, S2, F2, r2, hcv2, O2, hsh2, rest2⟩
          have ef : ({ f with nx := f.nx + 1 } : Fr).doI (grOf E.P f) x' = { f.doI (grOf E.P f) x' with nx := f.nx + 1 } := doI_nx _ _ _ _
          have e1 : (stN E g ws (n + 1)).1 = { H with frs := { f.doI (grOf E.P f) x' with nx := f.nx + 1 } :: fs, shows := H.shows ++ showI (grOf E.P f) f x' } := by rw [hnext, hnx]
          have e2 : (stN E g ws (n + 1)).2 = true := by rw [hnext, hnx]
          have O2' : Opn E.P S2 { f.doI (grOf E.P f) x' with nx := f.nx + 1 } fs F2 F0 { c with nx := f.nx + 1 } cs := ef ▸ O2
          obtain ⟨q1, q2, q3⟩ := doI_at (grOf E.P f) f x'
          have ei : insOf E.P { f.doI (grOf E.P f) x' with nx := f.nx + 1 } = insOf E.P f := insOf_at q1 q2
          have eg : grOf E.P { f.doI (grOf E.P f) x' with nx := f.nx + 1 } = grOf E.P f := by unfold grOf; exact congrArg (fun k => E.P.getD k default) q1
          have et : tmOf E.P { f.doI (grOf E.P f) x' with nx := f.nx + 1 } = tmOf E.P f := by unfold tmOf; rw [eg]; exact congrArg (fun k => ((grOf E.P f).blocks.getD k default).tm) q2
          refine ⟨he, V2, s2, S2, _, fs, r2, ?_, by rw [e1], e2, ?_⟩
          · rw [e1]
            refine ⟨⟨F2, O2'.hi⟩, ?_, rest2.fin.trans (hsz1.2.2.1.trans hS.fin), rest2.val.trans (hsz1.2.2.2.1.trans hS.val), rest2.trap.trans (hsz1.2.2.2.2.1.trans hS.trap), rest2.steps.trans (hsz1.1.trans hS.steps), rest2.deep.trans (hsz1.2.2.2.2.2.trans hS.deep)⟩
            show S2.shows = H.shows ++ showI (grOf E.P f) f x'
            rw [hsh2, hsz1.2.1, hshows]
            rfl
          · exact ⟨⟨cc, by rw [hcv2]; exact hcv, hc1, hc2⟩, hx.m, hx.tg.trans q1.symm, hx.tb.trans q2.symm, hx.lt, hx.blk, by rw [eg]; exact hx.bn, hx.bl, hx.ins, by rw [ei]; exact hx.inl, by rw [ei]; exact hx.at', by rw [et]; exact hx.tm⟩
    · subst hW'
      have hge' : ¬ f.nx < (insOf E.P f).length := by have := hx.inl; omega
      have hnx : H.next E.P E.lim E.dep = H.endT E.P E.lim f fs (tmOf E.P f) := by
        unfold HS.next
        rw [hfr]
        dsimp only
        rw [if_neg hge']
      have := end_sim hB (hR.drewN j) hfr hS h1' hd (by omega) hx.tm
      rw [← hnx, ← hnext] at this
      exact this
  · obtain ⟨V', ss', S', f, fs, hR, hS, hfr, ht, hx⟩ := hG
    exact ⟨V', ss', S', f, fs, hR.drewN k, hS, hfr, ht, hx⟩
  · obtain ⟨V', ss', S', hR, hS⟩ := hq
    refine ⟨fun ht => stat (n + 1) W V' ss' S' hR hS ht, fun hf => ⟨V', ss', S', hR, ?_⟩⟩
    rw [← stN_stop hf hN]
    exact hS
end Go.Proofs.YtdgpdmohfnealaaGreatDoor
