/- A call is made: what the runner keeps afterwards says what the document says. -/
import Derived.Test.YtdgpdmohfnealaaGreatDoorULateM
import Derived.Test.YtdgpdmohfnealaaGreatDoorUBeg3M
namespace Go.Proofs.YtdgpdmohfnealaaGreatDoor
open Go.RowKit

theorem begin_deep {E : Env} {w : World} {V : Vals} {ss : List Slot} {S : St} (h : Rn E w V ss S) (hd : E.dep ≤ S.calls.length) (g : Int) (av : Value) :
    Calls Tryz.prog 16 #[ptr E.B, .int .i64 g, av] w fun e w' => e = .returned (.bool false) ∧ ∃ ss', Rn E w' V ss' (S.stop 4) := by
  obtain ⟨b0, b1, b2, b3, b4, b5, b6, b7, b8, b9, b10, b11, b12, b13⟩ := h.box
  obtain ⟨ca, cc, _, _, _, hcv, _⟩ := own_ends (h.heap.own 2 _ h.s2) (Nat.zero_le _)
  dsimp only at hcv
  exact begin_deep_walk (Q := fun w' => ∃ ss', Rn E w' V ss' (S.stop 4)) b2 (by rw [← hcv]; exact b4) (by omega) (fun W k hW => by subst hW; exact stop_any (h.drewN k) 4)
theorem St.sets_rest : ∀ (qs : List (Nat × Int)) (S : St), Rest S (S.sets qs) ∧ (S.sets qs).shows = S.shows ∧ (S.sets qs).calls = S.calls
  | [], S => ⟨⟨rfl, rfl, rfl, rfl, rfl⟩, rfl, rfl⟩
  | q :: qs, S => by
    obtain ⟨⟨a, b, c, d, e⟩, f⟩ := S.set_rest q.1 q.2
    obtain ⟨⟨a2, b2, c2, d2, e2⟩, f2, g2⟩ := St.sets_rest qs (S.set q.1 q.2)
    refine ⟨⟨a2.trans a, b2.trans b, c2.trans c, d2.trans d, e2.trans e⟩, f2.trans f, g2.trans ?_⟩
    unfold St.set
    split <;> rfl
/-- A state that says what the document says. -/
theorem sim_step {P : List Gr} {S : St} {H : HS} (h : Sim P S H) (lim : Nat) : Sim P (S.step lim).1 (H.step lim).1 ∧ (S.step lim).2 = (H.step lim).2 := by
  obtain ⟨⟨F, hi⟩, h1, h2, h3, h4, h5, h6⟩ := h
  unfold St.step HS.step
  by_cases hc : lim ≤ S.steps
  · rw [if_pos hc, if_pos (by omega)]
    exact ⟨⟨⟨F, hi.turn rfl rfl rfl rfl⟩, h1, rfl, h3, h4, h5, h6⟩, rfl⟩
  · rw [if_neg hc, if_neg (by omega)]
    exact ⟨⟨⟨F, hi.turn rfl rfl rfl rfl⟩, h1, h2, h3, h4, by show S.steps + 1 = H.steps + 1; omega, h6⟩, rfl⟩
theorem begun_sim {P : List Gr} {S : St} {H : HS} (h : Sim P S H) {g : Nat} {l : List Int} (hg : S.nw[g]? = some (some l)) {ws : List Int} (hp : ∀ q ∈ argPairs (P.getD g default) ws, q.1 < (P.getD g default).vars.length) :
    Sim P (S.begun g (argPairs (P.getD g default) ws)) { H with frs := (Fr.new g).sets (argPairs (P.getD g default) ws) :: H.frs, deep := max H.deep (H.frs.length + 1) } := by
  obtain ⟨⟨F, hi⟩, h1, h2, h3, h4, h5, h6⟩ := h
  have O := (hi.addC hg).turn (S' := (S.addC g).deeper (max S.deep (S.calls.length + 1))) rfl rfl rfl rfl
  obtain ⟨F', O2⟩ := Opn.sets (argPairs (P.getD g default) ws) O hp
  obtain ⟨⟨a, b, c, d, e⟩, f, _⟩ := St.sets_rest (argPairs (P.getD g default) ws) ((S.addC g).deeper (max S.deep (S.calls.length + 1)))
  have hlen : S.calls.length = H.frs.length := by
    have := hi.lay.len
    rw [List.length_reverse] at this
    exact this
  refine ⟨⟨F', O2.hi⟩, f.trans h1, a.trans h2, b.trans h3, c.trans h4, d.trans h5, e.trans ?_⟩
  show max S.deep (S.calls.length + 1) = max H.deep (H.frs.length + 1)
  rw [hlen, h6]
theorem argPairs_lt {P : List Gr} {G : Gr} (h : GOk P G) (ws : List Int) : ∀ q ∈ argPairs G ws, q.1 < G.vars.length := fun q hq => by
  unfold argPairs at hq
  obtain ⟨i, hi, rfl⟩ := List.mem_map.1 hq
  have := h.par.2 i (List.mem_range.1 hi)
  dsimp only
  omega
theorem begin_sim {E : Env} {C : Nat} (hB : RunB E C) {w : World} {V : Vals} {ss : List Slot} {S : St} (h : Rn E w V ss S) {H : HS} (hs : Sim E.P S H) (hst : S.steps ≤ 1000000000000) (hcl : S.calls.length ≤ 1000000000) {g : Nat} (hg : g < E.P.length) {aa : Option Addr} {ac : Nat} {ws : List Int}
    (hA : ∀ (W : World) (V' : Vals) (ss' : List Slot) (S' : St), Rn E W V' ss' S' → V'.wv = V.wv → ss'[5]? = ss[5]? → ∀ i, i < (E.P.getD g default).params.length → ∃ ag ao, aa = some ⟨ag, ao, none⟩ ∧ W.cell? ⟨ag, ao + i, none⟩ = some (wordV (ws.getD i 0))) :
    Calls Tryz.prog 16 #[ptr E.B, .int .i64 (g : Int), .slice aa (E.P.getD g default).params.length ac] w fun e w' => e = .returned (.bool (H.begin E.P E.lim E.dep g ws).2) ∧ ∃ V' ss' S', Rn E w' V' ss' S' ∧ Sim E.P S' (H.begin E.P E.lim E.dep g ws).1 := by
  have hG := gOk hB hg
  have hlt := argPairs_lt hG ws
  obtain ⟨⟨F, hi⟩, _⟩ := id hs
  have hlen : S.calls.length = H.frs.length := by
    have := hi.lay.len
    rw [List.length_reverse] at this
    exact this
  have hkc := (hi.lay.kept hB.cells).1
  unfold HS.begin
  by_cases hd : E.dep ≤ H.frs.length
  · rw [if_pos hd]
    refine (begin_deep h (by omega) _ _).mono ?_
    rintro e w' ⟨he, ss', hr⟩
    obtain ⟨_, h1, h2, h3, h4, h5, h6⟩ := hs
    exact ⟨he, V, ss', _, hr, ⟨F, hi.turn rfl rfl rfl rfl⟩, h1, rfl, h3, h4, h5, h6⟩
  · rw [if_neg hd]
    have hcap := hB.cap
    have h7 : H.frs.length * C ≤ E.dep * C := Nat.mul_le_mul_right _ (by omega)
    have hpar := hG.par
    have hC := hB.cells g
    have hCC := hB.capC
    have hpm : ∀ v ∈ (E.P.getD g default).params, 0 ≤ v ∧ v < (cellsOf (E.P.getD g default) : Int) := fun v hv => by
      obtain ⟨i, hi'⟩ := List.getElem?_of_mem hv
      have hil := (List.getElem?_eq_some_iff.1 hi').1
      have := hpar.2 i hil
      rw [getD_at hi'] at this
      unfold cellsOf
      omega
    cases hn : S.nw[g]? with
    | none =>
      rw [List.getElem?_eq_none_iff, h.nwl] at hn
      omega
    | some o =>
      cases o with
      | some l =>
        obtain ⟨q1, q2⟩ := hi.nw.here g l hn
        refine (begin_old h hn (fun c => ?_) (by omega) hcl rfl (fun v hv => ?_) (by omega) (by omega) hst hA).mono ?_
        · rw [q2]
          have := hi.lay.bound g c
          omega
        · have := hpm v hv
          omega
        · rintro e w' ⟨he, cv', kv', ss', hr⟩
          obtain ⟨s1, s2⟩ := sim_step (begun_sim hs hn hlt) E.lim
          exact ⟨by rw [he]; exact congrArg (fun b => Ending.returned (.bool b)) s2, _, ss', _, hr, s1⟩
      | none =>
        have hs2 : Sim E.P (S.anew g (List.replicate (cellsOf (E.P.getD g default)) 0)) H := by
          obtain ⟨_, h1, h2, h3, h4, h5, h6⟩ := hs
          exact ⟨⟨F, hi.fresh hn⟩, h1, h2, h3, h4, h5, h6⟩
        have hn2 : (S.anew g (List.replicate (cellsOf (E.P.getD g default)) 0)).nw[g]? = some (some (List.replicate (cellsOf (E.P.getD g default)) 0)) := by
          show (S.nw.set g _)[g]? = _
          rw [List.getElem?_set, if_pos rfl, if_pos (List.getElem?_eq_some_iff.1 hn).1]
        have hvl : (E.P.getD g default).vars.length + (E.P.getD g default).arrs.length ≤ C := hC
        refine (begin_new h hn (by omega) hcl (hB.blks g) (by omega) (by omega) hG.bl.1 rfl hpm (by omega) (by omega) hst hA).mono ?_
        rintro e w' ⟨he, V', ss', hr⟩
        obtain ⟨s1, s2⟩ := sim_step (begun_sim hs2 hn2 hlt) E.lim
        exact ⟨by rw [he]; exact congrArg (fun b => Ending.returned (.bool b)) s2, V', ss', _, hr, s1⟩
end Go.Proofs.YtdgpdmohfnealaaGreatDoor
/- A block ends: what the runner keeps afterwards says what the document says. -/
namespace Go.Proofs.YtdgpdmohfnealaaGreatDoor
open Go.RowKit

theorem Opn.goto {P : List Gr} {S : St} {f : Fr} {fs : List Fr} {F F0 : Nat → Nat → Nat} {c : Cl} {cs : List Cl} (h : Opn P S f fs F F0 c cs) (t : Nat) :
    Opn P (S.goto fs.length t) { f with b := t } fs F F0 { c with b := t } cs := by
  have := h.last t f.nx
  have e1 : S.goto fs.length t = S.last fs.length { S.top with b := t, nx := f.nx } := by unfold St.goto; rw [h.top, ← h.cx]
  have e2 : ({ c with b := t, nx := f.nx } : Cl) = { c with b := t } := by rw [← h.cx]
  rw [e1, ← e2]
  exact this
theorem Opn.ahead {P : List Gr} {S : St} {f : Fr} {fs : List Fr} {F F0 : Nat → Nat → Nat} {c : Cl} {cs : List Cl} (h : Opn P S f fs F F0 c cs) (z : Nat) :
    Opn P (S.ahead fs.length z) { f with nx := z } fs F F0 { c with nx := z } cs := by
  have := h.last f.b z
  have e1 : S.ahead fs.length z = S.last fs.length { S.top with b := f.b, nx := z } := by unfold St.ahead; rw [h.top, ← h.cb]
  have e2 : ({ c with b := f.b, nx := z } : Cl) = { c with nx := z } := by rw [← h.cb]
  rw [e1, ← e2]
  exact this
/-- No phis. -/
theorem setPhis_none {E : Env} {w : World} {V : Vals} {ss : List Slot} {S : St} (h : Rn E w V ss S) {m : Nat} {l : List Int} (ha : Asks E S m l) (htg : S.top.g < E.P.length) (htb : S.top.b < (E.P.getD S.top.g default).blocks.length) (h0 : npOf ((E.P.getD S.top.g default).blocks.getD S.top.b default).ins = 0) (fr : Int) :
    Calls Tryz.prog 59 #[ptr E.B, .int .i64 fr] w fun e w' => e = .returned (.int .i64 0) ∧ ∃ k, w' = w.drewN k := by
  obtain ⟨b0, b1, b2, b3, b4, b5, b6, b7, b8, b9, b10, b11, b12, b13⟩ := h.box
  obtain ⟨cb, cc, hcv, _, _, _, t0, t1, _, _, _⟩ := h.last ha.hm
  rw [hcv] at b4
  have hp := h.prog
  obtain ⟨qa, qc, hq, _⟩ := hp.form
  rw [hq] at hp b0
  obtain ⟨pg, po, pv, vv, av, bv, rfl, hlt, _, _, _, _, _, c5, hG⟩ := hp.get htg
  obtain ⟨_, _, _, _, _, _, ba, bc, _, _, _, hbv, _, _, _, _⟩ := hG.openF
  have hbs := hG.bs
  rw [hbv] at hbs c5
  obtain ⟨bg, bo, iv, rfl, hbg, d0, _, _, _, _, _, hins⟩ := hbs.get htb
  obtain ⟨ia, ic, hiv, hil⟩ := hins.form
  rw [hiv] at hins d0
  have low : ∀ (g j : Nat) (u : Value), g < E.w0.heap.size → E.w0.cell? ⟨g, j, none⟩ = some u → w.cell? ⟨g, j, none⟩ = some u := fun g j u hg hu => (h.low.cell (p := ⟨g, j, none⟩) hg).trans hu
  have HNW : ∀ W j, W = w.drewN j → Calls Tryz.prog 17 #[ptr E.B] W fun e w' => e = .returned (.pointer (some ⟨cb, m * 5, none⟩)) ∧ ∃ j, w' = W.drewN j := fun W j hW => now_at E.B cb m cc W (by rw [hW]; exact b4) ha.hmb
  generalize hI : ((E.P.getD S.top.g default).blocks.getD S.top.b default).ins = I at *
  cases I with
  | nil => exact phis_empty_walk HNW b0 t0 t1 (low _ _ _ hlt c5) (low _ _ _ hbg d0) (by omega) (by omega)
  | cons x xs =>
    obtain ⟨ig, io, _, rfl, hig, ik0, _, _, _, _, _, _⟩ := hins.get (i := 0) (by simp)
    have hk : ¬ x.kind = 1 := fun hk => by rw [npOf, if_pos hk] at h0; omega
    rw [Nat.zero_mul, Nat.add_zero] at ik0
    exact phis_none_walk HNW b0 t0 t1 (low _ _ _ hlt c5) (low _ _ _ hbg d0) (by omega) (by omega) (low _ _ _ hig ik0) (by simpa using hk)
theorem getD_mem0 {l : List Int} {i : Nat} (h : i < l.length) : l.getD i 0 ∈ l := by
  rw [List.getD, List.getElem?_eq_getElem h]
  exact List.getElem_mem h
theorem mem_countP {r : List Int} {x : Int} (h : x ∈ r) : r.countP (· < x) < r.length := by
  have h1 : r.countP (· < x) + r.countP (fun y => ¬ y < x) = r.length := by
    have := List.length_eq_countP_add_countP (fun y => decide (y < x)) (l := r)
    simp only [decide_not] at *
    rw [this]
    congr 1
    apply List.countP_congr
    intro y _
    simp
  have h2 : 0 < r.countP (fun y => ¬ y < x) := List.countP_pos_iff.2 ⟨x, h, by simp⟩
  omega
/-- A block is entered, if there is a step left. -/
theorem enter_sim {E : Env} {C : Nat} (hB : RunB E C) {w : World} {V : Vals} {ss : List Slot} {S : St} (h : Rn E w V ss S) {H : HS} {f : Fr} {fs : List Fr} (hH : H.frs = f :: fs) (hs : Sim E.P S H) (hf : FrOk E.P f) (hd : fs.length + 1 ≤ E.dep) (hst : S.steps ≤ 1000000000000) {t : Nat} (ht : t < (grOf E.P f).blocks.length) (hto : (t : Int) ∈ nextT (tmOf E.P f)) :
    Calls Tryz.prog 40 #[ptr E.B, .int .i64 (t : Int)] w fun e w' => e = .returned (.bool (H.enter E.P E.lim f fs t).2) ∧ ∃ V' ss' S', Rn E w' V' ss' S' ∧ Sim E.P S' (H.enter E.P E.lim f fs t).1 := by
  obtain ⟨⟨F, hi⟩, h1, h2, h3, h4, h5, h6⟩ := hs
  rw [hH] at hi
  obtain ⟨F0, c, cs, ho⟩ := hi.opn
  have hdd := hB.dep
  unfold HS.enter
  by_cases hle : E.lim ≤ H.steps
  · rw [if_pos hle]
    refine (enter_no h hst (by omega) t).mono ?_
    rintro e w' ⟨he, ss', hr⟩
    refine ⟨he, V, ss', _, hr, ⟨F, ?_⟩, h1, rfl, h3, h4, h5, h6⟩
    show Hi E.P (S.stop 3) H.frs F
    rw [hH]
    exact hi.turn rfl rfl rfl rfl
  · rw [if_neg hle]
    have hm := ho.clen
    obtain ⟨S0, hS0⟩ : ∃ S0 : St, S0 = { S with steps := S.steps + 1 } := ⟨_, rfl⟩
    have O0 : Opn E.P S0 f fs F F0 c cs := ho.turn (by rw [hS0]) (by rw [hS0]) (by rw [hS0]) (by rw [hS0])
    have O1 := O0.goto t
    obtain ⟨S1, hS1⟩ : ∃ S1, S1 = S0.goto fs.length t := ⟨_, rfl⟩
    rw [← hS1] at O1
    obtain ⟨hk1, _⟩ := O1.size hB hd
    obtain ⟨l, ha, hl⟩ := O1.asks (by omega)
    obtain ⟨I, hI⟩ : ∃ I, I = ((grOf E.P f).blocks.getD t default).ins := ⟨_, rfl⟩
    have hG : GOk E.P (grOf E.P f) := gOk hB hf.gl
    have htg : S1.top.g = f.g := O1.tg
    have htb : S1.top.b = t := by rw [O1.top]
    have hIl : I.length ≤ 1000000 := by rw [hI]; exact hB.ins f.g t
    have hnp := npOf_le I
    obtain ⟨row, hrow⟩ : ∃ row, row = (aheadT (tms (grOf E.P f).blocks)).getD t [] := ⟨_, rfl⟩
    have htl : (tms (grOf E.P f).blocks).length = (grOf E.P f).blocks.length := by simp [tms]
    have hmem : (f.b : Int) ∈ row := by
      rw [hrow, mem_ahead (by rw [htl]; exact ht)]
      refine ⟨f.b, rfl, by rw [htl]; exact hf.bl, ?_⟩
      rw [tms_getD hf.bl]
      exact hto
    have hplace := mem_countP hmem
    have hget : ∀ v, v < (grOf E.P f).vars.length → S1.get v = f.ev v := fun v hv => O1.get hv
    have hphs : ∀ i, i < npOf I → (I.getD i default).kind = 1 ∧ row.countP (· < (f.b : Int)) < (I.getD i default).args.length ∧ (0 ≤ (I.getD i default).args.getD (row.countP (· < (f.b : Int))) 0 ∧ (I.getD i default).args.getD (row.countP (· < (f.b : Int))) 0 < ((grOf E.P f).vars.length : Int)) ∧ 0 ≤ (I.getD i default).dst ∧ (I.getD i default).dst < ((grOf E.P f).vars.length : Int) := fun i hi' => by
      have hk := npOf_phi I i hi'
      have hil : i < I.length := by omega
      have hx : InOk E.P (grOf E.P f) (I.getD i default) := by rw [hI]; exact hG.ins t ht i (by rw [← hI]; exact hil)
      have hal : (I.getD i default).args.length = row.length := by rw [hI, hrow]; exact hG.phi t ht i (by rw [← hI]; exact hi')
      exact ⟨hk, by rw [hal]; exact hplace, hx.args _ (getD_mem0 (by rw [hal]; exact hplace)), hx.dst (by omega) (by omega) (by omega)⟩
    have hpairs : phiSets S1 I (row.countP (· < (f.b : Int))) (npOf I) = phiPairs f I (placeOf (grOf E.P f) t f.b) := by
      unfold phiSets phiPairs placeOf
      rw [← hrow]
      apply List.map_congr_left
      intro i hi'
      obtain ⟨_, _, q3, _⟩ := hphs i (List.mem_range.1 hi')
      rw [hget _ (by omega)]
    have hlt : ∀ q ∈ phiPairs f I (placeOf (grOf E.P f) t f.b), q.1 < (E.P.getD f.g default).vars.length := fun q hq => by
      unfold phiPairs at hq
      obtain ⟨i, hi', rfl⟩ := List.mem_map.1 hq
      obtain ⟨_, _, _, q4⟩ := hphs i (List.mem_range.1 hi')
      dsimp only
      unfold grOf at q4
      omega
    obtain ⟨F', O2⟩ := Opn.sets (phiPairs f I (placeOf (grOf E.P f) t f.b)) O1 hlt
    have O3 := O2.ahead (npOf I)
    obtain ⟨S2, hS2⟩ : ∃ S2, S2 = S1.sets (phiPairs f I (placeOf (grOf E.P f) t f.b)) := ⟨_, rfl⟩
    obtain ⟨⟨r1, r2, r3, r4, r5⟩, r6, r7⟩ := St.sets_rest (phiPairs f I (placeOf (grOf E.P f) t f.b)) S1
    rw [← hS2] at O3 r1 r2 r3 r4 r5 r6 r7
    refine (enter_any h hm (by omega) hst (by omega) t (npOf I) (S1 := S1) (S2 := S2) (by rw [hS1, hS0]) r7 (fun W ssW hR => ?_)).mono ?_
    · have hcl : l.length = cellsOf (grOf E.P f) := hl
      have e0 : E.P.getD S1.top.g default = grOf E.P f := by rw [htg]; rfl
      have e1 : ((E.P.getD S1.top.g default).blocks.getD S1.top.b default).ins = I := by rw [e0, htb, hI]
      have hfb : S.top.b = f.b := by rw [ho.top, ho.cb]
      rw [hfb]
      by_cases h0 : npOf I = 0
      · rw [h0]
        refine (setPhis_none hR ha (by rw [htg]; exact hf.gl) (by rw [e0, htb]; exact ht) (by rw [e1]; exact h0) _).mono ?_
        rintro e w' ⟨he, k, rfl⟩
        have : S2 = S1 := by
          rw [hS2]
          have : phiPairs f I (placeOf (grOf E.P f) t f.b) = [] := by unfold phiPairs; rw [h0]; rfl
          rw [this]
          rfl
        rw [this]
        exact ⟨he, V.wv, V.kv, ssW, hR.drewN k⟩
      · have hcl2 : (grOf E.P f).vars.length ≤ l.length := by rw [hcl]; unfold cellsOf; omega
        have := setPhis_any hR ha (by rw [htg]; exact hf.gl) (by rw [e0, htb]; exact ht) e1 (np := npOf I) (by omega) hnp hIl (row := row) (by
          rw [e0, htb, hrow, List.getD, List.getElem?_eq_getElem (by rw [aheadT_len, htl]; exact ht)]; rfl) (by
          rw [hrow]; exact (ahead_lt (by rw [htl]; exact ht)).imp (fun h => Int.le_of_lt h)) (by
          have := ahead_len_le (ts := tms (grOf E.P f).blocks) (j := t) (by rw [htl]; exact ht)
          have hbb := hG.bl.2
          rw [hrow]
          rw [htl] at this
          omega) (f.b : Int) (fun i hi' => by
          obtain ⟨q1, q2, q3, q4⟩ := hphs i hi'
          exact ⟨q1, q2, ⟨q3.1, by omega⟩, q4.1, by omega⟩) (fun hlt' => npOf_stop I hlt') (by omega)
        rw [hpairs, ← hS2] at this
        exact this
    · rintro e w' ⟨he, wv', kv', ss', hr⟩
      refine ⟨he, _, ss', _, hr, ⟨F', ?_⟩, r6.trans ?_, r1.trans ?_, r2.trans ?_, r3.trans ?_, r4.trans ?_, r5.trans ?_⟩
      · have e3 : f.into E.P t = { (({ f with b := t } : Fr).sets (phiPairs f I (placeOf (grOf E.P f) t f.b))) with nx := npOf I } := by
          unfold Fr.into
          rw [← hI]
          have key : ∀ (qs : List (Nat × Int)) (f : Fr), { (({ f with b := t } : Fr).sets qs) with nx := npOf I } = { f.sets qs with b := t, nx := npOf I } := by
            intro qs
            induction qs with
            | nil => intro f; rfl
            | cons q qs ih => intro f; exact ih (f.setE q.1 q.2)
          exact (key _ f).symm
        show Hi E.P (S2.ahead fs.length (npOf I)) (f.into E.P t :: fs) F'
        rw [e3]
        exact O3.hi
      all_goals (rw [hS1, hS0]; first | exact h1 | exact h2 | exact h3 | exact h4 | exact h6 | (show S.steps + 1 = H.steps + 1; omega))
end Go.Proofs.YtdgpdmohfnealaaGreatDoor
