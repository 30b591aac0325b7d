/- A call is made: the walks. -/
import Derived.Test.YtdgpdmohfnealaaGreatDoorURd2M
import Derived.Test.YtdgpdmohfnealaaGreatDoorUOrdM
import Derived.Deep.DeepCutAuto
namespace Go.Proofs.YtdgpdmohfnealaaGreatDoor
open Go.RowKit

theorem infoCl : (Tryz.prog.info? 76).map (fun i => (i.zero, i.size, i.bytes)) = some (some (.agg #[.int .i64 0, .int .i64 0, .int .i64 0, .int .i64 0, .int .i64 0]), 5, 40) := by kernel_rfl
theorem cells5_new {w : World} {B : Nat} (hB : B = w.heap.size) (x0 x1 x2 x3 x4 : Value) (t : TypeId) : ∀ j u, [x0, x1, x2, x3, x4][j]? = some u → (w.alloc (.cells #[x0, x1, x2, x3, x4] t)).cell? ((⟨B, 0, none⟩ : Addr).add j) = some u := by
  subst hB
  intro j u hu
  have h := (Box.new w [x0, x1, x2, x3, x4] t).cell j u hu
  rw [Addr.add_lit, Nat.zero_add]
  exact h
set_option maxRecDepth 100000 in
set_option maxHeartbeats 1000000 in
theorem begin_deep_walk {B cn cc dep : Nat} {f : Int} {ca : Option Addr} {av : Value} {w : World} {Q : World → Prop} (b2 : w.cell? ⟨B, 2, none⟩ = some (.int .i64 (dep : Int))) (b4 : w.cell? ⟨B, 4, none⟩ = some (.slice ca cn cc)) (hd : (dep : Int) ≤ cn)
    (HS : Hid (∀ W k, W = w.drewN k → Calls Tryz.prog 29 #[ptr B, .int .u8 4] W fun e w' => e = .returned (.bool false) ∧ Q w')) :
    Calls Tryz.prog 16 #[ptr B, .int .i64 f, av] w fun e w' => e = .returned (.bool false) ∧ Q w' := by
  go_enter Tryz.func16, Tryz.ntmps16
  go_wp2
  go_quiet (fail)
  go_wp2_with (go_at_call 29; refine Calls.mono (HS.out _ _ rfl) ?_; rintro e w1 ⟨rfl, hq⟩)
  go_ret
  exact ⟨rfl, hq⟩
set_option maxRecDepth 100000 in
set_option maxHeartbeats 4000000 in
theorem begin_old_walk {bs B C N f n qc pg po pl ll cn cc dep kl kc rl rc ac pn pc : Nat} {fl : List Value} {ca ka ra aa pa : Option Addr} {b : Bool} {w : World} {Q1 : World → Prop} {R : Nat → World → Prop} {Q : World → Prop}
    (b0 : w.cell? ⟨B, 0, none⟩ = some (.slice (some ⟨pg, po, none⟩) n qc)) (b2 : w.cell? ⟨B, 2, none⟩ = some (.int .i64 (dep : Int))) (b3 : w.cell? ⟨B, 3, none⟩ = some (.slice (some ⟨C, 0, none⟩) pl pl)) (b4 : w.cell? ⟨B, 4, none⟩ = some (.slice ca cn cc)) (b5 : w.cell? ⟨B, 5, none⟩ = some (.slice ka kl kc)) (b6 : w.cell? ⟨B, 6, none⟩ = some (.slice ra rl rc)) (hd : (cn : Int) < dep) (hf : (f : Int) < n) (hfp : (f : Int) < pl)
    (k1 : w.cell? ⟨C, f * 2 + 1, none⟩ = some (.slice (some ⟨N, 0, none⟩) ll ll))
    (b4' : ∀ k ob, ((w.drewN k).alloc ob).cell? ⟨B, 4, none⟩ = some (.slice ca cn cc))
    (HO : Hid (∀ k, (w.drewN k).ownsRow bs 76 5 (.slice ca cn cc) cn fl)) (hcn : Hid (cn ≤ 1000000000)) (hbs : Hid (bs ≤ w.heap.size))
    (HX : Hid (∀ k ob w2 cv', w2.ownsRow bs 76 5 cv' (cn + 1) (fl ++ [.int .i64 (f : Int), .int .i64 0, .int .i64 0, .int .i64 (kl : Int), .int .i64 (rl : Int)]) → ((w.drewN k).alloc ob).grownBy w2 (Value.slice ca cn cc).ownBlock → (cv'.ownBlock = (Value.slice ca cn cc).ownBlock ∨ cv'.ownBlock = some ((w.drewN k).alloc ob).heap.size) → w2.cell? ⟨B, 4, none⟩ = some (.slice ca cn cc) ∧ w2.frozen? ⟨B, 4, none⟩ = false ∧ Q1 (w2.setCell ⟨B, 4, none⟩ cv')))
    (H1 : Hid (∀ w1, Q1 w1 → ∃ (c1 : Option Addr) (cc1 dp : Nat), w1.cell? ⟨B, 4, none⟩ = some (.slice c1 (cn + 1) cc1) ∧ w1.cell? ⟨B, 13, none⟩ = some (.int .i64 (dp : Int)) ∧ w1.frozen? ⟨B, 13, none⟩ = false ∧ ∀ k, R 0 ((w1.drewN k).setCell ⟨B, 13, none⟩ (.int .i64 (max (dp : Int) ((cn : Int) + 1)))) ∧ ((w1.drewN k).setCell ⟨B, 13, none⟩ (.int .i64 (max (dp : Int) ((cn : Int) + 1)))).cell? ⟨pg, po + f * 6 + 1, none⟩ = some (.slice pa pn pc)))
    (hpb : (pn : Int) ≤ 1000000000)
    (HR : Hid (∀ i wq, i < pn → R i wq → ∃ (pgg poo v ag ao : Nat) (x : Int), pa = some ⟨pgg, poo, none⟩ ∧ aa = some ⟨ag, ao, none⟩ ∧ wq.cell? ⟨pgg, poo + i, none⟩ = some (.int .i64 (v : Int)) ∧ wq.cell? ⟨ag, ao + i, none⟩ = some (.int .u64 x) ∧ ∀ W k, W = wq.drewN k → Calls Tryz.prog 31 #[ptr B, .int .i64 (v : Int), .int .u64 x] W fun e w' => e = .returned (.tuple #[]) ∧ R (i + 1) w'))
    (HE : Hid (∀ wq, R pn wq → ∀ W k, W = wq.drewN k → Calls Tryz.prog 32 #[ptr B] W fun e w' => e = .returned (.bool b) ∧ Q w')) :
    Calls Tryz.prog 16 #[ptr B, .int .i64 (f : Int), .slice aa pn ac] w fun e w' => e = .returned (.bool b) ∧ Q w' := by
  have hnil : ∀ W, (binOp .eql 34 (.slice (some ⟨N, 0, none⟩) ll ll) (.slice none 0 0)).run Tryz.prog W = .ok (.bool false) W := fun W => by
    rw [Lib.run_eql_slice_nil W 34 3 _ _ _ _ _ Tryz.underlying34]
    rfl
  obtain ⟨i0, hi0, hz0, hz1, hz2⟩ := info_parts infoCl
  go_enter Tryz.func16, Tryz.ntmps16
  go_wp2
  go_quiet (fail)
  go_wp2
  go_cut [] (fun wx => Hid (Q1 wx))
  case first =>
    go_region_law (refine step_append_own rfl (.tmp 64) (.tmp 77) 61 rfl bs 76 i0 (.agg #[.int .i64 0, .int .i64 0, .int .i64 0, .int .i64 0, .int .i64 0]) 5 40 Tryz.underlying61 hi0 hz0 hz1 hz2 rfl (by decide) (.slice ca cn cc) cn fl ?e1 ?e2 ⟨w.heap.size, 0, none⟩ 1 1 [.int .i64 (f : Int), .int .i64 0, .int .i64 0, .int .i64 (kl : Int), .int .i64 (rl : Int)] ?e3 rfl ?e4 ?e5 ?e6 ?e7 ?e8 ?_; (case e1 => simp [Act.eval]); (case e2 => exact (HO.out _).alloc _); (case e3 => simp [Act.eval]); (case e4 => exact cells5_new rfl _ _ _ _ _ _); (case e5 => intro u hu; simp at hu; rcases hu with rfl | rfl | rfl | rfl | rfl <;> rfl); (case e6 => have := hcn.out; unfold maxLen; omega); (case e7 => have := hcn.out; omega); (case e8 => have := hbs.out; simp; omega); intro v2 w2 ho hg2 hat; obtain ⟨g2, cc2, rfl, _, _, _, _⟩ := own_form ho; obtain ⟨q1, q2, hq10⟩ := HX.out _ _ w2 _ ho hg2 hat; have HQ1 : Hid (Q1 _) := hq10; clear ho hg2 hat hq10)
    all_goals (go_wp2_with fail; go_meet; exact HQ1)
  case rest =>
  obtain ⟨c1, cc1, dp, e4, e13, f13, hr00⟩ := H1.out wc hcut.out
  have HR0 : Hid _ := hr00
  clear hr00 H1 HX HO hcut b0 b2 b3 b4 b4' b5 b6 k1
  go_wp2
  refine wp_region_last 15 _ rfl rfl (by kernel_rfl) (by kernel_rfl) (by kernel_rfl) (by kernel_rfl) (by kernel_rfl) (by kernel_rfl) ?_
  simp only [List.take_succ_cons, List.take_zero]
  repeat (go_big_quiet_step (fail))
  refine wpQuiet_nil ?_
  intro _ hw'
  obtain ⟨nq, hw''⟩ := hw'
  subst hw''
  intro K hK
  go_simp
  refine hK _ _ ?_
  clear hK K
  obtain ⟨hr1, ep'⟩ := HR0.out nq
  generalize (wc.drewN nq).setCell ⟨B, 13, none⟩ (.int .i64 (max (dp : Int) ((cn : Int) + 1))) = w5 at *
  have HR1 : Hid _ := hr1
  clear hr1 HR0 e4 e13 f13
  go_wp2
  go_loopw [101] (fun vi wq => ∃ i : Nat, vi = .int .i64 i ∧ i ≤ pn ∧ Hid (R i wq)) (fun vi _ => pn - (intOf vi).toNat)
  case atStart => exact ⟨0, rfl, by omega, HR1⟩
  case round =>
    obtain ⟨i, rfl, hi, hr⟩ := hrel
    clear HR1 ep'
    by_cases hin : i < pn
    · obtain ⟨pgg, poo, v, ag, ao, x, rfl, rfl, cp, cx, hset⟩ := HR.out i wr hin hr.out
      have hin' : (i : Int) < pn := by omega
      have HT : Hid _ := hset
      clear hset HR HE hr
      go_wp2_with (go_at_call 31; refine Calls.mono (HT.out _ 0 rfl) ?_; rintro e w6 ⟨rfl, hr2⟩; have HR2 : Hid _ := hr2; clear hr2)
      go_roundw
      case rel => exact ⟨i + 1, by first | rfl | (congr 1; omega), by omega, HR2⟩
      case measure => simp [intOf]; omega
    · obtain rfl : i = pn := by omega
      have HS : Hid _ := HE.out wr hr.out
      clear HE HR
      go_wp2_with (go_at_call 32; refine Calls.mono (HS.out _ 0 rfl) ?_; rintro e w6 ⟨rfl, hq⟩)
      go_ret
      exact ⟨rfl, hq⟩
end Go.Proofs.YtdgpdmohfnealaaGreatDoor
/- A call of a graph that was called before is made. -/
namespace Go.Proofs.YtdgpdmohfnealaaGreatDoor
open Go.RowKit

def St.addC (S : St) (f : Nat) : St := { S with calls := S.calls ++ [⟨f, 0, 0, S.kept.length, S.rows.length⟩] }
def St.deeper (S : St) (d : Nat) : St := { S with deep := d }
/-- The parameters are set, one by one. -/
def St.sets (S : St) : List (Nat × Int) → St
  | [] => S
  | q :: qs => (S.set q.1 q.2).sets qs
theorem St.sets_snoc (S : St) (qs : List (Nat × Int)) (q : Nat × Int) : S.sets (qs ++ [q]) = (S.sets qs).set q.1 q.2 := by
  induction qs generalizing S with
  | nil => rfl
  | cons p qs ih => exact ih _
theorem Rn.numW {E : Env} {w : World} {V : Vals} {ss : List Slot} {S S' : St} (h : Rn E w V ss S) (j : Nat) (u : Value) (hc : (rnCells E V S).set j u = rnCells E V S') (e1 : S'.nw = S.nw) (e2 : S'.calls = S.calls) (e3 : S'.kept = S.kept) (e4 : S'.rows = S.rows) (e5 : S'.shows = S.shows) :
    ∃ ss', Rn E (w.setCell ⟨E.B, j, Option.none⟩ u) V ss' S' ∧ ss'[5]? = ss[5]? := by
  have hB := (h.heap.lt h.s0).1
  have hh := h.heap.store h.s0 j u
  rw [hc] at hh
  refine ⟨_, ⟨below_set h.low hB j u, h.prog, hh, set_self h.s0, set_other h.s1 (by omega), by rw [e2]; exact set_other h.s2 (by omega), by rw [e3]; exact set_other h.s3 (by omega), by rw [e4]; exact set_other h.s4 (by omega), ?_, by rw [e5]; exact set_other h.s6 (by omega), h.cll, by rw [e1]; exact h.nwl, ?_, ?_⟩, set_same (by omega)⟩
  · obtain ⟨ws, hw⟩ := h.s5
    exact ⟨ws, set_other hw (by omega)⟩
  · intro i l hl
    rw [e1] at hl
    obtain ⟨a, N, h1, h2, h3⟩ := h.news i l hl
    exact ⟨a, N, h1, set_other h2 (by omega), h3.set (by omega) _⟩
  · intro i hi
    rw [e1] at hi
    obtain ⟨h1, h2⟩ := h.none i hi
    exact ⟨h1, set_other h2 (by omega)⟩
theorem Rn.addC {E : Env} {W w2 : World} {V : Vals} {ss : List Slot} {S : St} (h : Rn E W V ss S) {cv' : Value} {f : Nat}
    (ho : w2.ownsRow E.w0.heap.size 76 5 cv' (S.calls.length + 1) (flat clCells S.calls ++ clCells ⟨f, 0, 0, S.kept.length, S.rows.length⟩)) (hgr : W.grownBy w2 V.cv.ownBlock) (hat : cv'.ownBlock = V.cv.ownBlock ∨ cv'.ownBlock = some W.heap.size) :
    ∃ ss', Rn E (w2.setCell ⟨E.B, 4, Option.none⟩ cv') { V with cv := cv' } ss' (S.addC f) ∧ ss'[5]? = ss[5]? := by
  have ho' : (⟨cv', 76, 5, S.calls.length + 1, flat clCells S.calls ++ clCells ⟨f, 0, 0, S.kept.length, S.rows.length⟩⟩ : Slot).At w2 E.w0.heap.size := ho
  have H1 := h.heap.grow h.s2 ho' hgr hat
  have L1 : Below E.w0.heap.size E.w0 w2 := below_grown h.low hgr (fun g hg => ((h.heap.own 2 _ h.s2).lt g hg).1)
  have z1 : (ss.set 2 ⟨cv', 76, 5, S.calls.length + 1, flat clCells S.calls ++ clCells ⟨f, 0, 0, S.kept.length, S.rows.length⟩⟩)[0]? = _ := set_other h.s0 (by omega)
  have H2 := H1.store z1 4 cv'
  have L2 := below_set L1 (H1.lt z1).1 4 cv'
  refine ⟨_, ⟨L2, h.prog, H2, set_self z1, set_other (set_other h.s1 (by omega)) (by omega), ?_, set_other (set_other h.s3 (by omega)) (by omega), set_other (set_other h.s4 (by omega)) (by omega), ?_, set_other (set_other h.s6 (by omega)) (by omega), h.cll, h.nwl, ?_, ?_⟩, (set_same (by omega)).trans (set_same (by omega))⟩
  · have e1 : flat clCells S.calls ++ clCells ⟨f, 0, 0, S.kept.length, S.rows.length⟩ = flat clCells (S.addC f).calls := (flat_snoc _ _ _).symm
    have e2 : S.calls.length + 1 = (S.addC f).calls.length := by show _ = (S.calls ++ [_]).length; simp
    have := set_other (b := (⟨.slice (some ⟨E.B, 0, Option.none⟩) 1 1, 64, 14, 1, (rnCells E V S).set 4 cv'⟩ : Slot)) (set_self (b := (⟨cv', 76, 5, S.calls.length + 1, flat clCells S.calls ++ clCells ⟨f, 0, 0, S.kept.length, S.rows.length⟩⟩ : Slot)) h.s2) (i := 0) (by omega)
    rw [this, e1, e2]
  · obtain ⟨ws, hw⟩ := h.s5
    exact ⟨ws, set_other (set_other hw (by omega)) (by omega)⟩
  · intro i q hq
    obtain ⟨a2, N2, h1, h2, h3⟩ := h.news i q hq
    exact ⟨a2, N2, h1, set_other (set_other h2 (by omega)) (by omega), (h3.set (by omega) _).set (by omega) _⟩
  · intro i hi
    obtain ⟨h1, h2⟩ := h.none i hi
    exact ⟨h1, set_other (set_other h2 (by omega)) (by omega)⟩
theorem St.set_kept (S : St) (c : Nat) (x : Int) : (S.set c x).kept.length ≤ S.kept.length + 1 := by
  unfold St.set
  split
  · simp
  · simp
/-- The state that a call begins in. -/
def St.begun (S : St) (f : Nat) (qs : List (Nat × Int)) : St := ((S.addC f).deeper (max S.deep (S.calls.length + 1))).sets qs
theorem begin_old {E : Env} {w : World} {V : Vals} {ss : List Slot} {S : St} (h : Rn E w V ss S) {f : Nat} {l : List Int} (hg : S.nw[f]? = some (some l)) (hnn : ∀ c, 0 ≤ l.getD c 0 ∧ l.getD c 0 ≤ (S.kept.length : Int)) (hd : S.calls.length < E.dep) (hcb : S.calls.length ≤ 1000000000)
    {ps : List Int} (hps : (E.P.getD f default).params = ps) (hpr : ∀ v ∈ ps, 0 ≤ v ∧ v < (l.length : Int)) (hpn : ps.length ≤ 1000) (hkl : S.kept.length + ps.length ≤ 1000000000) (hst : S.steps ≤ 1000000000000)
    {aa : Option Addr} {ac : Nat} {xs : List Int} (hA : ∀ (W : World) (V' : Vals) (ss' : List Slot) (S' : St), Rn E W V' ss' S' → V'.wv = V.wv → ss'[5]? = ss[5]? → ∀ i, i < ps.length → ∃ ag ao, aa = some ⟨ag, ao, none⟩ ∧ W.cell? ⟨ag, ao + i, none⟩ = some (wordV (xs.getD i 0))) :
    Calls Tryz.prog 16 #[ptr E.B, .int .i64 (f : Int), .slice aa ps.length ac] w fun e w' => e = .returned (.bool ((S.begun f ((List.range ps.length).map fun i => ((ps.getD i 0).toNat, xs.getD i 0))).step E.lim).2) ∧ ∃ cv' kv' ss', Rn E w' { V with cv := cv', kv := kv' } ss' ((S.begun f ((List.range ps.length).map fun i => ((ps.getD i 0).toNat, xs.getD i 0))).step E.lim).1 := by
  obtain ⟨b0, b1, b2, b3, b4, b5, b6, b7, b8, b9, b10, b11, b12, b13⟩ := h.box
  obtain ⟨a, N, hgl, hcl, k0, k1, _, _, _, _⟩ := h.new hg
  obtain ⟨ca, cc, _, _, _, hcv, _⟩ := own_ends (h.heap.own 2 _ h.s2) (Nat.zero_le _)
  obtain ⟨ka, kc, _, _, _, hkv, _⟩ := own_ends (h.heap.own 3 _ h.s3) (Nat.zero_le _)
  obtain ⟨ra, rc, _, _, _, hrv, _⟩ := own_ends (h.heap.own 4 _ h.s4) (Nat.zero_le _)
  dsimp only at hcv hkv hrv
  have hp := h.prog
  obtain ⟨qa, qc, hq, _⟩ := hp.form
  rw [hq] at hp
  obtain ⟨pg, po, pv, vv, av, bv, rfl, hlt, _, c1, _, _, _, _, hG⟩ := hp.get hgl
  have hpi := hG.ps
  rw [hps] at hpi
  obtain ⟨pa, pc, hpv, _⟩ := hpi.form
  rw [hpv] at hpi c1
  have htop : ∀ d, ((S.addC f).deeper d).top = ⟨f, 0, 0, S.kept.length, S.rows.length⟩ := fun d => by
    show (S.calls ++ [_]).getLastD default = _
    simp
  obtain ⟨D, hD⟩ : ∃ D, D = max S.deep (S.calls.length + 1) := ⟨_, rfl⟩
  obtain ⟨S1, hS1⟩ : ∃ S1, S1 = (S.addC f).deeper D := ⟨_, rfl⟩
  have hA1 : Asks E S1 S.calls.length l := by
    rw [hS1]
    refine ⟨by show (S.calls ++ [_]).length = _; simp, by omega, ?_, hnn⟩
    rw [htop]
    exact hg
  have hbeg : ∀ qs, S.begun f qs = S1.sets qs := fun qs => by rw [hS1, hD]; rfl
  rw [hbeg]
  obtain ⟨qs, hqs⟩ : ∃ qs, qs = (List.range ps.length).map fun i => ((ps.getD i 0).toNat, xs.getD i 0) := ⟨_, rfl⟩
  rw [← hqs]
  have hql : qs.length = ps.length := by rw [hqs]; simp
  refine begin_old_walk (bs := E.w0.heap.size) (B := E.B) (C := E.C) (N := N) (f := f) (n := E.P.length) (qc := qc) (pg := pg) (po := po) (pl := E.P.length) (ll := l.length) (cn := S.calls.length) (cc := cc) (dep := E.dep) (kl := S.kept.length) (kc := kc) (rl := S.rows.length) (rc := rc) (ac := ac) (pn := ps.length) (pc := pc) (fl := flat clCells S.calls) (ca := ca) (ka := ka) (ra := ra) (aa := aa) (pa := pa)
    (Q1 := fun w1 => ∃ cv' ss', Rn E w1 { V with cv := cv' } ss' (S.addC f) ∧ ss'[5]? = ss[5]?) (R := fun i wq => ∃ cv' kv' ss' l', Rn E wq { V with cv := cv', kv := kv' } ss' (S1.sets (qs.take i)) ∧ ss'[5]? = ss[5]? ∧ Asks E (S1.sets (qs.take i)) S.calls.length l' ∧ l'.length = l.length ∧ (S1.sets (qs.take i)).kept.length ≤ S.kept.length + i ∧ (S1.sets (qs.take i)).steps = S.steps)
    (by rw [← hq]; exact b0) b2 b3 (by rw [← hcv]; exact b4) (by rw [← hkv]; exact b5) (by rw [← hrv]; exact b6) (by omega) (by omega) (by omega) k1 (fun k ob => ?_) (fun k => ?_) hcb h.low.size (fun k ob w2 cv' ho hgr hat => ?_) (fun w1 hq1 => ?_) (by omega) (fun i wq hi hq1 => ?_) (fun wq hq1 W k hW => ?_)
  · rw [← hcv]
    exact ((h.drewN k).alloc ob).box.2.2.2.2.1
  · rw [← hcv]
    exact (h.drewN k).heap.own 2 _ h.s2
  · rw [← hcv] at hgr hat ⊢
    have hRA := (h.drewN k).alloc ob
    have hBW : w2.heap[E.B]? = ((w.drewN k).alloc ob).heap[E.B]? := hgr.block E.B (hRA.heap.lt hRA.s0).2 (fun e => h.heap.apart 2 0 _ _ E.B (by omega) h.s2 h.s0 e.symm rfl)
    refine ⟨(World.cell?_of_block (w := (w.drewN k).alloc ob) (a := ⟨E.B, 4, none⟩) hBW).trans hRA.box.2.2.2.2.1, (World.frozen?_of_block (w := (w.drewN k).alloc ob) (a := ⟨E.B, 4, none⟩) hBW).trans (hRA.fz 4), cv', ?_⟩
    exact hRA.addC ho hgr hat
  · obtain ⟨cv', ss', hR, h5⟩ := hq1
    obtain ⟨c1', cc1, _, _, _, hcv1, _⟩ := own_ends (hR.heap.own 2 _ hR.s2) (Nat.zero_le _)
    dsimp only at hcv1
    have hlen : (S.addC f).calls.length = S.calls.length + 1 := by show (S.calls ++ [_]).length = _; simp
    rw [hlen] at hcv1
    refine ⟨c1', cc1, S.deep, by rw [← hcv1]; exact hR.box.2.2.2.2.1, hR.box.2.2.2.2.2.2.2.2.2.2.2.2.2, hR.fz 13, fun k => ?_⟩
    have eD : (max (S.deep : Int) ((S.calls.length : Int) + 1)) = (D : Int) := by rw [hD]; omega
    rw [eD]
    obtain ⟨s2, r2, h52⟩ := (hR.drewN k).numW (S' := S1) 13 (intV D) (by rw [hS1]; rfl) (by rw [hS1]; rfl) (by rw [hS1]; rfl) (by rw [hS1]; rfl) (by rw [hS1]; rfl) (by rw [hS1]; rfl)
    refine ⟨⟨cv', V.kv, s2, l, ?_, h52.trans h5, ?_, rfl, ?_, ?_⟩, (r2.low.cell (p := ⟨pg, po + f * 6 + 1, none⟩) hlt).trans c1⟩
    · rw [List.take_zero]; exact r2
    · rw [List.take_zero]; exact hA1
    · rw [List.take_zero]; show S1.kept.length ≤ _; rw [hS1]; exact Nat.le_refl _
    · rw [List.take_zero]; show S1.steps = _; rw [hS1]; rfl
  · obtain ⟨cv', kv', ss', l', hR, h5, hAs, hl', hkk, hsteps⟩ := hq1
    obtain ⟨pgg, poo, hpa, hpl, hpc⟩ := hpi.get (i := i) hi
    obtain ⟨ag, ao, haa, hac⟩ := hA wq _ ss' _ hR rfl h5 i hi
    have hge : ps[i]? = some (ps.getD i 0) := by rw [List.getD, List.getElem?_eq_getElem hi]; rfl
    obtain ⟨hv1, hv3⟩ := hpr (ps.getD i 0) (List.mem_of_getElem? hge)
    obtain ⟨v, hvn⟩ : ∃ v : Nat, ps.getD i 0 = (v : Int) := Int.eq_ofNat_of_zero_le hv1
    rw [hvn] at hpc hv3
    refine ⟨pgg, poo, v, ag, ao, xs.getD i 0, hpa, haa, (hR.low.cell (p := ⟨pgg, poo + i, none⟩) hpl).trans hpc, hac, fun W k hW => ?_⟩
    subst hW
    have hqi : qs.take (i + 1) = qs.take i ++ [(v, xs.getD i 0)] := by
      rw [List.take_add_one, hqs]
      have : ((List.range ps.length).map fun i => ((ps.getD i 0).toNat, xs.getD i 0))[i]? = some (v, xs.getD i 0) := by
        rw [List.getElem?_map, List.getElem?_range hi]
        simp only [Option.map_some, hvn, Int.toNat_natCast]
      rw [this]
      rfl
    refine (set_anyW (hR.drewN k) hAs v (by omega) (xs.getD i 0) (by omega)).mono ?_
    rintro e w' ⟨he, kv2, s2, r2, h52⟩
    obtain ⟨l2, hAs2, hl2⟩ := hAs.set (c := v) (by omega) (xs.getD i 0)
    refine ⟨he, cv', kv2, s2, l2, ?_⟩
    rw [hqi, St.sets_snoc]
    refine ⟨r2, h52.trans h5, hAs2, by rw [hl2, hl'], ?_, ?_⟩
    · have := St.set_kept (S1.sets (qs.take i)) v (xs.getD i 0)
      show ((S1.sets (qs.take i)).set v (xs.getD i 0)).kept.length ≤ _
      omega
    · rw [← hsteps]
      show ((S1.sets (qs.take i)).set v (xs.getD i 0)).steps = _
      unfold St.set
      split <;> rfl
  · obtain ⟨cv', kv', ss', l', hR, h5, hAs, hl', hkk, hsteps⟩ := hq1
    rw [← hql, List.take_length] at hR hsteps
    subst hW
    refine (step_any (hR.drewN k) (by omega)).mono ?_
    rintro e w' ⟨he, s2, r2⟩
    exact ⟨he, cv', kv', s2, r2⟩
end Go.Proofs.YtdgpdmohfnealaaGreatDoor
