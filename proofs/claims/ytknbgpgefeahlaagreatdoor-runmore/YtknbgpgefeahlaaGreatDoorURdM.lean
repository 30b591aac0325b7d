/- A call tells its word. -/
import Derived.Test.YtknbgpgefeahlaaGreatDoorUTellM
import Derived.Test.YtknbgpgefeahlaaGreatDoorUDoAM
namespace Go.Proofs.YtknbgpgefeahlaaGreatDoor
open Go.RowKit

def St.popC (S : St) (k : Nat) : St := { S with calls := S.calls.take k }
theorem Rn.cutC {E : Env} {w : World} {V : Vals} {ss : List Slot} {S : St} (h : Rn E w V ss S) {k : Nat} (hk : k ≤ S.calls.length) {v2 : Value} (ho : w.ownsRow E.w0.heap.size 82 5 v2 k ((flat clCells S.calls).take (k * 5))) (hb : v2.ownBlock = V.cv.ownBlock) :
    ∃ ss', Rn E (w.setCell ⟨E.B, 4, Option.none⟩ v2) { V with cv := v2 } ss' (S.popC k) := by
  have ho' : (⟨v2, 82, 5, k, (flat clCells S.calls).take (k * 5)⟩ : Slot).At w E.w0.heap.size := ho
  have H1 := h.heap.turn h.s2 (fun _ _ _ => rfl) ho' (fun g hg => .inl (by rw [← hb]; exact hg))
  have z1 : (ss.set 2 ⟨v2, 82, 5, k, (flat clCells S.calls).take (k * 5)⟩)[0]? = _ := set_other h.s0 (by omega)
  have H2 := H1.store z1 4 v2
  have L2 := below_set h.low (H1.lt z1).1 4 v2
  refine ⟨_, L2, h.prog, H2, set_self z1, set_other (set_other h.s1 (by omega)) (by omega), ?_, set_other (set_other h.s3 (by omega)) (by omega), set_other (set_other h.s4 (by omega)) (by omega), ?_, set_other (set_other h.s6 (by omega)) (by omega), h.cll, h.nwl, ?_, ?_⟩
  · have e1 : (flat clCells S.calls).take (k * 5) = flat clCells (S.popC k).calls := flat_take clCells_len S.calls k
    have e2 : k = (S.popC k).calls.length := by show k = (S.calls.take k).length; rw [List.length_take]; omega
    have := set_other (b := (⟨.slice (some ⟨E.B, 0, Option.none⟩) 1 1, 65, 14, 1, (rnCells E V S).set 4 v2⟩ : Slot)) (set_self (b := (⟨v2, 82, 5, k, (flat clCells S.calls).take (k * 5)⟩ : Slot)) h.s2) (i := 0) (by omega)
    rw [this, e1, ← e2]
  · obtain ⟨ws, hw⟩ := h.s5
    exact ⟨ws, set_other (set_other hw (by omega)) (by omega)⟩
  · intro i q hq
    obtain ⟨a2, N2, h1, h2, h3⟩ := h.news i q hq
    exact ⟨a2, N2, h1, set_other (set_other h2 (by omega)) (by omega), (h3.set (by omega) _).set (by omega) _⟩
  · intro i hi
    obtain ⟨h1, h2⟩ := h.none i hi
    exact ⟨h1, set_other (set_other h2 (by omega)) (by omega)⟩
theorem sizeCl : ∀ W : World, (sizeOf (Tryz.prog.elem 62)).run Tryz.prog W = .ok 5 W := fun W => by kernel_rfl
theorem undCl : Tryz.prog.underlying 62 = some (.slice (Tryz.prog.elem 62)) := by kernel_rfl
def St.valued (S : St) (x : Int) : St := { S with val := x }
/-- The last call of all. -/
theorem tell_end {E : Env} {w : World} {V : Vals} {ss : List Slot} {S : St} (h : Rn E w V ss S) {l : List Int} (ha : Asks E S 0 l) (hk : S.top.k ≤ S.kept.length) (hr : S.top.r ≤ S.rows.length) (hkl : S.kept.length ≤ 1000000000) (hc : ∀ s ∈ S.kept.drop S.top.k, s.cell < l.length) (x : Int) :
    Calls Tryz.prog 52 #[ptr E.B, .int .u64 x] w fun e w' => e = .returned (.bool false) ∧ ∃ cv' kv' rv' ss', Rn E w' { V with cv := cv', kv := kv', rv := rv' } ss' (((S.forget.popC 0).valued x).stop 1) := by
  have hm1 : S.calls.length = 1 := ha.hm
  obtain ⟨ca, cc, v2, a2, c2, hcv, hcc, hv2, hsl, _, _⟩ := own_ends (h.heap.own 2 _ h.s2) (Nat.zero_le _)
  dsimp only at hcv hsl
  rw [hm1] at hcv
  refine tell_end_walk (cc := cc) (c2 := c2) (ca := ca) (a2 := a2) (y := S.val) (Q1 := fun w1 => ∃ kv' rv' ss', Rn E w1 { V with kv := kv', rv := rv' } ss' S.forget) (fun W k hW => by subst hW; exact forget_any (h.drewN k) ha hk hr hkl hc) (fun W => ?_) (fun w1 hq => ?_)
  · rw [run_slice_h W 62 _ _ _ undCl .i64 0 (by omega) (by omega), sizeCl]
    show Result.ok (sliced ca 0 0 cc 5) W = _
    rw [← hsl, hv2]
  · obtain ⟨kv', rv', ss', hR⟩ := hq
    have h4 := hR.box.2.2.2.2.1
    have h10 := hR.box.2.2.2.2.2.2.2.2.2.2.1
    refine ⟨by rw [← hcv]; exact h4, hR.fz 4, h10, hR.fz 10, fun j => ?_⟩
    obtain ⟨x1, x2, x3, x4, x5, y1, _, y3, y4, y5, y6⟩ := own_ends ((hR.drewN j).heap.own 2 _ hR.s2) (Nat.zero_le _)
    dsimp only at y1 y4 y5 y6
    have hcl : S.forget.calls = S.calls := rfl
    rw [hcl, hm1, hcv] at y1
    injection y1 with z1 _ z3
    subst z1
    subst z3
    rw [y4, ← hsl, hv2] at y5 y6
    obtain ⟨s1, r1⟩ := (hR.drewN j).cutC (k := 0) (Nat.zero_le _) y5 y6
    obtain ⟨s2, r2⟩ := r1.num (S' := (S.forget.popC 0).valued x) 10 (wordV x) rfl rfl rfl rfl rfl rfl
    refine (stop_any r2 1).mono ?_
    rintro e w' ⟨he, s3, r3⟩
    exact ⟨he, _, kv', rv', s3, r3⟩
/-- A call that another one has made. -/
theorem tell_on {E : Env} {w : World} {V : Vals} {ss : List Slot} {S : St} (h : Rn E w V ss S) {m : Nat} {l : List Int} (ha : Asks E S (m + 1) l) (hk : S.top.k ≤ S.kept.length) (hr : S.top.r ≤ S.rows.length) (hkl : S.kept.length ≤ 1000000000) (hc : ∀ s ∈ S.kept.drop S.top.k, s.cell < l.length) (x : Int)
    {S1 : St} (hS1 : S1 = S.forget.popC (m + 1)) {l1 : List Int} (ha1 : Asks E S1 m l1) (hkl1 : S1.kept.length ≤ 1000000000) (htg : S1.top.g < E.P.length) (htb : S1.top.b < (E.P.getD S1.top.g default).blocks.length) {nx : Nat} (hnx : S1.top.nx = nx + 1) (hnl : nx < ((E.P.getD S1.top.g default).blocks.getD S1.top.b default).ins.length)
    {d : Nat} (hd : (((E.P.getD S1.top.g default).blocks.getD S1.top.b default).ins.getD nx default).dst = (d : Int)) (hdl : d < l1.length) :
    Calls Tryz.prog 52 #[ptr E.B, .int .u64 x] w fun e w' => e = .returned (.bool true) ∧ ∃ cv' kv' rv' ss', Rn E w' { V with cv := cv', kv := kv', rv := rv' } ss' (S1.set d x) := by
  have hm1 : S.calls.length = m + 1 + 1 := ha.hm
  obtain ⟨ca, cc, v2, a2, c2, hcv, hcc, hv2, hsl, _, _⟩ := own_ends (h.heap.own 2 _ h.s2) (k := m + 1) (by show _ ≤ S.calls.length; omega)
  dsimp only at hcv hsl
  rw [hm1] at hcv
  have hp := h.prog
  obtain ⟨qa, qc, hq, _⟩ := hp.form
  rw [hq] at hp
  obtain ⟨pg, po, pv, vv, av, bv, rfl, hlt, c0, c1, c2', c3, c4, c5, hG⟩ := hp.get htg
  obtain ⟨_, _, _, _, _, _, ba, bc, _, _, _, hbv, _, _, _, _⟩ := hG.openF
  have hbs := hG.bs
  rw [hbv] at hbs c5
  obtain ⟨bg, bo, iv, rfl, hbg, d0, _, _, _, _, _, hins⟩ := hbs.get htb
  obtain ⟨ia, ic, hiv, hil⟩ := hins.form
  rw [hiv] at hins d0
  obtain ⟨ig, io, xav, rfl, hig, _, _, i2, _, _, _, _⟩ := hins.get hnl
  rw [hd] at i2
  have hcl : S.forget.calls = S.calls := rfl
  obtain ⟨cb, ecb⟩ : ∃ cb, a2 = some ⟨cb, 0, none⟩ ∧ v2 = .slice (some ⟨cb, 0, none⟩) (m + 1) c2 := by
    have h3 := own_ends (h.heap.own 2 _ h.s2) (k := m + 1) (by show _ ≤ S.calls.length; omega)
    obtain ⟨x1, x2, x3, x4, x5, y1, _, y3, y4, y5, y6⟩ := h3
    dsimp only at y1 y4 y5 y6
    rw [hm1, hcv] at y1
    injection y1 with z1 _ z3
    subst z1
    subst z3
    rw [y4, ← hsl, hv2] at y5
    rcases own_shape y5 with ⟨_, e⟩ | ⟨g, c, e, _⟩
    · omega
    · injection e with e1 _ e3
      exact ⟨g, e1, by rw [hv2, e1]⟩
  obtain ⟨ea2, ev2⟩ := ecb
  refine tell_on_walk (B := E.B) (cb := cb) (m := m) (cc := cc) (c2 := c2) (d := d) (tg := S1.top.g) (tb := S1.top.b) (nx := nx) (pg := pg) (po := po) (n := E.P.length) (qc := qc) (bg := bg) (bo := bo) (bn := (E.P.getD S1.top.g default).blocks.length) (bc := bc) (ig := ig) (io := io) (il := ((E.P.getD S1.top.g default).blocks.getD S1.top.b default).ins.length) (ic := ic) (ca := ca) (a2 := a2)
    (Q1 := fun w1 => ∃ kv' rv' ss', Rn E w1 { V with kv := kv', rv := rv' } ss' S.forget) (Q2 := fun w2 => ∃ kv' rv' ss', Rn E w2 { V with cv := v2, kv := kv', rv := rv' } ss' S1) (fun W k hW => by subst hW; exact forget_any (h.drewN k) ha hk hr hkl hc) (fun W => ?_) (fun w1 hq1 => ?_) (by have := ha.hmb; omega) (fun w2 hq2 => ?_) (by omega) (by omega) (by omega) (by omega)
  · have e : ((m : Int) + 1) = ((m + 1 : Nat) : Int) := by omega
    rw [e, run_slice_h W 62 _ _ _ undCl .i64 _ (by omega) (by omega), sizeCl]
    simp only [Result.andThen, Int.toNat_natCast]
    rw [← hsl, hv2]
  · obtain ⟨kv', rv', ss', hR⟩ := hq1
    have h4 := hR.box.2.2.2.2.1
    refine ⟨by rw [← hcv]; exact h4, hR.fz 4, fun j => ?_⟩
    obtain ⟨x1, x2, x3, x4, x5, y1, _, y3, y4, y5, y6⟩ := own_ends (hR.heap.own 2 _ hR.s2) (k := m + 1) (by show _ ≤ S.calls.length; omega)
    dsimp only at y1 y4 y5 y6
    rw [hcl, hm1, hcv] at y1
    injection y1 with z1 _ z3
    subst z1
    subst z3
    rw [y4, ← hsl] at y5 y6
    obtain ⟨s1, r1⟩ := hR.cutC (k := m + 1) (by show _ ≤ S.calls.length; omega) y5 y6
    rw [hv2, ← hS1] at r1
    rw [hv2]
    exact ⟨kv', rv', s1, r1.drewN j⟩
  · obtain ⟨kv', rv', ss', hR⟩ := hq2
    have hbx := hR.box
    obtain ⟨cb', cc', hcv', _, _, _, t0, t1, t2, t3, t4⟩ := hR.last ha1.hm
    dsimp only at hcv'
    rw [ev2] at hcv'
    cases hcv'
    rw [hnx] at t2
    have low : ∀ g j, g < E.w0.heap.size → w2.cell? ⟨g, j, none⟩ = E.w0.cell? ⟨g, j, none⟩ := fun g j hg => hR.low.cell (p := ⟨g, j, none⟩) hg
    have b4 := hbx.2.2.2.2.1
    dsimp only at b4
    refine ⟨fun W k hW => now_at E.B cb m c2 W (by rw [hW]; show w2.cell? _ = _; rw [b4, ev2]) ha1.hmb, by rw [b4, hv2], by rw [← hq]; exact hbx.1, t0, t1, by rw [t2]; simp, (low _ _ hlt).trans c5, (low _ _ hbg).trans d0, (low _ _ hig).trans i2, fun W k hW => ?_⟩
    subst hW
    refine (set_any (hR.drewN k) ha1 d hdl x hkl1).mono ?_
    rintro e w' ⟨he, kv2, s2, r2⟩
    exact ⟨he, v2, kv2, rv', s2, r2⟩
end Go.Proofs.YtknbgpgefeahlaaGreatDoor
/- Phis: a block that has none. -/
namespace Go.Proofs.YtknbgpgefeahlaaGreatDoor
open Go.RowKit

set_option maxRecDepth 100000 in
set_option maxHeartbeats 1000000 in
theorem phis_empty_walk {B cb m pg po n qc tg tb bg bo bn bc ic : Nat} {ia : Option Addr} {fr : Int} {w : World}
    (HNW : Hid (∀ W j, W = w.drewN j → Calls Tryz.prog 25 #[ptr B] W fun e w' => e = .returned (.pointer (some ⟨cb, m * 5, none⟩)) ∧ ∃ j, w' = W.drewN j))
    (b0 : w.cell? ⟨B, 0, none⟩ = some (.slice (some ⟨pg, po, none⟩) n qc)) (t0 : w.cell? ⟨cb, m * 5, none⟩ = some (.int .i64 (tg : Int))) (t1 : w.cell? ⟨cb, m * 5 + 1, none⟩ = some (.int .i64 (tb : Int))) (p5 : w.cell? ⟨pg, po + tg * 6 + 5, none⟩ = some (.slice (some ⟨bg, bo, none⟩) bn bc)) (q0 : w.cell? ⟨bg, bo + tb * 6, none⟩ = some (.slice ia 0 ic)) (htg : (tg : Int) < n) (htb : (tb : Int) < bn) :
    Calls Tryz.prog 76 #[ptr B, .int .i64 fr] w fun e w' => e = .returned (.int .i64 0) ∧ ∃ k, w' = w.drewN k := by
  go_enter Tryz.func76, Tryz.ntmps76
  go_wp2_with (go_at_call 25; refine Calls.mono (HNW.out _ 0 rfl) ?_; rintro e w1 ⟨rfl, kq, rfl⟩)
  go_quiet (fail)
  go_wp2
  go_ret
  exact ⟨rfl, _, rfl⟩
set_option maxRecDepth 100000 in
set_option maxHeartbeats 1000000 in
theorem phis_none_walk {B cb m pg po n qc tg tb bg bo bn bc ig io il ic : Nat} {k fr : Int} {w : World}
    (HNW : Hid (∀ W j, W = w.drewN j → Calls Tryz.prog 25 #[ptr B] W fun e w' => e = .returned (.pointer (some ⟨cb, m * 5, none⟩)) ∧ ∃ j, w' = W.drewN j))
    (b0 : w.cell? ⟨B, 0, none⟩ = some (.slice (some ⟨pg, po, none⟩) n qc)) (t0 : w.cell? ⟨cb, m * 5, none⟩ = some (.int .i64 (tg : Int))) (t1 : w.cell? ⟨cb, m * 5 + 1, none⟩ = some (.int .i64 (tb : Int))) (p5 : w.cell? ⟨pg, po + tg * 6 + 5, none⟩ = some (.slice (some ⟨bg, bo, none⟩) bn bc)) (q0 : w.cell? ⟨bg, bo + tb * 6, none⟩ = some (.slice (some ⟨ig, io, none⟩) (il + 1) ic)) (htg : (tg : Int) < n) (htb : (tb : Int) < bn)
    (i0 : w.cell? ⟨ig, io, none⟩ = some (.int .u8 k)) (hk : (k != 1) = true) :
    Calls Tryz.prog 76 #[ptr B, .int .i64 fr] w fun e w' => e = .returned (.int .i64 0) ∧ ∃ k, w' = w.drewN k := by
  have hz : ((il : Int) + 1 == 0) = false := by simpa using (by omega : ¬ ((il : Int) + 1 = 0))
  have hlt : (0 : Int) < (il : Int) + 1 := by omega
  go_enter Tryz.func76, Tryz.ntmps76
  go_wp2_with (go_at_call 25; refine Calls.mono (HNW.out _ 0 rfl) ?_; rintro e w1 ⟨rfl, kq, rfl⟩)
  go_quiet (fail)
  go_wp2
  go_ret
  exact ⟨rfl, _, rfl⟩
end Go.Proofs.YtknbgpgefeahlaaGreatDoor
/- A word is shown: what is kept. -/
namespace Go.Proofs.YtknbgpgefeahlaaGreatDoor
open Go.RowKit

/-- A show more. -/
theorem Rn.show {E : Env} {W w2 : World} {V : Vals} {ss : List Slot} {S : St} (h : Rn E W V ss S) {sv' : Value} {t x : Int}
    (ho : w2.ownsRow E.w0.heap.size 56 2 sv' (S.shows.length + 1) (flat shCells S.shows ++ shCells (t, x))) (hgr : W.grownBy w2 V.sv.ownBlock) (hat : sv'.ownBlock = V.sv.ownBlock ∨ sv'.ownBlock = some W.heap.size) :
    ∃ ss', Rn E (w2.setCell ⟨E.B, 8, Option.none⟩ sv') { V with sv := sv' } ss' { S with shows := S.shows ++ [(t, x)] } := by
  have ho' : (⟨sv', 56, 2, S.shows.length + 1, flat shCells S.shows ++ shCells (t, x)⟩ : Slot).At w2 E.w0.heap.size := ho
  have H1 := h.heap.grow h.s6 ho' hgr hat
  have L1 : Below E.w0.heap.size E.w0 w2 := below_grown h.low hgr (fun g hg => ((h.heap.own 6 _ h.s6).lt g hg).1)
  have z1 : (ss.set 6 ⟨sv', 56, 2, S.shows.length + 1, flat shCells S.shows ++ shCells (t, x)⟩)[0]? = _ := set_other h.s0 (by omega)
  have H2 := H1.store z1 8 sv'
  have L2 := below_set L1 (H1.lt z1).1 8 sv'
  refine ⟨_, L2, h.prog, H2, ?_, ?_, ?_, ?_, ?_, ?_, ?_, h.cll, h.nwl, ?_, ?_⟩
  · exact set_self z1
  · exact set_other (set_other h.s1 (by omega)) (by omega)
  · exact set_other (set_other h.s2 (by omega)) (by omega)
  · exact set_other (set_other h.s3 (by omega)) (by omega)
  · exact set_other (set_other h.s4 (by omega)) (by omega)
  · obtain ⟨ws, hw⟩ := h.s5
    exact ⟨ws, set_other (set_other hw (by omega)) (by omega)⟩
  · have e1 : flat shCells S.shows ++ shCells (t, x) = flat shCells (S.shows ++ [(t, x)]) := (flat_snoc _ _ _).symm
    have e2 : S.shows.length + 1 = (S.shows ++ [(t, x)]).length := by simp
    have := set_other (b := (⟨.slice (some ⟨E.B, 0, Option.none⟩) 1 1, 65, 14, 1, (rnCells E V S).set 8 sv'⟩ : Slot)) (set_self (b := (⟨sv', 56, 2, S.shows.length + 1, flat shCells S.shows ++ shCells (t, x)⟩ : Slot)) h.s6) (i := 0) (by omega)
    rw [this, e1, e2]
  · intro i q hq
    obtain ⟨a2, N2, h1, h2, h3⟩ := h.news i q hq
    exact ⟨a2, N2, h1, set_other (set_other h2 (by omega)) (by omega), (h3.set (by omega) _).set (by omega) _⟩
  · intro i hi
    obtain ⟨h1, h2⟩ := h.none i hi
    exact ⟨h1, set_other (set_other h2 (by omega)) (by omega)⟩
theorem infoSh : (Tryz.prog.info? 56).map (fun i => (i.zero, i.size, i.bytes)) = some (some (.agg #[.int .u8 0, .int .u64 0]), 2, 16) := by kernel_rfl
theorem cells2_new {w : World} {B : Nat} (hB : B = w.heap.size) (x0 x1 : Value) (t : TypeId) : ∀ j u, [x0, x1][j]? = some u → (w.alloc (.cells #[x0, x1] t)).cell? ((⟨B, 0, none⟩ : Addr).add j) = some u := by
  subst hB
  intro j u hu
  have h := (Box.new w [x0, x1] t).cell j u hu
  rw [Addr.add_lit, Nat.zero_add]
  exact h
end Go.Proofs.YtknbgpgefeahlaaGreatDoor
/- Words are read: the walk. -/
namespace Go.Proofs.YtknbgpgefeahlaaGreatDoor
open Go.RowKit

set_option maxRecDepth 100000 in
set_option maxHeartbeats 4000000 in
theorem read_walk {bs B n vc : Nat} {va : Option Addr} {a0 a1 : Option Addr} {n0 c0 c1 : Nat} {w : World} {R : Nat → World → Prop} {Q : Value → World → Prop}
    (b7 : w.cell? ⟨B, 7, none⟩ = some (.slice a0 n0 c0)) (f7 : w.frozen? ⟨B, 7, none⟩ = false)
    (hs : ∀ W, (Instr.slice 23 (.slice a0 n0 c0) none (some (.int .i64 0)) none).run Tryz.prog W = .ok (.slice a1 0 c1) W)
    (HR0 : Hid (R 0 (w.setCell ⟨B, 7, none⟩ (.slice a1 0 c1)))) (hnb : (n : Int) ≤ 1000000000)
    (HRS : Hid (∀ i wq, i < n → R i wq → ∃ (vg vo v : Nat) (x : Int) (wv : Value) (ws : List Value), va = some ⟨vg, vo, none⟩ ∧ wq.cell? ⟨vg, vo + i, none⟩ = some (.int .i64 (v : Int)) ∧ wq.cell? ⟨B, 7, none⟩ = some wv ∧ (∀ k ob, ((wq.drewN k).alloc ob).cell? ⟨B, 7, none⟩ = some wv) ∧ bs ≤ wq.heap.size ∧
      (∀ k, (wq.drewN k).ownsRow bs 28 1 wv i ws) ∧
      (∀ W k, W = wq.drewN k → Calls Tryz.prog 44 #[ptr B, .int .i64 (v : Int)] W fun e w' => e = .returned (.int .u64 x) ∧ ∃ k, w' = W.drewN k) ∧
      (∀ k ob w2 wv', w2.ownsRow bs 28 1 wv' (i + 1) (ws ++ [.int .u64 x]) → ((wq.drewN k).alloc ob).grownBy w2 wv.ownBlock → (wv'.ownBlock = wv.ownBlock ∨ wv'.ownBlock = some ((wq.drewN k).alloc ob).heap.size) → w2.cell? ⟨B, 7, none⟩ = some wv ∧ w2.frozen? ⟨B, 7, none⟩ = false ∧ R (i + 1) (w2.setCell ⟨B, 7, none⟩ wv'))))
    (HE : Hid (∀ wq, R n wq → ∃ wv, wq.cell? ⟨B, 7, none⟩ = some wv ∧ Q wv wq)) :
    Calls Tryz.prog 27 #[ptr B, .slice va n vc] w fun e w' => ∃ wv, e = .returned wv ∧ Q wv w' := by
  obtain ⟨i0, hi0, hz0, hz1, hz2⟩ := info_parts infoW
  go_enter Tryz.func27, Tryz.ntmps27
  go_wp2
  go_loopw [17] (fun vi wq => ∃ i : Nat, vi = .int .i64 i ∧ i ≤ n ∧ Hid (R i wq)) (fun vi _ => n - (intOf vi).toNat)
  case atStart => exact ⟨0, rfl, by omega, HR0⟩
  case round =>
    obtain ⟨i, rfl, hi, hr⟩ := hrel
    clear HR0 b7 f7
    by_cases hin : i < n
    · obtain ⟨vg, vo, v, x, wv, ws, rfl, cv, b7, b7', hbs0, ho0, hg0, hx0⟩ := HRS.out i wr hin hr.out
      have hin' : (i : Int) < n := by omega
      have HG : Hid _ := hg0
      have HO : Hid _ := ho0
      have HX : Hid _ := hx0
      have HBS : Hid _ := hbs0
      have HIB : Hid (i ≤ 1000000000) := by show _ ≤ _; omega
      clear hg0 ho0 hx0 hbs0 HRS HE hr
      go_wp2
      go_region_law (first
        | (refine step_append_own rfl (.tmp 25) (.tmp 29) 23 rfl bs 28 i0 (.int .u64 0) 1 8 Tryz.underlying23 hi0 hz0 hz1 hz2 rfl (by decide) wv i ws ?e1 ?e2 ⟨wr.heap.size, 0, none⟩ 1 1 [.int .u64 x] ?e3 rfl ?e4 ?e5 ?e6 ?e7 ?e8 ?_; (case e1 => simp [Act.eval]); (case e2 => exact (HO.out _).alloc _); (case e3 => simp [Act.eval]); (case e4 => exact cell_one_new _ _ _); (case e5 => intro u hu; simp at hu; subst hu; rfl); (case e6 => have := HIB.out; unfold maxLen; omega); (case e7 => have := HIB.out; omega); (case e8 => have := HBS.out; simp; omega); intro v2 w2 ho hg2 hat; obtain ⟨g2, cc2, rfl, _, _, _, _⟩ := own_form ho; obtain ⟨q1, q2, hrr⟩ := HX.out _ _ w2 _ ho hg2 hat; have HQ : Hid (R _ _) := hrr; clear ho hg2 hat hrr)
        | (go_simp; go_at_call 44; refine Calls.mono (HG.out _ 1 rfl) ?_; rintro e w1 ⟨rfl, kt, rfl⟩))
      all_goals (
        go_wp2
        go_roundw
        case rel => exact ⟨i + 1, by first | rfl | (congr 1; omega), by omega, HQ⟩
        case measure => simp [intOf]; omega)
    · obtain rfl : i = n := by omega
      obtain ⟨wv, b7, hq⟩ := HE.out wr hr.out
      clear HE HRS
      go_wp2
      go_ret
      exact ⟨wv, rfl, hq⟩
end Go.Proofs.YtknbgpgefeahlaaGreatDoor
