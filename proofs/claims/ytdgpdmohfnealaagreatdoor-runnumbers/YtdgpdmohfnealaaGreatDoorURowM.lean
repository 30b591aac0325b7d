/- Types, cells, sizes. -/
import Derived.Test.YtdgpdmohfnealaaGreatDoorUSet2M
import Derived.Test.YtdgpdmohfnealaaGreatDoorGChk3M
namespace Go.Proofs.YtdgpdmohfnealaaGreatDoor
open Go.RowKit

/-- The last call's graph. -/
theorem Rn.graph {E : Env} {w : World} {V : Vals} {ss : List Slot} {S : St} (h : Rn E w V ss S) {g : Nat} (hg : g < E.P.length) : ∃ pg po pv vv av bv qc, E.ppv = .slice (some ⟨pg, po, Option.none⟩) E.P.length qc ∧ pg < w.heap.size ∧ w.cell? ⟨pg, po + g * 6 + 1, Option.none⟩ = some pv ∧ w.cell? ⟨pg, po + g * 6 + 3, Option.none⟩ = some vv ∧ w.cell? ⟨pg, po + g * 6 + 4, Option.none⟩ = some av ∧ w.cell? ⟨pg, po + g * 6 + 5, Option.none⟩ = some bv ∧ GrAt w pv vv av bv (E.P.getD g default) := by
  obtain ⟨qa, qc, hq, _⟩ := h.prog.form
  have hp := h.prog
  rw [hq] at hp
  obtain ⟨pg, po, pv, vv, av, bv, rfl, hlt, c0, c1, c2, c3, c4, c5, hG⟩ := hp.get hg
  have hc : ∀ j, w.cell? ⟨pg, j, Option.none⟩ = E.w0.cell? ⟨pg, j, Option.none⟩ := fun j => h.low.cell (p := ⟨pg, j, Option.none⟩) hlt
  exact ⟨pg, po, pv, vv, av, bv, qc, hq, Nat.lt_of_lt_of_le hlt h.low.size, (hc _).trans c1, (hc _).trans c3, (hc _).trans c4, (hc _).trans c5, hG.below h.low⟩
set_option maxRecDepth 100000 in
set_option maxHeartbeats 1000000 in
theorem typeOf_any {E : Env} {w : World} {V : Vals} {ss : List Slot} {S : St} (h : Rn E w V ss S) {m : Nat} (hm : S.calls.length = m + 1) (hmb : m + 1 ≤ 140737488355328) (hg : S.top.g < E.P.length) (v : Nat) (hv : v < (E.P.getD S.top.g default).vars.length) :
    Calls Tryz.prog 36 #[ptr E.B, .int .i64 (v : Int)] w fun e w' => e = .returned (.int .u8 ((E.P.getD S.top.g default).vars.getD v 0)) ∧ ∃ k, w' = w.drewN k := by
  obtain ⟨b0, b1, b2, b3, b4, b5, b6, b7, b8, b9, b10, b11, b12, b13⟩ := h.box
  obtain ⟨cb, cc, hcv, hcap1, hcap2, hcb, t0, t1, t2, t3, t4⟩ := h.last hm
  obtain ⟨pg, po, pv, vv, av, bv, qc, hq, hpg, c1, c3, c4, c5, hG⟩ := h.graph hg
  obtain ⟨va, vc, hvv⟩ : ∃ va vc, vv = .slice va (E.P.getD S.top.g default).vars.length vc := by
    obtain ⟨_, _, va, vc, _, _, _, _, _, h2, _⟩ := hG.openF
    exact ⟨va, vc, h2⟩
  subst hvv
  obtain ⟨gv, ov, rfl, hgv, cv⟩ := hG.vs.get hv
  rw [hcv] at b4
  rw [hq] at b0
  have HNW : Hid (∀ W k, W = w.drewN k → Calls Tryz.prog 17 #[ptr E.B] W fun e w' => e = .returned (.pointer (some ⟨cb, m * 5, none⟩)) ∧ ∃ k, w' = W.drewN k) := fun W k hW => now_at E.B cb m cc W (by rw [hW]; exact b4) hmb
  have hg' : (S.top.g : Int) < E.P.length := by omega
  have hv' : (v : Int) < (E.P.getD S.top.g default).vars.length := by omega
  generalize (E.P.getD S.top.g default).vars.getD v 0 = ty at *
  generalize (E.P.getD S.top.g default).vars.length = vl at *
  clear h hG hcv hcap1 hcap2 hq b1 b2 b3 b5 b6 b7 b8 b9 b10 b11 b12 b13 t1 t2 t3 t4 c1 c4 c5
  generalize E.P.length = n at *
  generalize E.B = B at *
  generalize S.top.g = tg at *
  go_enter Tryz.func36, Tryz.ntmps36
  go_wp2
  go_quiet ((go_at_call 17; exact Calls.quiet_of (HNW.out _ _ rfl)))
  go_wp2
  go_ret
  exact ⟨rfl, _, rfl⟩
set_option maxRecDepth 100000 in
set_option maxHeartbeats 1000000 in
theorem cell_any {E : Env} {w : World} {V : Vals} {ss : List Slot} {S : St} (h : Rn E w V ss S) {m : Nat} (hm : S.calls.length = m + 1) (hmb : m + 1 ≤ 140737488355328) (hg : S.top.g < E.P.length) (r : Nat) (hr : r < (E.P.getD S.top.g default).arrs.length) :
    Calls Tryz.prog 58 #[ptr E.B, .int .i64 (r : Int)] w fun e w' => e = .returned (.int .i64 (((E.P.getD S.top.g default).vars.length + r : Nat) : Int)) ∧ ∃ k, w' = w.drewN k := by
  obtain ⟨b0, b1, b2, b3, b4, b5, b6, b7, b8, b9, b10, b11, b12, b13⟩ := h.box
  obtain ⟨cb, cc, hcv, hcap1, hcap2, hcb, t0, t1, t2, t3, t4⟩ := h.last hm
  obtain ⟨pg, po, pv, vv, av, bv, qc, hq, hpg, c1, c3, c4, c5, hG⟩ := h.graph hg
  obtain ⟨va, vc, hvv, hvl, hal⟩ : ∃ va vc, vv = .slice va (E.P.getD S.top.g default).vars.length vc ∧ (E.P.getD S.top.g default).vars.length ≤ 140737488355328 ∧ (E.P.getD S.top.g default).arrs.length ≤ 140737488355328 := by
    obtain ⟨_, _, va, vc, _, _, _, _, _, h2, _, _, _, h4, h5, _⟩ := hG.openF
    exact ⟨va, vc, h2, h4, h5⟩
  subst hvv
  rw [hcv] at b4
  rw [hq] at b0
  have HNW : Hid (∀ W k, W = w.drewN k → Calls Tryz.prog 17 #[ptr E.B] W fun e w' => e = .returned (.pointer (some ⟨cb, m * 5, none⟩)) ∧ ∃ k, w' = W.drewN k) := fun W k hW => now_at E.B cb m cc W (by rw [hW]; exact b4) hmb
  have hg' : (S.top.g : Int) < E.P.length := by omega
  have hrb : (r : Int) ≤ 140737488355328 := by omega
  generalize (E.P.getD S.top.g default).vars.length = vl at *
  have hvb : (vl : Int) ≤ 140737488355328 := by omega
  clear h hG hcv hcap1 hcap2 hq b1 b2 b3 b5 b6 b7 b8 b9 b10 b11 b12 b13 t1 t2 t3 t4 c1 c4 c5 hr hvl hal
  generalize E.P.length = n at *
  generalize E.B = B at *
  generalize S.top.g = tg at *
  go_enter Tryz.func58, Tryz.ntmps58
  go_wp2
  go_quiet ((go_at_call 17; exact Calls.quiet_of (HNW.out _ _ rfl)))
  go_wp2
  go_ret
  exact ⟨ret_int (by omega), _, rfl⟩
set_option maxRecDepth 100000 in
set_option maxHeartbeats 1000000 in
theorem size_any {E : Env} {w : World} {V : Vals} {ss : List Slot} {S : St} (h : Rn E w V ss S) {m : Nat} (hm : S.calls.length = m + 1) (hmb : m + 1 ≤ 140737488355328) (hg : S.top.g < E.P.length) (r : Nat) (hr : r < (E.P.getD S.top.g default).arrs.length) :
    Calls Tryz.prog 57 #[ptr E.B, .int .i64 (r : Int)] w fun e w' => e = .returned (.int .i64 ((E.P.getD S.top.g default).arrs.getD r default).2) ∧ ∃ k, w' = w.drewN k := by
  obtain ⟨b0, b1, b2, b3, b4, b5, b6, b7, b8, b9, b10, b11, b12, b13⟩ := h.box
  obtain ⟨cb, cc, hcv, hcap1, hcap2, hcb, t0, t1, t2, t3, t4⟩ := h.last hm
  obtain ⟨pg, po, pv, vv, av, bv, qc, hq, hpg, c1, c3, c4, c5, hG⟩ := h.graph hg
  obtain ⟨aa, ac, hvv⟩ : ∃ va vc, av = .slice va (E.P.getD S.top.g default).arrs.length vc := by
    obtain ⟨_, _, _, _, va, vc, _, _, _, _, h2, _⟩ := hG.openF
    exact ⟨va, vc, h2⟩
  subst hvv
  obtain ⟨gv, ov, rfl, hgv, _, cv⟩ := hG.ars.get hr
  rw [hcv] at b4
  rw [hq] at b0
  have HNW : Hid (∀ W k, W = w.drewN k → Calls Tryz.prog 17 #[ptr E.B] W fun e w' => e = .returned (.pointer (some ⟨cb, m * 5, none⟩)) ∧ ∃ k, w' = W.drewN k) := fun W k hW => now_at E.B cb m cc W (by rw [hW]; exact b4) hmb
  have hg' : (S.top.g : Int) < E.P.length := by omega
  have hr' : (r : Int) < (E.P.getD S.top.g default).arrs.length := by omega
  generalize ((E.P.getD S.top.g default).arrs.getD r default).2 = sz at *
  generalize (E.P.getD S.top.g default).arrs.length = al at *
  clear h hG hcv hcap1 hcap2 hq b1 b2 b3 b5 b6 b7 b8 b9 b10 b11 b12 b13 t1 t2 t3 t4 c1 c3 c5
  generalize E.P.length = n at *
  generalize E.B = B at *
  generalize S.top.g = tg at *
  go_enter Tryz.func57, Tryz.ntmps57
  go_wp2
  go_quiet ((go_at_call 17; exact Calls.quiet_of (HNW.out _ _ rfl)))
  go_wp2
  go_ret
  exact ⟨rfl, _, rfl⟩
end Go.Proofs.YtdgpdmohfnealaaGreatDoor
/- Elements of arrays. -/
namespace Go.Proofs.YtdgpdmohfnealaaGreatDoor
open Go.RowKit

theorem u64_from {g o n c f : Nat} (hf : f ≤ n) (hc : f < c) : ∀ W, (Instr.slice 33 (.slice (some ⟨g, o, none⟩) n c) (some (.int .u64 (f : Int))) none none).run Tryz.prog W = .ok (.slice (some ⟨g, o + f, none⟩) (n - f) (c - f)) W := fun W => by
  have hs : ∀ W : World, (sizeOf (Tryz.prog.elem 33)).run Tryz.prog W = .ok 1 W := fun W => by kernel_rfl
  have hu : Tryz.prog.underlying 33 = some (.slice (Tryz.prog.elem 33)) := by kernel_rfl
  rw [run_slice_l W 33 _ n c hu .u64 f (by omega) (by omega), hs]
  have hne : ¬ c = f := by omega
  by_cases h0 : f = 0
  · subst h0
    simp [Result.andThen, sliced, Addr.add]
  · simp [Result.andThen, sliced, Addr.add, hne, h0]
theorem u64_to {g o n c f : Nat} (hf : f ≤ c) : ∀ W, (Instr.slice 33 (.slice (some ⟨g, o, none⟩) n c) none (some (.int .i64 (f : Int))) none).run Tryz.prog W = .ok (.slice (some ⟨g, o, none⟩) f c) W := fun W => by
  have hs : ∀ W : World, (sizeOf (Tryz.prog.elem 33)).run Tryz.prog W = .ok 1 W := fun W => by kernel_rfl
  have hu : Tryz.prog.underlying 33 = some (.slice (Tryz.prog.elem 33)) := by kernel_rfl
  rw [run_slice_h W 33 _ n c hu .i64 f (by omega) (by omega), hs]
  simp [Result.andThen, sliced, Addr.add]
theorem Rn.words {E : Env} {w : World} {V : Vals} {ss : List Slot} {S : St} (h : Rn E w V ss S) (hr : 0 < S.rows.length) : ∃ rb rc, V.rv = .slice (some ⟨rb, 0, Option.none⟩) S.rows.length rc ∧ S.rows.length ≤ rc ∧ rc ≤ maxLen ∧ rb < w.heap.size ∧ (∀ j, j < S.rows.length → w.cell? ⟨rb, j, Option.none⟩ = some (wordV (S.rows.getD j 0))) ∧ ∀ j, w.frozen? ⟨rb, j, Option.none⟩ = false := by
  have h2 := h.s4
  rcases own_shape (h.heap.own 4 _ h2) with ⟨_, h0⟩ | ⟨cb, cc, hv, h3, h4, h5, h6⟩
  · dsimp only at h0; omega
  · dsimp only at hv h3
    rw [hv] at h2
    refine ⟨cb, cc, hv, h3, h4, h6, fun j hj => h.heap.cell h2 ?_, fun j => h.heap.fz h2 j⟩
    rw [List.getElem?_map, List.getElem?_eq_getElem hj]
    simp [List.getD, List.getElem?_eq_getElem hj]
/-- What is asked of an array of the last call's graph. -/
structure AsksA (E : Env) (S : St) (m : Nat) (l : List Int) (r : Nat) : Prop extends Asks E S m l where
  gl : S.top.g < E.P.length
  rl : r < (E.P.getD S.top.g default).arrs.length
  ll : l.length = cellsOf (E.P.getD S.top.g default)
set_option maxRecDepth 100000 in
set_option maxHeartbeats 1000000 in
theorem row_none {E : Env} {w : World} {V : Vals} {ss : List Slot} {S : St} (h : Rn E w V ss S) {m : Nat} {l : List Int} {r : Nat} (ha : AsksA E S m l r) (h0 : S.find ((E.P.getD S.top.g default).vars.length + r) = 0) :
    Calls Tryz.prog 39 #[ptr E.B, .int .i64 (r : Int)] w fun e w' => e = .returned (.slice none 0 0) ∧ ∃ k, w' = w.drewN k := by
  have HC : Hid (∀ W k, W = w.drewN k → Calls Tryz.prog 58 #[ptr E.B, .int .i64 (r : Int)] W fun e w' => e = .returned (.int .i64 (((E.P.getD S.top.g default).vars.length + r : Nat) : Int)) ∧ ∃ k, w' = W.drewN k) := fun W k hW => by subst hW; exact cell_any (h.drewN k) ha.hm ha.hmb ha.gl r ha.rl
  have HF : Hid (∀ W k, W = w.drewN k → Calls Tryz.prog 51 #[ptr E.B, .int .i64 (((E.P.getD S.top.g default).vars.length + r : Nat) : Int)] W fun e w' => e = .returned (.int .i64 0) ∧ ∃ k, w' = W.drewN k) := fun W k hW => by
    subst hW
    have := find_any (h.drewN k) ha.hm ha.hmb ha.hg ((E.P.getD S.top.g default).vars.length + r) (by have := ha.ll; have := ha.rl; unfold cellsOf at *; omega) (ha.nn _).1
    rw [h0] at this
    exact this
  clear h ha h0
  generalize ((E.P.getD S.top.g default).vars.length + r : Nat) = c at *
  generalize E.B = B at *
  go_enter Tryz.func39, Tryz.ntmps39
  go_wp2_with (first
    | (go_at_call 58; refine Calls.mono (HC.out _ 0 rfl) ?_; rintro e w1 ⟨rfl, kq, rfl⟩)
    | (go_at_call 51; refine Calls.mono (HF.out _ _ rfl) ?_; rintro e w1 ⟨rfl, kr, rfl⟩))
  go_ret
  exact ⟨rfl, _, rfl⟩
set_option maxRecDepth 100000 in
set_option maxHeartbeats 2000000 in
theorem row_some {E : Env} {w : World} {V : Vals} {ss : List Slot} {S : St} (h : Rn E w V ss S) {m : Nat} {l : List Int} {r : Nat} (ha : AsksA E S m l r) {i : Nat} (hi : S.find ((E.P.getD S.top.g default).vars.length + r) = i + 1) {f sz rb rc : Nat} (hf : (S.kept.getD i default).word = (f : Int)) (hsz : ((E.P.getD S.top.g default).arrs.getD r default).2 = (sz : Int)) (hs0 : 0 < sz) (hrl : f + sz ≤ S.rows.length) (hrv : V.rv = .slice (some ⟨rb, 0, none⟩) S.rows.length rc) (hrc : S.rows.length ≤ rc) :
    Calls Tryz.prog 39 #[ptr E.B, .int .i64 (r : Int)] w fun e w' => e = .returned (.slice (some ⟨rb, f, none⟩) sz (rc - f)) ∧ ∃ k, w' = w.drewN k := by
  have HC : Hid (∀ W k, W = w.drewN k → Calls Tryz.prog 58 #[ptr E.B, .int .i64 (r : Int)] W fun e w' => e = .returned (.int .i64 (((E.P.getD S.top.g default).vars.length + r : Nat) : Int)) ∧ ∃ k, w' = W.drewN k) := fun W k hW => by subst hW; exact cell_any (h.drewN k) ha.hm ha.hmb ha.gl r ha.rl
  have HF : Hid (∀ W k, W = w.drewN k → Calls Tryz.prog 51 #[ptr E.B, .int .i64 (((E.P.getD S.top.g default).vars.length + r : Nat) : Int)] W fun e w' => e = .returned (.int .i64 ((i : Int) + 1)) ∧ ∃ k, w' = W.drewN k) := fun W k hW => by
    subst hW
    have := find_any (h.drewN k) ha.hm ha.hmb ha.hg ((E.P.getD S.top.g default).vars.length + r) (by have := ha.ll; have := ha.rl; unfold cellsOf at *; omega) (ha.nn _).1
    rw [hi] at this
    simpa using this
  have HS : Hid (∀ W k, W = w.drewN k → Calls Tryz.prog 57 #[ptr E.B, .int .i64 (r : Int)] W fun e w' => e = .returned (.int .i64 (sz : Int)) ∧ ∃ k, w' = W.drewN k) := fun W k hW => by subst hW; rw [← hsz]; exact size_any (h.drewN k) ha.hm ha.hmb ha.gl r ha.rl
  have hle := ha.toAsks.find_le ((E.P.getD S.top.g default).vars.length + r)
  rw [hi] at hle
  obtain ⟨b0, b1, b2, b3, b4, b5, b6, b7, b8, b9, b10, b11, b12, b13⟩ := h.box
  obtain ⟨kb, kc, hkv, hk1, hk2, hkb, _, _, k2, _⟩ := h.setting (i := i) (by omega)
  rw [hkv] at b5
  rw [hrv] at b6
  rw [hf] at k2
  have hil : (i : Int) < S.kept.length := by omega
  have hib : (i : Int) ≤ 9223372036854775806 := by unfold maxLen at hk2; omega
  have hs1 := u64_from (g := rb) (o := 0) (n := S.rows.length) (c := rc) (f := f) (by omega) (by omega)
  have hs2 := u64_to (g := rb) (o := 0 + f) (n := S.rows.length - f) (c := rc - f) (f := sz) (by omega)
  rw [Nat.zero_add] at hs1 hs2
  clear h ha hi hle hkv hk1 hk2 hf hsz hs0 hrl hrv hrc b0 b1 b2 b3 b4 b7 b8 b9 b10 b11 b12 b13
  generalize ((E.P.getD S.top.g default).vars.length + r : Nat) = c at *
  generalize E.B = B at *
  generalize S.kept.length = kl at *
  generalize S.rows.length = rl at *
  generalize rc - f = rcf at *
  generalize rl - f = rlf at *
  go_enter Tryz.func39, Tryz.ntmps39
  go_wp2_with (first
    | (go_at_call 58; refine Calls.mono (HC.out _ 0 rfl) ?_; rintro e w1 ⟨rfl, kq, rfl⟩)
    | (go_at_call 51; refine Calls.mono (HF.out _ _ rfl) ?_; rintro e w1 ⟨rfl, kr, rfl⟩))
  go_quiet ((go_at_call 57; exact quiet_add2 (HS.out _ _ rfl)))
  go_wp2
  go_ret
  exact ⟨rfl, kq + kr + nq, by rw [World.drewN_drewN]⟩
end Go.Proofs.YtdgpdmohfnealaaGreatDoor
