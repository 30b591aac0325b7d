/- The runner in memory. -/
import Derived.Test.YtdgpdmohfnealaaGreatDoorGLibM
import Derived.Test.YtdgpdmohfnealaaGreatDoorGAhd2M
import Derived.BigQuiet
import Derived.Test.YtdgpdmohfnealaaGreatDoorGBoxM
namespace Go.Proofs.YtdgpdmohfnealaaGreatDoor
open Go.RowKit

abbrev wordV (k : Int) : Value := .int .u64 k
def clCells (c : Cl) : List Value := [intV c.g, intV c.b, intV c.nx, intV c.k, intV c.r]
def sgCells (s : Sg) : List Value := [intV s.cell, intV s.old, wordV s.word]
def shCells (s : Int × Int) : List Value := [bytV s.1, wordV s.2]
def prCells (p : Value × Value) : List Value := [p.1, p.2]
structure Env where
  w0 : World
  B : Nat
  C : Nat
  ppv : Value
  P : List Gr
  lim : Nat
  dep : Nat
structure Vals where
  cv : Value
  kv : Value
  rv : Value
  wv : Value
  sv : Value
  cl : List (Value × Value)
def rnCells (E : Env) (V : Vals) (S : St) : List Value := [E.ppv, intV E.lim, intV E.dep, .slice (some ⟨E.C, 0, none⟩) E.P.length E.P.length, V.cv, V.kv, V.rv, V.wv, V.sv, bytV S.fin, wordV S.val, bytV S.trap, intV S.steps, intV S.deep]
/-- Rows of blocks ahead, each its own row. -/
def AhIn (ss : List Slot) (i0 : Nat) (v : Value) (rows : List (List Int)) : Prop :=
  ∃ (j : Nat) (kvs : List Value) (g : Nat), i0 ≤ j ∧ v = .slice (some ⟨g, 0, none⟩) rows.length rows.length ∧ ss[j]? = some ⟨v, 34, 1, rows.length, kvs⟩ ∧ kvs.length = rows.length ∧
    ∀ (b : Nat) (r : List Int) (kv : Value), rows[b]? = some r → kvs[b]? = some kv → ss[j + 1 + b]? = some ⟨kv, 3, 1, r.length, r.map intV⟩
structure Rn (E : Env) (w : World) (V : Vals) (ss : List Slot) (S : St) : Prop where
  low : Below E.w0.heap.size E.w0 w
  prog : GrsAt E.w0 E.ppv E.P
  heap : Heap w E.w0.heap.size ss
  s0 : ss[0]? = some ⟨.slice (some ⟨E.B, 0, none⟩) 1 1, 64, 14, 1, rnCells E V S⟩
  s1 : ss[1]? = some ⟨.slice (some ⟨E.C, 0, none⟩) E.P.length E.P.length, 89, 2, E.P.length, flat prCells V.cl⟩
  s2 : ss[2]? = some ⟨V.cv, 76, 5, S.calls.length, flat clCells S.calls⟩
  s3 : ss[3]? = some ⟨V.kv, 113, 3, S.kept.length, flat sgCells S.kept⟩
  s4 : ss[4]? = some ⟨V.rv, 24, 1, S.rows.length, S.rows.map wordV⟩
  s5 : ∃ ws : List Int, ss[5]? = some ⟨V.wv, 24, 1, ws.length, ws.map wordV⟩
  s6 : ss[6]? = some ⟨V.sv, 54, 2, S.shows.length, flat shCells S.shows⟩
  cll : V.cl.length = E.P.length
  nwl : S.nw.length = E.P.length
  news : ∀ (i : Nat) (l : List Int), S.nw[i]? = some (some l) → ∃ (a : Value) (N : Nat), V.cl[i]? = some (a, .slice (some ⟨N, 0, none⟩) l.length l.length) ∧ ss[7 + i]? = some ⟨.slice (some ⟨N, 0, none⟩) l.length l.length, 3, 1, l.length, l.map intV⟩ ∧ AhIn ss (7 + E.P.length) a (aheadT (tms (E.P.getD i default).blocks))
  none : ∀ (i : Nat), S.nw[i]? = some Option.none → V.cl[i]? = some (.slice Option.none 0 0, .slice Option.none 0 0) ∧ ss[7 + i]? = some ⟨.slice Option.none 0 0, 3, 1, 0, []⟩
theorem clCells_len (c : Cl) : (clCells c).length = 5 := rfl
theorem sgCells_len (c : Sg) : (sgCells c).length = 3 := rfl
theorem shCells_len (c : Int × Int) : (shCells c).length = 2 := rfl
theorem prCells_len (c : Value × Value) : (prCells c).length = 2 := rfl
theorem Rn.drewN {E : Env} {w : World} {V : Vals} {ss : List Slot} {S : St} (h : Rn E w V ss S) (k : Nat) : Rn E (w.drewN k) V ss S :=
  ⟨below_drewN h.low k, h.prog, h.heap.same rfl, h.s0, h.s1, h.s2, h.s3, h.s4, h.s5, h.s6, h.cll, h.nwl, h.news, h.none⟩
theorem Rn.drew {E : Env} {w : World} {V : Vals} {ss : List Slot} {S : St} (h : Rn E w V ss S) : Rn E w.drew V ss S :=
  ⟨below_drew h.low, h.prog, h.heap.same rfl, h.s0, h.s1, h.s2, h.s3, h.s4, h.s5, h.s6, h.cll, h.nwl, h.news, h.none⟩
theorem Rn.alloc {E : Env} {w : World} {V : Vals} {ss : List Slot} {S : St} (h : Rn E w V ss S) (o : Obj) : Rn E (w.alloc o) V ss S :=
  ⟨below_alloc h.low o, h.prog, h.heap.below (below_alloc (Below.refl _ _) o), h.s0, h.s1, h.s2, h.s3, h.s4, h.s5, h.s6, h.cll, h.nwl, h.news, h.none⟩
theorem Rn.below {E : Env} {w w' : World} {V : Vals} {ss : List Slot} {S : St} (h : Rn E w V ss S) (hb : Below w.heap.size w w') : Rn E w' V ss S :=
  ⟨below_trans h.low hb, h.prog, h.heap.below hb, h.s0, h.s1, h.s2, h.s3, h.s4, h.s5, h.s6, h.cll, h.nwl, h.news, h.none⟩
/-- The runner's own cells. -/
theorem Rn.box {E : Env} {w : World} {V : Vals} {ss : List Slot} {S : St} (h : Rn E w V ss S) : w.cell? ⟨E.B, 0, Option.none⟩ = some E.ppv ∧ w.cell? ⟨E.B, 1, Option.none⟩ = some (intV E.lim) ∧ w.cell? ⟨E.B, 2, Option.none⟩ = some (intV E.dep) ∧ w.cell? ⟨E.B, 3, Option.none⟩ = some (.slice (some ⟨E.C, 0, Option.none⟩) E.P.length E.P.length) ∧ w.cell? ⟨E.B, 4, Option.none⟩ = some V.cv ∧ w.cell? ⟨E.B, 5, Option.none⟩ = some V.kv ∧ w.cell? ⟨E.B, 6, Option.none⟩ = some V.rv ∧ w.cell? ⟨E.B, 7, Option.none⟩ = some V.wv ∧ w.cell? ⟨E.B, 8, Option.none⟩ = some V.sv ∧ w.cell? ⟨E.B, 9, Option.none⟩ = some (bytV S.fin) ∧ w.cell? ⟨E.B, 10, Option.none⟩ = some (wordV S.val) ∧ w.cell? ⟨E.B, 11, Option.none⟩ = some (bytV S.trap) ∧ w.cell? ⟨E.B, 12, Option.none⟩ = some (intV S.steps) ∧ w.cell? ⟨E.B, 13, Option.none⟩ = some (intV S.deep) :=
  ⟨h.heap.cell h.s0 rfl, h.heap.cell h.s0 rfl, h.heap.cell h.s0 rfl, h.heap.cell h.s0 rfl, h.heap.cell h.s0 rfl, h.heap.cell h.s0 rfl, h.heap.cell h.s0 rfl, h.heap.cell h.s0 rfl, h.heap.cell h.s0 rfl, h.heap.cell h.s0 rfl, h.heap.cell h.s0 rfl, h.heap.cell h.s0 rfl, h.heap.cell h.s0 rfl, h.heap.cell h.s0 rfl⟩
/-- The last call's cells. -/
theorem Rn.last {E : Env} {w : World} {V : Vals} {ss : List Slot} {S : St} (h : Rn E w V ss S) {m : Nat} (hm : S.calls.length = m + 1) : ∃ cb cc, V.cv = .slice (some ⟨cb, 0, Option.none⟩) (m + 1) cc ∧ m + 1 ≤ cc ∧ cc ≤ maxLen ∧ cb < w.heap.size ∧ w.cell? ⟨cb, m * 5, Option.none⟩ = some (intV S.top.g) ∧ w.cell? ⟨cb, m * 5 + 1, Option.none⟩ = some (intV S.top.b) ∧ w.cell? ⟨cb, m * 5 + 2, Option.none⟩ = some (intV S.top.nx) ∧ w.cell? ⟨cb, m * 5 + 3, Option.none⟩ = some (intV S.top.k) ∧ w.cell? ⟨cb, m * 5 + 4, Option.none⟩ = some (intV S.top.r) := by
  have h2 := h.s2
  rcases own_shape (h.heap.own 2 _ h2) with ⟨_, h0⟩ | ⟨cb, cc, hv, h3, h4, h5, h6⟩
  · dsimp only at h0; omega
  · dsimp only at hv h3
    rw [hm] at hv h3
    have e1 : S.calls[m]? = some S.top := by
      unfold St.top
      rw [List.getLastD_eq_getLast?, List.getLast?_eq_getElem?, hm]
      simp [List.getElem?_eq_getElem (show m < S.calls.length by omega)]
    rw [hv, hm] at h2
    have hc := fun (j : Nat) (u : Value) (hu : (clCells S.top)[j]? = some u) => h.heap.cell h2 (flat_at clCells_len S.calls m j S.top u e1 hu)
    exact ⟨cb, cc, hv, h3, h4, h6, hc 0 _ rfl, hc 1 _ rfl, hc 2 _ rfl, hc 3 _ rfl, hc 4 _ rfl⟩
/-- The newest settings of a graph that was called. -/
theorem Rn.new {E : Env} {w : World} {V : Vals} {ss : List Slot} {S : St} (h : Rn E w V ss S) {g : Nat} {l : List Int} (hg : S.nw[g]? = some (some l)) : ∃ a N, g < E.P.length ∧ V.cl[g]? = some (a, .slice (some ⟨N, 0, Option.none⟩) l.length l.length) ∧ w.cell? ⟨E.C, g * 2, Option.none⟩ = some a ∧ w.cell? ⟨E.C, g * 2 + 1, Option.none⟩ = some (.slice (some ⟨N, 0, Option.none⟩) l.length l.length) ∧ (∀ c, c < l.length → w.cell? ⟨N, c, Option.none⟩ = some (intV (l.getD c 0))) ∧ (∀ c, w.frozen? ⟨N, c, Option.none⟩ = false) ∧ ss[7 + g]? = some ⟨.slice (some ⟨N, 0, Option.none⟩) l.length l.length, 3, 1, l.length, l.map intV⟩ ∧ AhIn ss (7 + E.P.length) a (aheadT (tms (E.P.getD g default).blocks)) := by
  obtain ⟨a, N, h1, h2, h3⟩ := h.news g l hg
  have hlt : g < E.P.length := by rw [← h.nwl]; exact (List.getElem?_eq_some_iff.1 hg).1
  refine ⟨a, N, hlt, h1, h.heap.cell h.s1 (flat_at prCells_len V.cl g 0 _ _ h1 rfl), h.heap.cell h.s1 (flat_at prCells_len V.cl g 1 _ _ h1 rfl), fun c hc => h.heap.cell h2 ?_, fun c => h.heap.fz h2 c, h2, h3⟩
  rw [List.getElem?_map, List.getElem?_eq_getElem hc]
  simp [List.getD, List.getElem?_eq_getElem hc]
end Go.Proofs.YtdgpdmohfnealaaGreatDoor
/- The runner's small steps: the last call, a cell's setting, its word; a step, an end. -/
namespace Go.Proofs.YtdgpdmohfnealaaGreatDoor
open Go.RowKit

theorem quiet_add2 {P : Program} {f : FuncId} {args : Array Value} {w : World} {a x : Nat} {v : Value} (h : Calls P f args (w.drewN (a + x)) fun e w' => e = .returned v ∧ ∃ k, w' = (w.drewN (a + x)).drewN k) : Calls P f args (w.drewN (a + x)) fun e w'' => e = .returned v ∧ ∃ n, w'' = w.drewN (a + n) :=
  h.mono fun _ _ ⟨he, k, hk⟩ => ⟨he, x + k, by rw [hk, World.drewN_drewN, Nat.add_assoc]⟩
/-- Where the last call lies. -/
structure Top (E : Env) (w : World) (V : Vals) (S : St) (m cb cc : Nat) : Prop where
  hm : S.calls.length = m + 1
  cv : V.cv = .slice (some ⟨cb, 0, none⟩) (m + 1) cc
  cap : m + 1 ≤ cc ∧ cc ≤ maxLen
  lt : cb < w.heap.size
set_option maxRecDepth 100000 in
theorem now_at (B cb m cc : Nat) (w : World) (hc : w.cell? ⟨B, 4, none⟩ = some (.slice (some ⟨cb, 0, none⟩) (m + 1) cc)) (hm : m + 1 ≤ 140737488355328) : Calls Tryz.prog 17 #[ptr B] w fun e w' => e = .returned (.pointer (some ⟨cb, m * 5, none⟩)) ∧ ∃ k, w' = w.drewN k := by
  go_enter Tryz.func17, Tryz.ntmps17
  go_wp2
  go_quiet (fail)
  go_wp2
  go_ret
  exact ⟨rfl, _, rfl⟩
theorem maxLen_le {c m : Nat} (h1 : m ≤ c) (h2 : c ≤ maxLen) : m ≤ 9223372036854775807 := by unfold maxLen at h2; omega
set_option maxRecDepth 100000 in
set_option maxHeartbeats 1000000 in
theorem find_any {E : Env} {w : World} {V : Vals} {ss : List Slot} {S : St} (h : Rn E w V ss S) {m : Nat} (hm : S.calls.length = m + 1) (hmb : m + 1 ≤ 140737488355328) {l : List Int} (hg : S.nw[S.top.g]? = some (some l)) (c : Nat) (hc : c < l.length) (hn : 0 ≤ l.getD c 0) :
    Calls Tryz.prog 51 #[ptr E.B, .int .i64 (c : Int)] w fun e w' => e = .returned (.int .i64 (S.find c : Int)) ∧ ∃ k, w' = w.drewN k := by
  obtain ⟨b0, b1, b2, b3, b4, b5, b6, b7, b8, b9, b10, b11, b12, b13⟩ := h.box
  obtain ⟨cb, cc, hcv, hcap1, hcap2, hcb, t0, t1, t2, t3, t4⟩ := h.last hm
  obtain ⟨a, N, hgl, hcl, k0, k1, kc, kf, _, _⟩ := h.new hg
  rw [hcv] at b4
  have kcc := kc c hc
  have hrow : S.row S.top.g = l := by unfold St.row; rw [List.getD, hg]; rfl
  have HF : Hid (S.find c = if (S.top.k : Int) < l.getD c 0 then (l.getD c 0).toNat else 0) := by show _ = _; unfold St.find; rw [hrow]
  generalize S.find c = r at *
  generalize hq : l.getD c 0 = q at *
  obtain ⟨q', rfl⟩ : ∃ q' : Nat, q = (q' : Int) := Int.eq_ofNat_of_zero_le hn
  have HNW : Hid (∀ W k, W = w.drewN k → Calls Tryz.prog 17 #[ptr E.B] W fun e w' => e = .returned (.pointer (some ⟨cb, m * 5, none⟩)) ∧ ∃ k, w' = W.drewN k) := fun W k hW => now_at E.B cb m cc W (by rw [hW]; exact b4) hmb
  generalize E.P.length = n at *
  generalize E.B = B at *
  generalize E.C = C at *
  generalize S.top.g = tg at *
  generalize S.top.k = tk at *
  have hgl' : (tg : Int) < n := by omega
  have hc' : (c : Int) < l.length := by omega
  generalize l.length = ll at *
  clear h hm hcap1 hcap2 hcl kc kf hrow hcv hg hq hn b0 b1 b2 b5 b6 b7 b8 b9 b10 b11 b12 b13 t1 t2 t4 k0
  by_cases hlt : (tk : Int) < (q' : Int)
  · have HR : Hid (r = q') := by show r = q'; rw [HF.out, if_pos hlt]; rfl
    go_enter Tryz.func51, Tryz.ntmps51
    go_wp2_with (go_at_call 17; refine Calls.mono (HNW.out _ 0 rfl) ?_; rintro e w1 ⟨rfl, kq, rfl⟩)
    go_quiet (fail)
    go_wp2
    go_ret
    exact ⟨ret_int (by rw [HR.out]), _, rfl⟩
  · have HR : Hid (r = 0) := by show r = 0; rw [HF.out, if_neg hlt]
    go_enter Tryz.func51, Tryz.ntmps51
    go_wp2_with (go_at_call 17; refine Calls.mono (HNW.out _ 0 rfl) ?_; rintro e w1 ⟨rfl, kq, rfl⟩)
    go_quiet (fail)
    go_wp2
    go_ret
    exact ⟨ret_int (by rw [HR.out]; rfl), _, rfl⟩
end Go.Proofs.YtdgpdmohfnealaaGreatDoor
/- The runner's small steps: a cell's word; types, cells, sizes; a step, an end. -/
namespace Go.Proofs.YtdgpdmohfnealaaGreatDoor
open Go.RowKit

/-- What the last call may ask of. -/
structure Asks (E : Env) (S : St) (m : Nat) (l : List Int) : Prop where
  hm : S.calls.length = m + 1
  hmb : m + 1 ≤ 140737488355328
  hg : S.nw[S.top.g]? = some (some l)
  nn : ∀ c, 0 ≤ l.getD c 0 ∧ l.getD c 0 ≤ (S.kept.length : Int)
theorem Asks.find_le {E : Env} {S : St} {m : Nat} {l : List Int} (h : Asks E S m l) (c : Nat) : S.find c ≤ S.kept.length := by
  unfold St.find
  have hrow : S.row S.top.g = l := by unfold St.row; rw [List.getD, h.hg]; rfl
  rw [hrow]
  have := h.nn c
  split <;> omega
theorem Rn.setting {E : Env} {w : World} {V : Vals} {ss : List Slot} {S : St} (h : Rn E w V ss S) {i : Nat} (hi : i < S.kept.length) : ∃ kb kc, V.kv = .slice (some ⟨kb, 0, Option.none⟩) S.kept.length kc ∧ S.kept.length ≤ kc ∧ kc ≤ maxLen ∧ kb < w.heap.size ∧ w.cell? ⟨kb, i * 3, Option.none⟩ = some (intV (S.kept.getD i default).cell) ∧ w.cell? ⟨kb, i * 3 + 1, Option.none⟩ = some (intV (S.kept.getD i default).old) ∧ w.cell? ⟨kb, i * 3 + 2, Option.none⟩ = some (wordV (S.kept.getD i default).word) ∧ ∀ j, w.frozen? ⟨kb, j, Option.none⟩ = false := by
  have h2 := h.s3
  rcases own_shape (h.heap.own 3 _ h2) with ⟨_, h0⟩ | ⟨cb, cc, hv, h3, h4, h5, h6⟩
  · dsimp only at h0; omega
  · dsimp only at hv h3
    rw [hv] at h2
    have e1 : S.kept[i]? = some (S.kept.getD i default) := by rw [List.getD, List.getElem?_eq_getElem hi]; rfl
    have hc := fun (j : Nat) (u : Value) (hu : (sgCells (S.kept.getD i default))[j]? = some u) => h.heap.cell h2 (flat_at sgCells_len S.kept i j _ u e1 hu)
    exact ⟨cb, cc, hv, h3, h4, h6, hc 0 _ rfl, hc 1 _ rfl, hc 2 _ rfl, fun j => h.heap.fz h2 j⟩
set_option maxRecDepth 100000 in
set_option maxHeartbeats 1000000 in
theorem get_any {E : Env} {w : World} {V : Vals} {ss : List Slot} {S : St} (h : Rn E w V ss S) {m : Nat} {l : List Int} (ha : Asks E S m l) (c : Nat) (hc : c < l.length) :
    Calls Tryz.prog 33 #[ptr E.B, .int .i64 (c : Int)] w fun e w' => e = .returned (.int .u64 (S.get c)) ∧ ∃ k, w' = w.drewN k := by
  have HF : Hid (∀ W k, W = w.drewN k → Calls Tryz.prog 51 #[ptr E.B, .int .i64 (c : Int)] W fun e w' => e = .returned (.int .i64 (S.find c : Int)) ∧ ∃ k, w' = W.drewN k) := fun W k hW => by subst hW; exact find_any (h.drewN k) ha.hm ha.hmb ha.hg c hc (ha.nn c).1
  obtain ⟨b0, b1, b2, b3, b4, b5, b6, b7, b8, b9, b10, b11, b12, b13⟩ := h.box
  have hle := ha.find_le c
  have HG : Hid (S.get c = if S.find c = 0 then 0 else (S.kept.getD (S.find c - 1) default).word) := rfl
  generalize S.get c = r at *
  by_cases h0 : S.find c = 0
  · rw [h0] at HF HG
    have HR : Hid (r = 0) := HG.out
    clear HG b0 b1 b2 b3 b4 b5 b6 b7 b8 b9 b10 b11 b12 b13 h ha hle h0
    generalize E.B = B at *
    go_enter Tryz.func33, Tryz.ntmps33
    go_wp2_with (go_at_call 51; refine Calls.mono (HF.out _ 0 rfl) ?_; rintro e w1 ⟨rfl, kq, rfl⟩)
    go_ret
    exact ⟨ret_u64 HR.out.symm, _, rfl⟩
  · obtain ⟨i, hi⟩ : ∃ i, S.find c = i + 1 := ⟨S.find c - 1, by omega⟩
    rw [hi] at HF HG hle
    obtain ⟨kb, kc, hkv, hk1, hk2, hkb, _, _, k2, _⟩ := h.setting (i := i) (by omega)
    rw [hkv] at b5
    have HR : Hid (r = (S.kept.getD i default).word) := by show _ = _; rw [HG.out, if_neg (by omega)]; rfl
    have hil : (i : Int) < S.kept.length := by omega
    have hi0 : ((i + 1 : Nat) : Int) = (i : Int) + 1 := by omega
    rw [hi0] at HF
    have hib : (i : Int) ≤ 9223372036854775806 := by unfold maxLen at hk2; omega
    clear HG b0 b1 b2 b3 b4 b6 b7 b8 b9 b10 b11 b12 b13 h ha hle h0 hi hkv hk1 hk2 hi0
    generalize E.B = B at *
    generalize S.kept.length = kl at *
    generalize (S.kept.getD i default).word = x at *
    go_enter Tryz.func33, Tryz.ntmps33
    go_wp2_with (go_at_call 51; refine Calls.mono (HF.out _ 0 rfl) ?_; rintro e w1 ⟨rfl, kq, rfl⟩)
    go_ret
    exact ⟨ret_u64 HR.out.symm, _, rfl⟩
set_option maxRecDepth 100000 in
theorem stop_at (B : Nat) (x y : Int) (w : World) (b9 : w.cell? ⟨B, 9, none⟩ = some (.int .u8 y)) (f9 : w.frozen? ⟨B, 9, none⟩ = false) : Calls Tryz.prog 29 #[ptr B, .int .u8 x] w fun e w' => e = .returned (.bool false) ∧ w' = w.setCell ⟨B, 9, none⟩ (.int .u8 x) := by
  go_enter Tryz.func29, Tryz.ntmps29
  go_wp2
  go_ret
  exact ⟨rfl, rfl⟩
end Go.Proofs.YtdgpdmohfnealaaGreatDoor
