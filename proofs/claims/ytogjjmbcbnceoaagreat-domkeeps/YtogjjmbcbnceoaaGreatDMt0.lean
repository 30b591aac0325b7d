/- A walk in memory. -/
import Derived.Test.YtogjjmbcbnceoaaGreatDNe2M
namespace Go.Proofs.YtogjjmbcbnceoaaGreat
open Go.RowKit Lt

theorem wpAnyL_steps {P : Program} {ops : Array Oper} {Q : Exit → Act → World → Prop} {S : World → Prop} {late : Nat → Bool} {m : Nat} (J : Nat → Array Bool → Act → World → Prop) (h0 : ∀ l a w, J 0 l a w → wpAnyL P ops Q S late m l a w)
    (hs : ∀ n l a w, J (n + 1) l a w → Region.ready .any ops l ≠ [] ∧ ∀ i ∈ Region.ready .any ops l, wpOp P ops Q i (fun a' w' => (late i = false → S w') ∧ J n (l.setIfInBounds i true) a' w') a w) : ∀ k l a w, J k l a w → wpAnyL P ops Q S late (m + k) l a w
  | 0, l, a, w, h => h0 l a w h
  | k + 1, l, a, w, h => by
    obtain ⟨h1, h2⟩ := hs k l a w h
    exact ⟨fun h3 => absurd h3 h1, fun i hi => wpOp_mono (fun a' w' h' => ⟨h'.1, wpAnyL_steps J h0 hs k _ a' w' h'.2⟩) (h2 i hi)⟩
theorem ready_all {P : Program} {ops : Array Oper} {Q : Exit → Act → World → Prop} {a : Act} {w : World} {l : Array Bool} {K : Nat → Act → World → Prop} (rs : List Nat) (hr : Region.ready .any ops l = rs) (hne : rs ≠ []) (h : ∀ i ∈ rs, wpOp P ops Q i (K i) a w) : Region.ready .any ops l ≠ [] ∧ ∀ i ∈ Region.ready .any ops l, wpOp P ops Q i (K i) a w := by rw [hr]; exact ⟨hne, h⟩
abbrev oneS (B : Nat) (t : TypeId) (cs : List Value) : Slot := ⟨.slice (some ⟨B, 0, none⟩) 1 1, t, cs.length, 1, cs⟩
structure WEnv where
  WB : Nat
  GB : Nat
  AB : Nat
  MB : Nat
  pg : Nat
  n : Nat
  mf : Value
structure WSt where
  at' : Int
  nsV : Value
  fsV : Value
  gsV : Value
  ns : List Int
  fs : List Int
  gs : List Int
  ps : List Int
def wsS (e : WEnv) (s : WSt) : List Slot :=
  [oneS e.WB 46 [s.nsV, s.fsV, slV e.pg e.n], oneS e.GB 23 [s.gsV], oneS e.AB 3 [intV s.at'], rowS s.nsV s.ns, rowS s.fsV s.fs, rowS s.gsV s.gs, rowM e.pg e.n s.ps, oneS e.MB 89 [e.mf]]
structure WAt (w : World) (base : Nat) (e : WEnv) (s : WSt) : Prop where
  hp : Heap w base (wsS e s)
  hb : base ≤ w.heap.size
theorem WAt.same {w w' : World} {base : Nat} {e : WEnv} {s : WSt} (h : WAt w base e s) (hw : w'.heap = w.heap) : WAt w' base e s := ⟨h.hp.same hw, by rw [hw]; exact h.hb⟩
theorem WAt.wb {w : World} {base : Nat} {e : WEnv} {s : WSt} (h : WAt w base e s) : w.cell? ⟨e.WB, 0, none⟩ = some s.nsV ∧ w.cell? ⟨e.WB, 1, none⟩ = some s.fsV ∧ w.cell? ⟨e.WB, 2, none⟩ = some (slV e.pg e.n) :=
  ⟨h.hp.cell (i := 0) (cs := [s.nsV, s.fsV, slV e.pg e.n]) rfl rfl, h.hp.cell (i := 0) (cs := [s.nsV, s.fsV, slV e.pg e.n]) rfl rfl, h.hp.cell (i := 0) (cs := [s.nsV, s.fsV, slV e.pg e.n]) rfl rfl⟩
theorem WAt.gb {w : World} {base : Nat} {e : WEnv} {s : WSt} (h : WAt w base e s) : w.cell? ⟨e.GB, 0, none⟩ = some s.gsV := h.hp.cell (i := 1) (cs := [s.gsV]) rfl rfl
theorem WAt.ab {w : World} {base : Nat} {e : WEnv} {s : WSt} (h : WAt w base e s) : w.cell? ⟨e.AB, 0, none⟩ = some (.int .i64 s.at') ∧ w.frozen? ⟨e.AB, 0, none⟩ = false := ⟨h.hp.cell (i := 2) (cs := [intV s.at']) rfl rfl, h.hp.fz (i := 2) (cs := [intV s.at']) rfl 0⟩
theorem WAt.mb {w : World} {base : Nat} {e : WEnv} {s : WSt} (h : WAt w base e s) : w.cell? ⟨e.MB, 0, none⟩ = some e.mf := h.hp.cell (i := 7) (cs := [e.mf]) rfl rfl
theorem WAt.p {w : World} {base : Nat} {e : WEnv} {s : WSt} (h : WAt w base e s) {i : Nat} {x : Int} (hx : s.ps[i]? = some x) : w.cell? ⟨e.pg, i, none⟩ = some (.int .i64 x) ∧ w.frozen? ⟨e.pg, i, none⟩ = false := ⟨h.hp.cell (i := 6) (e := 3) (sz := 1) (n := e.n) (c := e.n) (cs := s.ps.map intV) rfl (map_get hx), h.hp.fz (i := 6) (e := 3) (sz := 1) (n := e.n) (c := e.n) (cs := s.ps.map intV) rfl i⟩
theorem WAt.rn {w : World} {base : Nat} {e : WEnv} {s : WSt} (h : WAt w base e s) : w.ownsRow base 3 1 s.nsV s.ns.length (s.ns.map intV) := h.hp.own 3 _ rfl
theorem WAt.rf {w : World} {base : Nat} {e : WEnv} {s : WSt} (h : WAt w base e s) : w.ownsRow base 3 1 s.fsV s.fs.length (s.fs.map intV) := h.hp.own 4 _ rfl
theorem WAt.rg {w : World} {base : Nat} {e : WEnv} {s : WSt} (h : WAt w base e s) : w.ownsRow base 3 1 s.gsV s.gs.length (s.gs.map intV) := h.hp.own 5 _ rfl
theorem WAt.setP {w : World} {base : Nat} {e : WEnv} {s : WSt} (h : WAt w base e s) (i : Nat) (x : Int) : WAt (w.setCell ⟨e.pg, i, none⟩ (.int .i64 x)) base e { s with ps := s.ps.set i x } := by
  refine ⟨?_, set_sz h.hb _ _⟩
  have := h.hp.store (i := 6) (g := e.pg) (n := e.n) (c := e.n) (e := 3) (sz := 1) (cs := s.ps.map intV) rfl i (.int .i64 x)
  unfold wsS at this ⊢
  simp only [List.set_cons_succ, List.set_cons_zero] at this
  rw [show (⟨slV e.pg e.n, 3, 1, e.n, (s.ps.map intV).set i (.int .i64 x)⟩ : Slot) = rowM e.pg e.n (s.ps.set i x) by simp [rowM, List.map_set]] at this
  exact this
theorem WAt.setAt {w : World} {base : Nat} {e : WEnv} {s : WSt} (h : WAt w base e s) (x : Int) : WAt (w.setCell ⟨e.AB, 0, none⟩ (.int .i64 x)) base e { s with at' := x } := by
  refine ⟨?_, set_sz h.hb _ _⟩
  have := h.hp.store (i := 2) (g := e.AB) (n := 1) (c := 1) (e := 3) (sz := 1) (cs := [intV s.at']) rfl 0 (.int .i64 x)
  exact this
theorem WAt.setG {w : World} {base : Nat} {e : WEnv} {s : WSt} {gg gc : Nat} (hg : s.gsV = .slice (some ⟨gg, 0, none⟩) s.gs.length gc) (h : WAt w base e s) (i : Nat) (x : Int) : WAt (w.setCell ⟨gg, i, none⟩ (.int .i64 x)) base e { s with gs := s.gs.set i x } := by
  refine ⟨?_, set_sz h.hb _ _⟩
  have h5 : (wsS e s)[5]? = some ⟨.slice (some ⟨gg, 0, none⟩) s.gs.length gc, 3, 1, s.gs.length, s.gs.map intV⟩ := by
    show some (rowS s.gsV s.gs) = _
    rw [hg]
  have := h.hp.store h5 i (.int .i64 x)
  unfold wsS at this ⊢
  simp only [List.set_cons_succ, List.set_cons_zero] at this
  rw [show (⟨.slice (some ⟨gg, 0, none⟩) s.gs.length gc, 3, 1, s.gs.length, (s.gs.map intV).set i (.int .i64 x)⟩ : Slot) = rowS s.gsV (s.gs.set i x) by rw [hg]; simp [rowS, List.map_set]] at this
  exact this
/-- While three rows grow. -/
def meS (e : WEnv) (s : WSt) (N F G L1 L2 L3 : Slot) : List Slot :=
  [oneS e.WB 46 [s.nsV, s.fsV, slV e.pg e.n], oneS e.GB 23 [s.gsV], oneS e.AB 3 [intV s.at'], N, F, G, rowM e.pg e.n s.ps, oneS e.MB 89 [e.mf], L1, L2, L3]
theorem Heap.build {w : World} {base : Nat} {ss : List Slot} (h : Heap w base ss) (hb : base ≤ w.heap.size) {l : Nat} (hl : ss[l]? = some (rowS nilV [])) (x : Int) : Heap (w.alloc (.cells #[.int .i64 x] 3)) base (ss.set l (rowS (slV w.heap.size 1) [x])) := by
  have hB := below_alloc (Below.refl _ w) (.cells #[.int .i64 x] 3)
  refine h.turn hl (fun k hk _ => hB.block k hk) ?_ (fun g hg => .inr ?_)
  · exact World.ownsRow_lit (base := base) (e := 3) (size := 1) w #[.int .i64 x] 1 hb (by unfold maxLen; omega) (by simp)
  · have h9 : w.heap.size = g := by simpa [Value.ownBlock] using hg
    omega
theorem Heap.app {w : World} {base : Nat} {ss : List Slot} (h : Heap w base ss) (hb : base ≤ w.heap.size) {r l g : Nat} {xv : Value} {xs : List Int} {x : Int} (hr : ss[r]? = some (rowS xv xs)) (hl : ss[l]? = some (rowS (slV g 1) [x])) (hx : xs.length ≤ 10000000) :
    ∃ q cc w', (∀ ty, (Builtin.append_ #[23, 23] ty #[xv, slV g 1]).run Tryz.prog w = .ok (.slice (some ⟨q, 0, none⟩) (xs.length + 1) cc) w') ∧ Heap w' base (ss.set r (rowS (.slice (some ⟨q, 0, none⟩) (xs.length + 1) cc) (xs ++ [x]))) ∧ Below base w w' := by
  have hc : w.cell? ⟨g, 0, none⟩ = some (.int .i64 x) := h.cell hl rfl
  obtain ⟨q, cc, w', h1, h2, h3, h4⟩ := app_one w 23 base xv xs x g xs.length rfl (h.own r _ hr) hc (by omega) hb
  refine ⟨q, cc, w', fun ty => ?_, ?_, ?_⟩
  · obtain ⟨q5, cc5, w5, k1, _⟩ := app_one w ty base xv xs x g xs.length rfl (h.own r _ hr) hc (by omega) hb
    have e : (Builtin.append_ #[23, 23] ty #[xv, slV g 1]).run Tryz.prog w = (Builtin.append_ #[23, 23] 23 #[xv, slV g 1]).run Tryz.prog w := rfl
    rw [e]
    exact h1
  · refine h.grow hr ?_ h3 h4
    show World.ownsRow _ _ _ _ _ _ _
    simpa using h2
  · have hown : w.ownsRow base 3 1 xv xs.length (xs.map intV) := h.own r _ hr
    exact bel_grown (Below.refl _ w) hb h3 (fun g e => (hown.lt g e).1)
/-- One of the three: 0, nothing yet; 1, its one number lies there; 2, the row is longer. -/
def ChM (c : Nat) (xv : Value) (xs : List Int) (x : Int) (tl tr : Value) (sr sl : Slot) : Prop :=
  match c with
  | 0 => sr = rowS xv xs ∧ sl = rowS nilV []
  | 1 => sr = rowS xv xs ∧ ∃ g, tl = slV g 1 ∧ sl = rowS (slV g 1) [x]
  | _ => ∃ q cc, tr = .slice (some ⟨q, 0, none⟩) (xs.length + 1) cc ∧ sr = rowS (.slice (some ⟨q, 0, none⟩) (xs.length + 1) cc) (xs ++ [x])
def lstM (c1 c2 c3 : Nat) : Array Bool := #[true, true, true, decide (1 ≤ c1), decide (2 ≤ c1), true, true, true, decide (1 ≤ c2), decide (2 ≤ c2), true, decide (1 ≤ c3), decide (2 ≤ c3), false, false, false, false, false]
structure MeAt (w0 w : World) (base : Nat) (e : WEnv) (s : WSt) (v : Int) (c1 c2 c3 : Nat) (t15 t16 t20 t21 t23 t24 : Value) : Prop where
  ex : ∃ N F G L1 L2 L3, ChM c1 s.nsV s.ns v t15 t16 N L1 ∧ ChM c2 s.fsV s.fs s.at' t20 t21 F L2 ∧ ChM c3 s.gsV s.gs 0 t23 t24 G L3 ∧ Heap w base (meS e s N F G L1 L2 L3)
  hb : base ≤ w.heap.size
  bel : Below base w0 w
def SM (e : WEnv) (s : WSt) (w : World) : Prop := w.cell? ⟨e.WB, 0, none⟩ = some s.nsV ∧ w.cell? ⟨e.WB, 1, none⟩ = some s.fsV ∧ w.cell? ⟨e.AB, 0, none⟩ = some (.int .i64 s.at') ∧ w.cell? ⟨e.GB, 0, none⟩ = some s.gsV
theorem MeAt.s {w0 w : World} {base : Nat} {e : WEnv} {s : WSt} {v : Int} {c1 c2 c3 : Nat} {t15 t16 t20 t21 t23 t24 : Value} (h : MeAt w0 w base e s v c1 c2 c3 t15 t16 t20 t21 t23 t24) : SM e s w := by
  obtain ⟨N, F, G, L1, L2, L3, _, _, _, hp⟩ := h.ex
  exact ⟨hp.cell (i := 0) (cs := [s.nsV, s.fsV, slV e.pg e.n]) rfl rfl, hp.cell (i := 0) (cs := [s.nsV, s.fsV, slV e.pg e.n]) rfl rfl, hp.cell (i := 2) (cs := [intV s.at']) rfl rfl, hp.cell (i := 1) (cs := [s.gsV]) rfl rfl⟩
theorem MeAt.fz {w0 w : World} {base : Nat} {e : WEnv} {s : WSt} {v : Int} {c1 c2 c3 : Nat} {t15 t16 t20 t21 t23 t24 : Value} (h : MeAt w0 w base e s v c1 c2 c3 t15 t16 t20 t21 t23 t24) : w.frozen? ⟨e.WB, 0, none⟩ = false ∧ w.frozen? ⟨e.WB, 1, none⟩ = false ∧ w.frozen? ⟨e.GB, 0, none⟩ = false ∧ (base ≤ e.WB ∧ base ≤ e.GB ∧ base ≤ e.AB) ∧ ¬ e.WB = e.GB ∧ ¬ e.GB = e.WB := by
  obtain ⟨N, F, G, L1, L2, L3, _, _, _, hp⟩ := h.ex
  have hne : ¬ e.WB = e.GB := fun h9 => hp.apart 0 1 (oneS e.WB 46 [s.nsV, s.fsV, slV e.pg e.n]) (oneS e.GB 23 [s.gsV]) e.WB (by decide) rfl rfl rfl (by simp [Value.ownBlock, h9])
  exact ⟨hp.fz (i := 0) (cs := [s.nsV, s.fsV, slV e.pg e.n]) rfl 0, hp.fz (i := 0) (cs := [s.nsV, s.fsV, slV e.pg e.n]) rfl 1, hp.fz (i := 1) (cs := [s.gsV]) rfl 0, ⟨(hp.lt (i := 0) (cs := [s.nsV, s.fsV, slV e.pg e.n]) rfl).1, (hp.lt (i := 1) (cs := [s.gsV]) rfl).1, (hp.lt (i := 2) (cs := [intV s.at']) rfl).1⟩, hne, fun h9 => hne h9.symm⟩
theorem MeAt.b1 {w0 w : World} {base : Nat} {e : WEnv} {s : WSt} {v : Int} {c2 c3 : Nat} {t15 t16 t20 t21 t23 t24 : Value} (h : MeAt w0 w base e s v 0 c2 c3 t15 t16 t20 t21 t23 t24) (hB : base ≤ w0.heap.size) : MeAt w0 (w.alloc (.cells #[.int .i64 v] 3)) base e s v 1 c2 c3 (slV w.heap.size 1) t16 t20 t21 t23 t24 := by
  obtain ⟨N, F, G, L1, L2, L3, ⟨h1, h2⟩, h3, h4, hp⟩ := h.ex
  subst h1; subst h2
  have hq := hp.build h.hb (l := 8) rfl v
  exact ⟨⟨_, _, _, _, _, _, ⟨rfl, _, rfl, rfl⟩, h3, h4, hq⟩, by have := h.hb; simp; omega, bel_alloc h.bel hB _⟩
theorem MeAt.b2 {w0 w : World} {base : Nat} {e : WEnv} {s : WSt} {v : Int} {c1 c3 : Nat} {t15 t16 t20 t21 t23 t24 : Value} (h : MeAt w0 w base e s v c1 0 c3 t15 t16 t20 t21 t23 t24) (hB : base ≤ w0.heap.size) : MeAt w0 (w.alloc (.cells #[.int .i64 s.at'] 3)) base e s v c1 1 c3 t15 t16 (slV w.heap.size 1) t21 t23 t24 := by
  obtain ⟨N, F, G, L1, L2, L3, h3, ⟨h1, h2⟩, h4, hp⟩ := h.ex
  subst h1; subst h2
  have hq := hp.build h.hb (l := 9) rfl s.at'
  exact ⟨⟨_, _, _, _, _, _, h3, ⟨rfl, _, rfl, rfl⟩, h4, hq⟩, by have := h.hb; simp; omega, bel_alloc h.bel hB _⟩
theorem MeAt.b3 {w0 w : World} {base : Nat} {e : WEnv} {s : WSt} {v : Int} {c1 c2 : Nat} {t15 t16 t20 t21 t23 t24 : Value} (h : MeAt w0 w base e s v c1 c2 0 t15 t16 t20 t21 t23 t24) (hB : base ≤ w0.heap.size) : MeAt w0 (w.alloc (.cells #[.int .i64 0] 3)) base e s v c1 c2 1 t15 t16 t20 t21 (slV w.heap.size 1) t24 := by
  obtain ⟨N, F, G, L1, L2, L3, h3, h4, ⟨h1, h2⟩, hp⟩ := h.ex
  subst h1; subst h2
  have hq := hp.build h.hb (l := 10) rfl 0
  exact ⟨⟨_, _, _, _, _, _, h3, h4, ⟨rfl, _, rfl, rfl⟩, hq⟩, by have := h.hb; simp; omega, bel_alloc h.bel hB _⟩
theorem MeAt.a1 {w0 w : World} {base : Nat} {e : WEnv} {s : WSt} {v : Int} {c2 c3 : Nat} {t15 t16 t20 t21 t23 t24 : Value} (h : MeAt w0 w base e s v 1 c2 c3 t15 t16 t20 t21 t23 t24) (hl : s.ns.length ≤ 10000000) : ∃ q cc w', (∀ ty, (Builtin.append_ #[23, 23] ty #[s.nsV, t15]).run Tryz.prog w = .ok (.slice (some ⟨q, 0, none⟩) (s.ns.length + 1) cc) w') ∧ MeAt w0 w' base e s v 2 c2 c3 t15 (.slice (some ⟨q, 0, none⟩) (s.ns.length + 1) cc) t20 t21 t23 t24 := by
  obtain ⟨N, F, G, L1, L2, L3, ⟨h1, g, h5, h2⟩, h3, h4, hp⟩ := h.ex
  subst h1; subst h2; subst h5
  obtain ⟨q, cc, w', k1, k2, k3⟩ := hp.app h.hb (r := 3) (l := 8) rfl rfl hl
  exact ⟨q, cc, w', k1, ⟨_, _, _, _, _, _, ⟨q, cc, rfl, rfl⟩, h3, h4, k2⟩, Nat.le_trans h.hb k3.size, h.bel.trans k3⟩
theorem MeAt.a2 {w0 w : World} {base : Nat} {e : WEnv} {s : WSt} {v : Int} {c1 c3 : Nat} {t15 t16 t20 t21 t23 t24 : Value} (h : MeAt w0 w base e s v c1 1 c3 t15 t16 t20 t21 t23 t24) (hl : s.fs.length ≤ 10000000) : ∃ q cc w', (∀ ty, (Builtin.append_ #[23, 23] ty #[s.fsV, t20]).run Tryz.prog w = .ok (.slice (some ⟨q, 0, none⟩) (s.fs.length + 1) cc) w') ∧ MeAt w0 w' base e s v c1 2 c3 t15 t16 t20 (.slice (some ⟨q, 0, none⟩) (s.fs.length + 1) cc) t23 t24 := by
  obtain ⟨N, F, G, L1, L2, L3, h3, ⟨h1, g, h5, h2⟩, h4, hp⟩ := h.ex
  subst h1; subst h2; subst h5
  obtain ⟨q, cc, w', k1, k2, k3⟩ := hp.app h.hb (r := 4) (l := 9) rfl rfl hl
  exact ⟨q, cc, w', k1, ⟨_, _, _, _, _, _, h3, ⟨q, cc, rfl, rfl⟩, h4, k2⟩, Nat.le_trans h.hb k3.size, h.bel.trans k3⟩
theorem MeAt.a3 {w0 w : World} {base : Nat} {e : WEnv} {s : WSt} {v : Int} {c1 c2 : Nat} {t15 t16 t20 t21 t23 t24 : Value} (h : MeAt w0 w base e s v c1 c2 1 t15 t16 t20 t21 t23 t24) (hl : s.gs.length ≤ 10000000) : ∃ q cc w', (∀ ty, (Builtin.append_ #[23, 23] ty #[s.gsV, t23]).run Tryz.prog w = .ok (.slice (some ⟨q, 0, none⟩) (s.gs.length + 1) cc) w') ∧ MeAt w0 w' base e s v c1 c2 2 t15 t16 t20 t21 t23 (.slice (some ⟨q, 0, none⟩) (s.gs.length + 1) cc) := by
  obtain ⟨N, F, G, L1, L2, L3, h3, h4, ⟨h1, g, h5, h2⟩, hp⟩ := h.ex
  subst h1; subst h2; subst h5
  obtain ⟨q, cc, w', k1, k2, k3⟩ := hp.app h.hb (r := 5) (l := 10) rfl rfl hl
  exact ⟨q, cc, w', k1, ⟨_, _, _, _, _, _, h3, h4, ⟨q, cc, rfl, rfl⟩, k2⟩, Nat.le_trans h.hb k3.size, h.bel.trans k3⟩
theorem Heap.drop3 {w : World} {base : Nat} {e : WEnv} {s : WSt} {N F G L1 L2 L3 : Slot} (h : Heap w base (meS e s N F G L1 L2 L3)) : Heap w base [oneS e.WB 46 [s.nsV, s.fsV, slV e.pg e.n], oneS e.GB 23 [s.gsV], oneS e.AB 3 [intV s.at'], N, F, G, rowM e.pg e.n s.ps, oneS e.MB 89 [e.mf]] := by
  have key : ∀ (i : Nat) (t : Slot), [oneS e.WB 46 [s.nsV, s.fsV, slV e.pg e.n], oneS e.GB 23 [s.gsV], oneS e.AB 3 [intV s.at'], N, F, G, rowM e.pg e.n s.ps, oneS e.MB 89 [e.mf]][i]? = some t → (meS e s N F G L1 L2 L3)[i]? = some t := fun i t ht => by
    have hi := (List.getElem?_eq_some_iff.1 ht).1
    show (([oneS e.WB 46 [s.nsV, s.fsV, slV e.pg e.n], oneS e.GB 23 [s.gsV], oneS e.AB 3 [intV s.at'], N, F, G, rowM e.pg e.n s.ps, oneS e.MB 89 [e.mf]] : List Slot) ++ [L1, L2, L3])[i]? = some t
    rw [List.getElem?_append_left hi]
    exact ht
  exact ⟨fun i t ht => h.own i t (key i t ht), fun i j a b g hij ha hb => h.apart i j a b g hij (key i a ha) (key j b hb)⟩
theorem WAt.me {w : World} {base : Nat} {e : WEnv} {s : WSt} (h : WAt w base e s) (v : Int) (t15 t16 t20 t21 t23 t24 : Value) : MeAt w w base e s v 0 0 0 t15 t16 t20 t21 t23 t24 := by
  refine ⟨⟨_, _, _, _, _, _, ⟨rfl, rfl⟩, ⟨rfl, rfl⟩, ⟨rfl, rfl⟩, ?_⟩, h.hb, Below.refl _ _⟩
  have h1 := h.hp.more (Below.refl _ w) (s := rowS nilV []) (World.ownsRow_nil _ _ _ _) (fun g hg => by simp [Value.ownBlock] at hg)
  have h2 := h1.more (Below.refl _ w) (s := rowS nilV []) (World.ownsRow_nil _ _ _ _) (fun g hg => by simp [Value.ownBlock] at hg)
  exact h2.more (Below.refl _ w) (s := rowS nilV []) (World.ownsRow_nil _ _ _ _) (fun g hg => by simp [Value.ownBlock] at hg)
/-- All three are longer, and are put into their places. -/
theorem MeAt.put {w0 w : World} {base : Nat} {e : WEnv} {s : WSt} {v : Int} {t15 t16 t20 t21 t23 t24 : Value} (h : MeAt w0 w base e s v 2 2 2 t15 t16 t20 t21 t23 t24) : (∃ q cc, t16 = .slice (some ⟨q, 0, none⟩) (s.ns.length + 1) cc) ∧ (∃ q cc, t21 = .slice (some ⟨q, 0, none⟩) (s.fs.length + 1) cc) ∧ (∃ q cc, t24 = .slice (some ⟨q, 0, none⟩) (s.gs.length + 1) cc) ∧
    WAt (((w.setCell ⟨e.WB, 0, none⟩ t16).setCell ⟨e.WB, 1, none⟩ t21).setCell ⟨e.GB, 0, none⟩ t24) base e { s with nsV := t16, fsV := t21, gsV := t24, ns := s.ns ++ [v], fs := s.fs ++ [s.at'], gs := s.gs ++ [0] } := by
  obtain ⟨N, F, G, L1, L2, L3, ⟨q1, d1, h1, h2⟩, ⟨q2, d2, h3, h4⟩, ⟨q3, d3, h5, h6⟩, hp⟩ := h.ex
  subst h1; subst h2; subst h3; subst h4; subst h5; subst h6
  refine ⟨⟨_, _, rfl⟩, ⟨_, _, rfl⟩, ⟨_, _, rfl⟩, ?_, set_sz (set_sz (set_sz h.hb _ _) _ _) _ _⟩
  have k1 := hp.drop3.store (i := 0) (n := 1) (c := 1) (cs := [s.nsV, s.fsV, slV e.pg e.n]) rfl 0 (.slice (some ⟨q1, 0, none⟩) (s.ns.length + 1) d1)
  have k2 := k1.store (i := 0) (n := 1) (c := 1) (cs := [.slice (some ⟨q1, 0, none⟩) (s.ns.length + 1) d1, s.fsV, slV e.pg e.n]) rfl 1 (.slice (some ⟨q2, 0, none⟩) (s.fs.length + 1) d2)
  exact k2.store (i := 1) (n := 1) (c := 1) (cs := [s.gsV]) rfl 0 (.slice (some ⟨q3, 0, none⟩) (s.gs.length + 1) d3)
end Go.Proofs.YtogjjmbcbnceoaaGreat
