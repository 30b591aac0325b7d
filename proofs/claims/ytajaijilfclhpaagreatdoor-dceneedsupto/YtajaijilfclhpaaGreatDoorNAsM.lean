/- Who waits, in memory. -/
import Derived.Test.YtajaijilfclhpaaGreatDoorNWk
import Derived.Test.YtajaijilfclhpaaGreatDoorGCp0M
import Derived.Test.YtajaijilfclhpaaGreatDoorNEvM
namespace Go.Proofs.YtajaijilfclhpaaGreatDoor
open Go.RowKit

abbrev ixV (x : Nat) : Value := .int .i64 (x : Int)
structure AkE where
  w0 : World
  A : Nat
  gd : Nat
  gn : Nat
  m : Nat
def rwN (g n : Nat) : Value := .slice (some ⟨g, 0, none⟩) n n
def sgCells (t : Sg) : List Value := [t.av, ixV t.older]
theorem sg_len (t : Sg) : (sgCells t).length = 2 := rfl
def akCells (E : AkE) (sv wv : Value) : List Value := [rwN E.gd E.m, rwN E.gn E.m, sv, wv]
def akL (E : AkE) (X : List Slot) (sv wv : Value) (s : Ak) : List Slot :=
  ⟨.slice (some ⟨E.A, 0, none⟩) 1 1, 117, 4, 1, akCells E sv wv⟩ ::
   ⟨rwN E.gd E.m, 4, 1, E.m, s.need.map boV⟩ ::
   ⟨rwN E.gn E.m, 3, 1, E.m, s.newest.map ixV⟩ ::
   ⟨sv, 164, 2, s.sets.length, flat sgCells s.sets⟩ ::
   ⟨wv, 3, 1, s.wait.length, s.wait.map intV⟩ :: X
structure AkM (E : AkE) (X : List Slot) (w : World) (sv wv : Value) (s : Ak) : Prop where
  low : Below E.w0.heap.size E.w0 w
  heap : Heap w E.w0.heap.size (akL E X sv wv s)
  args : ∀ t ∈ s.sets, IntsAt E.w0 t.av t.args
theorem AkM.below {E : AkE} {X : List Slot} {w w' : World} {sv wv : Value} {s : Ak} (h : AkM E X w sv wv s) (hb : Below w.heap.size w w') : AkM E X w' sv wv s :=
  ⟨below_trans h.low hb, h.heap.below hb, h.args⟩
theorem AkM.same {E : AkE} {X : List Slot} {w w' : World} {sv wv : Value} {s : Ak} (h : AkM E X w sv wv s) (hw : w'.heap = w.heap) (hb : Below E.w0.heap.size E.w0 w') : AkM E X w' sv wv s :=
  ⟨hb, h.heap.same hw, h.args⟩
theorem AkM.drewN {E : AkE} {X : List Slot} {w : World} {sv wv : Value} {s : Ak} (h : AkM E X w sv wv s) (k : Nat) : AkM E X (w.drewN k) sv wv s := h.same rfl (below_drewN h.low k)
theorem AkM.alloc {E : AkE} {X : List Slot} {w : World} {sv wv : Value} {s : Ak} (h : AkM E X w sv wv s) (o : Obj) : AkM E X (w.alloc o) sv wv s := h.below (below_alloc (Below.refl _ _) o)
theorem AkM.box {E : AkE} {X : List Slot} {w : World} {sv wv : Value} {s : Ak} (h : AkM E X w sv wv s) :
    w.cell? ⟨E.A, 0, none⟩ = some (rwN E.gd E.m) ∧ w.cell? ⟨E.A, 1, none⟩ = some (rwN E.gn E.m) ∧ w.cell? ⟨E.A, 2, none⟩ = some sv ∧ w.cell? ⟨E.A, 3, none⟩ = some wv ∧ (∀ j, w.frozen? ⟨E.A, j, none⟩ = false) ∧ E.w0.heap.size ≤ E.A ∧ E.A < w.heap.size :=
  ⟨h.heap.cell (i := 0) rfl (j := 0) rfl, h.heap.cell (i := 0) rfl (j := 1) rfl, h.heap.cell (i := 0) rfl (j := 2) rfl, h.heap.cell (i := 0) rfl (j := 3) rfl, fun j => h.heap.fz (i := 0) rfl j, (h.heap.lt (i := 0) rfl).1, (h.heap.lt (i := 0) rfl).2⟩
theorem AkM.lens {E : AkE} {X : List Slot} {w : World} {sv wv : Value} {s : Ak} (h : AkM E X w sv wv s) : s.need.length = E.m ∧ s.newest.length = E.m := by
  have h1 := (h.heap.own 1 _ rfl).1
  have h2 := (h.heap.own 2 _ rfl).1
  simp only [List.length_map, Nat.mul_one] at h1 h2
  exact ⟨h1, h2⟩
theorem AkM.need {E : AkE} {X : List Slot} {w : World} {sv wv : Value} {s : Ak} (h : AkM E X w sv wv s) {v : Nat} (hv : v < E.m) : w.cell? ⟨E.gd, v, none⟩ = some (.bool (s.need.getD v false)) ∧ w.frozen? ⟨E.gd, v, none⟩ = false := by
  refine ⟨h.heap.cell (i := 1) rfl (j := v) ?_, h.heap.fz (i := 1) rfl v⟩
  rw [List.getElem?_map, List.getElem?_eq_getElem (by rw [h.lens.1]; exact hv)]
  simp [List.getD, List.getElem?_eq_getElem (show v < s.need.length by rw [h.lens.1]; exact hv)]
theorem AkM.newest {E : AkE} {X : List Slot} {w : World} {sv wv : Value} {s : Ak} (h : AkM E X w sv wv s) {v : Nat} (hv : v < E.m) : w.cell? ⟨E.gn, v, none⟩ = some (ixV (s.newest.getD v 0)) ∧ w.frozen? ⟨E.gn, v, none⟩ = false := by
  refine ⟨h.heap.cell (i := 2) rfl (j := v) ?_, h.heap.fz (i := 2) rfl v⟩
  rw [List.getElem?_map, List.getElem?_eq_getElem (by rw [h.lens.2]; exact hv)]
  simp [List.getD, List.getElem?_eq_getElem (show v < s.newest.length by rw [h.lens.2]; exact hv)]
theorem AkM.setNeed {E : AkE} {X : List Slot} {w : World} {sv wv : Value} {s : Ak} (h : AkM E X w sv wv s) (v : Nat) : AkM E X (w.setCell ⟨E.gd, v, none⟩ (.bool true)) sv wv { s with need := s.need.set v true } := by
  have hh := h.heap.store (i := 1) rfl v (.bool true)
  have hb := (h.heap.lt (i := 1) rfl).1
  refine ⟨h.low.setCell (p := ⟨E.gd, v, none⟩) hb _, ?_, h.args⟩
  have e : (s.need.map boV).set v (.bool true) = (s.need.set v true).map boV := by rw [List.map_set]
  rw [e] at hh
  exact hh
theorem AkM.setNewest {E : AkE} {X : List Slot} {w : World} {sv wv : Value} {s : Ak} (h : AkM E X w sv wv s) (v x : Nat) : AkM E X (w.setCell ⟨E.gn, v, none⟩ (ixV x)) sv wv { s with newest := s.newest.set v x } := by
  have hh := h.heap.store (i := 2) rfl v (ixV x)
  have hb := (h.heap.lt (i := 2) rfl).1
  refine ⟨h.low.setCell (p := ⟨E.gn, v, none⟩) hb _, ?_, h.args⟩
  have e : (s.newest.map ixV).set v (ixV x) = (s.newest.set v x).map ixV := by rw [List.map_set]
  rw [e] at hh
  exact hh
theorem low_grown {w w' : World} {B : Nat} {r : Option Nat} {w0 : World} (h : Below B w0 w) (hg : w.grownBy w' r) (hr : ∀ g, r = some g → B ≤ g) (hB : B ≤ w.heap.size) : Below B w0 w' :=
  ⟨hg.os.trans h.os, hg.tape.trans h.tape, hg.output.trans h.output, Nat.le_trans h.size hg.size, fun k hk => (hg.block k (Nat.lt_of_lt_of_le hk hB) (fun e => by have := hr k e.symm; omega)).trans (h.block k hk)⟩
/-- One more that waits. -/
theorem AkM.pushWait {E : AkE} {X : List Slot} {w w2 : World} {sv wv wv' : Value} {s : Ak} (h : AkM E X w sv wv s) {v : Int} (ho : w2.ownsRow E.w0.heap.size 3 1 wv' (s.wait.length + 1) (s.wait.map intV ++ [intV v])) (hg : w.grownBy w2 wv.ownBlock) (hat : wv'.ownBlock = wv.ownBlock ∨ wv'.ownBlock = some w.heap.size) :
    AkM E X (w2.setCell ⟨E.A, 3, none⟩ wv') sv wv' { s with wait := s.wait ++ [v] } ∧ w2.cell? ⟨E.A, 3, none⟩ = some wv ∧ w2.frozen? ⟨E.A, 3, none⟩ = false := by
  have h1 : Heap w2 E.w0.heap.size ((akL E X sv wv s).set 4 ⟨wv', 3, 1, (s.wait ++ [v]).length, (s.wait ++ [v]).map intV⟩) := h.heap.grow (i := 4) rfl (by show World.ownsRow _ _ _ _ _ _ _; simpa using ho) hg hat
  have h2 := h1.store (i := 0) rfl 3 wv'
  have hb := (h.heap.lt (i := 0) rfl).1
  have hlow : Below E.w0.heap.size E.w0 w2 := low_grown h.low hg (fun g hg' => ((h.heap.own 4 _ rfl).lt g hg').1) h.low.size
  exact ⟨⟨hlow.setCell (p := ⟨E.A, 3, none⟩) hb _, h2, h.args⟩, h1.cell (i := 0) rfl (j := 3) rfl, h1.fz (i := 0) rfl 3⟩
/-- One more setting. -/
theorem AkM.pushSet {E : AkE} {X : List Slot} {w w2 : World} {sv wv sv' : Value} {s : Ak} (h : AkM E X w sv wv s) {t : Sg} (ht : IntsAt E.w0 t.av t.args) (ho : w2.ownsRow E.w0.heap.size 164 2 sv' (s.sets.length + 1) (flat sgCells s.sets ++ sgCells t)) (hg : w.grownBy w2 sv.ownBlock) (hat : sv'.ownBlock = sv.ownBlock ∨ sv'.ownBlock = some w.heap.size) :
    AkM E X (w2.setCell ⟨E.A, 2, none⟩ sv') sv' wv { s with sets := s.sets ++ [t] } ∧ w2.cell? ⟨E.A, 2, none⟩ = some sv ∧ w2.frozen? ⟨E.A, 2, none⟩ = false ∧ w2.cell? ⟨E.A, 1, none⟩ = some (rwN E.gn E.m) ∧ ∀ v, w2.cell? ⟨E.gn, v, none⟩ = w.cell? ⟨E.gn, v, none⟩ := by
  have h1 : Heap w2 E.w0.heap.size ((akL E X sv wv s).set 3 ⟨sv', 164, 2, (s.sets ++ [t]).length, flat sgCells (s.sets ++ [t])⟩) := h.heap.grow (i := 3) rfl (by show World.ownsRow _ _ _ _ _ _ _; rw [flat_snoc, List.length_append]; exact ho) hg hat
  have h2 := h1.store (i := 0) rfl 2 sv'
  have hb := (h.heap.lt (i := 0) rfl).1
  have hlow : Below E.w0.heap.size E.w0 w2 := low_grown h.low hg (fun g hg' => ((h.heap.own 3 _ rfl).lt g hg').1) h.low.size
  refine ⟨⟨hlow.setCell (p := ⟨E.A, 2, none⟩) hb _, h2, fun u hu => ?_⟩, h1.cell (i := 0) rfl (j := 2) rfl, h1.fz (i := 0) rfl 2, h1.cell (i := 0) rfl (j := 1) rfl, fun v => World.cell?_of_block (w := w) (a := ⟨E.gn, v, none⟩) (hg.block E.gn (h.heap.lt (i := 2) rfl).2 (fun e => h.heap.apart 2 3 _ _ E.gn (by omega) rfl rfl rfl e.symm))⟩
  rcases List.mem_append.1 hu with hu | hu
  · exact h.args u hu
  · rw [List.mem_singleton.1 hu]; exact ht
/-- The last that waits is told, and taken. -/
theorem AkM.last {E : AkE} {X : List Slot} {w : World} {sv wv : Value} {s : Ak} (h : AkM E X w sv wv s) {l : List Int} {v : Int} (hw : s.wait = l ++ [v]) : ∃ g c, wv = .slice (some ⟨g, 0, none⟩) (l.length + 1) c ∧ l.length + 1 ≤ c ∧ w.cell? ⟨g, l.length, none⟩ = some (intV v) ∧
    AkM E X (w.setCell ⟨E.A, 3, none⟩ (.slice (some ⟨g, 0, none⟩) l.length c)) sv (.slice (some ⟨g, 0, none⟩) l.length c) { s with wait := l } := by
  have hlen : s.wait.length = l.length + 1 := by rw [hw]; simp
  rcases own_shape (h.heap.own 4 _ rfl) with ⟨_, h0⟩ | ⟨g, c, h1, h2, _⟩
  · dsimp only at h0; omega
  · dsimp only at h1 h2
    rw [hlen] at h1 h2
    subst h1
    have hs : (akL E X sv (.slice (some ⟨g, 0, none⟩) (l.length + 1) c) s)[4]? = some ⟨.slice (some ⟨g, 0, none⟩) (l.length + 1) c, 3, 1, l.length + 1, s.wait.map intV⟩ := by
      show some _ = some _
      rw [hlen]
    have hc := h.heap.cell hs (j := l.length) (u := intV v) (by rw [hw]; simp)
    have h3 := h.heap.cut hs (m := l.length) (by omega)
    have e1 : (s.wait.map intV).take (l.length * 1) = l.map intV := by
      rw [Nat.mul_one, hw, List.map_append, List.take_left' (by simp)]
    rw [e1] at h3
    have h4 := h3.store (i := 0) rfl 3 (.slice (some ⟨g, 0, none⟩) l.length c)
    have hb := (h.heap.lt (i := 0) rfl).1
    exact ⟨g, c, rfl, h2, hc, h.low.setCell (p := ⟨E.A, 3, none⟩) hb _, h4, h.args⟩
/-- A setting is read. -/
theorem AkM.set {E : AkE} {X : List Slot} {w : World} {sv wv : Value} {s : Ak} (h : AkM E X w sv wv s) {n : Nat} {t : Sg} (ht : s.sets[n]? = some t) : ∃ g c, sv = .slice (some ⟨g, 0, none⟩) s.sets.length c ∧ w.cell? ⟨g, n * 2, none⟩ = some t.av ∧ w.cell? ⟨g, n * 2 + 1, none⟩ = some (ixV t.older) ∧ IntsAt w t.av t.args := by
  have hlt := (List.getElem?_eq_some_iff.1 ht).1
  rcases own_shape (h.heap.own 3 _ rfl) with ⟨_, h0⟩ | ⟨g, c, h1, h2, _⟩
  · dsimp only at h0; omega
  · dsimp only at h1 h2
    subst h1
    exact ⟨g, c, rfl, h.heap.cell (i := 3) rfl (flat_at sg_len s.sets n 0 t t.av ht rfl), h.heap.cell (i := 3) rfl (flat_at sg_len s.sets n 1 t (ixV t.older) ht rfl), (h.args t (List.mem_of_getElem? ht)).below h.low⟩
theorem AkM.waits {E : AkE} {X : List Slot} {w : World} {sv wv : Value} {s : Ak} (h : AkM E X w sv wv s) : ∃ a c, wv = .slice a s.wait.length c := by
  rcases own_shape (h.heap.own 4 _ rfl) with ⟨h1, h2⟩ | ⟨g, c, h1, _⟩
  · dsimp only at h1 h2; exact ⟨none, 0, by rw [h1, h2]⟩
  · exact ⟨_, _, h1⟩
theorem AkM.setsV {E : AkE} {X : List Slot} {w : World} {sv wv : Value} {s : Ak} (h : AkM E X w sv wv s) : ∃ a c, sv = .slice a s.sets.length c := by
  rcases own_shape (h.heap.own 3 _ rfl) with ⟨h1, h2⟩ | ⟨g, c, h1, _⟩
  · dsimp only at h1 h2; exact ⟨none, 0, by rw [h1, h2]⟩
  · exact ⟨_, _, h1⟩
/-- The measure: what is not marked counts twice, who waits once. -/
noncomputable def muK (w : World) (A base : Nat) : Nat := leastK fun n => ∃ (E : AkE) (X : List Slot) (sv wv : Value) (s : Ak), E.A = A ∧ E.w0.heap.size = base ∧ AkM E X w sv wv s ∧ s.mu = n
theorem muK_of {E : AkE} {X : List Slot} {w : World} {sv wv : Value} {s : Ak} (h : AkM E X w sv wv s) : muK w E.A E.w0.heap.size = s.mu := by
  have hx : ∃ k, ∃ (F : AkE) (Y : List Slot) (sv wv : Value) (t : Ak), F.A = E.A ∧ F.w0.heap.size = E.w0.heap.size ∧ AkM F Y w sv wv t ∧ t.mu = k := ⟨_, E, X, sv, wv, s, rfl, rfl, h, rfl⟩
  unfold muK leastK
  rw [dif_pos hx]
  obtain ⟨F, Y, sv2, wv2, t, e1, e2, h2, e3⟩ := Classical.choose_spec hx
  rw [← e3]
  obtain ⟨b0, _, _, b3, _⟩ := h.box
  obtain ⟨c0, _, _, c3, _⟩ := h2.box
  rw [e1, b0] at c0
  rw [e1, b3] at c3
  have c0' : rwN E.gd E.m = rwN F.gd F.m := Option.some.inj c0
  have c3' : wv = wv2 := Option.some.inj c3
  have hn : s.need = t.need := by
    have o1 : OwnT w E.w0.heap.size (rwN E.gd E.m) s.need := by
      have := h.heap.own 1 _ rfl
      have h9 : w.ownsRow E.w0.heap.size 4 1 (rwN E.gd E.m) E.m (s.need.map boV) := this
      show World.ownsRow _ _ _ _ _ _ _
      rw [h.lens.1]; exact h9
    have o2 : OwnT w E.w0.heap.size (rwN E.gd E.m) t.need := by
      have := h2.heap.own 1 _ rfl
      have h9 : w.ownsRow F.w0.heap.size 4 1 (rwN F.gd F.m) F.m (t.need.map boV) := this
      rw [e2, ← c0'] at h9
      have em : E.m = F.m := by unfold rwN at c0'; injection c0'
      show World.ownsRow _ _ _ _ _ _ _
      rw [h2.lens.1]; exact h9
    exact own_one o1 o2
  obtain ⟨a, c, f1⟩ := h.waits
  obtain ⟨a2, c2, f2⟩ := h2.waits
  have hl : s.wait.length = t.wait.length := by
    rw [c3', f2] at f1
    injection f1 with _ q _
    exact q.symm
  unfold Ak.mu
  rw [hn, hl]
/-- Another row lies apart from those. -/
theorem AkM.with {E : AkE} {X : List Slot} {w w' : World} {sv wv : Value} {s : Ak} (h : AkM E X w sv wv s) (hb : Below w.heap.size w w') {x : Slot} (hs : x.At w' E.w0.heap.size) (hat : ∀ g, x.v.ownBlock = some g → w.heap.size ≤ g) : AkM E (X ++ [x]) w' sv wv s :=
  ⟨below_trans h.low hb, h.heap.more hb hs hat, h.args⟩
theorem AkM.drop {E : AkE} {X Y : List Slot} {w : World} {sv wv : Value} {s : Ak} (h : AkM E (X ++ Y) w sv wv s) : AkM E X w sv wv s := by
  have e : ∀ (i : Nat) (t : Slot), (akL E X sv wv s)[i]? = some t → (akL E (X ++ Y) sv wv s)[i]? = some t := fun i t ht => by
    have e2 : akL E (X ++ Y) sv wv s = akL E X sv wv s ++ Y := rfl
    rw [e2, List.getElem?_append_left (List.getElem?_eq_some_iff.1 ht).1]
    exact ht
  exact ⟨h.low, ⟨fun i t ht => h.heap.own i t (e i t ht), fun i j a b g hij ha hb => h.heap.apart i j a b g hij (e i a ha) (e j b hb)⟩, h.args⟩
end Go.Proofs.YtajaijilfclhpaaGreatDoor
/- Who is asked for is marked, and waits: the walk. -/
namespace Go.Proofs.YtajaijilfclhpaaGreatDoor
open Go.RowKit Go.Sort

set_option maxRecDepth 100000 in
theorem acts_any (x : In) (av : Value) (w : World) : Calls Tryz.prog 113 #[.agg #[.int .u8 x.kind, .int .u8 x.op, .int .i64 x.dst, av, .int .u64 x.bits, .int .i64 x.ref]] w fun e w' => e = .returned (.bool (staysK x.kind)) ∧ Below w.heap.size w w' := by
 obtain ⟨k, op, dst, args, bits, ref⟩ := x
 dsimp only
 unfold staysK
 by_cases h1 : k = 7
 ·subst h1
  go_enter Tryz.func113, Tryz.ntmps113
  go_wp2
  go_ret
  exact ⟨rfl, below_alloc (Below.refl _ _) _⟩
 by_cases h2 : k = 8
 ·subst h2
  go_enter Tryz.func113, Tryz.ntmps113
  go_wp2
  go_ret
  exact ⟨rfl, below_alloc (Below.refl _ _) _⟩
 by_cases h3 : k = 9
 ·subst h3
  go_enter Tryz.func113, Tryz.ntmps113
  go_wp2
  go_ret
  exact ⟨rfl, below_alloc (Below.refl _ _) _⟩
 by_cases h4 : k = 10
 ·subst h4
  go_enter Tryz.func113, Tryz.ntmps113
  go_wp2
  go_ret
  exact ⟨rfl, below_alloc (Below.refl _ _) _⟩
 have e1 := beq_false_of_ne h1
 have e2 := beq_false_of_ne h2
 have e3 := beq_false_of_ne h3
 have e4 := beq_false_of_ne h4
 rw [e1, e2, e3, e4]
 go_enter Tryz.func113, Tryz.ntmps113
 go_wp2
 go_ret
 exact ⟨rfl, below_alloc (Below.refl _ _) _⟩
set_option maxRecDepth 100000 in
theorem asks_any (t : Tm) (w : World) : Calls Tryz.prog 56 #[.agg #[.int .u8 t.kind, .int .i64 t.arg, .int .i64 t.t0, .int .i64 t.t1, .int .u8 t.trap]] w fun e w' => e = .returned (.bool (asksT t)) ∧ Below w.heap.size w w' := by
 obtain ⟨k, arg, t0, t1, tr⟩ := t
 dsimp only
 unfold asksT
 by_cases h1 : k = 2
 ·subst h1
  go_enter Tryz.func56, Tryz.ntmps56
  go_wp2
  go_ret
  exact ⟨rfl, below_alloc (Below.refl _ _) _⟩
 by_cases h2 : k = 3
 ·subst h2
  go_enter Tryz.func56, Tryz.ntmps56
  go_wp2
  go_ret
  exact ⟨rfl, below_alloc (Below.refl _ _) _⟩
 have e1 := beq_false_of_ne h1
 have e2 := beq_false_of_ne h2
 rw [e1, e2]
 go_enter Tryz.func56, Tryz.ntmps56
 go_wp2
 go_ret
 exact ⟨rfl, below_alloc (Below.refl _ _) _⟩
theorem ask_take {s : Ak} {l : List Int} {i : Nat} (h : i < l.length) : s.ask (l.take (i + 1)) = (s.ask (l.take i)).mark (l.getD i 0) := by
 rw [List.take_add_one, List.getElem?_eq_getElem h, Option.toList_some, ask_snoc]
 simp [List.getElem?_eq_getElem h]
theorem ask_room {m : Nat} : ∀ (l : List Int) (s : Ak), s.need.length = m → (∀ a ∈ l, 0 ≤ a ∧ a < m) → s.wait.length + cntN s.need ≤ m → (s.ask l).wait.length + cntN (s.ask l).need ≤ m
 | l, s, hm, h, hr => by
  have := (ask_askI l s fun a ha => by rw [hm]; have := h a ha; omega).sum
  omega
set_option maxRecDepth 100000 in
set_option maxHeartbeats 2000000 in
theorem ask_any {E : AkE} {X : List Slot} {w : World} {sv wv : Value} {s : Ak} (h : AkM E X w sv wv s) (lv : Value) (l : List Int) (hl : ∀ W sv wv t, AkM E X W sv wv t → IntsAt W lv l) (hr : ∀ a ∈ l, 0 ≤ a ∧ a < E.m) (hrm : s.wait.length + cntN s.need ≤ E.m) (hm : E.m ≤ 1048576) :
  Calls Tryz.prog 57 #[ptr E.A, lv] w fun e w' => e = .returned (.tuple #[]) ∧ ∃ wv', AkM E X w' sv wv' (s.ask l) := by
 have HAM : Hid (AkM E X w sv wv s) := h
 have HRM : Hid (∀ i, (s.ask (l.take i)).wait.length ≤ E.m) := fun i => by
  have := ask_room (m := E.m) (l.take i) s h.lens.1 (fun a ha => hr a (List.mem_of_mem_take ha)) hrm
  omega
 obtain ⟨la, lc, rfl, hll⟩ := (hl w sv wv s h).form
 have HL : Hid (∀ W sv wv t, AkM E X W sv wv t → ∀ i, i < l.length → _) := fun W sv wv t ht i hi => (hl W sv wv t ht).get (i := i) hi
 have HR : Hid (∀ i, i < l.length → 0 ≤ l.getD i 0 ∧ l.getD i 0 < E.m) := fun i hi => hr _ (getD_memZ hi)
 have HTK : Hid (∀ i, i < l.length → s.ask (l.take (i + 1)) = (s.ask (l.take i)).mark (l.getD i 0)) := fun i hi => ask_take hi
 have HEND : Hid (l.take l.length = l) := List.take_length
 obtain ⟨i0, hi0, hz0, hz1, hz2⟩ := info_parts infoI
 clear h hl hr hrm
 generalize l.length = n at *
 go_enter Tryz.func57, Tryz.ntmps57
 go_wp2
 go_loopw [8] (fun vi wr => ∃ i : Nat, vi = .int .i64 i ∧ i ≤ n ∧ Hid (∃ wv', AkM E X wr sv wv' (s.ask (l.take i)))) (fun vi _ => n - (intOf vi).toNat)
 case atStart => exact ⟨0, rfl, by omega, wv, HAM.out⟩
 case round =>
  obtain ⟨i, rfl, hi, hr⟩ := hrel
  obtain ⟨wv', hr'⟩ := hr.out
  have HK : Hid (AkM E X wr sv wv' (s.ask (l.take i))) := hr'
  clear HAM hr hr'
  by_cases hin : i < n
  ·have hin' : (i : Int) < n := by omega
   obtain ⟨g, o, rfl, _, cx⟩ := HL.out wr sv wv' _ HK.out i hin
   obtain ⟨hz0', hz1'⟩ := HR.out i hin
   have htk := HTK.out i hin
   have hrm := HRM.out i
   generalize l.getD i 0 = z at *
   obtain ⟨v, rfl⟩ : ∃ v : Nat, z = (v : Int) := ⟨z.toNat, by omega⟩
   have hv : v < E.m := by omega
   obtain ⟨b0, b1, b2, b3, bf, bA0, bA⟩ := HK.out.box
   obtain ⟨n0, n1⟩ := HK.out.need hv
   have HSN := HK.out.setNeed v
   have HTKI : Hid _ := htk
   have HAT : Hid (atB (s.ask (l.take i)).need (v : Int) = (s.ask (l.take i)).need.getD v false) := by show _ = _; unfold atB; rw [Int.toNat_natCast]
   clear htk
   generalize s.ask (l.take i) = u at *
   unfold rwN at b0 b1
   cases hb : u.need.getD v false with
   | true =>
    rw [hb] at n0
    have HU : Hid (s.ask (l.take (i + 1)) = u) := by
     show _ = _
     rw [HTKI.out]; unfold Ak.mark; rw [HAT.out, hb, if_pos rfl]
    clear HSN hb HL HR HTK HRM HEND
    generalize E.A = A at *
    generalize E.gd = gd at *
    generalize E.m = m at *
    go_wp2
    go_roundw
    case rel => exact ⟨i + 1, by first | rfl | (congr 1; omega), by omega, wv', by rw [HU.out]; exact HK.out⟩
    case measure => simp [intOf]; omega
   | false =>
    rw [hb] at n0
    have HU : Hid (s.ask (l.take (i + 1)) = { u with need := u.need.set v true, wait := u.wait ++ [(v : Int)] }) := by
     show _ = _
     rw [HTKI.out]; unfold Ak.mark; rw [HAT.out, hb, if_neg (by simp)]; rfl
    obtain ⟨c0, c1, c2, c3, cf, _, cA⟩ := HSN.box
    obtain ⟨wa, wc, rfl⟩ := HSN.waits
    have HOW : Hid ((wr.setCell ⟨E.gd, v, none⟩ (.bool true)).ownsRow E.w0.heap.size 3 1 (.slice wa u.wait.length wc) u.wait.length (u.wait.map intV)) := HSN.heap.own 4 _ rfl
    have HS0 : Hid (E.w0.heap.size ≤ (wr.setCell ⟨E.gd, v, none⟩ (.bool true)).heap.size) := HSN.low.size
    have HPW : Hid (∀ (w2 : World) (wv2 : Value), w2.ownsRow E.w0.heap.size 3 1 wv2 (u.wait.length + 1) (u.wait.map intV ++ [intV (v : Int)]) → ((wr.setCell ⟨E.gd, v, none⟩ (.bool true)).alloc (.cells #[.int .i64 (v : Int)] 3)).grownBy w2 (Value.slice wa u.wait.length wc).ownBlock → (wv2.ownBlock = (Value.slice wa u.wait.length wc).ownBlock ∨ wv2.ownBlock = some ((wr.setCell ⟨E.gd, v, none⟩ (.bool true)).heap.size + 1)) →
      AkM E X (w2.setCell ⟨E.A, 3, none⟩ wv2) sv wv2 (s.ask (l.take (i + 1))) ∧ w2.cell? ⟨E.A, 3, none⟩ = some (.slice wa u.wait.length wc) ∧ w2.frozen? ⟨E.A, 3, none⟩ = false) := fun w2 wv2 h1 h2 h3 => by
     rw [HU.out]
     exact (HSN.alloc (.cells #[.int .i64 (v : Int)] 3)).pushWait (v := (v : Int)) h1 h2 (by simpa using h3)
    have hf3 := cf 3
    clear HSN hb HL HR HTK HRM HEND b1 b2 b3 c0 c1 c2 cf HK HTKI HAT HU
    generalize E.A = A at *
    generalize E.gd = gd at *
    generalize E.m = m at *
    generalize hwl : u.wait.length = wl at *
    go_wp2_with (at_builtin; go_loud (refine wpList_append_own_at _ rfl _ _ 22 rfl E.w0.heap.size 3 i0 (.int .i64 0) 1 8 Tryz.underlying22 hi0 hz0 hz1 hz2 rfl (by decide) _ wl (u.wait.map intV) rfl (HOW.out.alloc _) ⟨_, 0, none⟩ 1 1 [intV (v : Int)] rfl rfl ?c1 ?c2 ?c3 ?c4 ?c5 ?_))
    case c1 =>
     have h9 := cell_one_new (wr.setCell ⟨gd, v, none⟩ (.bool true)) (intV (v : Int)) 3
     rw [show (wr.setCell ⟨gd, v, none⟩ (.bool true)).heap.size = wr.heap.size from by simp [World.setCell]] at h9
     exact h9
    case c2 => intro q hq; simp at hq; subst hq; rfl
    case c3 => unfold maxLen; omega
    case c4 => omega
    case c5 => have := HS0.out; simp at this ⊢; omega
    intro v2 w2 ho hg2 _ hat
    obtain ⟨g2, cc2, rfl, _, _, _, _⟩ := own_form ho
    obtain ⟨hF', q6, z6⟩ := HPW.out w2 _ ho hg2 (by simpa using hat)
    have HQ : Hid _ := hF'
    clear hF' ho hg2 hat HPW
    go_wp2
    go_roundw
    case rel => exact ⟨i + 1, by first | rfl | (congr 1; omega), by omega, _, HQ.out⟩
    case measure => simp [intOf]; omega
  ·obtain rfl : i = n := by omega
   have HF : Hid (AkM E X wr sv wv' (s.ask l)) := by have h9 := HK.out; rw [HEND.out] at h9; exact h9
   clear HL HR HTK HRM HEND HK
   go_wp2
   go_end0
   exact ⟨rfl, wv', HF.out⟩
end Go.Proofs.YtajaijilfclhpaaGreatDoor
/- Till nobody waits: the walk. -/
namespace Go.Proofs.YtajaijilfclhpaaGreatDoor
open Go.RowKit Go.Sort

theorem snocZ (l : List Int) : l = [] ∨ ∃ l' m, l = l' ++ [m] := by
 rcases List.eq_nil_or_concat l with h | ⟨l', m, h⟩
 ·exact .inl h
 ·exact .inr ⟨l', m, by rw [h, List.concat_eq_append]⟩
set_option maxRecDepth 100000 in
set_option maxHeartbeats 4000000 in
theorem dsettle_any {E : AkE} {X : List Slot} {G : Gr} {bs : List Bl} {w : World} {sv wv : Value} {s : Ak} (h : AkM E X w sv wv s) (hI : AkI G bs [] s) (hS : Stl s (-1)) (hm : E.m = G.vars.length) (hm2 : E.m ≤ 1048576) (hsl : s.sets.length ≤ 1000000000000) :
  Calls Tryz.prog 58 #[ptr E.A] w fun e w' => e = .returned (.tuple #[]) ∧ ∃ wv' t, AkM E X w' sv wv' t ∧ AkI G bs [] t ∧ Stl t (-1) ∧ t.wait = [] := by
 have HST : Hid (∃ wv' t, AkM E X w sv wv' t ∧ AkI G bs [] t ∧ Stl t (-1) ∧ t.sets = s.sets) := ⟨wv, s, h, hI, hS, rfl⟩
 have HMM : Hid (E.m = G.vars.length) := hm
 clear h hI hS hm
 go_enter Tryz.func58, Tryz.ntmps58
 go_wp2
 go_loopw [] (fun wr => Hid (∃ wv' t, AkM E X wr sv wv' t ∧ AkI G bs [] t ∧ Stl t (-1) ∧ t.sets = s.sets)) (fun wr => muK wr E.A E.w0.heap.size)
 case atStart => exact HST.out
 case round =>
  obtain ⟨wv', t, hM, hI, hS, hts⟩ := hrel.out
  clear HST
  generalize wr = wo at *
  have HMU : Hid (muK wo E.A E.w0.heap.size = t.mu) := muK_of hM
  obtain ⟨b0, b1, b2, b3, bf, bA0, bA⟩ := hM.box
  rcases snocZ t.wait with hnil | ⟨l, v, hwt⟩
  ·obtain ⟨a, c, rfl⟩ := hM.waits
   rw [hnil] at b3 hM
   have HF : Hid (∃ wv' t, AkM E X wo sv wv' t ∧ AkI G bs [] t ∧ Stl t (-1) ∧ t.wait = []) := ⟨_, t, hM, hI, hS, hnil⟩
   clear hM hI hS hts hnil b0 b1 b2 HMU
   go_wp2
   go_end0
   exact ⟨rfl, HF.out⟩
  ·obtain ⟨g, c, rfl, hc, cl, hM2⟩ := hM.last hwt
   obtain ⟨hI2, hS2, hN, hv0, hv1, hmu⟩ := hI.pop (-1) (by omega) hS hwt
   rw [← HMM.out] at hv1
   have hl20 : (l.length : Int) ≤ 1048576 := by
    have h9 := hI.room
    rw [hwt, List.length_append, ← HMM.out] at h9
    omega
   have HW0 : Hid (WayI { t with wait := l } v (({ t with wait := l } : Ak).top v)) := WayI.start hI2 v
   have HT0 : Hid (({ t with wait := l } : Ak).sets = s.sets ∧ ({ t with wait := l } : Ak).mu < muK wo E.A E.w0.heap.size) := ⟨hts, by show _ < _; rw [HMU.out]; exact hmu⟩
   have HTL : Hid (({ t with wait := l } : Ak).top v = t.newest.getD v.toNat 0) := rfl
   clear hM hI hS hwt hmu HMU hts
   obtain ⟨c0, c1, c2, c3, cf, _, cA⟩ := hM2.box
   obtain ⟨vn, rfl⟩ : ∃ vn : Nat, v = (vn : Int) := ⟨v.toNat, by omega⟩
   have hvn : vn < E.m := by omega
   obtain ⟨n1, _⟩ := hM2.newest hvn
   have bf3 := bf 3
   rw [Int.toNat_natCast] at HTL
   rw [HTL.out] at HW0
   clear HTL
   have HM2 : Hid _ := hM2
   have HI2 : Hid _ := hI2
   have HS2 : Hid _ := hS2
   have HN : Hid (NeedP G (vn : Int)) := hN
   have HV0 : Hid (0 ≤ (vn : Int)) := hv0
   clear hM2 hI2 hS2 hN b0 b1 b2 c0 c2 c3 bf cf hv0
   unfold rwN at c1
   dsimp only at n1
   generalize t.newest.getD vn 0 = n0 at *
   generalize hu : ({ t with wait := l } : Ak) = u at *
   clear hu
   have hll : (l.length : Int) + 1 ≤ c := by omega
   generalize hLL : l.length = ll at *
   clear hLL
   go_wp2
   go_loopw [4] (fun vq wr => ∃ q : Nat, vq = .int .i64 q ∧ Hid (∃ wv2 x, AkM E X wr sv wv2 x ∧ AkI G bs [] x ∧ Stl x (vn : Int) ∧ WayI x (vn : Int) q ∧ x.sets = s.sets ∧ x.mu < muK wo E.A E.w0.heap.size)) (fun vq _ => (intOf vq).toNat)
   case atStart => exact ⟨n0, rfl, _, u, HM2.out, HI2.out, HS2.out, HW0.out, HT0.out.1, HT0.out.2⟩
   case round =>
    obtain ⟨q, rfl, hq⟩ := hrel
    obtain ⟨wv2, x, hM, hI, hS, hW, hxs, hmu⟩ := hq.out
    clear HM2 HI2 HS2 HW0 HT0 hq c1 n1 b3 cl bf3 cA
    generalize wr = wi at *
    cases q with
    | zero =>
     have HF : Hid (∃ wv' t, AkM E X wi sv wv' t ∧ AkI G bs [] t ∧ Stl t (-1) ∧ t.sets = s.sets) := ⟨wv2, x, hM, hI, WayI.done HV0.out hS hW, hxs⟩
     have HMU2 : Hid (muK wi E.A E.w0.heap.size < muK wo E.A E.w0.heap.size) := by show _ < _; rw [muK_of hM]; exact hmu
     clear hM hI hS hW hxs hmu
     go_wp2
     go_roundw
     case rel => exact HF.out
     case measure => exact HMU2.out
    | succ q =>
     have hql : q < x.sets.length := hW.le
     have hgt : x.sets[q]? = some (x.sets[q]'hql) := List.getElem?_eq_getElem hql
     generalize x.sets[q]'hql = y at hgt
     obtain ⟨b0, b1, b2, b3, bf, bA0, bA⟩ := hM.box
     obtain ⟨g3, c3, rfl, y0, y1, yI⟩ := hM.set hgt
     obtain ⟨hI3, hS3, hW3, ho3, hr3, hmu3, hs3, hn3⟩ := WayI.step hI HV0.out HN.out hS hW hgt
     rw [← HMM.out] at hr3
     have HAS : Hid _ := ask_any hM y.av y.args (fun W sv2 wv2 t2 ht2 => by have h9 := (hM.args y (List.mem_of_getElem? hgt)).below ht2.low; exact h9) hr3 (by rw [HMM.out]; exact hI.room) hm2
     have HNX : Hid (∀ W wv3, AkM E X W (.slice (some ⟨g3, 0, none⟩) x.sets.length c3) wv3 (x.ask y.args) → W.cell? ⟨E.A, 2, none⟩ = some (.slice (some ⟨g3, 0, none⟩) x.sets.length c3) ∧ W.cell? ⟨g3, q * 2 + 1, none⟩ = some (ixV y.older) ∧ E.A < W.heap.size) := fun W wv3 hW3 => by
      obtain ⟨_, _, d2, _, _, _, dA⟩ := hW3.box
      obtain ⟨g4, c4, e4, _, y4, _⟩ := hW3.set (n := q) (t := y) (by rw [hs3]; exact hgt)
      have e5 : g3 = g4 := by injection e4 with e5 _ _; injection e5 with e5; injection e5
      subst e5
      exact ⟨d2, y4, dA⟩
     have HI3 : Hid (AkI G bs [] (x.ask y.args) ∧ Stl (x.ask y.args) (vn : Int) ∧ WayI (x.ask y.args) (vn : Int) y.older ∧ (x.ask y.args).sets = s.sets ∧ (x.ask y.args).mu < muK wo E.A E.w0.heap.size) := ⟨hI3, hS3, hW3, hs3.trans hxs, Nat.lt_of_le_of_lt hmu3 hmu⟩
     have hxl : (x.sets.length : Int) ≤ 1000000000000 := by rw [hxs]; omega
     have HO3 : Hid (y.older ≤ q) := ho3
     obtain ⟨ya, yc, hyv, _⟩ := yI.form
     obtain ⟨yav, yargs, yold⟩ := y
     dsimp only at *
     subst hyv
     clear hI hS hW hI3 hS3 hW3 hr3 hmu3 hs3 hn3 hmu hxs hgt yI hM ho3 b0 b1 b3 bf
     generalize x.ask yargs = z at *
     generalize x.sets.length = xl at *
     generalize yargs.length = yl at *
     have hq1 : ((q + 1 : Nat) : Int) = (q : Int) + 1 := by omega
     have hql' : (q : Int) < xl := by omega
     rw [hq1]
     go_wp2_with (go_at_call 57; go_loud (refine Calls.mono (by exact HAS.out) ?_; rintro e w3 ⟨rfl, wv3, hM3⟩; obtain ⟨d2, dy, dA⟩ := HNX.out w3 wv3 hM3; have HM3 : Hid _ := hM3; clear hM3))
     go_roundw
     case rel => exact ⟨yold, rfl, wv3, z, HM3.out, HI3.out.1, HI3.out.2.1, HI3.out.2.2.1, HI3.out.2.2.2.1, HI3.out.2.2.2.2⟩
     case measure => have := HO3.out; simp [intOf]; omega
end Go.Proofs.YtajaijilfclhpaaGreatDoor
