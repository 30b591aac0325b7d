/- Graphs as plain data: ends, edges, what stands ahead, the walk that leaves blocks one by one. No program. -/
import Derived.Test.YtajaijilfclhpaaGreatDoorProg
import Derived.WalkKit
import Derived.WalkLawsBesides
import Derived.OneCell
import Derived.Deep.LoopGhost
import Derived.Deep.QuietTactic
import Derived.Deep.RegionWith
import Derived.Deep.RegionLaw
import Derived.Maps.AppendAt
import Derived.BigQuiet
import Derived.WalkSpells
import Derived.Laws.OwnMore
import Derived.OwnWalk
import Derived.OpenShut
namespace Go.Proofs.YtajaijilfclhpaaGreatDoor

structure Tm where
 kind : Int
 arg : Int
 t0 : Int
 t1 : Int
 trap : Int
 deriving DecidableEq, Inhabited
structure In where
 kind : Int
 op : Int
 dst : Int
 args : List Int
 bits : Int
 ref : Int
 deriving DecidableEq, Inhabited
structure Bl where
 ins : List In
 tm : Tm
 deriving DecidableEq, Inhabited
structure Gr where
 name : ByteArray
 params : List Int
 result : Int
 vars : List Int
 arrs : List (Int × Int)
 blocks : List Bl
 deriving Inhabited

def inB (k : Int) (n : Nat) : Bool := decide (0 ≤ k ∧ k < (n : Int))
theorem inB_iff {k : Int} {n : Nat} : inB k n = true ↔ 0 ≤ k ∧ k < (n : Int) := by unfold inB; simp
def namedT (t : Tm) : List Int := if t.kind = 1 then [t.t0] else if t.kind = 2 then [t.t0, t.t1] else []
def nextT (t : Tm) : List Int := if t.kind = 1 then [t.t0] else if t.kind = 2 then (if t.t0 = t.t1 then [t.t0] else if t.t0 < t.t1 then [t.t0, t.t1] else [t.t1, t.t0]) else []
/-- One more edge to a block: its row. -/
def putA (i : Int) (rows : List (List Int)) (to : Int) : List (List Int) := if inB to rows.length then rows.modify to.toNat (· ++ [i]) else rows
def putsA (i : Int) (rows : List (List Int)) (l : List Int) : List (List Int) := l.foldl (putA i) rows
def aheadF : List Tm → Nat → List (List Int) → List (List Int)
 | [], _, rows => rows
 | t :: ts, i, rows => aheadF ts (i + 1) (putsA (i : Int) rows (nextT t))
def aheadT (ts : List Tm) : List (List Int) := aheadF ts 0 (List.replicate ts.length [])
def tms (bs : List Bl) : List Tm := bs.map (·.tm)
theorem putA_len (i : Int) (rows : List (List Int)) (to : Int) : (putA i rows to).length = rows.length := by unfold putA; split <;> simp
theorem putsA_len (i : Int) : ∀ (l : List Int) (rows : List (List Int)), (putsA i rows l).length = rows.length
 | [], _ => rfl
 | a :: l, rows => by unfold putsA; rw [List.foldl_cons]; exact (putsA_len i l _).trans (putA_len _ _ _)
/-- How many blocks and instructions. -/
def countG (bs : List Bl) : Nat := bs.length + (bs.map fun b => b.ins.length).sum

/-- The walk: from a block that is marked on; blocks are told as they are left. -/
def stepW (go : Nat → List Bool → List Int → List Bool × List Int) (s : List Bool × List Int) (to : Int) : List Bool × List Int :=
 if inB to s.1.length && !(s.1.getD to.toNat true) then go to.toNat (s.1.set to.toNat true) s.2 else s
def dfs (ts : List Tm) : Nat → Nat → List Bool → List Int → List Bool × List Int
 | 0, at', met, left => (met, left ++ [(at' : Int)])
 | f + 1, at', met, left =>
  let s := (namedT (ts.getD at' default)).foldl (stepW (dfs ts f)) (met, left)
  (s.1, s.2 ++ [(at' : Int)])
def orderT (ts : List Tm) : List Int :=
 if ts.length = 0 then [] else (dfs ts ts.length 0 ((List.replicate ts.length false).set 0 true) []).2.reverse
def cntF (met : List Bool) : Nat := met.count false
end Go.Proofs.YtajaijilfclhpaaGreatDoor
/- Graphs in memory: rows of cells, one within another. -/
namespace Go.Proofs.YtajaijilfclhpaaGreatDoor
open Go.RowKit

/-- A row of n elements whose cells are these, somewhere in memory that is there. -/
def RowAt (w : World) (v : Value) (n : Nat) (cs : List Value) : Prop :=
 ∃ a c, v = .slice a n c ∧ (n ≤ c ∧ n ≤ 140737488355328) ∧ (n = 0 ∨ ∃ g o, a = some ⟨g, o, none⟩ ∧ g < w.heap.size ∧ ∀ j u, cs[j]? = some u → w.cell? ⟨g, o + j, none⟩ = some u)
theorem RowAt.below {w w' : World} {v : Value} {n : Nat} {cs : List Value} (h : RowAt w v n cs) (hb : Below w.heap.size w w') : RowAt w' v n cs := by
 obtain ⟨a, c, hv, hn, hc⟩ := h
 refine ⟨a, c, hv, hn, ?_⟩
 rcases hc with h0 | ⟨g, o, ha, hg, hc⟩
 ·exact .inl h0
 ·exact .inr ⟨g, o, ha, Nat.lt_of_lt_of_le hg hb.size, fun j k hk => (hb.cell (p := ⟨g, o + j, none⟩) hg).trans (hc j k hk)⟩
abbrev intV (k : Int) : Value := .int .i64 k
abbrev bytV (k : Int) : Value := .int .u8 k
def IntsAt (w : World) (v : Value) (l : List Int) : Prop := RowAt w v l.length (l.map intV)
def TysAt (w : World) (v : Value) (l : List Int) : Prop := RowAt w v l.length (l.map bytV)
def arrCells : List (Int × Int) → List Value
 | [] => []
 | a :: l => bytV a.1 :: intV a.2 :: arrCells l
def ArrsAt (w : World) (v : Value) (l : List (Int × Int)) : Prop := RowAt w v l.length (arrCells l)
def inCells (x : In) (av : Value) : List Value := [bytV x.kind, bytV x.op, intV x.dst, av, .int .u64 x.bits, intV x.ref]
def insCells : List In → List Value → List Value
 | x :: l, a :: avs => inCells x a ++ insCells l avs
 | _, _ => []
structure InsAt (w : World) (v : Value) (l : List In) : Prop where
 wf : ∀ x ∈ l, 0 ≤ x.bits ∧ x.bits < 18446744073709551616
 row : ∃ avs : List Value, avs.length = l.length ∧ RowAt w v l.length (insCells l avs) ∧ ∀ (i : Nat) (x : In) (a : Value), l[i]? = some x → avs[i]? = some a → IntsAt w a x.args
def blCells (b : Bl) (iv : Value) : List Value := [iv, bytV b.tm.kind, intV b.tm.arg, intV b.tm.t0, intV b.tm.t1, bytV b.tm.trap]
def blsCells : List Bl → List Value → List Value
 | x :: l, a :: avs => blCells x a ++ blsCells l avs
 | _, _ => []
structure BlsAt (w : World) (v : Value) (l : List Bl) : Prop where
 row : ∃ avs : List Value, avs.length = l.length ∧ RowAt w v l.length (blsCells l avs) ∧ ∀ (i : Nat) (x : Bl) (a : Value), l[i]? = some x → avs[i]? = some a → InsAt w a x.ins
/-- A graph's value: six cells. -/
structure GrAt (w : World) (pv vv av bv : Value) (g : Gr) : Prop where
 ps : IntsAt w pv g.params
 vs : TysAt w vv g.vars
 ars : ArrsAt w av g.arrs
 bs : BlsAt w bv g.blocks
def grL (g : Gr) (pv vv av bv : Value) : List Value := [.string g.name, pv, bytV g.result, vv, av, bv]
abbrev grArr (nm : ByteArray) (r : Int) (pv vv av bv : Value) : Array Value := #[.string nm, pv, .int .u8 r, vv, av, bv]
def grsCells : List Gr → List (Value × Value × Value × Value) → List Value
 | x :: l, q :: qs => grL x q.1 q.2.1 q.2.2.1 q.2.2.2 ++ grsCells l qs
 | _, _ => []
structure GrsAt (w : World) (v : Value) (l : List Gr) : Prop where
 row : ∃ qs : List (Value × Value × Value × Value), qs.length = l.length ∧ RowAt w v l.length (grsCells l qs) ∧ ∀ (i : Nat) (x : Gr) (q : Value × Value × Value × Value), l[i]? = some x → qs[i]? = some q → GrAt w q.1 q.2.1 q.2.2.1 q.2.2.2 x
theorem IntsAt.below {w w' : World} {v : Value} {l : List Int} (h : IntsAt w v l) (hb : Below w.heap.size w w') : IntsAt w' v l := RowAt.below h hb
theorem TysAt.below {w w' : World} {v : Value} {l : List Int} (h : TysAt w v l) (hb : Below w.heap.size w w') : TysAt w' v l := RowAt.below h hb
theorem ArrsAt.below {w w' : World} {v : Value} {l : List (Int × Int)} (h : ArrsAt w v l) (hb : Below w.heap.size w w') : ArrsAt w' v l := RowAt.below h hb
theorem InsAt.below {w w' : World} {v : Value} {l : List In} (h : InsAt w v l) (hb : Below w.heap.size w w') : InsAt w' v l := by
 obtain ⟨avs, h1, h2, h3⟩ := h.row
 exact ⟨h.wf, avs, h1, h2.below hb, fun i x a hx ha => (h3 i x a hx ha).below hb⟩
theorem BlsAt.below {w w' : World} {v : Value} {l : List Bl} (h : BlsAt w v l) (hb : Below w.heap.size w w') : BlsAt w' v l := by
 obtain ⟨avs, h1, h2, h3⟩ := h.row
 exact ⟨avs, h1, h2.below hb, fun i x a hx ha => (h3 i x a hx ha).below hb⟩
theorem GrAt.below {w w' : World} {pv vv av bv : Value} {g : Gr} (h : GrAt w pv vv av bv g) (hb : Below w.heap.size w w') : GrAt w' pv vv av bv g :=
 ⟨h.ps.below hb, h.vs.below hb, h.ars.below hb, h.bs.below hb⟩
theorem GrsAt.below {w w' : World} {v : Value} {l : List Gr} (h : GrsAt w v l) (hb : Below w.heap.size w w') : GrsAt w' v l := by
 obtain ⟨avs, h1, h2, h3⟩ := h.row
 exact ⟨avs, h1, h2.below hb, fun i x a hx ha => (h3 i x a hx ha).below hb⟩
/- Cells of an element. -/
theorem insCells_get : ∀ {l : List In} {avs : List Value} {i : Nat} {x : In} {a : Value}, l[i]? = some x → avs[i]? = some a → ∀ j u, (inCells x a)[j]? = some u → (insCells l avs)[i * 6 + j]? = some u
 | y :: l, b :: avs, 0, x, a, hx, ha, j, u, hu => by
  simp at hx ha; subst hx; subst ha
  have hj : j < 6 := by have := (List.getElem?_eq_some_iff.1 hu).1; simpa [inCells] using this
  unfold insCells
  rw [Nat.zero_mul, Nat.zero_add, List.getElem?_append_left (by simpa [inCells] using hj)]
  exact hu
 | y :: l, b :: avs, i + 1, x, a, hx, ha, j, u, hu => by
  have := insCells_get (l := l) (avs := avs) (i := i) (by simpa using hx) (by simpa using ha) j u hu
  unfold insCells
  rw [List.getElem?_append_right (by simp [inCells]; omega)]
  rw [show (i + 1) * 6 + j - (inCells y b).length = i * 6 + j by simp [inCells]; omega]
  exact this
 | [], _, _, _, _, hx, _, _, _, _ => by simp at hx
 | _ :: _, [], _, _, _, _, ha, _, _, _ => by simp at ha
theorem blsCells_get : ∀ {l : List Bl} {avs : List Value} {i : Nat} {x : Bl} {a : Value}, l[i]? = some x → avs[i]? = some a → ∀ j u, (blCells x a)[j]? = some u → (blsCells l avs)[i * 6 + j]? = some u
 | y :: l, b :: avs, 0, x, a, hx, ha, j, u, hu => by
  simp at hx ha; subst hx; subst ha
  have hj : j < 6 := by have := (List.getElem?_eq_some_iff.1 hu).1; simpa [blCells] using this
  unfold blsCells
  rw [Nat.zero_mul, Nat.zero_add, List.getElem?_append_left (by simpa [blCells] using hj)]
  exact hu
 | y :: l, b :: avs, i + 1, x, a, hx, ha, j, u, hu => by
  have := blsCells_get (l := l) (avs := avs) (i := i) (by simpa using hx) (by simpa using ha) j u hu
  unfold blsCells
  rw [List.getElem?_append_right (by simp [blCells]; omega)]
  rw [show (i + 1) * 6 + j - (blCells y b).length = i * 6 + j by simp [blCells]; omega]
  exact this
 | [], _, _, _, _, hx, _, _, _, _ => by simp at hx
 | _ :: _, [], _, _, _, _, ha, _, _, _ => by simp at ha
theorem grsCells_get : ∀ {l : List Gr} {avs : List (Value × Value × Value × Value)} {i : Nat} {x : Gr} {a : Value × Value × Value × Value}, l[i]? = some x → avs[i]? = some a → ∀ j u, (grL x a.1 a.2.1 a.2.2.1 a.2.2.2)[j]? = some u → (grsCells l avs)[i * 6 + j]? = some u
 | y :: l, b :: avs, 0, x, a, hx, ha, j, u, hu => by
  simp at hx ha; subst hx; subst ha
  have hj : j < 6 := by have := (List.getElem?_eq_some_iff.1 hu).1; simpa [grL] using this
  unfold grsCells
  rw [Nat.zero_mul, Nat.zero_add, List.getElem?_append_left (by simpa [grL] using hj)]
  exact hu
 | y :: l, b :: avs, i + 1, x, a, hx, ha, j, u, hu => by
  have := grsCells_get (l := l) (avs := avs) (i := i) (by simpa using hx) (by simpa using ha) j u hu
  unfold grsCells
  rw [List.getElem?_append_right (by simp [grL]; omega)]
  rw [show (i + 1) * 6 + j - (grL y b.1 b.2.1 b.2.2.1 b.2.2.2).length = i * 6 + j by simp [grL]; omega]
  exact this
 | [], _, _, _, _, hx, _, _, _, _ => by simp at hx
 | _ :: _, [], _, _, _, _, ha, _, _, _ => by simp at ha
theorem arrCells_get : ∀ {l : List (Int × Int)} {i : Nat} {x : Int × Int}, l[i]? = some x → (arrCells l)[i * 2]? = some (bytV x.1) ∧ (arrCells l)[i * 2 + 1]? = some (intV x.2)
 | y :: l, 0, x, hx => by simp at hx; subst hx; simp [arrCells]
 | y :: l, i + 1, x, hx => by
  have := arrCells_get (l := l) (i := i) (by simpa using hx)
  unfold arrCells
  rw [show (i + 1) * 2 = i * 2 + 1 + 1 by omega]
  simpa using this
 | [], _, _, hx => by simp at hx
/- What a walk reads. -/
theorem IntsAt.cap {w : World} {a : Option Addr} {n c : Nat} {l : List Int} (h : IntsAt w (.slice a n c) l) : l.length ≤ c := by
 obtain ⟨a', c', hv, hn, _⟩ := h
 cases hv
 exact hn.1
theorem IntsAt.form {w : World} {v : Value} {l : List Int} (h : IntsAt w v l) : ∃ a c, v = .slice a l.length c ∧ l.length ≤ 140737488355328 := by
 obtain ⟨a, c, hv, hn, _⟩ := h; exact ⟨a, c, hv, hn.2⟩
theorem IntsAt.get {w : World} {a : Option Addr} {n c : Nat} {l : List Int} (h : IntsAt w (.slice a n c) l) {i : Nat} (hi : i < l.length) : ∃ g o, a = some ⟨g, o, none⟩ ∧ g < w.heap.size ∧ w.cell? ⟨g, o + i, none⟩ = some (.int .i64 (l.getD i 0)) := by
 obtain ⟨a', c', hv, _, hc⟩ := h
 cases hv
 rcases hc with h0 | ⟨g, o, ha, hg, hc⟩
 ·omega
 ·refine ⟨g, o, ha, hg, hc i _ ?_⟩
  simp [List.getD, List.getElem?_eq_getElem hi]
theorem TysAt.get {w : World} {a : Option Addr} {n c : Nat} {l : List Int} (h : TysAt w (.slice a n c) l) {i : Nat} (hi : i < l.length) : ∃ g o, a = some ⟨g, o, none⟩ ∧ g < w.heap.size ∧ w.cell? ⟨g, o + i, none⟩ = some (.int .u8 (l.getD i 0)) := by
 obtain ⟨a', c', hv, _, hc⟩ := h
 cases hv
 rcases hc with h0 | ⟨g, o, ha, hg, hc⟩
 ·omega
 ·refine ⟨g, o, ha, hg, hc i _ ?_⟩
  simp [List.getD, List.getElem?_eq_getElem hi]
theorem ArrsAt.get {w : World} {a : Option Addr} {n c : Nat} {l : List (Int × Int)} (h : ArrsAt w (.slice a n c) l) {i : Nat} (hi : i < l.length) : ∃ g o, a = some ⟨g, o, none⟩ ∧ g < w.heap.size ∧ w.cell? ⟨g, o + i * 2, none⟩ = some (.int .u8 (l.getD i default).1) ∧ w.cell? ⟨g, o + i * 2 + 1, none⟩ = some (.int .i64 (l.getD i default).2) := by
 obtain ⟨a', c', hv, _, hc⟩ := h
 cases hv
 rcases hc with h0 | ⟨g, o, ha, hg, hc⟩
 ·omega
 ·have e : l[i]? = some (l.getD i default) := by simp [List.getD, List.getElem?_eq_getElem hi]
  obtain ⟨h1, h2⟩ := arrCells_get e
  exact ⟨g, o, ha, hg, hc _ _ h1, hc _ _ h2⟩
theorem InsAt.form {w : World} {v : Value} {l : List In} (h : InsAt w v l) : ∃ a c, v = .slice a l.length c ∧ l.length ≤ 140737488355328 := by
 obtain ⟨_, _, ⟨a, c, hv, hn, _⟩, _⟩ := h.row; exact ⟨a, c, hv, hn.2⟩
theorem InsAt.get {w : World} {a : Option Addr} {n c : Nat} {l : List In} (h : InsAt w (.slice a n c) l) {i : Nat} (hi : i < l.length) : ∃ g o av, a = some ⟨g, o, none⟩ ∧ g < w.heap.size ∧ w.cell? ⟨g, o + i * 6, none⟩ = some (.int .u8 (l.getD i default).kind) ∧ w.cell? ⟨g, o + i * 6 + 1, none⟩ = some (.int .u8 (l.getD i default).op) ∧ w.cell? ⟨g, o + i * 6 + 2, none⟩ = some (.int .i64 (l.getD i default).dst) ∧ w.cell? ⟨g, o + i * 6 + 3, none⟩ = some av ∧ w.cell? ⟨g, o + i * 6 + 4, none⟩ = some (.int .u64 (l.getD i default).bits) ∧ w.cell? ⟨g, o + i * 6 + 5, none⟩ = some (.int .i64 (l.getD i default).ref) ∧ IntsAt w av (l.getD i default).args := by
 obtain ⟨avs, hl, ⟨a', c', hv, _, hc⟩, hk⟩ := h.row
 cases hv
 rcases hc with h0 | ⟨g, o, ha, hg, hc⟩
 ·omega
 ·have e : l[i]? = some (l.getD i default) := by simp [List.getD, List.getElem?_eq_getElem hi]
  have e2 : avs[i]? = some (avs[i]'(by omega)) := List.getElem?_eq_getElem _
  have hx := insCells_get e e2
  refine ⟨g, o, _, ha, hg, hc _ _ (hx 0 _ rfl), ?_, ?_, ?_, ?_, ?_, hk i _ _ e e2⟩
  ·rw [Nat.add_assoc]; exact hc _ _ (hx 1 _ rfl)
  ·rw [Nat.add_assoc]; exact hc _ _ (hx 2 _ rfl)
  ·rw [Nat.add_assoc]; exact hc _ _ (hx 3 _ rfl)
  ·rw [Nat.add_assoc]; exact hc _ _ (hx 4 _ rfl)
  ·rw [Nat.add_assoc]; exact hc _ _ (hx 5 _ rfl)
theorem BlsAt.form {w : World} {v : Value} {l : List Bl} (h : BlsAt w v l) : ∃ a c, v = .slice a l.length c ∧ l.length ≤ 140737488355328 := by
 obtain ⟨_, _, ⟨a, c, hv, hn, _⟩, _⟩ := h.row; exact ⟨a, c, hv, hn.2⟩
theorem BlsAt.get {w : World} {a : Option Addr} {n c : Nat} {l : List Bl} (h : BlsAt w (.slice a n c) l) {i : Nat} (hi : i < l.length) : ∃ g o iv, a = some ⟨g, o, none⟩ ∧ g < w.heap.size ∧ w.cell? ⟨g, o + i * 6, none⟩ = some iv ∧ w.cell? ⟨g, o + i * 6 + 1, none⟩ = some (.int .u8 (l.getD i default).tm.kind) ∧ w.cell? ⟨g, o + i * 6 + 2, none⟩ = some (.int .i64 (l.getD i default).tm.arg) ∧ w.cell? ⟨g, o + i * 6 + 3, none⟩ = some (.int .i64 (l.getD i default).tm.t0) ∧ w.cell? ⟨g, o + i * 6 + 4, none⟩ = some (.int .i64 (l.getD i default).tm.t1) ∧ w.cell? ⟨g, o + i * 6 + 5, none⟩ = some (.int .u8 (l.getD i default).tm.trap) ∧ InsAt w iv (l.getD i default).ins := by
 obtain ⟨avs, hl, ⟨a', c', hv, _, hc⟩, hk⟩ := h.row
 cases hv
 rcases hc with h0 | ⟨g, o, ha, hg, hc⟩
 ·omega
 ·have e : l[i]? = some (l.getD i default) := by simp [List.getD, List.getElem?_eq_getElem hi]
  have e2 : avs[i]? = some (avs[i]'(by omega)) := List.getElem?_eq_getElem _
  have hx := blsCells_get e e2
  refine ⟨g, o, _, ha, hg, hc _ _ (hx 0 _ rfl), ?_, ?_, ?_, ?_, ?_, hk i _ _ e e2⟩
  ·rw [Nat.add_assoc]; exact hc _ _ (hx 1 _ rfl)
  ·rw [Nat.add_assoc]; exact hc _ _ (hx 2 _ rfl)
  ·rw [Nat.add_assoc]; exact hc _ _ (hx 3 _ rfl)
  ·rw [Nat.add_assoc]; exact hc _ _ (hx 4 _ rfl)
  ·rw [Nat.add_assoc]; exact hc _ _ (hx 5 _ rfl)
theorem GrsAt.form {w : World} {v : Value} {l : List Gr} (h : GrsAt w v l) : ∃ a c, v = .slice a l.length c ∧ l.length ≤ 140737488355328 := by
 obtain ⟨_, _, ⟨a, c, hv, hn, _⟩, _⟩ := h.row; exact ⟨a, c, hv, hn.2⟩
theorem GrsAt.get {w : World} {a : Option Addr} {n c : Nat} {l : List Gr} (h : GrsAt w (.slice a n c) l) {i : Nat} (hi : i < l.length) : ∃ g o pv vv av bv, a = some ⟨g, o, none⟩ ∧ g < w.heap.size ∧ w.cell? ⟨g, o + i * 6, none⟩ = some (.string (l.getD i default).name) ∧ w.cell? ⟨g, o + i * 6 + 1, none⟩ = some pv ∧ w.cell? ⟨g, o + i * 6 + 2, none⟩ = some (.int .u8 (l.getD i default).result) ∧ w.cell? ⟨g, o + i * 6 + 3, none⟩ = some vv ∧ w.cell? ⟨g, o + i * 6 + 4, none⟩ = some av ∧ w.cell? ⟨g, o + i * 6 + 5, none⟩ = some bv ∧ GrAt w pv vv av bv (l.getD i default) := by
 obtain ⟨avs, hl, ⟨a', c', hv, _, hc⟩, hk⟩ := h.row
 cases hv
 rcases hc with h0 | ⟨g, o, ha, hg, hc⟩
 ·omega
 ·have e : l[i]? = some (l.getD i default) := by simp [List.getD, List.getElem?_eq_getElem hi]
  have e2 : avs[i]? = some (avs[i]'(by omega)) := List.getElem?_eq_getElem _
  have hx := grsCells_get e e2
  refine ⟨g, o, _, _, _, _, ha, hg, hc _ _ (hx 0 _ rfl), ?_, ?_, ?_, ?_, ?_, hk i _ _ e e2⟩
  ·rw [Nat.add_assoc]; exact hc _ _ (hx 1 _ rfl)
  ·rw [Nat.add_assoc]; exact hc _ _ (hx 2 _ rfl)
  ·rw [Nat.add_assoc]; exact hc _ _ (hx 3 _ rfl)
  ·rw [Nat.add_assoc]; exact hc _ _ (hx 4 _ rfl)
  ·rw [Nat.add_assoc]; exact hc _ _ (hx 5 _ rfl)
end Go.Proofs.YtajaijilfclhpaaGreatDoor
/- Small contracts: places, what an end names, rows compared, how much there is. -/
namespace Go.Proofs.YtajaijilfclhpaaGreatDoor
open Go.RowKit

theorem ret_int {k : IntKind} {a b : Int} (h : a = b) : Ending.returned (.int k a) = .returned (.int k b) := by rw [h]
theorem ret_bool {a b : Bool} (h : a = b) : Ending.returned (.bool a) = .returned (.bool b) := by rw [h]
theorem below_drewN {w w1 : World} (h : Below w.heap.size w w1) (k : Nat) : Below w.heap.size w (w1.drewN k) := h.trans ⟨rfl, rfl, rfl, Nat.le_refl _, fun _ _ => rfl⟩
theorem below_drew {w w1 : World} (h : Below w.heap.size w w1) : Below w.heap.size w w1.drew := h.trans ⟨rfl, rfl, rfl, Nat.le_refl _, fun _ _ => rfl⟩
theorem below_alloc {w w1 : World} (h : Below w.heap.size w w1) (o : Obj) : Below w.heap.size w (w1.alloc o) := h.alloc h.size o
theorem below_trans {w w1 w2 : World} (h : Below w.heap.size w w1) (h2 : Below w1.heap.size w1 w2) : Below w.heap.size w w2 := h.trans (h2.mono h.size)
theorem bcell {W w1 : World} (hb : Below W.heap.size W w1) : (∀ b o, b < W.heap.size → w1.cell? ⟨b, o, none⟩ = W.cell? ⟨b, o, none⟩) ∧ (∀ b o, b < W.heap.size → w1.frozen? ⟨b, o, none⟩ = W.frozen? ⟨b, o, none⟩) :=
 ⟨fun b o h => hb.cell (p := ⟨b, o, none⟩) h, fun b o h => hb.frozen (p := ⟨b, o, none⟩) h⟩
def placeB (a b : Int) : Bool := decide (0 ≤ a ∧ a < b)
theorem isPlace_any (a b : Int) (w : World) : Calls Tryz.prog 178 #[.int .i64 a, .int .i64 b] w fun e w' => e = .returned (.bool (placeB a b)) ∧ w' = w := by
 unfold placeB
 go_enter Tryz.func178, Tryz.ntmps178
 by_cases h : 0 ≤ a
 ·go_wp2
  go_ret
  exact ⟨ret_bool (by simp [h]), rfl⟩
 ·go_wp2
  go_ret
  exact ⟨ret_bool (by simp; omega), rfl⟩
/-- A row of whole numbers in memory of one's own. -/
abbrev OwnI (w : World) (base : Nat) (v : Value) (l : List Int) : Prop := w.ownsRow base 3 1 v l.length (l.map intV)
theorem OwnI.at' {w : World} {base : Nat} {v : Value} {l : List Int} (h : OwnI w base v l) (hl : l.length ≤ 140737488355328) : IntsAt w v l := by
 rcases h.2 with ⟨rfl, h0⟩ | ⟨g, cap, cur, rfl, _, hg, hc, _⟩
 ·exact ⟨none, 0, by rw [h0], ⟨by omega, hl⟩, .inl h0⟩
 ·refine ⟨_, _, rfl, ⟨hc, hl⟩, .inr ⟨g, 0, rfl, (Array.getElem?_eq_some_iff.1 hg).1, fun j u hj => ?_⟩⟩
  have := h.cells (g := g) rfl j u hj
  rwa [Addr.add_lit] at this
theorem own_lit2 (w : World) (o : Obj) (cs : Array Value) (e : TypeId) (n : Nat) (hm : n ≤ maxLen) (hs : cs.size = n * 1) : ((w.alloc o).alloc (.cells cs e)).ownsRow w.heap.size e 1 (.slice (some ⟨w.heap.size + 1, 0, none⟩) n n) n cs.toList := by
 have h := World.ownsRow_lit (base := w.heap.size) (e := e) (size := 1) (w.alloc o) cs n (below_alloc (Below.refl _ _) _).size hm hs
 rwa [show (w.alloc o).heap.size = w.heap.size + 1 by simp] at h
abbrev tmV (t : Tm) : Value := .agg #[.int .u8 t.kind, .int .i64 t.arg, .int .i64 t.t0, .int .i64 t.t1, .int .u8 t.trap]
theorem named_any (t : Tm) (w : World) : Calls Tryz.prog 205 #[tmV t] w fun e w' => ∃ v, e = .returned v ∧ OwnI w' w.heap.size v (namedT t) ∧ Below w.heap.size w w' := by
 obtain ⟨k, a, x, y, z⟩ := t
 unfold namedT
 by_cases h1 : k = 1
 ·subst h1
  go_enter Tryz.func205, Tryz.ntmps205
  go_wp2
  go_ret
  refine ⟨.slice (some ⟨w.heap.size + 1, 0, none⟩) 1 1, rfl, ?_, ?_⟩
  ·exact own_lit2 w _ #[.int .i64 x] _ 1 (by decide) rfl
  ·exact below_alloc (below_alloc (Below.refl _ _) _) _
 ·by_cases h2 : k = 2
  ·subst h2
   go_enter Tryz.func205, Tryz.ntmps205
   go_wp2
   go_ret
   refine ⟨.slice (some ⟨w.heap.size + 1, 0, none⟩) 2 2, rfl, ?_, ?_⟩
   ·exact own_lit2 w _ #[.int .i64 x, .int .i64 y] _ 2 (by decide) rfl
   ·exact below_alloc (below_alloc (Below.refl _ _) _) _
  ·simp only [h1, h2, if_false]
   go_enter Tryz.func205, Tryz.ntmps205
   go_wp2
   go_ret
   exact ⟨_, rfl, World.ownsRow_nil _ _ _ _, below_alloc (Below.refl _ _) _⟩
theorem take_next {xs ys : List Int} {i : Nat} {x : Int} (h : xs.take i = ys.take i) (h1 : xs[i]? = some x) (h2 : ys[i]? = some x) : xs.take (i + 1) = ys.take (i + 1) := by
 rw [List.take_add_one, List.take_add_one, h, h1, h2]
theorem getD_some {l : List Int} {i : Nat} (h : i < l.length) : l[i]? = some (l.getD i 0) := by simp [List.getD, List.getElem?_eq_getElem h]
end Go.Proofs.YtajaijilfclhpaaGreatDoor
/- Package scalar: which words are right, what operations make of types, which types turn. -/
namespace Go.Proofs.YtajaijilfclhpaaGreatDoor
open Go.RowKit

def wholeB (t : Int) : Bool := t == 2 || t == 3 || t == 4
def numberB (t : Int) : Bool := t == 5 || wholeB t
def typedB (t : Int) : Bool := t == 1 || numberB t
def nanI (a : Int) : Bool := FloatKind.f64.format.order a.toNat a.toNat != some .eq
def cutI (t a : Int) : Int :=
 if t = 1 then a % 2 else if t = 2 then a % 256 else if t = 3 then IntKind.u64.wrap (wrap32 a)
 else if t = 5 then (if nanI a = true then 9221120237041090560 else a) else if t = 4 then a else 0
def rightB (t a : Int) : Bool := typedB t && (cutI t a == a)
def word (a : Int) : Prop := 0 ≤ a ∧ a < 18446744073709551616
def oneB (o : Int) : Bool := o == 17 || o == 18
def ofT (o t : Int) : Int :=
 if o = 11 ∨ o = 12 then (if typedB t then 1 else 0)
 else if o = 13 ∨ o = 14 ∨ o = 15 ∨ o = 16 then (if numberB t then 1 else 0)
 else if o = 1 ∨ o = 2 ∨ o = 3 ∨ o = 4 ∨ o = 17 then (if numberB t then t else 0)
 else if o = 6 ∨ o = 7 ∨ o = 8 ∨ o = 18 then (if t = 1 ∨ wholeB t = true then t else 0)
 else if o = 5 ∨ o = 9 ∨ o = 10 then (if wholeB t then t else 0) else 0
def ofB (o t : Int) : Bool :=
 if o = 11 ∨ o = 12 then typedB t
 else if o = 13 ∨ o = 14 ∨ o = 15 ∨ o = 16 then numberB t
 else if o = 1 ∨ o = 2 ∨ o = 3 ∨ o = 4 ∨ o = 17 then numberB t
 else if o = 6 ∨ o = 7 ∨ o = 8 ∨ o = 18 then t == 1 || wholeB t
 else if o = 5 ∨ o = 9 ∨ o = 10 then wholeB t else false
def turnsB (to fr : Int) : Bool := numberB to && numberB fr
theorem ret_u64 {a b : Int} (h : a = b) : Ending.returned (.int .u64 a) = .returned (.int .u64 b) := by rw [h]
theorem ret_pair {k : IntKind} {a b : Int} {x y : Bool} (h : a = b) (g : x = y) : Ending.returned (.tuple #[.int k a, .bool x]) = .returned (.tuple #[.int k b, .bool y]) := by rw [h, g]
theorem and_one (a : Int) (h : word a) : bits .and .u64 a 1 = a % 2 := by
 obtain ⟨h0, h1⟩ := h
 exact and_one_u64 a h0 (by omega)
theorem run_frombits (a : Int) (w : World) : (callFunc 197 #[.int .u64 a]).run Tryz.prog w = .ok (.value (.float .f64 a.toNat)) w := by kernel_rfl
set_option maxHeartbeats 400000 in
theorem cut_any (t a : Int) (w : World) (ha : Hid (word a)) :
  Calls Tryz.prog 199 #[.int .u8 t, .int .u64 a] w fun e w' => e = .returned (.int .u64 (cutI t a)) ∧ w' = w := by
 have f1 := run_frombits
 by_cases h1 : t = 1
 ·subst h1
  go_enter Tryz.func199, Tryz.ntmps199
  go_wp2
  go_ret
  exact ⟨ret_u64 (and_one a ha.out), rfl⟩
 by_cases h2 : t = 2
 ·subst h2
  go_enter Tryz.func199, Tryz.ntmps199
  go_wp2
  go_ret
  exact ⟨rfl, rfl⟩
 by_cases h3 : t = 3
 ·subst h3
  go_enter Tryz.func199, Tryz.ntmps199
  go_wp2
  go_ret
  exact ⟨rfl, rfl⟩
 by_cases h4 : t = 4
 ·subst h4
  go_enter Tryz.func199, Tryz.ntmps199
  go_wp2
  go_ret
  exact ⟨rfl, rfl⟩
 by_cases h5 : t = 5
 ·subst h5
  by_cases hn : (FloatKind.f64.format.order a.toNat a.toNat != some .eq) = true
  ·go_enter Tryz.func199, Tryz.ntmps199
   go_wp2
   go_ret
   exact ⟨ret_u64 (by simp [cutI, nanI, hn]), rfl⟩
  ·have hn' : (FloatKind.f64.format.order a.toNat a.toNat != some .eq) = false := by simpa using hn
   go_enter Tryz.func199, Tryz.ntmps199
   go_wp2
   go_ret
   exact ⟨ret_u64 (by simp [cutI, nanI, hn']), rfl⟩
 ·go_enter Tryz.func199, Tryz.ntmps199
  go_wp2
  go_ret
  exact ⟨ret_u64 (by simp [cutI, h1, h2, h3, h4, h5]), rfl⟩
set_option maxHeartbeats 400000 in
theorem whole_any (t : Int) (w : World) : Calls Tryz.prog 214 #[.int .u8 t] w fun e w' => e = .returned (.bool (wholeB t)) ∧ w' = w := by
 go_enter Tryz.func214, Tryz.ntmps214
 go_wp2
 all_goals go_ret
 all_goals exact ⟨ret_bool (by simp_all [wholeB]), rfl⟩
set_option maxHeartbeats 400000 in
theorem number_any (t : Int) (w : World) : Calls Tryz.prog 209 #[.int .u8 t] w fun e w' => e = .returned (.bool (numberB t)) ∧ w' = w := by
 by_cases h : t = 5
 ·subst h
  go_enter Tryz.func209, Tryz.ntmps209
  go_wp2
  go_ret
  exact ⟨rfl, rfl⟩
 ·have h' : (t == 5) = false := by simpa using h
  go_enter Tryz.func209, Tryz.ntmps209
  go_wp2_with (go_at_call 214; refine (whole_any _ _).mono ?_; rintro e w' ⟨rfl, rfl⟩)
  go_ret
  exact ⟨ret_bool (by simp [numberB, h']), rfl⟩
set_option maxHeartbeats 400000 in
theorem typed_any (t : Int) (w : World) : Calls Tryz.prog 198 #[.int .u8 t] w fun e w' => e = .returned (.bool (typedB t)) ∧ w' = w := by
 by_cases h : t = 1
 ·subst h
  go_enter Tryz.func198, Tryz.ntmps198
  go_wp2
  go_ret
  exact ⟨rfl, rfl⟩
 ·have h' : (t == 1) = false := by simpa using h
  go_enter Tryz.func198, Tryz.ntmps198
  go_wp2_with (go_at_call 209; refine (number_any _ _).mono ?_; rintro e w' ⟨rfl, rfl⟩)
  go_ret
  exact ⟨ret_bool (by simp [typedB, h']), rfl⟩
set_option maxHeartbeats 400000 in
theorem right_any (t a : Int) (w : World) (ha : Hid (word a)) :
  Calls Tryz.prog 188 #[.int .u8 t, .int .u64 a] w fun e w' => e = .returned (.bool (rightB t a)) ∧ w' = w := by
 by_cases h : typedB t = true
 ·go_enter Tryz.func188, Tryz.ntmps188
  go_wp2_with (first | (go_at_call 198; refine (typed_any _ _).mono ?_; rintro e w' ⟨rfl, rfl⟩) | (go_at_call 199; refine (cut_any _ _ _ ha).mono ?_; rintro e w' ⟨rfl, rfl⟩))
  go_ret
  exact ⟨ret_bool (by simp [rightB, h]), rfl⟩
 ·have h' : typedB t = false := by simpa using h
  go_enter Tryz.func188, Tryz.ntmps188
  go_wp2_with (first | (go_at_call 198; refine (typed_any _ _).mono ?_; rintro e w' ⟨rfl, rfl⟩))
  go_ret
  exact ⟨ret_bool (by simp [rightB, h']), rfl⟩
set_option maxHeartbeats 1000000 in
theorem of_any (o t : Int) (w : World) :
  Calls Tryz.prog 211 #[.int .u8 o, .int .u8 t] w fun e w' => e = .returned (.tuple #[.int .u8 (ofT o t), .bool (ofB o t)]) ∧ w' = w := by
 go_enter Tryz.func211, Tryz.ntmps211
 go_wp2_with (first | (go_at_call 209; refine (number_any _ _).mono ?_; rintro e w' ⟨rfl, rfl⟩) | (go_at_call 214; refine (whole_any _ _).mono ?_; rintro e w' ⟨rfl, rfl⟩))
 all_goals go_ret2
 all_goals exact ⟨ret_pair (by simp_all [ofT, typedB]) (by simp_all [ofB, typedB]), rfl⟩
set_option maxHeartbeats 400000 in
theorem turns_any (to fr : Int) (w : World) : Calls Tryz.prog 202 #[.int .u8 to, .int .u8 fr] w fun e w' => e = .returned (.bool (turnsB to fr)) ∧ w' = w := by
 cases h1 : numberB to <;> cases h2 : numberB fr
 all_goals
  go_enter Tryz.func202, Tryz.ntmps202
  go_wp2_with (go_at_call 209; refine (number_any _ _).mono ?_; rintro e w' ⟨rfl, rfl⟩)
  go_ret
  exact ⟨ret_bool (by simp [turnsB, h1, h2]), rfl⟩
end Go.Proofs.YtajaijilfclhpaaGreatDoor
/- Variables in memory; rows of one's own. -/
namespace Go.Proofs.YtajaijilfclhpaaGreatDoor
open Go.RowKit

abbrev ptr (b : Nat) : Value := .pointer (some ⟨b, 0, none⟩)
/-- A variable at block b, cell by cell. -/
structure Box (w : World) (b : Nat) (cs : List Value) : Prop where
 lt : b < w.heap.size
 cell : ∀ (j : Nat) (u : Value), cs[j]? = some u → w.cell? ⟨b, j, none⟩ = some u
 fz : ∀ j, w.frozen? ⟨b, j, none⟩ = false
theorem Box.same {w w' : World} {b : Nat} {cs : List Value} (h : Box w b cs) (he : w'.heap[b]? = w.heap[b]?) : Box w' b cs := by
 refine ⟨?_, fun j u hj => (World.cell?_of_block (w := w) (a := ⟨b, j, none⟩) he).trans (h.cell j u hj), fun j => (World.frozen?_of_block (w := w) (a := ⟨b, j, none⟩) he).trans (h.fz j)⟩
 rcases Nat.lt_or_ge b w'.heap.size with h1 | h1
 ·exact h1
 ·rw [Array.getElem?_eq_none h1, Array.getElem?_eq_getElem h.lt] at he
  cases he
theorem Box.below {w w' : World} {b : Nat} {cs : List Value} (h : Box w b cs) (hk : Below w.heap.size w w') : Box w' b cs := h.same (hk.block b h.lt)
theorem Box.other {w : World} {b : Nat} {cs : List Value} (h : Box w b cs) {a : Addr} (ha : b ≠ a.block) (u : Value) : Box (w.setCell a u) b cs := h.same (Below.heap_setCell _ _ _ _ ha)
theorem Box.set {w : World} {b : Nat} {cs : List Value} (h : Box w b cs) {j : Nat} (hj : j < cs.length) (u : Value) : Box (w.setCell ⟨b, j, none⟩ u) b (cs.set j u) := by
 refine ⟨by simpa [World.setCell] using h.lt, fun i x hi => ?_, fun i => by rw [World.frozen?_setCell]; exact h.fz i⟩
 rw [List.getElem?_set] at hi
 by_cases hij : j = i
 ·subst hij
  rw [if_pos rfl, if_pos hj] at hi
  cases hi
  exact World.cell?_setCell_same _ _ _ (h.cell j _ (List.getElem?_eq_getElem hj))
 ·rw [if_neg hij] at hi
  rw [World.cell?_setCell_other _ _ _ _ (by intro hh; simp at hh <;> omega)]
  exact h.cell i x hi
theorem Box.new (w : World) (cs : List Value) (t : TypeId) : Box (w.alloc (.cells cs.toArray t)) w.heap.size cs := by
 have hh := heap_alloc_new w (.cells cs.toArray t)
 refine ⟨by simp, fun j u hj => ?_, fun j => ?_⟩
 ·simp only [World.cell?, hh]; simpa using hj
 ·simp only [World.frozen?, hh]; rfl
theorem owns_other {w : World} {base : Nat} {e : TypeId} {sz : Nat} {v : Value} {n : Nat} {xs : List Value} (h : w.ownsRow base e sz v n xs) {a : Addr} (ha : v.ownBlock ≠ some a.block) (u : Value) : (w.setCell a u).ownsRow base e sz v n xs := by
 refine ⟨h.1, ?_⟩
 rcases h.2 with h0 | ⟨g, cap, cur, hv, h1, hh, h2⟩
 ·exact .inl h0
 ·refine .inr ⟨g, cap, cur, hv, h1, (Below.heap_setCell _ _ _ _ ?_).trans hh, h2⟩
  intro hc
  rw [hv] at ha
  exact ha (by simp [Value.ownBlock, hc])
theorem owns_same {w w' : World} {base : Nat} {e : TypeId} {sz : Nat} {v : Value} {n : Nat} {xs : List Value} (h : w.ownsRow base e sz v n xs) (he : ∀ g, v.ownBlock = some g → w'.heap[g]? = w.heap[g]?) : w'.ownsRow base e sz v n xs := by
 refine ⟨h.1, ?_⟩
 rcases h.2 with h0 | ⟨g, cap, cur, hv, h1, hh, h2⟩
 ·exact .inl h0
 ·exact .inr ⟨g, cap, cur, hv, h1, (he g (by rw [hv]; rfl)).trans hh, h2⟩
theorem owns_below {w w' : World} {base : Nat} {e : TypeId} {sz : Nat} {v : Value} {n : Nat} {xs : List Value} (h : w.ownsRow base e sz v n xs) (hb : Below w.heap.size w w') : w'.ownsRow base e sz v n xs :=
 owns_same h fun g hg => hb.block g (h.lt g hg).2
theorem own_mono {w : World} {base base' : Nat} {e : TypeId} {size : Nat} {v : Value} {n : Nat} {xs : List Value} (h : w.ownsRow base e size v n xs) (hb : base' ≤ base) : w.ownsRow base' e size v n xs := by
 refine ⟨h.1, ?_⟩
 rcases h.2 with h0 | ⟨g, cap, cur, hv, h1, h2⟩
 ·exact .inl h0
 ·exact .inr ⟨g, cap, cur, hv, Nat.le_trans hb h1, h2⟩
theorem own_form {w : World} {base : Nat} {e : TypeId} {sz : Nat} {v : Value} {n : Nat} {xs : List Value} (h : w.ownsRow base e sz v (n + 1) xs) : ∃ g cap, v = .slice (some ⟨g, 0, none⟩) (n + 1) cap ∧ base ≤ g ∧ g < w.heap.size ∧ n + 1 ≤ cap ∧ cap ≤ maxLen := by
 rcases h.2 with ⟨_, h0⟩ | ⟨g, cap, cur, hv, h1, hh, h2, h3, _⟩
 ·omega
 ·exact ⟨g, cap, hv, h1, (Array.getElem?_eq_some_iff.1 hh).1, h2, h3⟩
theorem infoI : (Tryz.prog.info? 3).map (fun i => (i.zero, i.size, i.bytes)) = some (some (.int .i64 0), 1, 8) := by kernel_rfl
end Go.Proofs.YtajaijilfclhpaaGreatDoor
