/- Graphs as plain data: ends, edges, what stands ahead, the walk that leaves blocks one by one. No program. -/
import Derived.Test.YtdgpdmohfnealaaGreatDoorProg
import Derived.WalkKit
import Derived.WalkLawsBesides
import Derived.OneCell
import Derived.Deep.LoopGhost
import Derived.Deep.QuietTactic
import Derived.Deep.RegionWith
import Derived.Deep.RegionLaw
import Derived.Maps.AppendAt
import Derived.BigQuiet
import Derived.WalkSpells
namespace Go.Proofs.YtdgpdmohfnealaaGreatDoor

structure Tm where
  kind : Int
  arg : Int
  t0 : Int
  t1 : Int
  trap : Int
  deriving DecidableEq, Inhabited
structure In where
  kind : Int
  op : Int
  dst : Int
  args : List Int
  bits : Int
  ref : Int
  deriving DecidableEq, Inhabited
structure Bl where
  ins : List In
  tm : Tm
  deriving DecidableEq, Inhabited
structure Gr where
  name : ByteArray
  params : List Int
  result : Int
  vars : List Int
  arrs : List (Int × Int)
  blocks : List Bl
  deriving Inhabited

def inB (k : Int) (n : Nat) : Bool := decide (0 ≤ k ∧ k < (n : Int))
theorem inB_iff {k : Int} {n : Nat} : inB k n = true ↔ 0 ≤ k ∧ k < (n : Int) := by unfold inB; simp
def namedT (t : Tm) : List Int := if t.kind = 1 then [t.t0] else if t.kind = 2 then [t.t0, t.t1] else []
def nextT (t : Tm) : List Int := if t.kind = 1 then [t.t0] else if t.kind = 2 then (if t.t0 = t.t1 then [t.t0] else if t.t0 < t.t1 then [t.t0, t.t1] else [t.t1, t.t0]) else []
theorem next_named (t : Tm) (x : Int) : x ∈ nextT t ↔ x ∈ namedT t := by
  unfold nextT namedT
  by_cases h1 : t.kind = 1
  · simp [h1]
  · by_cases h2 : t.kind = 2
    · simp only [h2, if_true, show ¬ ((2 : Int) = 1) by omega, if_false]
      by_cases e : t.t0 = t.t1
      · simp [e]
      · by_cases l : t.t0 < t.t1
        · simp [e, l]
        · simp [e, l]; exact or_comm
    · simp [h1, h2]
theorem next_nodup (t : Tm) : (nextT t).Nodup := by
  unfold nextT
  split
  · simp
  · split
    · split
      · simp
      · split <;> simp <;> omega
    · simp
/-- One more edge to a block: its row. -/
def putA (i : Int) (rows : List (List Int)) (to : Int) : List (List Int) := if inB to rows.length then rows.modify to.toNat (· ++ [i]) else rows
def putsA (i : Int) (rows : List (List Int)) (l : List Int) : List (List Int) := l.foldl (putA i) rows
def aheadF : List Tm → Nat → List (List Int) → List (List Int)
  | [], _, rows => rows
  | t :: ts, i, rows => aheadF ts (i + 1) (putsA (i : Int) rows (nextT t))
def aheadT (ts : List Tm) : List (List Int) := aheadF ts 0 (List.replicate ts.length [])
def tms (bs : List Bl) : List Tm := bs.map (·.tm)
theorem putA_len (i : Int) (rows : List (List Int)) (to : Int) : (putA i rows to).length = rows.length := by unfold putA; split <;> simp
theorem putsA_len (i : Int) : ∀ (l : List Int) (rows : List (List Int)), (putsA i rows l).length = rows.length
  | [], _ => rfl
  | a :: l, rows => by unfold putsA; rw [List.foldl_cons]; exact (putsA_len i l _).trans (putA_len _ _ _)
theorem aheadF_len : ∀ (ts : List Tm) (i : Nat) (rows : List (List Int)), (aheadF ts i rows).length = rows.length
  | [], _, _ => rfl
  | t :: ts, i, rows => by unfold aheadF; rw [aheadF_len ts, putsA_len]
theorem aheadT_len (ts : List Tm) : (aheadT ts).length = ts.length := by unfold aheadT; rw [aheadF_len]; simp

/-- How many blocks and instructions. -/
def countG (bs : List Bl) : Nat := bs.length + (bs.map fun b => b.ins.length).sum

/-- The walk: from a block that is marked on; blocks are told as they are left. -/
def stepW (go : Nat → List Bool → List Int → List Bool × List Int) (s : List Bool × List Int) (to : Int) : List Bool × List Int :=
  if inB to s.1.length && !(s.1.getD to.toNat true) then go to.toNat (s.1.set to.toNat true) s.2 else s
def dfs (ts : List Tm) : Nat → Nat → List Bool → List Int → List Bool × List Int
  | 0, at', met, left => (met, left ++ [(at' : Int)])
  | f + 1, at', met, left =>
    let s := (namedT (ts.getD at' default)).foldl (stepW (dfs ts f)) (met, left)
    (s.1, s.2 ++ [(at' : Int)])
def orderT (ts : List Tm) : List Int :=
  if ts.length = 0 then [] else (dfs ts ts.length 0 ((List.replicate ts.length false).set 0 true) []).2.reverse
def cntF (met : List Bool) : Nat := met.count false
theorem cntF_set {met : List Bool} {k : Nat} (h : met.getD k true = false) : cntF (met.set k true) + 1 = cntF met := by
  unfold cntF
  have hk : k < met.length := by
    rcases Nat.lt_or_ge k met.length with h1 | h1
    · exact h1
    · simp [List.getD, List.getElem?_eq_none h1] at h
  have he : met[k] = false := by simpa [List.getD, List.getElem?_eq_getElem hk] using h
  rw [List.count_set hk, he]
  have : 0 < met.count false := List.count_pos_iff.2 (he ▸ List.getElem_mem hk)
  simp; omega
end Go.Proofs.YtdgpdmohfnealaaGreatDoor
/- Graphs in memory: rows of cells, one within another. -/
namespace Go.Proofs.YtdgpdmohfnealaaGreatDoor
open Go.RowKit

/-- A row of n elements whose cells are these, somewhere in memory that is there. -/
def RowAt (w : World) (v : Value) (n : Nat) (cs : List Value) : Prop :=
  ∃ a c, v = .slice a n c ∧ (n ≤ c ∧ n ≤ 140737488355328) ∧ (n = 0 ∨ ∃ g o, a = some ⟨g, o, none⟩ ∧ g < w.heap.size ∧ ∀ j u, cs[j]? = some u → w.cell? ⟨g, o + j, none⟩ = some u)
theorem RowAt.below {w w' : World} {v : Value} {n : Nat} {cs : List Value} (h : RowAt w v n cs) (hb : Below w.heap.size w w') : RowAt w' v n cs := by
  obtain ⟨a, c, hv, hn, hc⟩ := h
  refine ⟨a, c, hv, hn, ?_⟩
  rcases hc with h0 | ⟨g, o, ha, hg, hc⟩
  · exact .inl h0
  · exact .inr ⟨g, o, ha, Nat.lt_of_lt_of_le hg hb.size, fun j k hk => (hb.cell (p := ⟨g, o + j, none⟩) hg).trans (hc j k hk)⟩
abbrev intV (k : Int) : Value := .int .i64 k
abbrev bytV (k : Int) : Value := .int .u8 k
def IntsAt (w : World) (v : Value) (l : List Int) : Prop := RowAt w v l.length (l.map intV)
def TysAt (w : World) (v : Value) (l : List Int) : Prop := RowAt w v l.length (l.map bytV)
def arrCells : List (Int × Int) → List Value
  | [] => []
  | a :: l => bytV a.1 :: intV a.2 :: arrCells l
def ArrsAt (w : World) (v : Value) (l : List (Int × Int)) : Prop := RowAt w v l.length (arrCells l)
def inCells (x : In) (av : Value) : List Value := [bytV x.kind, bytV x.op, intV x.dst, av, .int .u64 x.bits, intV x.ref]
def insCells : List In → List Value → List Value
  | x :: l, a :: avs => inCells x a ++ insCells l avs
  | _, _ => []
structure InsAt (w : World) (v : Value) (l : List In) : Prop where
  wf : ∀ x ∈ l, 0 ≤ x.bits ∧ x.bits < 18446744073709551616
  row : ∃ avs : List Value, avs.length = l.length ∧ RowAt w v l.length (insCells l avs) ∧ ∀ (i : Nat) (x : In) (a : Value), l[i]? = some x → avs[i]? = some a → IntsAt w a x.args
def blCells (b : Bl) (iv : Value) : List Value := [iv, bytV b.tm.kind, intV b.tm.arg, intV b.tm.t0, intV b.tm.t1, bytV b.tm.trap]
def blsCells : List Bl → List Value → List Value
  | x :: l, a :: avs => blCells x a ++ blsCells l avs
  | _, _ => []
structure BlsAt (w : World) (v : Value) (l : List Bl) : Prop where
  row : ∃ avs : List Value, avs.length = l.length ∧ RowAt w v l.length (blsCells l avs) ∧ ∀ (i : Nat) (x : Bl) (a : Value), l[i]? = some x → avs[i]? = some a → InsAt w a x.ins
/-- A graph's value: six cells. -/
structure GrAt (w : World) (pv vv av bv : Value) (g : Gr) : Prop where
  ps : IntsAt w pv g.params
  vs : TysAt w vv g.vars
  ars : ArrsAt w av g.arrs
  bs : BlsAt w bv g.blocks
def grL (g : Gr) (pv vv av bv : Value) : List Value := [.string g.name, pv, bytV g.result, vv, av, bv]
abbrev grArr (nm : ByteArray) (r : Int) (pv vv av bv : Value) : Array Value := #[.string nm, pv, .int .u8 r, vv, av, bv]
def grsCells : List Gr → List (Value × Value × Value × Value) → List Value
  | x :: l, q :: qs => grL x q.1 q.2.1 q.2.2.1 q.2.2.2 ++ grsCells l qs
  | _, _ => []
structure GrsAt (w : World) (v : Value) (l : List Gr) : Prop where
  row : ∃ qs : List (Value × Value × Value × Value), qs.length = l.length ∧ RowAt w v l.length (grsCells l qs) ∧ ∀ (i : Nat) (x : Gr) (q : Value × Value × Value × Value), l[i]? = some x → qs[i]? = some q → GrAt w q.1 q.2.1 q.2.2.1 q.2.2.2 x
theorem IntsAt.below {w w' : World} {v : Value} {l : List Int} (h : IntsAt w v l) (hb : Below w.heap.size w w') : IntsAt w' v l := RowAt.below h hb
theorem TysAt.below {w w' : World} {v : Value} {l : List Int} (h : TysAt w v l) (hb : Below w.heap.size w w') : TysAt w' v l := RowAt.below h hb
theorem ArrsAt.below {w w' : World} {v : Value} {l : List (Int × Int)} (h : ArrsAt w v l) (hb : Below w.heap.size w w') : ArrsAt w' v l := RowAt.below h hb
theorem InsAt.below {w w' : World} {v : Value} {l : List In} (h : InsAt w v l) (hb : Below w.heap.size w w') : InsAt w' v l := by
  obtain ⟨avs, h1, h2, h3⟩ := h.row
  exact ⟨h.wf, avs, h1, h2.below hb, fun i x a hx ha => (h3 i x a hx ha).below hb⟩
theorem BlsAt.below {w w' : World} {v : Value} {l : List Bl} (h : BlsAt w v l) (hb : Below w.heap.size w w') : BlsAt w' v l := by
  obtain ⟨avs, h1, h2, h3⟩ := h.row
  exact ⟨avs, h1, h2.below hb, fun i x a hx ha => (h3 i x a hx ha).below hb⟩
theorem GrAt.below {w w' : World} {pv vv av bv : Value} {g : Gr} (h : GrAt w pv vv av bv g) (hb : Below w.heap.size w w') : GrAt w' pv vv av bv g :=
  ⟨h.ps.below hb, h.vs.below hb, h.ars.below hb, h.bs.below hb⟩
theorem GrsAt.below {w w' : World} {v : Value} {l : List Gr} (h : GrsAt w v l) (hb : Below w.heap.size w w') : GrsAt w' v l := by
  obtain ⟨avs, h1, h2, h3⟩ := h.row
  exact ⟨avs, h1, h2.below hb, fun i x a hx ha => (h3 i x a hx ha).below hb⟩
/- Cells of an element. -/
theorem insCells_get : ∀ {l : List In} {avs : List Value} {i : Nat} {x : In} {a : Value}, l[i]? = some x → avs[i]? = some a → ∀ j u, (inCells x a)[j]? = some u → (insCells l avs)[i * 6 + j]? = some u
  | y :: l, b :: avs, 0, x, a, hx, ha, j, u, hu => by
    simp at hx ha; subst hx; subst ha
    have hj : j < 6 := by have := (List.getElem?_eq_some_iff.1 hu).1; simpa [inCells] using this
    unfold insCells
    rw [Nat.zero_mul, Nat.zero_add, List.getElem?_append_left (by simpa [inCells] using hj)]
    exact hu
  | y :: l, b :: avs, i + 1, x, a, hx, ha, j, u, hu => by
    have := insCells_get (l := l) (avs := avs) (i := i) (by simpa using hx) (by simpa using ha) j u hu
    unfold insCells
    rw [List.getElem?_append_right (by simp [inCells]; omega)]
    rw [show (i + 1) * 6 + j - (inCells y b).length = i * 6 + j by simp [inCells]; omega]
    exact this
  | [], _, _, _, _, hx, _, _, _, _ => by simp at hx
  | _ :: _, [], _, _, _, _, ha, _, _, _ => by simp at ha
theorem blsCells_get : ∀ {l : List Bl} {avs : List Value} {i : Nat} {x : Bl} {a : Value}, l[i]? = some x → avs[i]? = some a → ∀ j u, (blCells x a)[j]? = some u → (blsCells l avs)[i * 6 + j]? = some u
  | y :: l, b :: avs, 0, x, a, hx, ha, j, u, hu => by
    simp at hx ha; subst hx; subst ha
    have hj : j < 6 := by have := (List.getElem?_eq_some_iff.1 hu).1; simpa [blCells] using this
    unfold blsCells
    rw [Nat.zero_mul, Nat.zero_add, List.getElem?_append_left (by simpa [blCells] using hj)]
    exact hu
  | y :: l, b :: avs, i + 1, x, a, hx, ha, j, u, hu => by
    have := blsCells_get (l := l) (avs := avs) (i := i) (by simpa using hx) (by simpa using ha) j u hu
    unfold blsCells
    rw [List.getElem?_append_right (by simp [blCells]; omega)]
    rw [show (i + 1) * 6 + j - (blCells y b).length = i * 6 + j by simp [blCells]; omega]
    exact this
  | [], _, _, _, _, hx, _, _, _, _ => by simp at hx
  | _ :: _, [], _, _, _, _, ha, _, _, _ => by simp at ha
theorem grsCells_get : ∀ {l : List Gr} {avs : List (Value × Value × Value × Value)} {i : Nat} {x : Gr} {a : Value × Value × Value × Value}, l[i]? = some x → avs[i]? = some a → ∀ j u, (grL x a.1 a.2.1 a.2.2.1 a.2.2.2)[j]? = some u → (grsCells l avs)[i * 6 + j]? = some u
  | y :: l, b :: avs, 0, x, a, hx, ha, j, u, hu => by
    simp at hx ha; subst hx; subst ha
    have hj : j < 6 := by have := (List.getElem?_eq_some_iff.1 hu).1; simpa [grL] using this
    unfold grsCells
    rw [Nat.zero_mul, Nat.zero_add, List.getElem?_append_left (by simpa [grL] using hj)]
    exact hu
  | y :: l, b :: avs, i + 1, x, a, hx, ha, j, u, hu => by
    have := grsCells_get (l := l) (avs := avs) (i := i) (by simpa using hx) (by simpa using ha) j u hu
    unfold grsCells
    rw [List.getElem?_append_right (by simp [grL]; omega)]
    rw [show (i + 1) * 6 + j - (grL y b.1 b.2.1 b.2.2.1 b.2.2.2).length = i * 6 + j by simp [grL]; omega]
    exact this
  | [], _, _, _, _, hx, _, _, _, _ => by simp at hx
  | _ :: _, [], _, _, _, _, ha, _, _, _ => by simp at ha
theorem arrCells_get : ∀ {l : List (Int × Int)} {i : Nat} {x : Int × Int}, l[i]? = some x → (arrCells l)[i * 2]? = some (bytV x.1) ∧ (arrCells l)[i * 2 + 1]? = some (intV x.2)
  | y :: l, 0, x, hx => by simp at hx; subst hx; simp [arrCells]
  | y :: l, i + 1, x, hx => by
    have := arrCells_get (l := l) (i := i) (by simpa using hx)
    unfold arrCells
    rw [show (i + 1) * 2 = i * 2 + 1 + 1 by omega]
    simpa using this
  | [], _, _, hx => by simp at hx
/- What a walk reads. -/
theorem IntsAt.cap {w : World} {a : Option Addr} {n c : Nat} {l : List Int} (h : IntsAt w (.slice a n c) l) : l.length ≤ c := by
  obtain ⟨a', c', hv, hn, _⟩ := h
  cases hv
  exact hn.1
theorem IntsAt.form {w : World} {v : Value} {l : List Int} (h : IntsAt w v l) : ∃ a c, v = .slice a l.length c ∧ l.length ≤ 140737488355328 := by
  obtain ⟨a, c, hv, hn, _⟩ := h; exact ⟨a, c, hv, hn.2⟩
theorem IntsAt.get {w : World} {a : Option Addr} {n c : Nat} {l : List Int} (h : IntsAt w (.slice a n c) l) {i : Nat} (hi : i < l.length) : ∃ g o, a = some ⟨g, o, none⟩ ∧ g < w.heap.size ∧ w.cell? ⟨g, o + i, none⟩ = some (.int .i64 (l.getD i 0)) := by
  obtain ⟨a', c', hv, _, hc⟩ := h
  cases hv
  rcases hc with h0 | ⟨g, o, ha, hg, hc⟩
  · omega
  · refine ⟨g, o, ha, hg, hc i _ ?_⟩
    simp [List.getD, List.getElem?_eq_getElem hi]
theorem TysAt.get {w : World} {a : Option Addr} {n c : Nat} {l : List Int} (h : TysAt w (.slice a n c) l) {i : Nat} (hi : i < l.length) : ∃ g o, a = some ⟨g, o, none⟩ ∧ g < w.heap.size ∧ w.cell? ⟨g, o + i, none⟩ = some (.int .u8 (l.getD i 0)) := by
  obtain ⟨a', c', hv, _, hc⟩ := h
  cases hv
  rcases hc with h0 | ⟨g, o, ha, hg, hc⟩
  · omega
  · refine ⟨g, o, ha, hg, hc i _ ?_⟩
    simp [List.getD, List.getElem?_eq_getElem hi]
theorem ArrsAt.get {w : World} {a : Option Addr} {n c : Nat} {l : List (Int × Int)} (h : ArrsAt w (.slice a n c) l) {i : Nat} (hi : i < l.length) : ∃ g o, a = some ⟨g, o, none⟩ ∧ g < w.heap.size ∧ w.cell? ⟨g, o + i * 2, none⟩ = some (.int .u8 (l.getD i default).1) ∧ w.cell? ⟨g, o + i * 2 + 1, none⟩ = some (.int .i64 (l.getD i default).2) := by
  obtain ⟨a', c', hv, _, hc⟩ := h
  cases hv
  rcases hc with h0 | ⟨g, o, ha, hg, hc⟩
  · omega
  · have e : l[i]? = some (l.getD i default) := by simp [List.getD, List.getElem?_eq_getElem hi]
    obtain ⟨h1, h2⟩ := arrCells_get e
    exact ⟨g, o, ha, hg, hc _ _ h1, hc _ _ h2⟩
theorem InsAt.form {w : World} {v : Value} {l : List In} (h : InsAt w v l) : ∃ a c, v = .slice a l.length c ∧ l.length ≤ 140737488355328 := by
  obtain ⟨_, _, ⟨a, c, hv, hn, _⟩, _⟩ := h.row; exact ⟨a, c, hv, hn.2⟩
theorem InsAt.get {w : World} {a : Option Addr} {n c : Nat} {l : List In} (h : InsAt w (.slice a n c) l) {i : Nat} (hi : i < l.length) : ∃ g o av, a = some ⟨g, o, none⟩ ∧ g < w.heap.size ∧ w.cell? ⟨g, o + i * 6, none⟩ = some (.int .u8 (l.getD i default).kind) ∧ w.cell? ⟨g, o + i * 6 + 1, none⟩ = some (.int .u8 (l.getD i default).op) ∧ w.cell? ⟨g, o + i * 6 + 2, none⟩ = some (.int .i64 (l.getD i default).dst) ∧ w.cell? ⟨g, o + i * 6 + 3, none⟩ = some av ∧ w.cell? ⟨g, o + i * 6 + 4, none⟩ = some (.int .u64 (l.getD i default).bits) ∧ w.cell? ⟨g, o + i * 6 + 5, none⟩ = some (.int .i64 (l.getD i default).ref) ∧ IntsAt w av (l.getD i default).args := by
  obtain ⟨avs, hl, ⟨a', c', hv, _, hc⟩, hk⟩ := h.row
  cases hv
  rcases hc with h0 | ⟨g, o, ha, hg, hc⟩
  · omega
  · have e : l[i]? = some (l.getD i default) := by simp [List.getD, List.getElem?_eq_getElem hi]
    have e2 : avs[i]? = some (avs[i]'(by omega)) := List.getElem?_eq_getElem _
    have hx := insCells_get e e2
    refine ⟨g, o, _, ha, hg, hc _ _ (hx 0 _ rfl), ?_, ?_, ?_, ?_, ?_, hk i _ _ e e2⟩
    · rw [Nat.add_assoc]; exact hc _ _ (hx 1 _ rfl)
    · rw [Nat.add_assoc]; exact hc _ _ (hx 2 _ rfl)
    · rw [Nat.add_assoc]; exact hc _ _ (hx 3 _ rfl)
    · rw [Nat.add_assoc]; exact hc _ _ (hx 4 _ rfl)
    · rw [Nat.add_assoc]; exact hc _ _ (hx 5 _ rfl)
theorem BlsAt.form {w : World} {v : Value} {l : List Bl} (h : BlsAt w v l) : ∃ a c, v = .slice a l.length c ∧ l.length ≤ 140737488355328 := by
  obtain ⟨_, _, ⟨a, c, hv, hn, _⟩, _⟩ := h.row; exact ⟨a, c, hv, hn.2⟩
theorem BlsAt.get {w : World} {a : Option Addr} {n c : Nat} {l : List Bl} (h : BlsAt w (.slice a n c) l) {i : Nat} (hi : i < l.length) : ∃ g o iv, a = some ⟨g, o, none⟩ ∧ g < w.heap.size ∧ w.cell? ⟨g, o + i * 6, none⟩ = some iv ∧ w.cell? ⟨g, o + i * 6 + 1, none⟩ = some (.int .u8 (l.getD i default).tm.kind) ∧ w.cell? ⟨g, o + i * 6 + 2, none⟩ = some (.int .i64 (l.getD i default).tm.arg) ∧ w.cell? ⟨g, o + i * 6 + 3, none⟩ = some (.int .i64 (l.getD i default).tm.t0) ∧ w.cell? ⟨g, o + i * 6 + 4, none⟩ = some (.int .i64 (l.getD i default).tm.t1) ∧ w.cell? ⟨g, o + i * 6 + 5, none⟩ = some (.int .u8 (l.getD i default).tm.trap) ∧ InsAt w iv (l.getD i default).ins := by
  obtain ⟨avs, hl, ⟨a', c', hv, _, hc⟩, hk⟩ := h.row
  cases hv
  rcases hc with h0 | ⟨g, o, ha, hg, hc⟩
  · omega
  · have e : l[i]? = some (l.getD i default) := by simp [List.getD, List.getElem?_eq_getElem hi]
    have e2 : avs[i]? = some (avs[i]'(by omega)) := List.getElem?_eq_getElem _
    have hx := blsCells_get e e2
    refine ⟨g, o, _, ha, hg, hc _ _ (hx 0 _ rfl), ?_, ?_, ?_, ?_, ?_, hk i _ _ e e2⟩
    · rw [Nat.add_assoc]; exact hc _ _ (hx 1 _ rfl)
    · rw [Nat.add_assoc]; exact hc _ _ (hx 2 _ rfl)
    · rw [Nat.add_assoc]; exact hc _ _ (hx 3 _ rfl)
    · rw [Nat.add_assoc]; exact hc _ _ (hx 4 _ rfl)
    · rw [Nat.add_assoc]; exact hc _ _ (hx 5 _ rfl)
theorem GrsAt.form {w : World} {v : Value} {l : List Gr} (h : GrsAt w v l) : ∃ a c, v = .slice a l.length c ∧ l.length ≤ 140737488355328 := by
  obtain ⟨_, _, ⟨a, c, hv, hn, _⟩, _⟩ := h.row; exact ⟨a, c, hv, hn.2⟩
theorem GrsAt.get {w : World} {a : Option Addr} {n c : Nat} {l : List Gr} (h : GrsAt w (.slice a n c) l) {i : Nat} (hi : i < l.length) : ∃ g o pv vv av bv, a = some ⟨g, o, none⟩ ∧ g < w.heap.size ∧ w.cell? ⟨g, o + i * 6, none⟩ = some (.string (l.getD i default).name) ∧ w.cell? ⟨g, o + i * 6 + 1, none⟩ = some pv ∧ w.cell? ⟨g, o + i * 6 + 2, none⟩ = some (.int .u8 (l.getD i default).result) ∧ w.cell? ⟨g, o + i * 6 + 3, none⟩ = some vv ∧ w.cell? ⟨g, o + i * 6 + 4, none⟩ = some av ∧ w.cell? ⟨g, o + i * 6 + 5, none⟩ = some bv ∧ GrAt w pv vv av bv (l.getD i default) := by
  obtain ⟨avs, hl, ⟨a', c', hv, _, hc⟩, hk⟩ := h.row
  cases hv
  rcases hc with h0 | ⟨g, o, ha, hg, hc⟩
  · omega
  · have e : l[i]? = some (l.getD i default) := by simp [List.getD, List.getElem?_eq_getElem hi]
    have e2 : avs[i]? = some (avs[i]'(by omega)) := List.getElem?_eq_getElem _
    have hx := grsCells_get e e2
    refine ⟨g, o, _, _, _, _, ha, hg, hc _ _ (hx 0 _ rfl), ?_, ?_, ?_, ?_, ?_, hk i _ _ e e2⟩
    · rw [Nat.add_assoc]; exact hc _ _ (hx 1 _ rfl)
    · rw [Nat.add_assoc]; exact hc _ _ (hx 2 _ rfl)
    · rw [Nat.add_assoc]; exact hc _ _ (hx 3 _ rfl)
    · rw [Nat.add_assoc]; exact hc _ _ (hx 4 _ rfl)
    · rw [Nat.add_assoc]; exact hc _ _ (hx 5 _ rfl)
end Go.Proofs.YtdgpdmohfnealaaGreatDoor
