/- Rows of one's own, many at once: which stay as they are when one of them changes. -/
import Derived.Test.YtajaijilfclhpaaGreatDoorGBoxM
import Derived.Test.YtajaijilfclhpaaGreatDoorGStepM
import Derived.Test.YtajaijilfclhpaaGreatDoorGAhd1M
import Derived.BigQuiet
import Derived.Test.YtajaijilfclhpaaGreatDoorShelf
import Derived.Laws.CopyOwn
import Derived.Test.YtajaijilfclhpaaGreatDoorGLaidM
namespace Go.Proofs.YtajaijilfclhpaaGreatDoor
open Go.RowKit

/-- A row of one's own: its value, the type and size of its elements, how many, their cells. -/
structure Slot where
 v : Value
 e : TypeId
 sz : Nat
 n : Nat
 cs : List Value
def Slot.At (w : World) (base : Nat) (s : Slot) : Prop := w.ownsRow base s.e s.sz s.v s.n s.cs
/-- Rows that lie apart: no two in one block. -/
structure Heap (w : World) (base : Nat) (ss : List Slot) : Prop where
 own : ∀ (i : Nat) (s : Slot), ss[i]? = some s → s.At w base
 apart : ∀ (i j : Nat) (a b : Slot) (g : Nat), i ≠ j → ss[i]? = some a → ss[j]? = some b → a.v.ownBlock = some g → b.v.ownBlock ≠ some g
theorem Slot.At.same {w w' : World} {base : Nat} {s : Slot} (h : s.At w base) (he : ∀ g, s.v.ownBlock = some g → w'.heap[g]? = w.heap[g]?) : s.At w' base := owns_same h he
theorem Heap.same {w w' : World} {base : Nat} {ss : List Slot} (h : Heap w base ss) (hw : w'.heap = w.heap) : Heap w' base ss :=
 ⟨fun i s hs => (h.own i s hs).same fun g _ => by rw [hw], h.apart⟩
theorem Heap.below {w w' : World} {base : Nat} {ss : List Slot} (h : Heap w base ss) (hb : Below w.heap.size w w') : Heap w' base ss :=
 ⟨fun i s hs => (h.own i s hs).same fun g hg => hb.block g ((h.own i s hs).lt g hg).2, h.apart⟩
/-- One row is another one now; nothing else has turned but what is new. -/
theorem Heap.turn {w w' : World} {base : Nat} {ss : List Slot} (h : Heap w base ss) {i : Nat} {s s' : Slot} (hs : ss[i]? = some s) (hg : ∀ k, k < w.heap.size → s.v.ownBlock ≠ some k → w'.heap[k]? = w.heap[k]?)
  (hn : s'.At w' base) (hat : ∀ g, s'.v.ownBlock = some g → s.v.ownBlock = some g ∨ w.heap.size ≤ g) : Heap w' base (ss.set i s') := by
 have hi : i < ss.length := (List.getElem?_eq_some_iff.1 hs).1
 have other : ∀ (j : Nat) (t : Slot), j ≠ i → ss[j]? = some t → t.At w' base := fun j t hj ht =>
  (h.own j t ht).same fun g hgt => hg g ((h.own j t ht).lt g hgt).2 (fun hc => h.apart i j s t g (Ne.symm hj) hs ht hc hgt)
 have far : ∀ (j : Nat) (t : Slot) (g : Nat), j ≠ i → ss[j]? = some t → s'.v.ownBlock = some g → t.v.ownBlock ≠ some g := fun j t g hj ht hs' hc => by
  rcases hat g hs' with h1 | h1
  ·exact h.apart i j s t g (Ne.symm hj) hs ht h1 hc
  ·have := ((h.own j t ht).lt g hc).2
   omega
 refine ⟨fun j t ht => ?_, fun j k a b g hjk ha hb hga hgb => ?_⟩
 ·rw [List.getElem?_set] at ht
  by_cases e : i = j
  ·rw [if_pos e, if_pos hi] at ht
   cases ht
   exact hn
  ·rw [if_neg e] at ht
   exact other j t (Ne.symm e) ht
 ·rw [List.getElem?_set] at ha hb
  by_cases e1 : i = j
  ·rw [if_pos e1, if_pos hi] at ha
   cases ha
   have e2 : i ≠ k := fun e => hjk (e1.symm.trans e)
   rw [if_neg e2] at hb
   exact far k b g (Ne.symm e2) hb hga hgb
  ·rw [if_neg e1] at ha
   by_cases e2 : i = k
   ·rw [if_pos e2, if_pos hi] at hb
    cases hb
    exact far j a g (Ne.symm e1) ha hgb hga
   ·rw [if_neg e2] at hb
    exact h.apart j k a b g hjk ha hb hga hgb
/-- A row more, all of it new. -/
theorem Heap.more {w w' : World} {base : Nat} {ss : List Slot} (h : Heap w base ss) (hb : Below w.heap.size w w') {s : Slot} (hs : s.At w' base) (hat : ∀ g, s.v.ownBlock = some g → w.heap.size ≤ g) : Heap w' base (ss ++ [s]) := by
 have h' := h.below hb
 have far : ∀ (j : Nat) (t : Slot) (g : Nat), ss[j]? = some t → s.v.ownBlock = some g → t.v.ownBlock ≠ some g := fun j t g ht hs' hc => by
  have := ((h.own j t ht).lt g hc).2
  have := hat g hs'
  omega
 refine ⟨fun j t ht => ?_, fun j k a b g hjk ha hb' hga hgb => ?_⟩
 ·rw [List.getElem?_append] at ht
  split at ht
  ·exact h'.own j t ht
  ·have e : t = s := by
    have h0 : j - ss.length = 0 := by
     have := (List.getElem?_eq_some_iff.1 ht).1
     simpa using this
    rw [h0] at ht
    simpa using ht.symm
   rw [e]
   exact hs
 ·rw [List.getElem?_append] at ha hb'
  split at ha
  ·split at hb'
   ·exact h'.apart j k a b g hjk ha hb' hga hgb
   ·have h0 : k - ss.length = 0 := by have := (List.getElem?_eq_some_iff.1 hb').1; simpa using this
    rw [h0] at hb'
    have e : b = s := by simpa using hb'.symm
    rw [e] at hgb
    exact far j a g ha hgb hga
  ·have h0 : j - ss.length = 0 := by have := (List.getElem?_eq_some_iff.1 ha).1; simpa using this
   rw [h0] at ha
   have e : a = s := by simpa using ha.symm
   rw [e] at hga
   split at hb'
   ·exact far k b g hb' hga hgb
   ·have h1 : k - ss.length = 0 := by have := (List.getElem?_eq_some_iff.1 hb').1; simpa using this
    omega
/- Cells of a row that lies in one block. -/
theorem Heap.cell {w : World} {base : Nat} {ss : List Slot} (h : Heap w base ss) {i g n c : Nat} {e : TypeId} {sz : Nat} {cs : List Value} (hs : ss[i]? = some ⟨.slice (some ⟨g, 0, none⟩) n c, e, sz, n, cs⟩) {j : Nat} {u : Value} (hj : cs[j]? = some u) : w.cell? ⟨g, j, none⟩ = some u := by
 have h1 : w.ownsRow base e sz (.slice (some ⟨g, 0, none⟩) n c) n cs := h.own i _ hs
 have hl : j < n * sz := by have := (List.getElem?_eq_some_iff.1 hj).1; rw [h1.1] at this; exact this
 rw [h1.cellAt j hl]
 exact hj
theorem Heap.fz {w : World} {base : Nat} {ss : List Slot} (h : Heap w base ss) {i g n c : Nat} {e : TypeId} {sz : Nat} {cs : List Value} (hs : ss[i]? = some ⟨.slice (some ⟨g, 0, none⟩) n c, e, sz, n, cs⟩) (j : Nat) : w.frozen? ⟨g, j, none⟩ = false := by
 have h1 : w.ownsRow base e sz (.slice (some ⟨g, 0, none⟩) n c) n cs := h.own i _ hs
 exact h1.frozenAt j
theorem Heap.lt {w : World} {base : Nat} {ss : List Slot} (h : Heap w base ss) {i g n c : Nat} {e : TypeId} {sz : Nat} {cs : List Value} (hs : ss[i]? = some ⟨.slice (some ⟨g, 0, none⟩) n c, e, sz, n, cs⟩) : base ≤ g ∧ g < w.heap.size := (h.own i _ hs).lt g rfl
/-- A cell of a row is set. -/
theorem Heap.store {w : World} {base : Nat} {ss : List Slot} (h : Heap w base ss) {i g n c : Nat} {e : TypeId} {sz : Nat} {cs : List Value} (hs : ss[i]? = some ⟨.slice (some ⟨g, 0, none⟩) n c, e, sz, n, cs⟩) (j : Nat) (u : Value) :
  Heap (w.setCell ⟨g, j, none⟩ u) base (ss.set i ⟨.slice (some ⟨g, 0, none⟩) n c, e, sz, n, cs.set j u⟩) := by
 have h1 : w.ownsRow base e sz (.slice (some ⟨g, 0, none⟩) n c) n cs := h.own i _ hs
 obtain ⟨h2, h3⟩ := h1.stored j u
 exact h.turn hs (fun k hk hne => h3.block k hk (fun e => hne (by cases e; rfl))) h2 (fun _ hk => .inl hk)
/-- A row is longer, by append. -/
theorem Heap.grow {w w' : World} {base : Nat} {ss : List Slot} (h : Heap w base ss) {i : Nat} {s s' : Slot} (hs : ss[i]? = some s) (hn : s'.At w' base) (hg : w.grownBy w' s.v.ownBlock) (hat : s'.v.ownBlock = s.v.ownBlock ∨ s'.v.ownBlock = some w.heap.size) : Heap w' base (ss.set i s') :=
 h.turn hs (fun k hk hne => hg.block k hk (fun e => hne e.symm)) hn (fun g hg' => by
  rcases hat with e | e
  ·exact .inl (e ▸ hg')
  ·rw [e] at hg'
   cases hg'
   exact .inr (Nat.le_refl _))
/-- A row is cut short. -/
theorem own_take {w : World} {base : Nat} {e : TypeId} {sz g n c m : Nat} {cs : List Value} (h : w.ownsRow base e sz (.slice (some ⟨g, 0, none⟩) n c) n cs) (hm : m ≤ n) : w.ownsRow base e sz (.slice (some ⟨g, 0, none⟩) m c) m (cs.take (m * sz)) := by
 have hle : m * sz ≤ n * sz := Nat.mul_le_mul_right _ hm
 refine ⟨by rw [List.length_take, h.1]; omega, ?_⟩
 rcases h.2 with ⟨h0, _⟩ | ⟨g', cap, cur, hv, h1, hh, h2, h3, h4, h5⟩
 ·cases h0
 ·injection hv with e1 e2 e3
  cases e1
  subst e3
  refine .inr ⟨g, c, cur, rfl, h1, hh, by omega, h3, h4, ?_⟩
  rw [← h5, List.take_take]
  congr 1
  omega
theorem Heap.cut {w : World} {base : Nat} {ss : List Slot} (h : Heap w base ss) {i g n c : Nat} {e : TypeId} {sz : Nat} {cs : List Value} (hs : ss[i]? = some ⟨.slice (some ⟨g, 0, none⟩) n c, e, sz, n, cs⟩) {m : Nat} (hm : m ≤ n) :
  Heap w base (ss.set i ⟨.slice (some ⟨g, 0, none⟩) m c, e, sz, m, cs.take (m * sz)⟩) :=
 h.turn hs (fun _ _ _ => rfl) (own_take (h.own i _ hs) hm) (fun _ hk => .inl hk)
/-- Elements of n cells each, one behind the other. -/
def flat {α : Type} (f : α → List Value) (l : List α) : List Value := l.flatMap f
theorem flat_at {α : Type} {f : α → List Value} {k : Nat} (hf : ∀ a, (f a).length = k) : ∀ (l : List α) (i j : Nat) (a : α) (u : Value), l[i]? = some a → (f a)[j]? = some u → (flat f l)[i * k + j]? = some u
 | x :: l, 0, j, a, u, ha, hu => by
  simp at ha
  subst ha
  unfold flat
  rw [List.flatMap_cons, Nat.zero_mul, Nat.zero_add, List.getElem?_append_left ((List.getElem?_eq_some_iff.1 hu).1)]
  exact hu
 | x :: l, i + 1, j, a, u, ha, hu => by
  have := flat_at hf l i j a u (by simpa using ha) hu
  unfold flat at this ⊢
  have hx := hf x
  rw [List.flatMap_cons, List.getElem?_append_right (by rw [hx, Nat.add_mul]; omega), hx, show (i + 1) * k + j - k = i * k + j by rw [Nat.add_mul]; omega]
  exact this
 | [], _, _, _, _, ha, _ => by simp at ha
theorem flat_snoc {α : Type} (f : α → List Value) (l : List α) (a : α) : flat f (l ++ [a]) = flat f l ++ f a := by simp [flat]
end Go.Proofs.YtajaijilfclhpaaGreatDoor
/- A graph with the blocks that are reached alone: plain. -/
namespace Go.Proofs.YtajaijilfclhpaaGreatDoor

/-- where a number stands in a row; -1: nowhere -/
def placeOf (l : List Int) (x : Int) : Int := if x ∈ l then (l.idxOf x : Int) else -1
theorem place_in {l : List Int} {x : Int} (h : x ∈ l) : placeOf l x = (l.idxOf x : Int) ∧ l.idxOf x < l.length ∧ l[l.idxOf x]? = some x := by
 have h1 : l.idxOf x < l.length := List.idxOf_lt_length_of_mem h
 refine ⟨by unfold placeOf; rw [if_pos h], h1, ?_⟩
 rw [List.getElem?_eq_getElem h1, List.getElem_idxOf h1]
theorem place_at {l : List Int} (hn : l.Nodup) {i : Nat} {x : Int} (h : l[i]? = some x) : placeOf l x = (i : Int) := by
 obtain ⟨hi, he⟩ := List.getElem?_eq_some_iff.1 h
 have hm : x ∈ l := by rw [← he]; exact List.getElem_mem hi
 obtain ⟨h1, h2, h3⟩ := place_in hm
 rw [h1]
 have : l.idxOf x = i := by
  rcases Nat.lt_trichotomy (l.idxOf x) i with hlt | heq | hgt
  ·obtain ⟨q1, q2⟩ := List.getElem?_eq_some_iff.1 h3
   exact absurd (q2.trans he.symm) (List.pairwise_iff_getElem.1 hn _ _ q1 hi hlt)
  ·exact heq
  ·obtain ⟨q1, q2⟩ := List.getElem?_eq_some_iff.1 h3
   exact absurd (he.trans q2.symm) (List.pairwise_iff_getElem.1 hn _ _ hi q1 hgt)
 omega
/-- which of the blocks ahead stay, by their places among them, in the new order -/
def stayP (O ah : List Int) : List Int := (O.filter (· ∈ ah)).map (placeOf ah)
def keptP (args st : List Int) : List Int := st.filterMap fun i => args[i.toNat]?
def ledT (O : List Int) (n : Nat) (t : Tm) : Tm :=
 { t with t0 := if (t.kind = 1 ∨ t.kind = 2) ∧ inB t.t0 n = true then placeOf O t.t0 else t.t0, t1 := if t.kind = 2 ∧ inB t.t1 n = true then placeOf O t.t1 else t.t1 }
def trimI (st : List Int) (x : In) : In := if x.kind = 1 then { x with args := keptP x.args st } else x
def trimB (O : List Int) (n : Nat) (ah : List Int) (b : Bl) : Bl := ⟨b.ins.map (trimI (stayP O ah)), ledT O n b.tm⟩
def trimBs (bs : List Bl) : List Bl := (orderT (tms bs)).map fun a => trimB (orderT (tms bs)) bs.length ((aheadT (tms bs)).getD a.toNat []) (bs.getD a.toNat default)
def trimG (G : Gr) : Gr := { G with blocks := trimBs G.blocks }

/- The document's way. -/
def ledD (O : List Int) (t : Tm) : Tm :=
 { t with t0 := if 0 ≤ placeOf O t.t0 ∧ (t.kind = 2 ∨ t.kind = 1) then placeOf O t.t0 else t.t0, t1 := if 0 ≤ placeOf O t.t1 ∧ t.kind = 2 then placeOf O t.t1 else t.t1 }
def argsD (O was now had : List Int) : List Int := now.filterMap fun j => if 0 ≤ placeOf was (O.getD j.toNat 0) then had[(placeOf was (O.getD j.toNat 0)).toNat]? else none
def ledB (O : List Int) (b : Bl) : Bl := ⟨b.ins, ledD O b.tm⟩
def trimD (bs : List Bl) : List Bl :=
 let O := orderT (tms bs)
 let b1 := O.map fun a => ledB O (bs.getD a.toNat default)
 let now := aheadT (tms b1)
 (List.range O.length).map fun i => (⟨(b1.getD i default).ins.map fun x => if x.kind = 1 then { x with args := argsD O ((aheadT (tms bs)).getD (O.getD i 0).toNat []) (now.getD i []) x.args } else x, (b1.getD i default).tm⟩ : Bl)

end Go.Proofs.YtajaijilfclhpaaGreatDoor
/- The walk through a trimmed graph: its blocks in their order. Plain. -/
namespace Go.Proofs.YtajaijilfclhpaaGreatDoor

/-- marks of the old blocks and of the new ones -/
structure MetR (O : List Int) (n : Nat) (met met' : List Bool) : Prop where
 l1 : met.length = n
 l2 : met'.length = O.length
 eq : ∀ j, j < O.length → met'.getD j true = met.getD (O.getD j 0).toNat true
theorem MetR.at {ts : List Tm} {O : List Int} {met met' : List Bool} (r : MetR O ts.length met met') {y : Int} (hy : y ∈ O) : met'.getD (placeOf O y).toNat true = met.getD y.toNat true := by
 obtain ⟨p1, p2, p3⟩ := place_in hy
 rw [p1, Int.toNat_natCast, r.eq _ p2, List.getD_eq_getElem?_getD (l := O), p3]; rfl
theorem MetR.set {ts : List Tm} {O : List Int} (h : Ordered ts O) {met met' : List Bool} (r : MetR O ts.length met met') {y : Int} (hy : y ∈ O) : MetR O ts.length (met.set y.toNat true) (met'.set (placeOf O y).toNat true) := by
 obtain ⟨p1, p2, p3⟩ := place_in hy
 obtain ⟨k, rfl, hk⟩ := h.nat y hy
 refine ⟨by simp [r.l1], by simp [r.l2], fun j hj => ?_⟩
 have hjs : O[j]? = some O[j] := List.getElem?_eq_getElem hj
 have hjd : O.getD j 0 = O[j] := by rw [List.getD_eq_getElem?_getD, hjs]; rfl
 obtain ⟨q, hq, hql⟩ := h.nat O[j] (List.getElem_mem hj)
 rw [getD_set (by rw [r.l2, p1, Int.toNat_natCast]; exact p2), hjd, hq, Int.toNat_natCast, Int.toNat_natCast, getD_set (by rw [r.l1]; exact hk), p1, Int.toNat_natCast]
 by_cases e : k = q
 ·subst e
  have h9 := place_at h.nodup hjs
  rw [hq, p1] at h9
  rw [if_pos rfl, if_pos (by omega)]
 ·rw [if_neg e, if_neg]
  ·rw [r.eq j hj, hjd, hq, Int.toNat_natCast]
  ·intro e2
   rw [e2, hjs] at p3
   have := Option.some.inj p3
   omega
end Go.Proofs.YtajaijilfclhpaaGreatDoor
/- Small facts of the walk, elsewhere. -/
namespace Go.Proofs.YtajaijilfclhpaaGreatDoor
end Go.Proofs.YtajaijilfclhpaaGreatDoor
/- Rows of rows, and rows compared. -/
namespace Go.Proofs.YtajaijilfclhpaaGreatDoor
open Go.RowKit

structure NetAt (w : World) (v : Value) (nx : List (List Int)) : Prop where
 row : ∃ kvs : List Value, kvs.length = nx.length ∧ RowAt w v nx.length kvs ∧ ∀ (i : Nat) (r : List Int) (kv : Value), nx[i]? = some r → kvs[i]? = some kv → IntsAt w kv r
theorem NetAt.below {w w' : World} {v : Value} {nx : List (List Int)} (h : NetAt w v nx) (hb : Below w.heap.size w w') : NetAt w' v nx := by
 obtain ⟨kvs, h1, h2, h3⟩ := h.row
 exact ⟨kvs, h1, h2.below hb, fun i r kv e1 e2 => (h3 i r kv e1 e2).below hb⟩
theorem NetAt.form {w : World} {v : Value} {nx : List (List Int)} (h : NetAt w v nx) : ∃ a c, v = .slice a nx.length c ∧ nx.length ≤ 140737488355328 := by
 obtain ⟨_, _, ⟨a, c, hv, hn, _⟩, _⟩ := h.row
 exact ⟨a, c, hv, hn.2⟩
theorem NetAt.get {w : World} {a : Option Addr} {n c : Nat} {nx : List (List Int)} (h : NetAt w (.slice a n c) nx) {i : Nat} (hi : i < nx.length) : ∃ g o ra rc, a = some ⟨g, o, none⟩ ∧ g < w.heap.size ∧ w.cell? ⟨g, o + i, none⟩ = some (.slice ra (nx.getD i []).length rc) ∧ IntsAt w (.slice ra (nx.getD i []).length rc) (nx.getD i []) := by
 obtain ⟨kvs, hl, ⟨a', c', hv, _, hc⟩, hk⟩ := h.row
 cases hv
 rcases hc with h0 | ⟨g, o, ha, hg, hc⟩
 ·omega
 ·have e : nx[i]? = some (nx.getD i []) := by simp [List.getD, List.getElem?_eq_getElem hi]
  have e2 : kvs[i]? = some (kvs[i]'(by omega)) := List.getElem?_eq_getElem _
  have hI := hk i _ _ e e2
  obtain ⟨ra, rc, he, _⟩ := hI.form
  have h2 := hc i _ e2
  rw [he] at h2 hI
  exact ⟨g, o, ra, rc, ha, hg, h2, hI⟩
theorem RowsIn.at' {w : World} {base G n : Nat} {kvs : List Value} {rows : List (List Int)} (h : RowsIn w base G n kvs rows) (hn : n ≤ 140737488355328) (hl : ∀ r ∈ rows, r.length ≤ 140737488355328) : NetAt w (.slice (some ⟨G, 0, none⟩) n n) rows := by
 refine ⟨kvs, by rw [h.klen, h.rlen], ⟨_, _, by rw [h.rlen], ⟨by rw [h.rlen]; omega, by rw [h.rlen]; exact hn⟩, .inr ⟨G, 0, rfl, h.ltG.2, fun j u hj => ?_⟩⟩, fun i r kv e1 e2 => (h.kid i r kv e1 e2).1.at' (hl r (List.mem_of_getElem? e1))⟩
 rw [Nat.zero_add]
 exact h.cellG hj
theorem drewN_add (w : World) (a b : Nat) : (w.drewN a).drewN b = w.drewN (a + b) := by simp [World.drewN, Nat.add_assoc]
theorem below_of_drew {w w' : World} (h : ∃ k, w' = w.drewN k) : Below w.heap.size w w' := by
 obtain ⟨k, rfl⟩ := h
 exact below_drewN (Below.refl _ _) k
set_option maxRecDepth 100000 in
set_option maxHeartbeats 1000000 in
theorem sameI_any (xs ys : List Int) (v1 v2 : Value) (w : World) (h1 : IntsAt w v1 xs) (h2 : IntsAt w v2 ys) : Calls Tryz.prog 43 #[v1, v2] w fun e w' => e = .returned (.bool (decide (xs = ys))) ∧ ∃ k, w' = w.drewN k := by
 obtain ⟨a1, c1, rfl, hb1⟩ := h1.form
 obtain ⟨a2, c2, rfl, hb2⟩ := h2.form
 by_cases hl : xs.length = ys.length
 ·have HI : Hid (∀ i, i < xs.length → ∃ g1 o1 g2 o2 x y, a1 = some ⟨g1, o1, none⟩ ∧ a2 = some ⟨g2, o2, none⟩ ∧ xs[i]? = some x ∧ ys[i]? = some y ∧ w.cell? ⟨g1, o1 + i, none⟩ = some (.int .i64 x) ∧ w.cell? ⟨g2, o2 + i, none⟩ = some (.int .i64 y)) := fun i hi => by
   obtain ⟨g1, o1, e1, l1, k1⟩ := h1.get hi
   obtain ⟨g2, o2, e2, l2, k2⟩ := h2.get (i := i) (by omega)
   exact ⟨g1, o1, g2, o2, _, _, e1, e2, getD_some hi, getD_some (by omega), k1, k2⟩
  have HD : Hid (∀ (i : Nat) (x y : Int), xs[i]? = some x → ys[i]? = some y → x ≠ y → decide (xs = ys) = false) := fun i x y e1 e2 hn => decide_eq_false (fun he => by rw [he, e2] at e1; cases e1; exact hn rfl)
  have HE : Hid (xs.take xs.length = ys.take xs.length → decide (xs = ys) = true) := fun he => decide_eq_true (by rw [List.take_length, hl, List.take_length] at he; exact he)
  have hl' : (ys.length : Int) = (xs.length : Int) := by omega
  generalize hN : xs.length = n at *
  obtain ⟨R, hR⟩ : ∃ R, R = decide (xs = ys) := ⟨_, rfl⟩
  rw [← hR]
  have HR : Hid _ := hR
  clear h1 h2 hR hN hb2
  rw [← hl]
  go_enter Tryz.func43, Tryz.ntmps43
  go_wp2
  go_loopw [5] (fun vi wr => ∃ i : Nat, vi = .int .i64 i ∧ i ≤ n ∧ Hid (xs.take i = ys.take i ∧ ∃ k, wr = w.drewN k)) (fun vi _ => n - (intOf vi).toNat)
  case atStart => exact ⟨0, rfl, by omega, rfl, 0, rfl⟩
  case round =>
   obtain ⟨i, rfl, hi, hr⟩ := hrel
   obtain ⟨q, hq⟩ := hr.out.2
   have HQ : Hid (wr = w.drewN q) := hq
   clear hq
   by_cases hin : i < n
   ·obtain ⟨g1, o1, g2, o2, x, y, rfl, rfl, e1, e2, k1, k2⟩ := HI.out i hin
    have k1' : wr.cell? ⟨g1, o1 + i, none⟩ = some (.int .i64 x) := by rw [HQ.out]; exact k1
    have k2' : wr.cell? ⟨g2, o2 + i, none⟩ = some (.int .i64 y) := by rw [HQ.out]; exact k2
    have hin' : (i : Int) < n := by omega
    have E1 : Hid _ := e1
    have E2 : Hid _ := e2
    clear HI e1 e2
    by_cases hxy : x = y
    ·subst hxy
     have HT : Hid _ := take_next hr.out.1 E1.out E2.out
     clear E1 E2 hr
     go_wp2
     go_quiet (fail)
     go_wp2
     go_roundw
     case rel => exact ⟨i + 1, by first | rfl | (congr 1; omega), by omega, HT.out, by first | exact ⟨_, HQ.out⟩ | exact ⟨_, by rw [HQ.out]; exact drewN_add _ _ _⟩⟩
     case measure => simp [intOf]; omega
    ·have HX : Hid (R = false) := HR.out.trans (HD.out i x y E1.out E2.out hxy)
     clear E1 E2 hr
     go_wp2
     go_quiet (fail)
     go_wp2
     go_ret
     exact ⟨ret_bool HX.out.symm, by first | exact ⟨_, HQ.out⟩ | exact ⟨_, by rw [HQ.out]; exact drewN_add _ _ _⟩⟩
   ·obtain rfl : i = n := by omega
    have HX : Hid (R = true) := HR.out.trans (HE.out hr.out.1)
    clear HI hr
    go_wp2
    go_ret
    exact ⟨ret_bool HX.out.symm, by first | exact ⟨_, HQ.out⟩ | exact ⟨_, by rw [HQ.out]; exact drewN_add _ _ _⟩⟩
 ·have hne : decide (xs = ys) = false := decide_eq_false (fun he => hl (by rw [he]))
  rw [hne]
  have hl' : ¬ (xs.length : Int) = (ys.length : Int) := by omega
  clear h1 h2 hl hne
  go_enter Tryz.func43, Tryz.ntmps43
  go_wp2
  go_ret
  exact ⟨rfl, 0, rfl⟩
theorem IntsAt.drew {w : World} {v : Value} {l : List Int} (h : IntsAt w v l) (k : Nat) : IntsAt (w.drewN k) v l := h.below (below_drewN (Below.refl _ _) k)
end Go.Proofs.YtajaijilfclhpaaGreatDoor
/- A phi's arguments for the blocks that are still ahead. -/
namespace Go.Proofs.YtajaijilfclhpaaGreatDoor
open Go.RowKit

end Go.Proofs.YtajaijilfclhpaaGreatDoor
/- One number, as often as is asked for. -/
namespace Go.Proofs.YtajaijilfclhpaaGreatDoor
open Go.RowKit

def repL (y : Int) (k n : Nat) : List Value := (List.replicate k y ++ List.replicate (n - k) 0).map intV
end Go.Proofs.YtajaijilfclhpaaGreatDoor
/- Where each block stands in the new order. -/
namespace Go.Proofs.YtajaijilfclhpaaGreatDoor
open Go.RowKit

def placesL (O : List Int) (n : Nat) : List Int := (List.range n).map fun b => placeOf O ((b : Nat) : Int)
end Go.Proofs.YtajaijilfclhpaaGreatDoor
/- Cells of instructions and blocks; rows of one's own: what copies want. -/
namespace Go.Proofs.YtajaijilfclhpaaGreatDoor
open Go.RowKit

theorem own_shape {w : World} {base : Nat} {e : TypeId} {sz : Nat} {v : Value} {n : Nat} {cs : List Value} (h : w.ownsRow base e sz v n cs) : (v = .slice none 0 0 ∧ n = 0) ∨ ∃ g c, v = .slice (some ⟨g, 0, none⟩) n c ∧ n ≤ c ∧ c ≤ maxLen ∧ base ≤ g ∧ g < w.heap.size := by
 rcases h.2 with h0 | ⟨g, cap, cur, hv, h1, hh, h2, h3, _⟩
 ·exact .inl h0
 ·exact .inr ⟨g, cap, hv, h2, h3, h1, (Array.getElem?_eq_some_iff.1 hh).1⟩
theorem insCells_len : ∀ {l : List In} {avs : List Value}, avs.length = l.length → (insCells l avs).length = l.length * 6
 | [], _, _ => by simp [insCells]
 | x :: l, [], h => by simp at h
 | x :: l, a :: avs, h => by
  have := insCells_len (l := l) (avs := avs) (by simpa using h)
  unfold insCells
  rw [List.length_append, this, List.length_cons, Nat.add_mul]
  simp [inCells]; omega
theorem blsCells_len : ∀ {l : List Bl} {avs : List Value}, avs.length = l.length → (blsCells l avs).length = l.length * 6
 | [], _, _ => by simp [blsCells]
 | x :: l, [], h => by simp at h
 | x :: l, a :: avs, h => by
  have := blsCells_len (l := l) (avs := avs) (by simpa using h)
  unfold blsCells
  rw [List.length_append, this, List.length_cons, Nat.add_mul]
  simp [blCells]; omega
theorem insCells_cons (x : In) (l : List In) (a : Value) (avs : List Value) : insCells (x :: l) (a :: avs) = inCells x a ++ insCells l avs := rfl
theorem blsCells_cons (x : Bl) (l : List Bl) (a : Value) (avs : List Value) : blsCells (x :: l) (a :: avs) = blCells x a ++ blsCells l avs := rfl
theorem set_six {p l : List Value} (hp : p.length = 6) (i q : Nat) (u : Value) : (p ++ l).set ((i + 1) * 6 + q) u = p ++ l.set (i * 6 + q) u := by
 rw [List.set_append_right _ _ (by rw [hp, Nat.add_mul]; omega), hp, show (i + 1) * 6 + q - 6 = i * 6 + q by omega]
theorem set_six0 {p l : List Value} (hp : p.length = 6) (i : Nat) (u : Value) : (p ++ l).set ((i + 1) * 6) u = p ++ l.set (i * 6) u := set_six hp i 0 u
theorem infoBl : (Tryz.prog.info? 63).map (fun i => (i.zero, i.size, i.bytes)) = some (some (.agg #[.slice none 0 0, .int .u8 0, .int .i64 0, .int .i64 0, .int .i64 0, .int .u8 0]), 6, 64) := by kernel_rfl
theorem infoIn : (Tryz.prog.info? 55).map (fun i => (i.zero, i.size, i.bytes)) = some (some (.agg #[.int .u8 0, .int .u8 0, .int .i64 0, .slice none 0 0, .int .u64 0, .int .i64 0]), 6, 56) := by kernel_rfl
theorem getD_somL {α : Type} [Inhabited α] {l : List α} {i : Nat} (h : i < l.length) : l[i]? = some (l.getD i default) := by simp [List.getElem?_eq_getElem h]
theorem row_of_own {w : World} {base g n c : Nat} {e : TypeId} {sz : Nat} {cs : List Value} (h : w.ownsRow base e sz (.slice (some ⟨g, 0, none⟩) n c) n cs) (hn : n ≤ 1000000) (hc : n ≤ c) : RowAt w (.slice (some ⟨g, 0, none⟩) n c) n cs :=
 ⟨_, _, rfl, ⟨hc, by omega⟩, .inr ⟨g, 0, rfl, (h.lt g rfl).2, fun j u hj => by
  have hl : j < n * sz := by have := (List.getElem?_eq_some_iff.1 hj).1; rw [h.1] at this; exact this
  rw [Nat.zero_add, h.cellAt j hl]; exact hj⟩⟩
theorem own_six {w : World} {base g n c i : Nat} {e : TypeId} {cs : List Value} (h : w.ownsRow base e 6 (.slice (some ⟨g, 0, none⟩) n c) n cs) (u0 u1 u2 u3 u4 u5 : Value) :
  ((((((w.setCell ⟨g, i * 6, none⟩ u0).setCell ⟨g, i * 6 + 1, none⟩ u1).setCell ⟨g, i * 6 + 2, none⟩ u2).setCell ⟨g, i * 6 + 3, none⟩ u3).setCell ⟨g, i * 6 + 4, none⟩ u4).setCell ⟨g, i * 6 + 5, none⟩ u5).ownsRow base e 6 (.slice (some ⟨g, 0, none⟩) n c) n ((((((cs.set (i * 6) u0).set (i * 6 + 1) u1).set (i * 6 + 2) u2).set (i * 6 + 3) u3).set (i * 6 + 4) u4).set (i * 6 + 5) u5) :=
 ((((((h.stored _ u0).1).stored _ u1).1.stored _ u2).1.stored _ u3).1.stored _ u4).1.stored _ u5 |>.1
theorem hsc {w : World} {g i : Nat} {cs : Array Value} {t : TypeId} (hg : w.heap[g]? = some (.cells cs t (0, 0))) (v : Value) : (w.setCell ⟨g, i, none⟩ v).heap[g]? = some (.cells (cs.setIfInBounds i v) t (0, 0)) := heap_setCell_same w g i cs t v hg
theorem bl_one : ∀ {l : List Bl} {avs : List Value}, (∀ a ∈ avs, a.oneCell' = true) → ∀ u ∈ blsCells l avs, u.oneCell' = true
 | [], _, _, u, hu => by simp [blsCells] at hu
 | _ :: _, [], _, u, hu => by simp [blsCells] at hu
 | x :: l, a :: avs, h, u, hu => by
  rw [blsCells_cons, List.mem_append] at hu
  rcases hu with hu | hu
  ·simp [blCells] at hu
   rcases hu with rfl | rfl | rfl | rfl | rfl | rfl
   ·exact h _ (by simp)
   all_goals rfl
  ·exact bl_one (fun b hb => h b (by simp [hb])) u hu
theorem in_one : ∀ {l : List In} {avs : List Value}, (∀ a ∈ avs, a.oneCell' = true) → ∀ u ∈ insCells l avs, u.oneCell' = true
 | [], _, _, u, hu => by simp [insCells] at hu
 | _ :: _, [], _, u, hu => by simp [insCells] at hu
 | x :: l, a :: avs, h, u, hu => by
  rw [insCells_cons, List.mem_append] at hu
  rcases hu with hu | hu
  ·simp [inCells] at hu
   rcases hu with rfl | rfl | rfl | rfl | rfl | rfl
   any_goals rfl
   exact h _ (by simp)
  ·exact in_one (fun b hb => h b (by simp [hb])) u hu
theorem slices_one {avs : List Value} (h : ∀ (i : Nat) (a : Value), avs[i]? = some a → ∃ x m c, a = Value.slice x m c) : ∀ a ∈ avs, a.oneCell' = true := fun a ha => by
 obtain ⟨i, hi, e⟩ := List.mem_iff_getElem.1 ha
 obtain ⟨x, m, c, e2⟩ := h i a (by rw [List.getElem?_eq_getElem hi, e])
 rw [e2]; rfl
theorem own_blk {w : World} {base base' : Nat} {e : TypeId} {sz : Nat} {v : Value} {n : Nat} {cs : List Value} (hb : base' ≤ base) (h : w.ownsRow base e sz v n cs) : ∃ a c, v = .slice a n c ∧ ∃ g, base' ≤ g ∧ (n = 0 ∨ (a = some ⟨g, 0, none⟩ ∧ n ≤ c)) := by
 rcases own_shape h with ⟨e1, e2⟩ | ⟨g, c, e1, e2, _, e3, _⟩
 ·exact ⟨none, 0, by rw [e1, e2], base', Nat.le_refl _, .inl e2⟩
 ·exact ⟨_, _, e1, g, Nat.le_trans hb e3, .inr ⟨rfl, e2⟩⟩
theorem getD_memI {L : List In} {i : Nat} (h : i < L.length) : L.getD i default ∈ L := by
 have e : L.getD i default = L[i] := by simp [List.getD, List.getElem?_eq_getElem h]
 rw [e]; exact List.getElem_mem h
end Go.Proofs.YtajaijilfclhpaaGreatDoor
