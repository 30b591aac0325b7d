/- Rows in memory: read, of one's own, rows of rows. -/
import Derived.Test.YtogjjmbcbnceoaaGreatDFrontM
import Derived.Test.YtogjjmbcbnceoaaGreatProg
import Derived.WalkKit
import Derived.WalkLawsBesides
import Derived.OneCell
import Derived.Deep.LoopGhost
import Derived.Deep.QuietTactic
import Derived.Deep.RegionWith
import Derived.Deep.RegionLaw
import Derived.Maps.AppendAt
import Derived.BigQuiet
import Derived.WalkSpells
import Derived.Laws.OwnMore
import Derived.OwnWalk
import Derived.Deep.OwnRows
namespace Go.Proofs.YtogjjmbcbnceoaaGreat
open Go.RowKit

def inB (k : Int) (n : Nat) : Bool := decide (0 ≤ k ∧ k < (n : Int))
theorem inB_iff {k : Int} {n : Nat} : inB k n = true ↔ 0 ≤ k ∧ k < (n : Int) := by unfold inB; simp
/-- One more edge to a block: its row. -/
def putA (i : Int) (rows : List (List Int)) (to : Int) : List (List Int) := if inB to rows.length then rows.modify to.toNat (· ++ [i]) else rows
theorem putA_len (i : Int) (rows : List (List Int)) (to : Int) : (putA i rows to).length = rows.length := by unfold putA; split <;> simp
/-- A row of n elements whose cells are these, somewhere in memory that is there. -/
def RowAt (w : World) (v : Value) (n : Nat) (cs : List Value) : Prop :=
  ∃ a c, v = .slice a n c ∧ (n ≤ c ∧ n ≤ 140737488355328) ∧ (n = 0 ∨ ∃ g o, a = some ⟨g, o, none⟩ ∧ g < w.heap.size ∧ ∀ j u, cs[j]? = some u → w.cell? ⟨g, o + j, none⟩ = some u)
theorem RowAt.below {w w' : World} {v : Value} {n : Nat} {cs : List Value} (h : RowAt w v n cs) (hb : Below w.heap.size w w') : RowAt w' v n cs := by
  obtain ⟨a, c, hv, hn, hc⟩ := h
  refine ⟨a, c, hv, hn, ?_⟩
  rcases hc with h0 | ⟨g, o, ha, hg, hc⟩
  · exact .inl h0
  · exact .inr ⟨g, o, ha, Nat.lt_of_lt_of_le hg hb.size, fun j k hk => (hb.cell (p := ⟨g, o + j, none⟩) hg).trans (hc j k hk)⟩
abbrev intV (k : Int) : Value := .int .i64 k
abbrev bytV (k : Int) : Value := .int .u8 k
def IntsAt (w : World) (v : Value) (l : List Int) : Prop := RowAt w v l.length (l.map intV)
theorem IntsAt.below {w w' : World} {v : Value} {l : List Int} (h : IntsAt w v l) (hb : Below w.heap.size w w') : IntsAt w' v l := RowAt.below h hb
theorem IntsAt.cap {w : World} {a : Option Addr} {n c : Nat} {l : List Int} (h : IntsAt w (.slice a n c) l) : l.length ≤ c := by
  obtain ⟨a', c', hv, hn, _⟩ := h
  cases hv
  exact hn.1
theorem IntsAt.form {w : World} {v : Value} {l : List Int} (h : IntsAt w v l) : ∃ a c, v = .slice a l.length c ∧ l.length ≤ 140737488355328 := by
  obtain ⟨a, c, hv, hn, _⟩ := h; exact ⟨a, c, hv, hn.2⟩
theorem IntsAt.get {w : World} {a : Option Addr} {n c : Nat} {l : List Int} (h : IntsAt w (.slice a n c) l) {i : Nat} (hi : i < l.length) : ∃ g o, a = some ⟨g, o, none⟩ ∧ g < w.heap.size ∧ w.cell? ⟨g, o + i, none⟩ = some (.int .i64 (l.getD i 0)) := by
  obtain ⟨a', c', hv, _, hc⟩ := h
  cases hv
  rcases hc with h0 | ⟨g, o, ha, hg, hc⟩
  · omega
  · refine ⟨g, o, ha, hg, hc i _ ?_⟩
    simp [List.getD, List.getElem?_eq_getElem hi]
theorem ret_int {k : IntKind} {a b : Int} (h : a = b) : Ending.returned (.int k a) = .returned (.int k b) := by rw [h]
theorem ret_bool {a b : Bool} (h : a = b) : Ending.returned (.bool a) = .returned (.bool b) := by rw [h]
theorem below_drewN {w w1 : World} (h : Below w.heap.size w w1) (k : Nat) : Below w.heap.size w (w1.drewN k) := h.trans ⟨rfl, rfl, rfl, Nat.le_refl _, fun _ _ => rfl⟩
theorem below_drew {w w1 : World} (h : Below w.heap.size w w1) : Below w.heap.size w w1.drew := h.trans ⟨rfl, rfl, rfl, Nat.le_refl _, fun _ _ => rfl⟩
theorem below_alloc {w w1 : World} (h : Below w.heap.size w w1) (o : Obj) : Below w.heap.size w (w1.alloc o) := h.alloc h.size o
theorem below_trans {w w1 w2 : World} (h : Below w.heap.size w w1) (h2 : Below w1.heap.size w1 w2) : Below w.heap.size w w2 := h.trans (h2.mono h.size)
theorem bcell {W w1 : World} (hb : Below W.heap.size W w1) : (∀ b o, b < W.heap.size → w1.cell? ⟨b, o, none⟩ = W.cell? ⟨b, o, none⟩) ∧ (∀ b o, b < W.heap.size → w1.frozen? ⟨b, o, none⟩ = W.frozen? ⟨b, o, none⟩) :=
  ⟨fun b o h => hb.cell (p := ⟨b, o, none⟩) h, fun b o h => hb.frozen (p := ⟨b, o, none⟩) h⟩
/-- A row of whole numbers in memory of one's own. -/
abbrev OwnI (w : World) (base : Nat) (v : Value) (l : List Int) : Prop := w.ownsRow base 3 1 v l.length (l.map intV)
theorem OwnI.at' {w : World} {base : Nat} {v : Value} {l : List Int} (h : OwnI w base v l) (hl : l.length ≤ 140737488355328) : IntsAt w v l := by
  rcases h.2 with ⟨rfl, h0⟩ | ⟨g, cap, cur, rfl, _, hg, hc, _⟩
  · exact ⟨none, 0, by rw [h0], ⟨by omega, hl⟩, .inl h0⟩
  · refine ⟨_, _, rfl, ⟨hc, hl⟩, .inr ⟨g, 0, rfl, (Array.getElem?_eq_some_iff.1 hg).1, fun j u hj => ?_⟩⟩
    have := h.cells (g := g) rfl j u hj
    rwa [Addr.add_lit] at this
theorem own_lit2 (w : World) (o : Obj) (cs : Array Value) (e : TypeId) (n : Nat) (hm : n ≤ maxLen) (hs : cs.size = n * 1) : ((w.alloc o).alloc (.cells cs e)).ownsRow w.heap.size e 1 (.slice (some ⟨w.heap.size + 1, 0, none⟩) n n) n cs.toList := by
  have h := World.ownsRow_lit (base := w.heap.size) (e := e) (size := 1) (w.alloc o) cs n (below_alloc (Below.refl _ _) _).size hm hs
  rwa [show (w.alloc o).heap.size = w.heap.size + 1 by simp] at h
theorem take_next {xs ys : List Int} {i : Nat} {x : Int} (h : xs.take i = ys.take i) (h1 : xs[i]? = some x) (h2 : ys[i]? = some x) : xs.take (i + 1) = ys.take (i + 1) := by
  rw [List.take_add_one, List.take_add_one, h, h1, h2]
theorem getD_some {l : List Int} {i : Nat} (h : i < l.length) : l[i]? = some (l.getD i 0) := by simp [List.getD, List.getElem?_eq_getElem h]
set_option maxRecDepth 100000 in
set_option maxHeartbeats 1000000 in
theorem same_any (xs ys : List Int) (v1 v2 : Value) (w : World) (h1 : IntsAt w v1 xs) (h2 : IntsAt w v2 ys) : Calls Tryz.prog 18 #[v1, v2] w fun e w' => e = .returned (.bool (decide (xs = ys))) ∧ Below w.heap.size w w' := by
  obtain ⟨a1, c1, rfl, hb1⟩ := h1.form
  obtain ⟨a2, c2, rfl, hb2⟩ := h2.form
  by_cases hl : xs.length = ys.length
  · have HI : Hid (∀ i, i < xs.length → ∃ g1 o1 g2 o2 x y, a1 = some ⟨g1, o1, none⟩ ∧ a2 = some ⟨g2, o2, none⟩ ∧ g1 < w.heap.size ∧ g2 < w.heap.size ∧ xs[i]? = some x ∧ ys[i]? = some y ∧ w.cell? ⟨g1, o1 + i, none⟩ = some (.int .i64 x) ∧ w.cell? ⟨g2, o2 + i, none⟩ = some (.int .i64 y)) := fun i hi => by
      obtain ⟨g1, o1, e1, l1, k1⟩ := h1.get hi
      obtain ⟨g2, o2, e2, l2, k2⟩ := h2.get (i := i) (by omega)
      exact ⟨g1, o1, g2, o2, _, _, e1, e2, l1, l2, getD_some hi, getD_some (by omega), k1, k2⟩
    have HD : Hid (∀ (i : Nat) (x y : Int), xs[i]? = some x → ys[i]? = some y → x ≠ y → decide (xs = ys) = false) := fun i x y e1 e2 hn => decide_eq_false (fun he => by rw [he, e2] at e1; cases e1; exact hn rfl)
    have HE : Hid (xs.take xs.length = ys.take xs.length → decide (xs = ys) = true) := fun he => decide_eq_true (by rw [List.take_length, hl, List.take_length] at he; exact he)
    have hl' : (ys.length : Int) = (xs.length : Int) := by omega
    generalize hN : xs.length = n at *
    obtain ⟨R, hR⟩ : ∃ R, R = decide (xs = ys) := ⟨_, rfl⟩
    rw [← hR]
    have HR : Hid _ := hR
    clear h1 h2 hR hN hb2
    rw [← hl]
    go_enter Tryz.func18, Tryz.ntmps18
    go_wp2
    go_loopw [5] (fun vi wr => ∃ i : Nat, vi = .int .i64 i ∧ i ≤ n ∧ Hid (xs.take i = ys.take i ∧ Below w.heap.size w wr)) (fun vi _ => n - (intOf vi).toNat)
    case atStart => exact ⟨0, rfl, by omega, rfl, Below.refl _ _⟩
    case round =>
      obtain ⟨i, rfl, hi, hr⟩ := hrel
      by_cases hin : i < n
      · obtain ⟨g1, o1, g2, o2, x, y, rfl, rfl, l1, l2, e1, e2, k1, k2⟩ := HI.out i hin
        have k1' : wr.cell? ⟨g1, o1 + i, none⟩ = some (.int .i64 x) := (hr.out.2.cell (p := ⟨g1, o1 + i, none⟩) l1).trans k1
        have k2' : wr.cell? ⟨g2, o2 + i, none⟩ = some (.int .i64 y) := (hr.out.2.cell (p := ⟨g2, o2 + i, none⟩) l2).trans k2
        have hin' : (i : Int) < n := by omega
        have E1 : Hid _ := e1
        have E2 : Hid _ := e2
        clear k1 k2 HI e1 e2 l1 l2
        by_cases hxy : x = y
        · subst hxy
          have HT : Hid _ := take_next hr.out.1 E1.out E2.out
          clear E1 E2
          go_wp2
          go_quiet (fail)
          go_wp2
          go_roundw
          case rel => exact ⟨i + 1, by first | rfl | (congr 1; omega), by omega, HT.out, by first | exact hr.out.2 | exact below_drewN hr.out.2 _⟩
          case measure => simp [intOf]; omega
        · have HX : Hid (R = false) := HR.out.trans (HD.out i x y E1.out E2.out hxy)
          clear E1 E2
          go_wp2
          go_quiet (fail)
          go_wp2
          go_ret
          exact ⟨ret_bool HX.out.symm, by first | exact hr.out.2 | exact below_drewN hr.out.2 _⟩
      · obtain rfl : i = n := by omega
        have HX : Hid (R = true) := HR.out.trans (HE.out hr.out.1)
        clear HI
        go_wp2
        go_ret
        exact ⟨ret_bool HX.out.symm, hr.out.2⟩
  · have hne : decide (xs = ys) = false := decide_eq_false (fun he => hl (by rw [he]))
    rw [hne]
    have hl' : ¬ (xs.length : Int) = (ys.length : Int) := by omega
    clear h1 h2 hl hne
    go_enter Tryz.func18, Tryz.ntmps18
    go_wp2
    go_ret
    exact ⟨rfl, Below.refl _ _⟩
abbrev ptr (b : Nat) : Value := .pointer (some ⟨b, 0, none⟩)
/-- A variable at block b, cell by cell. -/
structure Box (w : World) (b : Nat) (cs : List Value) : Prop where
  lt : b < w.heap.size
  cell : ∀ (j : Nat) (u : Value), cs[j]? = some u → w.cell? ⟨b, j, none⟩ = some u
  fz : ∀ j, w.frozen? ⟨b, j, none⟩ = false
theorem Box.same {w w' : World} {b : Nat} {cs : List Value} (h : Box w b cs) (he : w'.heap[b]? = w.heap[b]?) : Box w' b cs := by
  refine ⟨?_, fun j u hj => (World.cell?_of_block (w := w) (a := ⟨b, j, none⟩) he).trans (h.cell j u hj), fun j => (World.frozen?_of_block (w := w) (a := ⟨b, j, none⟩) he).trans (h.fz j)⟩
  rcases Nat.lt_or_ge b w'.heap.size with h1 | h1
  · exact h1
  · rw [Array.getElem?_eq_none h1, Array.getElem?_eq_getElem h.lt] at he
    cases he
theorem Box.below {w w' : World} {b : Nat} {cs : List Value} (h : Box w b cs) (hk : Below w.heap.size w w') : Box w' b cs := h.same (hk.block b h.lt)
theorem Box.other {w : World} {b : Nat} {cs : List Value} (h : Box w b cs) {a : Addr} (ha : b ≠ a.block) (u : Value) : Box (w.setCell a u) b cs := h.same (Below.heap_setCell _ _ _ _ ha)
theorem Box.set {w : World} {b : Nat} {cs : List Value} (h : Box w b cs) {j : Nat} (hj : j < cs.length) (u : Value) : Box (w.setCell ⟨b, j, none⟩ u) b (cs.set j u) := by
  refine ⟨by simpa [World.setCell] using h.lt, fun i x hi => ?_, fun i => by rw [World.frozen?_setCell]; exact h.fz i⟩
  rw [List.getElem?_set] at hi
  by_cases hij : j = i
  · subst hij
    rw [if_pos rfl, if_pos hj] at hi
    cases hi
    exact World.cell?_setCell_same _ _ _ (h.cell j _ (List.getElem?_eq_getElem hj))
  · rw [if_neg hij] at hi
    rw [World.cell?_setCell_other _ _ _ _ (by intro hh; simp at hh <;> omega)]
    exact h.cell i x hi
theorem Box.new (w : World) (cs : List Value) (t : TypeId) : Box (w.alloc (.cells cs.toArray t)) w.heap.size cs := by
  have hh := heap_alloc_new w (.cells cs.toArray t)
  refine ⟨by simp, fun j u hj => ?_, fun j => ?_⟩
  · simp only [World.cell?, hh]; simpa using hj
  · simp only [World.frozen?, hh]; rfl
theorem owns_other {w : World} {base : Nat} {e : TypeId} {sz : Nat} {v : Value} {n : Nat} {xs : List Value} (h : w.ownsRow base e sz v n xs) {a : Addr} (ha : v.ownBlock ≠ some a.block) (u : Value) : (w.setCell a u).ownsRow base e sz v n xs := by
  refine ⟨h.1, ?_⟩
  rcases h.2 with h0 | ⟨g, cap, cur, hv, h1, hh, h2⟩
  · exact .inl h0
  · refine .inr ⟨g, cap, cur, hv, h1, (Below.heap_setCell _ _ _ _ ?_).trans hh, h2⟩
    intro hc
    rw [hv] at ha
    exact ha (by simp [Value.ownBlock, hc])
theorem owns_same {w w' : World} {base : Nat} {e : TypeId} {sz : Nat} {v : Value} {n : Nat} {xs : List Value} (h : w.ownsRow base e sz v n xs) (he : ∀ g, v.ownBlock = some g → w'.heap[g]? = w.heap[g]?) : w'.ownsRow base e sz v n xs := by
  refine ⟨h.1, ?_⟩
  rcases h.2 with h0 | ⟨g, cap, cur, hv, h1, hh, h2⟩
  · exact .inl h0
  · exact .inr ⟨g, cap, cur, hv, h1, (he g (by rw [hv]; rfl)).trans hh, h2⟩
theorem owns_below {w w' : World} {base : Nat} {e : TypeId} {sz : Nat} {v : Value} {n : Nat} {xs : List Value} (h : w.ownsRow base e sz v n xs) (hb : Below w.heap.size w w') : w'.ownsRow base e sz v n xs :=
  owns_same h fun g hg => hb.block g (h.lt g hg).2
theorem own_mono {w : World} {base base' : Nat} {e : TypeId} {size : Nat} {v : Value} {n : Nat} {xs : List Value} (h : w.ownsRow base e size v n xs) (hb : base' ≤ base) : w.ownsRow base' e size v n xs := by
  refine ⟨h.1, ?_⟩
  rcases h.2 with h0 | ⟨g, cap, cur, hv, h1, h2⟩
  · exact .inl h0
  · exact .inr ⟨g, cap, cur, hv, Nat.le_trans hb h1, h2⟩
theorem own_form {w : World} {base : Nat} {e : TypeId} {sz : Nat} {v : Value} {n : Nat} {xs : List Value} (h : w.ownsRow base e sz v (n + 1) xs) : ∃ g cap, v = .slice (some ⟨g, 0, none⟩) (n + 1) cap ∧ base ≤ g ∧ g < w.heap.size ∧ n + 1 ≤ cap ∧ cap ≤ maxLen := by
  rcases h.2 with ⟨_, h0⟩ | ⟨g, cap, cur, hv, h1, hh, h2, h3, _⟩
  · omega
  · exact ⟨g, cap, hv, h1, (Array.getElem?_eq_some_iff.1 hh).1, h2, h3⟩
theorem own_snoc {w : World} {base : Nat} {v : Value} {l : List Int} {x : Int} (h : OwnI w base v (l ++ [x])) : w.ownsRow base 3 1 v (l.length + 1) (l.map intV ++ [intV x]) := by
  have h2 : w.ownsRow base 3 1 v (l ++ [x]).length ((l ++ [x]).map intV) := h
  simpa using h2
/-- A row without its last element. -/
theorem own_cut {w : World} {base g c : Nat} {l : List Int} {x : Int} {n : Nat} (hn : n = l.length + 1) (h : OwnI w base (.slice (some ⟨g, 0, none⟩) n c) (l ++ [x])) : OwnI w base (.slice (some ⟨g, 0, none⟩) l.length c) l := by
  subst hn
  refine ⟨by simp, ?_⟩
  rcases h.2 with ⟨h0, _⟩ | ⟨g', cap, cur, hv, h1, hh, h2, h3, h4, h5⟩
  · cases h0
  · injection hv with e1 e2 e3
    cases e1
    subst e3
    refine .inr ⟨g, c, cur, rfl, h1, hh, by simp at h2; omega, h3, h4, ?_⟩
    have h6 := congrArg (List.take l.length) h5
    rw [List.take_take] at h6
    simpa using h6
theorem slice_cut {g m c f : Nat} (hm : m ≤ c) (hf : f ≤ m) : ∀ W, (Instr.slice 23 (.slice (some ⟨g, 0, none⟩) m c) none (some (.int .i64 (f : Int))) none).run Tryz.prog W = .ok (.slice (some ⟨g, 0, none⟩) f c) W := fun W => by
  have hs : ∀ W : World, (sizeOf (Tryz.prog.elem 23)).run Tryz.prog W = .ok 1 W := fun W => by kernel_rfl
  have hu : Tryz.prog.underlying 23 = some (.slice (Tryz.prog.elem 23)) := by kernel_rfl
  rw [run_slice_h W 23 _ m c hu .i64 f (by omega) (by omega), hs]
  simp [Result.andThen, sliced, Addr.add]
theorem infoI : (Tryz.prog.info? 3).map (fun i => (i.zero, i.size, i.bytes)) = some (some (.int .i64 0), 1, 8) := by kernel_rfl
/-- All edges. -/
def lensA (rows : List (List Int)) : Nat := (rows.map List.length).sum
theorem lens_modify : ∀ (rows : List (List Int)) (k : Nat) (i : Int), k < rows.length → lensA (rows.modify k (· ++ [i])) = lensA rows + 1
  | [], k, _, h => by simp at h
  | r :: rows, 0, i, _ => by simp [lensA, List.modify]; omega
  | r :: rows, k + 1, i, h => by
    have := lens_modify rows k i (by simpa using h)
    simp [lensA, List.modify] at this ⊢
    omega
theorem lens_rep : ∀ n, lensA (List.replicate n []) = 0
  | 0 => rfl
  | n + 1 => by
    have := lens_rep n
    simp [lensA, List.replicate_succ] at this ⊢
structure RowsIn (w : World) (base G n : Nat) (kvs : List Value) (rows : List (List Int)) : Prop where
  klen : kvs.length = n
  rlen : rows.length = n
  own : w.ownsRow base 23 1 (.slice (some ⟨G, 0, none⟩) n n) n kvs
  kid : ∀ (i : Nat) (r : List Int) (kv : Value), rows[i]? = some r → kvs[i]? = some kv → OwnI w base kv r ∧ kv.ownBlock ≠ some G
  apart : ∀ (i j : Nat) (a b : Value) (g : Nat), i ≠ j → kvs[i]? = some a → kvs[j]? = some b → a.ownBlock = some g → b.ownBlock ≠ some g
theorem RowsIn.below {w w' : World} {base G n : Nat} {kvs : List Value} {rows : List (List Int)} (h : RowsIn w base G n kvs rows) (hb : Below w.heap.size w w') : RowsIn w' base G n kvs rows :=
  ⟨h.klen, h.rlen, owns_below h.own hb, fun i r kv h1 h2 => ⟨owns_below (h.kid i r kv h1 h2).1 hb, (h.kid i r kv h1 h2).2⟩, h.apart⟩
theorem RowsIn.cellG {w : World} {base G n : Nat} {kvs : List Value} {rows : List (List Int)} (h : RowsIn w base G n kvs rows) {t : Nat} {kv : Value} (hk : kvs[t]? = some kv) : w.cell? ⟨G, t, none⟩ = some kv := by
  have ht : t < n := by have := (List.getElem?_eq_some_iff.1 hk).1; rw [h.klen] at this; exact this
  rw [h.own.cellAt t (by omega)]
  exact hk
theorem RowsIn.fzG {w : World} {base G n : Nat} {kvs : List Value} {rows : List (List Int)} (h : RowsIn w base G n kvs rows) (t : Nat) : w.frozen? ⟨G, t, none⟩ = false := h.own.frozenAt t
theorem RowsIn.ltG {w : World} {base G n : Nat} {kvs : List Value} {rows : List (List Int)} (h : RowsIn w base G n kvs rows) : base ≤ G ∧ G < w.heap.size := h.own.lt G rfl
/-- One row is longer by one. -/
theorem RowsIn.push {w w2 : World} {base G n : Nat} {kvs : List Value} {rows : List (List Int)} (h : RowsIn w base G n kvs rows) {t : Nat} {r : List Int} {kv v' : Value} {x : Int} (hr : rows[t]? = some r) (hk : kvs[t]? = some kv)
    (ho : w2.ownsRow base 3 1 v' (r.length + 1) (r.map intV ++ [intV x])) (hg : w.grownBy w2 kv.ownBlock) (hat : v'.ownBlock = kv.ownBlock ∨ v'.ownBlock = some w.heap.size) :
    RowsIn (w2.setCell ⟨G, t, none⟩ v') base G n (kvs.set t v') (rows.modify t (· ++ [x])) ∧ w2.cell? ⟨G, t, none⟩ = some kv ∧ w2.frozen? ⟨G, t, none⟩ = false ∧
      (∀ k, k < w.heap.size → k ≠ G → kv.ownBlock ≠ some k → (w2.setCell ⟨G, t, none⟩ v').heap[k]? = w.heap[k]?) ∧ w.heap.size ≤ (w2.setCell ⟨G, t, none⟩ v').heap.size := by
  have hG := h.ltG
  have hkG := (h.kid t r kv hr hk).2
  have eG : w2.heap[G]? = w.heap[G]? := hg.block G hG.2 (fun e => hkG e.symm)
  have own2 : w2.ownsRow base 23 1 (.slice (some ⟨G, 0, none⟩) n n) n kvs := owns_same h.own fun q hq => by simp [Value.ownBlock] at hq; subst hq; exact eG
  have hvG : v'.ownBlock ≠ some G := by
    rcases hat with e | e
    · rw [e]; exact hkG
    · rw [e]; intro hc; cases hc; omega
  have htn : t < n := by have := (List.getElem?_eq_some_iff.1 hk).1; rw [h.klen] at this; exact this
  have cG : w2.cell? ⟨G, t, none⟩ = some kv := (World.cell?_of_block (w := w) (a := ⟨G, t, none⟩) eG).trans (h.cellG hk)
  have fG : w2.frozen? ⟨G, t, none⟩ = false := (World.frozen?_of_block (w := w) (a := ⟨G, t, none⟩) eG).trans (h.fzG t)
  refine ⟨⟨by simp [h.klen], by simp [h.rlen], (World.ownsRow.stored own2 t v').1, ?_, ?_⟩, cG, fG, ?_, ?_⟩
  · intro i q u hq hu
    rw [List.getElem?_modify] at hq
    rw [List.getElem?_set] at hu
    by_cases e : t = i
    · subst e
      rw [if_pos rfl, if_pos (by rw [h.klen]; exact htn)] at hu
      cases hu
      rw [hr] at hq
      simp at hq
      subst hq
      refine ⟨owns_other ?_ (by simpa using hvG) _, hvG⟩
      show World.ownsRow _ _ _ _ _ _ _
      simpa using ho
    · rw [if_neg e] at hu
      simp [e] at hq
      obtain ⟨k1, k2⟩ := h.kid i q u hq hu
      refine ⟨owns_other (owns_same k1 fun g hgu => hg.block g (k1.lt g hgu).2 (fun hc => h.apart t i kv u g e hk hu hc.symm hgu)) (by simpa using k2) _, k2⟩
  · intro i j a b g hij ha hb hag hbg
    rw [List.getElem?_set] at ha hb
    by_cases e1 : t = i
    · subst e1
      rw [if_pos rfl, if_pos (by rw [h.klen]; exact htn)] at ha
      cases ha
      rw [if_neg hij] at hb
      rcases hat with e | e
      · exact h.apart t j kv b g hij hk hb (by rw [← e]; exact hag) hbg
      · rw [e] at hag; cases hag
        have hj : j < rows.length := by have := (List.getElem?_eq_some_iff.1 hb).1; rw [h.klen] at this; rw [h.rlen]; exact this
        have := ((h.kid j _ b (List.getElem?_eq_getElem hj) hb).1.lt _ hbg).2
        omega
    · rw [if_neg e1] at ha
      by_cases e2 : t = j
      · subst e2
        rw [if_pos rfl, if_pos (by rw [h.klen]; exact htn)] at hb
        cases hb
        rcases hat with e | e
        · exact h.apart i t a kv g hij ha hk hag (by rw [← e]; exact hbg)
        · rw [e] at hbg; cases hbg
          have hj : i < rows.length := by have := (List.getElem?_eq_some_iff.1 ha).1; rw [h.klen] at this; rw [h.rlen]; exact this
          have := ((h.kid i _ a (List.getElem?_eq_getElem hj) ha).1.lt _ hag).2
          omega
      · rw [if_neg e2] at hb
        exact h.apart i j a b g hij ha hb hag hbg
  · intro k hk1 hk2 hk3
    exact (Below.heap_setCell _ _ _ _ (by simpa using hk2)).trans (hg.block k hk1 (fun e => hk3 e.symm))
  · simpa [World.setCell] using hg.size
theorem infoS : (Tryz.prog.info? 23).map (fun i => (i.zero, i.size, i.bytes)) = some (some (.slice none 0 0), 1, 24) := by kernel_rfl
theorem rows_new (w : World) (base n : Nat) (hb : base ≤ w.heap.size) (hn : n ≤ 1000000) : RowsIn (w.alloc (.cells (madeCells #[.slice none 0 0] n) 23)) base w.heap.size n (List.replicate n (.slice none 0 0)) (List.replicate n []) := by
  have r1 := World.ownsRow_lit (base := base) (e := 23) (size := 1) w (madeCells #[.slice none 0 0] n) n hb (by unfold maxLen; omega) (by simp [size_madeCells])
  rw [toList_madeCells_one] at r1
  refine ⟨by simp, by simp, r1, ?_, ?_⟩
  · intro i r kv h1 h2
    rw [List.getElem?_replicate] at h1 h2
    split at h1
    · rename_i hi
      rw [if_pos hi] at h2
      cases h1; cases h2
      exact ⟨World.ownsRow_nil _ _ _ _, by simp [Value.ownBlock]⟩
    · cases h1
  · intro i j a b g _ ha _ hg
    rw [List.getElem?_replicate] at ha
    split at ha
    · cases ha; simp [Value.ownBlock] at hg
    · cases ha
theorem lens_mem : ∀ {rows : List (List Int)} {r : List Int}, r ∈ rows → r.length ≤ lensA rows
  | a :: rows, r, h => by
    have e : lensA (a :: rows) = a.length + lensA rows := by simp [lensA]
    rcases List.mem_cons.1 h with rfl | h
    · omega
    · have := lens_mem h; omega
theorem own_lt7 {w : World} {base : Nat} {l : List Int} {v : Value} (h : OwnI w base v l) {b : Nat} (hb : b < base) : v.ownBlock ≠ some b := fun e => by have := (h.lt b e).1; omega
theorem below_set {w0 w : World} {b : Nat} (h : Below w0.heap.size w0 w) (hb : w0.heap.size ≤ b) (j : Nat) (u : Value) : Below w0.heap.size w0 (w.setCell ⟨b, j, none⟩ u) := h.setCell (p := ⟨b, j, none⟩) hb u
theorem own_last {w : World} {base g c : Nat} {l : List Int} {x : Int} {n : Nat} (hn : n = l.length + 1) (h : OwnI w base (.slice (some ⟨g, 0, none⟩) n c) (l ++ [x])) : w.cell? ⟨g, l.length, none⟩ = some (.int .i64 x) := by
  subst hn
  rw [(own_snoc h).cellAt l.length (by omega)]
  simp
theorem drop_fold {α : Type} {L : List Int} {i : Nat} (h : i < L.length) (s : α) (F : α → Int → α) : (L.drop i).foldl F s = (L.drop (i + 1)).foldl F (F s (L.getD i 0)) := by
  rw [List.drop_eq_getElem_cons h, List.foldl_cons]
  congr 2
  simp [List.getD, List.getElem?_eq_getElem h]
theorem grownBy_refl (w : World) (r : Option Nat) : w.grownBy w r := ⟨rfl, rfl, rfl, Nat.le_refl _, fun _ _ _ => rfl⟩
theorem below_grown {w w1 w2 : World} {row : Option Nat} (h : Below w.heap.size w w1) (hg : w1.grownBy w2 row) (hr : ∀ g, row = some g → w.heap.size ≤ g) : Below w.heap.size w w2 :=
  ⟨hg.os.trans h.os, hg.tape.trans h.tape, hg.output.trans h.output, Nat.le_trans h.size hg.size, fun k hk => (hg.block k (Nat.lt_of_lt_of_le hk h.size) (fun e => by have := hr k e.symm; omega)).trans (h.block k hk)⟩
theorem rows_own_frame {w w' : World} {base2 G : Nat} {nv kv : Value} {L : List Int} (h : OwnI w base2 nv L) (hG : G < base2) (hk : ∀ q, nv.ownBlock = some q → kv.ownBlock ≠ some q)
    (hb : ∀ k, k < w.heap.size → k ≠ G → kv.ownBlock ≠ some k → w'.heap[k]? = w.heap[k]?) : OwnI w' base2 nv L :=
  owns_same h fun q hq => hb q (h.lt q hq).2 (by have := (h.lt q hq).1; omega) (hk q hq)
abbrev nilV : Value := .slice none 0 0
theorem infoB : (Tryz.prog.info? 4).map (fun i => (i.zero, i.size, i.bytes)) = some (some (.bool false), 1, 1) := by kernel_rfl
theorem made_bools (n : Nat) : (madeCells #[.bool false] n).toList = (List.replicate n false).map Value.bool := by
  rw [toList_madeCells_one]
  simp
/-- A net in memory: rows of numbers, read alone. -/
structure NetAt (w : World) (v : Value) (nx : List (List Int)) : Prop where
  row : ∃ kvs : List Value, kvs.length = nx.length ∧ RowAt w v nx.length kvs ∧ ∀ (i : Nat) (r : List Int) (kv : Value), nx[i]? = some r → kvs[i]? = some kv → IntsAt w kv r
theorem NetAt.below {w w' : World} {v : Value} {nx : List (List Int)} (h : NetAt w v nx) (hb : Below w.heap.size w w') : NetAt w' v nx := by
  obtain ⟨kvs, h1, h2, h3⟩ := h.row
  exact ⟨kvs, h1, h2.below hb, fun i r kv e1 e2 => (h3 i r kv e1 e2).below hb⟩
theorem NetAt.form {w : World} {v : Value} {nx : List (List Int)} (h : NetAt w v nx) : ∃ a c, v = .slice a nx.length c ∧ nx.length ≤ 140737488355328 := by
  obtain ⟨_, _, ⟨a, c, hv, hn, _⟩, _⟩ := h.row
  exact ⟨a, c, hv, hn.2⟩
theorem NetAt.get {w : World} {a : Option Addr} {n c : Nat} {nx : List (List Int)} (h : NetAt w (.slice a n c) nx) {i : Nat} (hi : i < nx.length) : ∃ g o ra rc, a = some ⟨g, o, none⟩ ∧ g < w.heap.size ∧ w.cell? ⟨g, o + i, none⟩ = some (.slice ra (nx.getD i []).length rc) ∧ IntsAt w (.slice ra (nx.getD i []).length rc) (nx.getD i []) := by
  obtain ⟨kvs, hl, ⟨a', c', hv, _, hc⟩, hk⟩ := h.row
  cases hv
  rcases hc with h0 | ⟨g, o, ha, hg, hc⟩
  · omega
  · have e : nx[i]? = some (nx.getD i []) := by simp [List.getD, List.getElem?_eq_getElem hi]
    have e2 : kvs[i]? = some (kvs[i]'(by omega)) := List.getElem?_eq_getElem _
    have hI := hk i _ _ e e2
    obtain ⟨ra, rc, he, _⟩ := hI.form
    have h2 := hc i _ e2
    rw [he] at h2 hI
    exact ⟨g, o, ra, rc, ha, hg, h2, hI⟩
theorem RowsIn.at' {w : World} {base G n : Nat} {kvs : List Value} {rows : List (List Int)} (h : RowsIn w base G n kvs rows) (hn : n ≤ 140737488355328) (hl : ∀ r ∈ rows, r.length ≤ 140737488355328) : NetAt w (.slice (some ⟨G, 0, none⟩) n n) rows := by
  refine ⟨kvs, by rw [h.klen, h.rlen], ⟨_, _, by rw [h.rlen], ⟨by rw [h.rlen]; omega, by rw [h.rlen]; exact hn⟩, .inr ⟨G, 0, rfl, h.ltG.2, fun j u hj => ?_⟩⟩, fun i r kv e1 e2 => (h.kid i r kv e1 e2).1.at' (hl r (List.mem_of_getElem? e1))⟩
  rw [Nat.zero_add]
  exact h.cellG hj
end Go.Proofs.YtogjjmbcbnceoaaGreat
