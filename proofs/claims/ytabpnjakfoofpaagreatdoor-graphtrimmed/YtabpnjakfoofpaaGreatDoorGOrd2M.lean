/- The walk's variables in memory. -/
import Derived.Test.YtabpnjakfoofpaaGreatDoorGBoxM
import Derived.Test.YtabpnjakfoofpaaGreatDoorGDfsM
namespace Go.Proofs.YtabpnjakfoofpaaGreatDoor
open Go.RowKit

def metV (B n : Nat) : Value := .slice (some ⟨B + 1, 0, none⟩) n n
def meetV (B : Nat) : Value := .func (.func 30) #[] #[ptr (B + 2), ptr (B + 3)]
def walkV (B : Nat) : Value := .func (.func 31) #[] #[ptr (B + 3), ptr B, ptr (B + 2), ptr (B + 5), ptr (B + 6), ptr (B + 4)]
structure WS (w0 : World) (n : Nat) (gcs : List Value) (w : World) (pv lv : Value) (met : List Bool) (path left : List Int) : Prop where
  bel : Below w0.heap.size w0 w
  mrow : w.ownsRow w0.heap.size 4 1 (metV w0.heap.size n) n (met.map Value.bool)
  prow : OwnI w (w0.heap.size + 7) pv path
  lrow : OwnI w (w0.heap.size + 7) lv left
  bg : Box w w0.heap.size gcs
  bm : Box w (w0.heap.size + 2) [metV w0.heap.size n]
  bp : Box w (w0.heap.size + 3) [pv]
  bl : Box w (w0.heap.size + 4) [lv]
  bf : Box w (w0.heap.size + 5) [meetV w0.heap.size]
  bk : Box w (w0.heap.size + 6) [walkV w0.heap.size]
  pl : ∀ g, pv.ownBlock = some g → lv.ownBlock ≠ some g
/-- What a step leaves of other blocks. -/
structure WM (B : Nat) (w : World) (pv lv : Value) (w' : World) (pv' lv' : Value) : Prop where
  size : w.heap.size ≤ w'.heap.size
  block : ∀ k, k < w.heap.size → k ≠ B + 1 → k ≠ B + 3 → k ≠ B + 4 → pv.ownBlock ≠ some k → lv.ownBlock ≠ some k → w'.heap[k]? = w.heap[k]?
  sp : pv'.ownBlock = pv.ownBlock ∨ ∃ g, pv'.ownBlock = some g ∧ w.heap.size ≤ g
  sl : lv'.ownBlock = lv.ownBlock ∨ ∃ g, lv'.ownBlock = some g ∧ w.heap.size ≤ g
theorem WM.refl (B : Nat) (w : World) (pv lv : Value) : WM B w pv lv w pv lv := ⟨Nat.le_refl _, fun _ _ _ _ _ _ _ => rfl, .inl rfl, .inl rfl⟩
theorem WM.off {B k : Nat} {w w' : World} {pv lv pv' lv' : Value} (h : WM B w pv lv w' pv' lv') (hk : k < w.heap.size) (h1 : pv.ownBlock ≠ some k) (h2 : lv.ownBlock ≠ some k) : pv'.ownBlock ≠ some k ∧ lv'.ownBlock ≠ some k := by
  constructor
  · rcases h.sp with e | ⟨g, e, hg⟩
    · rw [e]; exact h1
    · rw [e]; intro hc; cases hc; omega
  · rcases h.sl with e | ⟨g, e, hg⟩
    · rw [e]; exact h2
    · rw [e]; intro hc; cases hc; omega
theorem WM.trans {B : Nat} {w w1 w2 : World} {pv lv p1 l1 p2 l2 : Value} (h : WM B w pv lv w1 p1 l1) (g : WM B w1 p1 l1 w2 p2 l2) : WM B w pv lv w2 p2 l2 := by
  refine ⟨Nat.le_trans h.size g.size, ?_, ?_, ?_⟩
  · intro k hk a b c d e
    have ho := h.off hk d e
    exact (g.block k (Nat.lt_of_lt_of_le hk h.size) a b c ho.1 ho.2).trans (h.block k hk a b c d e)
  · rcases g.sp with e | ⟨q, e, hq⟩
    · rcases h.sp with e' | ⟨q, e', hq⟩
      · exact .inl (e.trans e')
      · exact .inr ⟨q, e.trans e', hq⟩
    · exact .inr ⟨q, e, Nat.le_trans h.size hq⟩
  · rcases g.sl with e | ⟨q, e, hq⟩
    · rcases h.sl with e' | ⟨q, e', hq⟩
      · exact .inl (e.trans e')
      · exact .inr ⟨q, e.trans e', hq⟩
    · exact .inr ⟨q, e, Nat.le_trans h.size hq⟩
theorem WM.below {B : Nat} {w w1 : World} {pv lv : Value} (hb : Below w.heap.size w w1) : WM B w pv lv w1 pv lv := ⟨hb.size, fun k hk _ _ _ _ _ => hb.block k hk, .inl rfl, .inl rfl⟩
theorem WS.lts {w0 w : World} {n : Nat} {gcs : List Value} {pv lv : Value} {met : List Bool} {path left : List Int} (h : WS w0 n gcs w pv lv met path left) : w0.heap.size + 6 < w.heap.size := h.bk.lt
theorem WS.below {w0 w w1 : World} {n : Nat} {gcs : List Value} {pv lv : Value} {met : List Bool} {path left : List Int} (h : WS w0 n gcs w pv lv met path left) (hb : Below w.heap.size w w1) : WS w0 n gcs w1 pv lv met path left :=
  ⟨h.bel.trans (hb.mono h.bel.size), owns_below h.mrow hb, owns_below h.prow hb, owns_below h.lrow hb, h.bg.below hb, h.bm.below hb, h.bp.below hb, h.bl.below hb, h.bf.below hb, h.bk.below hb, h.pl⟩
theorem WS.mlen {w0 w : World} {n : Nat} {gcs : List Value} {pv lv : Value} {met : List Bool} {path left : List Int} (h : WS w0 n gcs w pv lv met path left) : met.length = n := by have := h.mrow.1; simpa using this
theorem WS.metAt {w0 w : World} {n : Nat} {gcs : List Value} {pv lv : Value} {met : List Bool} {path left : List Int} (h : WS w0 n gcs w pv lv met path left) {k : Nat} (hk : k < n) : w.cell? ⟨w0.heap.size + 1, k, none⟩ = some (.bool (met.getD k true)) := by
  have := h.mrow.cellAt k (by simpa using hk)
  rw [this]
  have hl := h.mlen
  simp [List.getD, List.getElem?_eq_getElem (show k < met.length by omega)]
theorem WS.metFz {w0 w : World} {n : Nat} {gcs : List Value} {pv lv : Value} {met : List Bool} {path left : List Int} (h : WS w0 n gcs w pv lv met path left) (k : Nat) : w.frozen? ⟨w0.heap.size + 1, k, none⟩ = false := h.mrow.frozenAt k
theorem own_lt7 {w : World} {base : Nat} {l : List Int} {v : Value} (h : OwnI w base v l) {b : Nat} (hb : b < base) : v.ownBlock ≠ some b := fun e => by have := (h.lt b e).1; omega
theorem below_set {w0 w : World} {b : Nat} (h : Below w0.heap.size w0 w) (hb : w0.heap.size ≤ b) (j : Nat) (u : Value) : Below w0.heap.size w0 (w.setCell ⟨b, j, none⟩ u) := h.setCell (p := ⟨b, j, none⟩) hb u
/-- A block is met. -/
theorem WS.mark {w0 w : World} {n : Nat} {gcs : List Value} {pv lv : Value} {met : List Bool} {path left : List Int} (h : WS w0 n gcs w pv lv met path left) {k : Nat} (_hk : k < n) : WS w0 n gcs (w.setCell ⟨w0.heap.size + 1, k, none⟩ (.bool true)) pv lv (met.set k true) path left := by
  have hp := own_lt7 h.prow (b := w0.heap.size + 1) (by omega)
  have hl := own_lt7 h.lrow (b := w0.heap.size + 1) (by omega)
  refine ⟨below_set h.bel (by omega) _ _, ?_, owns_other h.prow (by simpa using hp) _, owns_other h.lrow (by simpa using hl) _, h.bg.other (by simp) _, h.bm.other (by simp) _, h.bp.other (by simp) _, h.bl.other (by simp) _, h.bf.other (by simp) _, h.bk.other (by simp) _, h.pl⟩
  have := World.ownsRow.stored h.mrow k (.bool true)
  rw [← List.map_set] at this
  exact this.1
theorem WM.mark {w : World} {pv lv : Value} {B : Nat} (k : Nat) (u : Value) : WM B w pv lv (w.setCell ⟨B + 1, k, none⟩ u) pv lv :=
  ⟨by simp [World.setCell], fun j _ h1 _ _ _ _ => Below.heap_setCell _ _ _ _ h1, .inl rfl, .inl rfl⟩
/-- The path has one more. -/
theorem WS.pushP {w0 w w2 : World} {n : Nat} {gcs : List Value} {pv lv v' : Value} {met : List Bool} {path left : List Int} (h : WS w0 n gcs w pv lv met path left) {x : Int} (ho : w2.ownsRow (w0.heap.size + 7) 3 1 v' (path.length + 1) (path.map intV ++ [intV x])) (hg : w.grownBy w2 pv.ownBlock) (hat : v'.ownBlock = pv.ownBlock ∨ v'.ownBlock = some w.heap.size) :
    WS w0 n gcs (w2.setCell ⟨w0.heap.size + 3, 0, none⟩ v') v' lv met (path ++ [x]) left ∧ WM w0.heap.size w pv lv (w2.setCell ⟨w0.heap.size + 3, 0, none⟩ v') v' lv ∧ w2.cell? ⟨w0.heap.size + 3, 0, none⟩ = some pv ∧ w2.frozen? ⟨w0.heap.size + 3, 0, none⟩ = false := by
  have hs := h.lts
  have hb : ∀ b, b < w0.heap.size + 7 → w2.heap[b]? = w.heap[b]? := fun b hb => hg.block b (by omega) (fun e => own_lt7 h.prow hb e.symm)
  have hl2 : OwnI w2 (w0.heap.size + 7) lv left := owns_same h.lrow fun g hgl => hg.block g (h.lrow.lt g hgl).2 (fun e => h.pl g e.symm hgl)
  have hv : ∀ b, b < w0.heap.size + 7 → v'.ownBlock ≠ some b := fun b hb e => by have := (ho.lt b e).1; omega
  have hlv := own_lt7 h.lrow (b := w0.heap.size + 3) (by omega)
  refine ⟨⟨?_, ?_, ?_, ?_, ?_, ?_, ?_, ?_, ?_, ?_, ?_⟩, ⟨?_, ?_, ?_, .inl rfl⟩, (h.bp.same (hb _ (by omega))).cell 0 _ rfl, (h.bp.same (hb _ (by omega))).fz 0⟩
  · refine below_set ?_ (by omega) _ _
    refine ⟨hg.os.trans h.bel.os, hg.tape.trans h.bel.tape, hg.output.trans h.bel.output, Nat.le_trans h.bel.size hg.size, fun k hk => (hb k (by omega)).trans (h.bel.block k hk)⟩
  · refine owns_other (owns_same h.mrow fun g hgm => ?_) (by simp [metV, Value.ownBlock]) _
    simp [metV, Value.ownBlock] at hgm
    subst hgm
    exact hb _ (by omega)
  · have : OwnI w2 (w0.heap.size + 7) v' (path ++ [x]) := by show w2.ownsRow _ _ _ _ _ _; simpa using ho
    exact owns_other this (by simpa using hv (w0.heap.size + 3) (by omega)) _
  · exact owns_other hl2 (by simpa using hlv) _
  · exact (h.bg.same (hb _ (by omega))).other (by simp) _
  · exact (h.bm.same (hb _ (by omega))).other (by simp) _
  · exact (h.bp.same (hb _ (by omega))).set (j := 0) (by simp) v'
  · exact (h.bl.same (hb _ (by omega))).other (by simp) _
  · exact (h.bf.same (hb _ (by omega))).other (by simp) _
  · exact (h.bk.same (hb _ (by omega))).other (by simp) _
  · intro g hgv hgl
    rcases hat with e | e
    · exact h.pl g (by rw [← e]; exact hgv) hgl
    · rw [e] at hgv; cases hgv; have := (h.lrow.lt _ hgl).2; omega
  · simpa [World.setCell] using hg.size
  · intro k hk _ h3 _ h5 _
    exact (Below.heap_setCell _ _ _ _ h3).trans (hg.block k hk (fun e => h5 e.symm))
  · rcases hat with e | e
    · exact .inl e
    · exact .inr ⟨_, e, Nat.le_refl _⟩
/-- What is left has one more. -/
theorem WS.pushL {w0 w w2 : World} {n : Nat} {gcs : List Value} {pv lv v' : Value} {met : List Bool} {path left : List Int} (h : WS w0 n gcs w pv lv met path left) {x : Int} (ho : w2.ownsRow (w0.heap.size + 7) 3 1 v' (left.length + 1) (left.map intV ++ [intV x])) (hg : w.grownBy w2 lv.ownBlock) (hat : v'.ownBlock = lv.ownBlock ∨ v'.ownBlock = some w.heap.size) :
    WS w0 n gcs (w2.setCell ⟨w0.heap.size + 4, 0, none⟩ v') pv v' met path (left ++ [x]) ∧ WM w0.heap.size w pv lv (w2.setCell ⟨w0.heap.size + 4, 0, none⟩ v') pv v' ∧ w2.cell? ⟨w0.heap.size + 4, 0, none⟩ = some lv ∧ w2.frozen? ⟨w0.heap.size + 4, 0, none⟩ = false := by
  have hs := h.lts
  have hb : ∀ b, b < w0.heap.size + 7 → w2.heap[b]? = w.heap[b]? := fun b hb => hg.block b (by omega) (fun e => own_lt7 h.lrow hb e.symm)
  have hl2 : OwnI w2 (w0.heap.size + 7) pv path := owns_same h.prow fun g hgl => hg.block g (h.prow.lt g hgl).2 (fun e => h.pl g hgl e.symm)
  have hv : ∀ b, b < w0.heap.size + 7 → v'.ownBlock ≠ some b := fun b hb e => by have := (ho.lt b e).1; omega
  have hlv := own_lt7 h.prow (b := w0.heap.size + 4) (by omega)
  refine ⟨⟨?_, ?_, ?_, ?_, ?_, ?_, ?_, ?_, ?_, ?_, ?_⟩, ⟨?_, ?_, .inl rfl, ?_⟩, (h.bl.same (hb _ (by omega))).cell 0 _ rfl, (h.bl.same (hb _ (by omega))).fz 0⟩
  · refine below_set ?_ (by omega) _ _
    refine ⟨hg.os.trans h.bel.os, hg.tape.trans h.bel.tape, hg.output.trans h.bel.output, Nat.le_trans h.bel.size hg.size, fun k hk => (hb k (by omega)).trans (h.bel.block k hk)⟩
  · refine owns_other (owns_same h.mrow fun g hgm => ?_) (by simp [metV, Value.ownBlock]) _
    simp [metV, Value.ownBlock] at hgm
    subst hgm
    exact hb _ (by omega)
  · exact owns_other hl2 (by simpa using hlv) _
  · have : OwnI w2 (w0.heap.size + 7) v' (left ++ [x]) := by show w2.ownsRow _ _ _ _ _ _; simpa using ho
    exact owns_other this (by simpa using hv (w0.heap.size + 4) (by omega)) _
  · exact (h.bg.same (hb _ (by omega))).other (by simp) _
  · exact (h.bm.same (hb _ (by omega))).other (by simp) _
  · exact (h.bp.same (hb _ (by omega))).other (by simp) _
  · exact (h.bl.same (hb _ (by omega))).set (j := 0) (by simp) v'
  · exact (h.bf.same (hb _ (by omega))).other (by simp) _
  · exact (h.bk.same (hb _ (by omega))).other (by simp) _
  · intro g hgv hgl
    rcases hat with e | e
    · exact h.pl g hgv (by rw [← e]; exact hgl)
    · rw [e] at hgl; cases hgl; have := (h.prow.lt _ hgv).2; omega
  · simpa [World.setCell] using hg.size
  · intro k hk _ _ h3 _ h5
    exact (Below.heap_setCell _ _ _ _ h3).trans (hg.block k hk (fun e => h5 e.symm))
  · rcases hat with e | e
    · exact .inl e
    · exact .inr ⟨_, e, Nat.le_refl _⟩
/-- The path without its last. -/
theorem WS.popP {w0 w : World} {n : Nat} {gcs : List Value} {lv : Value} {met : List Bool} {path left : List Int} {g m c : Nat} {x : Int} (hm : m = path.length + 1) (h : WS w0 n gcs w (.slice (some ⟨g, 0, none⟩) m c) lv met (path ++ [x]) left) :
    WS w0 n gcs (w.setCell ⟨w0.heap.size + 3, 0, none⟩ (.slice (some ⟨g, 0, none⟩) path.length c)) (.slice (some ⟨g, 0, none⟩) path.length c) lv met path left ∧ WM w0.heap.size w (.slice (some ⟨g, 0, none⟩) m c) lv (w.setCell ⟨w0.heap.size + 3, 0, none⟩ (.slice (some ⟨g, 0, none⟩) path.length c)) (.slice (some ⟨g, 0, none⟩) path.length c) lv := by
  have hp := own_cut hm h.prow
  have h3 := own_lt7 h.lrow (b := w0.heap.size + 3) (by omega)
  have h4 := own_lt7 hp (b := w0.heap.size + 3) (by omega)
  exact ⟨⟨below_set h.bel (by omega) _ _, owns_other h.mrow (by simp [metV, Value.ownBlock]) _, owns_other hp (by simpa using h4) _, owns_other h.lrow (by simpa using h3) _, h.bg.other (by simp) _, h.bm.other (by simp) _, h.bp.set (j := 0) (by simp) _, h.bl.other (by simp) _, h.bf.other (by simp) _, h.bk.other (by simp) _, h.pl⟩,
    ⟨by simp [World.setCell], fun j _ _ h3 _ _ _ => Below.heap_setCell _ _ _ _ h3, .inl rfl, .inl rfl⟩⟩
end Go.Proofs.YtabpnjakfoofpaaGreatDoor
/- A block is met: marked, and put behind the path. -/
namespace Go.Proofs.YtabpnjakfoofpaaGreatDoor
open Go.RowKit

set_option maxRecDepth 100000 in
set_option maxHeartbeats 1000000 in
theorem meet_any {w0 w : World} {n : Nat} {gcs : List Value} {pv lv : Value} {met : List Bool} {path left : List Int} (h : WS w0 n gcs w pv lv met path left) (k : Nat) (hk : k < n) (hp : path.length ≤ 1000000) :
    Calls Tryz.prog 30 #[.int .i64 (k : Int), ptr (w0.heap.size + 2), ptr (w0.heap.size + 3)] w fun e w' => e = .returned (.tuple #[]) ∧ ∃ pv', WS w0 n gcs w' pv' lv (met.set k true) (path ++ [(k : Int)]) left ∧ WM w0.heap.size w pv lv w' pv' lv := by
  have c2 := h.bm.cell 0 _ rfl
  unfold metV at c2
  have f1 := h.metFz k
  have m1 := h.metAt hk
  have hM := h.mark hk
  have hMM : Hid (WM w0.heap.size w pv lv (w.setCell ⟨w0.heap.size + 1, k, none⟩ (.bool true)) pv lv) := WM.mark k _
  have hs := h.lts
  have hs' := hM.lts
  have c3 := h.bp.cell 0 _ rfl
  have f3 := h.bp.fz 0
  have HM : Hid (WS w0 n gcs (w.setCell ⟨w0.heap.size + 1, k, none⟩ (.bool true)) pv lv (met.set k true) path left) := hM
  have hkn : (k : Int) < n := by omega
  obtain ⟨i0, hi, hz0, hz1, hz2⟩ := info_parts infoI
  have HP : Hid (path.length ≤ 1000000) := hp
  clear h hM hp
  go_enter Tryz.func30, Tryz.ntmps30
  go_wp2_with (at_builtin; go_loud (refine wpList_append_own_at _ rfl _ _ 22 rfl (w0.heap.size + 7) 3 i0 (.int .i64 0) 1 8 Tryz.underlying22 hi hz0 hz1 hz2 rfl (by decide) _ _ _ rfl (HM.out.prow.alloc _) ⟨w.heap.size, 0, none⟩ 1 1 [intV k] rfl rfl ?c1 ?c2 ?c3 ?c4 ?c5 ?_))
  case c1 => have := cell_one_new (w.setCell ⟨w0.heap.size + 1, k, none⟩ (.bool true)) (intV k) 3; simpa [World.setCell] using this
  case c2 => intro u hu; simp at hu; subst hu; rfl
  case c3 => have := HP.out; unfold maxLen; omega
  case c4 => have := HP.out; omega
  case c5 => simp; omega
  intro v2 w2 ho hg _ hat
  obtain ⟨g2, cc, rfl, _, _, _, _⟩ := own_form ho
  obtain ⟨hS, hV, q3, g3⟩ := (HM.out.below (below_alloc (Below.refl _ _) (.cells #[intV k] 3))).pushP ho hg (by simpa [World.setCell] using hat)
  have HS : Hid _ := hS
  have HV : Hid _ := (hMM.out.trans (WM.below (below_alloc (Below.refl _ _) (.cells #[intV k] 3)))).trans hV
  clear hS hV ho hg hat
  go_wp2
  go_end0
  exact ⟨rfl, _, HS.out, HV.out⟩
end Go.Proofs.YtabpnjakfoofpaaGreatDoor
