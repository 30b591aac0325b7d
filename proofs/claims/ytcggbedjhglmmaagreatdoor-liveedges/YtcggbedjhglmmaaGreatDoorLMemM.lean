/- Small facts of rows and folds. -/
import Derived.Test.YtcggbedjhglmmaaGreatDoorGBoxM
import Derived.Test.YtcggbedjhglmmaaGreatDoorLPlainM
import Derived.Test.YtcggbedjhglmmaaGreatDoorLFlow
import Derived.Laws.Bits64b
import Derived.Laws.BitsAllLaws
namespace Go.Proofs.YtcggbedjhglmmaaGreatDoor
open Go.RowKit

theorem below_set {w0 w : World} {b : Nat} (h : Below w0.heap.size w0 w) (hb : w0.heap.size ≤ b) (j : Nat) (u : Value) : Below w0.heap.size w0 (w.setCell ⟨b, j, none⟩ u) := h.setCell (p := ⟨b, j, none⟩) hb u
theorem tms_getD {bs : List Bl} {k : Nat} (h : k < bs.length) : (tms bs).getD k default = (bs.getD k default).tm := by
  simp [tms, List.getD, List.getElem?_eq_getElem h]
theorem own_last {w : World} {base g c : Nat} {l : List Int} {x : Int} {n : Nat} (hn : n = l.length + 1) (h : OwnI w base (.slice (some ⟨g, 0, none⟩) n c) (l ++ [x])) : w.cell? ⟨g, l.length, none⟩ = some (.int .i64 x) := by
  subst hn
  rw [(own_snoc h).cellAt l.length (by omega)]
  simp
theorem drop_fold {α : Type} {L : List Int} {i : Nat} (h : i < L.length) (s : α) (F : α → Int → α) : (L.drop i).foldl F s = (L.drop (i + 1)).foldl F (F s (L.getD i 0)) := by
  rw [List.drop_eq_getElem_cons h, List.foldl_cons]
  congr 2
  simp [List.getD, List.getElem?_eq_getElem h]
end Go.Proofs.YtcggbedjhglmmaaGreatDoor
/- The flow in memory. -/
namespace Go.Proofs.YtcggbedjhglmmaaGreatDoor
open Go.RowKit

abbrev wd (x : Nat) : Value := .int .u64 (x : Int)
abbrev nmV (x : Nat) : Value := .int .i64 (x : Int)
structure FEnv where
  w0 : World
  n : Nat
  F : Nat
  sg : Nat
  ig : Nat
  og : Nat
  ng : Nat
  av : Value
def rowN (g n : Nat) : Value := .slice (some ⟨g, 0, none⟩) n n
def flCells (E : FEnv) (wv mv : Value) : List Value := [E.av, rowN E.sg E.n, rowN E.ig E.n, rowN E.og E.n, rowN E.ng E.n, wv, mv]
structure Fw (E : FEnv) (w : World) (wv mv : Value) (ss : List Slot) (f : Fl) : Prop where
  low : Below E.w0.heap.size E.w0 w
  heap : Heap w E.w0.heap.size ss
  s0 : ss[0]? = some ⟨.slice (some ⟨E.F, 0, none⟩) 1 1, 77, 7, 1, flCells E wv mv⟩
  s1 : ss[1]? = some ⟨rowN E.sg E.n, 52, 1, E.n, f.sets.map wd⟩
  s2 : ss[2]? = some ⟨rowN E.ig E.n, 52, 1, E.n, f.into.map wd⟩
  s3 : ss[3]? = some ⟨rowN E.og E.n, 52, 1, E.n, f.out.map wd⟩
  s4 : ss[4]? = some ⟨rowN E.ng E.n, 52, 1, E.n, f.news.map wd⟩
  s5 : ss[5]? = some ⟨wv, 3, 1, f.wt.length, f.wt.map nmV⟩
  s6 : ss[6]? = some ⟨mv, 3, 1, f.met.length, f.met.map nmV⟩
/-- the other rows stay -/
structure Kp (ss ss' : List Slot) : Prop where
  len : ss'.length = ss.length
  at' : ∀ j, 7 ≤ j → ss'[j]? = ss[j]?
theorem Kp.refl (ss : List Slot) : Kp ss ss := ⟨rfl, fun _ _ => rfl⟩
theorem Kp.trans {a b c : List Slot} (h : Kp a b) (g : Kp b c) : Kp a c := ⟨g.len.trans h.len, fun j hj => (g.at' j hj).trans (h.at' j hj)⟩
theorem Kp.set (ss : List Slot) {i : Nat} (hi : i < 7) (s : Slot) : Kp ss (ss.set i s) := ⟨by simp, fun j hj => by rw [List.getElem?_set, if_neg (by omega)]⟩
theorem Fw.below {E : FEnv} {w w' : World} {wv mv : Value} {ss : List Slot} {f : Fl} (h : Fw E w wv mv ss f) (hb : Below w.heap.size w w') : Fw E w' wv mv ss f :=
  ⟨below_trans h.low hb, h.heap.below hb, h.s0, h.s1, h.s2, h.s3, h.s4, h.s5, h.s6⟩
theorem Fw.same {E : FEnv} {w w' : World} {wv mv : Value} {ss : List Slot} {f : Fl} (h : Fw E w wv mv ss f) (hw : w'.heap = w.heap) (hb : Below E.w0.heap.size E.w0 w') : Fw E w' wv mv ss f :=
  ⟨hb, h.heap.same hw, h.s0, h.s1, h.s2, h.s3, h.s4, h.s5, h.s6⟩
theorem Fw.drewN {E : FEnv} {w : World} {wv mv : Value} {ss : List Slot} {f : Fl} (h : Fw E w wv mv ss f) (k : Nat) : Fw E (w.drewN k) wv mv ss f := h.same rfl (below_drewN h.low k)
theorem Fw.drew {E : FEnv} {w : World} {wv mv : Value} {ss : List Slot} {f : Fl} (h : Fw E w wv mv ss f) : Fw E w.drew wv mv ss f := h.same rfl (below_drew h.low)
theorem Fw.alloc {E : FEnv} {w : World} {wv mv : Value} {ss : List Slot} {f : Fl} (h : Fw E w wv mv ss f) (o : Obj) : Fw E (w.alloc o) wv mv ss f := h.below (below_alloc (Below.refl _ _) o)
/-- the flow's own cells -/
theorem Fw.box {E : FEnv} {w : World} {wv mv : Value} {ss : List Slot} {f : Fl} (h : Fw E w wv mv ss f) :
    w.cell? ⟨E.F, 0, none⟩ = some E.av ∧ w.cell? ⟨E.F, 1, none⟩ = some (rowN E.sg E.n) ∧ w.cell? ⟨E.F, 2, none⟩ = some (rowN E.ig E.n) ∧ w.cell? ⟨E.F, 3, none⟩ = some (rowN E.og E.n) ∧ w.cell? ⟨E.F, 4, none⟩ = some (rowN E.ng E.n) ∧ w.cell? ⟨E.F, 5, none⟩ = some wv ∧ w.cell? ⟨E.F, 6, none⟩ = some mv ∧ (∀ j, w.frozen? ⟨E.F, j, none⟩ = false) ∧ E.F < w.heap.size :=
  ⟨h.heap.cell h.s0 (j := 0) rfl, h.heap.cell h.s0 (j := 1) rfl, h.heap.cell h.s0 (j := 2) rfl, h.heap.cell h.s0 (j := 3) rfl, h.heap.cell h.s0 (j := 4) rfl, h.heap.cell h.s0 (j := 5) rfl, h.heap.cell h.s0 (j := 6) rfl, fun j => h.heap.fz h.s0 j, (h.heap.lt h.s0).2⟩
theorem mapwd_at {l : List Nat} {i : Nat} (hi : i < l.length) : (l.map wd)[i]? = some (wd (wAt l i)) := by
  rw [List.getElem?_map, List.getElem?_eq_getElem hi]
  simp [List.getElem?_eq_getElem hi]
theorem Fw.lens {E : FEnv} {w : World} {wv mv : Value} {ss : List Slot} {f : Fl} (h : Fw E w wv mv ss f) : f.sets.length = E.n ∧ f.into.length = E.n ∧ f.out.length = E.n ∧ f.news.length = E.n := by
  have h1 := (h.heap.own 1 _ h.s1).1
  have h2 := (h.heap.own 2 _ h.s2).1
  have h3 := (h.heap.own 3 _ h.s3).1
  have h4 := (h.heap.own 4 _ h.s4).1
  simp only [List.length_map, Nat.mul_one] at h1 h2 h3 h4
  exact ⟨h1, h2, h3, h4⟩
theorem Fw.words {E : FEnv} {w : World} {wv mv : Value} {ss : List Slot} {f : Fl} (h : Fw E w wv mv ss f) {i : Nat} (hi : i < E.n) :
    w.cell? ⟨E.sg, i, none⟩ = some (wd (wAt f.sets i)) ∧ w.cell? ⟨E.ig, i, none⟩ = some (wd (wAt f.into i)) ∧ w.cell? ⟨E.og, i, none⟩ = some (wd (wAt f.out i)) ∧ w.cell? ⟨E.ng, i, none⟩ = some (wd (wAt f.news i)) ∧
    w.frozen? ⟨E.sg, i, none⟩ = false ∧ w.frozen? ⟨E.ig, i, none⟩ = false ∧ w.frozen? ⟨E.og, i, none⟩ = false ∧ w.frozen? ⟨E.ng, i, none⟩ = false := by
  obtain ⟨l1, l2, l3, l4⟩ := h.lens
  exact ⟨h.heap.cell h.s1 (mapwd_at (by omega)), h.heap.cell h.s2 (mapwd_at (by omega)), h.heap.cell h.s3 (mapwd_at (by omega)), h.heap.cell h.s4 (mapwd_at (by omega)), h.heap.fz h.s1 i, h.heap.fz h.s2 i, h.heap.fz h.s3 i, h.heap.fz h.s4 i⟩
theorem set_ne {ss : List Slot} {i j : Nat} {s : Slot} (h : i ≠ j) : (ss.set i s)[j]? = ss[j]? := by rw [List.getElem?_set, if_neg h]
theorem set_eq {ss : List Slot} {i : Nat} {s t : Slot} (h : ss[i]? = some t) : (ss.set i s)[i]? = some s := by
  rw [List.getElem?_set, if_pos rfl, if_pos (List.getElem?_eq_some_iff.1 h).1]
theorem Fw.setSets {E : FEnv} {w : World} {wv mv : Value} {ss : List Slot} {f : Fl} (h : Fw E w wv mv ss f) (i x : Nat) :
    ∃ ss', Fw E (w.setCell ⟨E.sg, i, none⟩ (wd x)) wv mv ss' { f with sets := f.sets.set i x } ∧ Kp ss ss' := by
  have hh := h.heap.store h.s1 i (wd x)
  have hb := (h.heap.lt h.s1).1
  rw [← List.map_set] at hh
  exact ⟨_, ⟨h.low.setCell (p := ⟨E.sg, i, none⟩) hb _, hh, by rw [set_ne (by omega)]; exact h.s0, set_eq h.s1, by rw [set_ne (by omega)]; exact h.s2, by rw [set_ne (by omega)]; exact h.s3, by rw [set_ne (by omega)]; exact h.s4, by rw [set_ne (by omega)]; exact h.s5, by rw [set_ne (by omega)]; exact h.s6⟩, Kp.set _ (by omega) _⟩
theorem Fw.setInto {E : FEnv} {w : World} {wv mv : Value} {ss : List Slot} {f : Fl} (h : Fw E w wv mv ss f) (i x : Nat) :
    ∃ ss', Fw E (w.setCell ⟨E.ig, i, none⟩ (wd x)) wv mv ss' { f with into := f.into.set i x } ∧ Kp ss ss' := by
  have hh := h.heap.store h.s2 i (wd x)
  have hb := (h.heap.lt h.s2).1
  rw [← List.map_set] at hh
  exact ⟨_, ⟨h.low.setCell (p := ⟨E.ig, i, none⟩) hb _, hh, by rw [set_ne (by omega)]; exact h.s0, by rw [set_ne (by omega)]; exact h.s1, set_eq h.s2, by rw [set_ne (by omega)]; exact h.s3, by rw [set_ne (by omega)]; exact h.s4, by rw [set_ne (by omega)]; exact h.s5, by rw [set_ne (by omega)]; exact h.s6⟩, Kp.set _ (by omega) _⟩
theorem Fw.setOut {E : FEnv} {w : World} {wv mv : Value} {ss : List Slot} {f : Fl} (h : Fw E w wv mv ss f) (i x : Nat) :
    ∃ ss', Fw E (w.setCell ⟨E.og, i, none⟩ (wd x)) wv mv ss' { f with out := f.out.set i x } ∧ Kp ss ss' := by
  have hh := h.heap.store h.s3 i (wd x)
  have hb := (h.heap.lt h.s3).1
  rw [← List.map_set] at hh
  exact ⟨_, ⟨h.low.setCell (p := ⟨E.og, i, none⟩) hb _, hh, by rw [set_ne (by omega)]; exact h.s0, by rw [set_ne (by omega)]; exact h.s1, by rw [set_ne (by omega)]; exact h.s2, set_eq h.s3, by rw [set_ne (by omega)]; exact h.s4, by rw [set_ne (by omega)]; exact h.s5, by rw [set_ne (by omega)]; exact h.s6⟩, Kp.set _ (by omega) _⟩
theorem Fw.setNews {E : FEnv} {w : World} {wv mv : Value} {ss : List Slot} {f : Fl} (h : Fw E w wv mv ss f) (i x : Nat) :
    ∃ ss', Fw E (w.setCell ⟨E.ng, i, none⟩ (wd x)) wv mv ss' { f with news := f.news.set i x } ∧ Kp ss ss' := by
  have hh := h.heap.store h.s4 i (wd x)
  have hb := (h.heap.lt h.s4).1
  rw [← List.map_set] at hh
  exact ⟨_, ⟨h.low.setCell (p := ⟨E.ng, i, none⟩) hb _, hh, by rw [set_ne (by omega)]; exact h.s0, by rw [set_ne (by omega)]; exact h.s1, by rw [set_ne (by omega)]; exact h.s2, by rw [set_ne (by omega)]; exact h.s3, set_eq h.s4, by rw [set_ne (by omega)]; exact h.s5, by rw [set_ne (by omega)]; exact h.s6⟩, Kp.set _ (by omega) _⟩
theorem below_grownB {w w' : World} {B : Nat} {r : Option Nat} {w0 : World} (h : Below B w0 w) (hg : w.grownBy w' r) (hr : ∀ g, r = some g → B ≤ g) (hB : B ≤ w.heap.size) : Below B w0 w' :=
  ⟨hg.os.trans h.os, hg.tape.trans h.tape, hg.output.trans h.output, Nat.le_trans h.size hg.size, fun k hk => (hg.block k (Nat.lt_of_lt_of_le hk hB) (fun e => by have := hr k e.symm; omega)).trans (h.block k hk)⟩
/-- one more in met -/
theorem Fw.pushMet {E : FEnv} {w w2 : World} {wv mv mv' : Value} {ss : List Slot} {f : Fl} (h : Fw E w wv mv ss f) {i : Nat} (ho : w2.ownsRow E.w0.heap.size 3 1 mv' (f.met.length + 1) (f.met.map nmV ++ [nmV i])) (hg : w.grownBy w2 mv.ownBlock) (hat : mv'.ownBlock = mv.ownBlock ∨ mv'.ownBlock = some w.heap.size) :
    ∃ ss', Fw E (w2.setCell ⟨E.F, 6, none⟩ mv') wv mv' ss' { f with met := f.met ++ [i] } ∧ Kp ss ss' ∧ w2.cell? ⟨E.F, 6, none⟩ = some mv ∧ w2.frozen? ⟨E.F, 6, none⟩ = false := by
  have h1 : Heap w2 E.w0.heap.size (ss.set 6 ⟨mv', 3, 1, (f.met ++ [i]).length, (f.met ++ [i]).map nmV⟩) := h.heap.grow h.s6 (by show World.ownsRow _ _ _ _ _ _ _; simpa using ho) hg hat
  have k0 : (ss.set 6 ⟨mv', 3, 1, (f.met ++ [i]).length, (f.met ++ [i]).map nmV⟩)[0]? = some ⟨.slice (some ⟨E.F, 0, none⟩) 1 1, 77, 7, 1, flCells E wv mv⟩ := by rw [set_ne (by omega)]; exact h.s0
  have h2 := h1.store k0 6 mv'
  have hb := (h.heap.lt h.s0).1
  have hlow : Below E.w0.heap.size E.w0 w2 := below_grownB h.low hg (fun g hg' => ((h.heap.own 6 _ h.s6).lt g hg').1) h.low.size
  have e : (flCells E wv mv).set 6 mv' = flCells E wv mv' := rfl
  rw [e] at h2
  refine ⟨_, ⟨hlow.setCell (p := ⟨E.F, 6, none⟩) hb _, h2, set_eq k0, ?_, ?_, ?_, ?_, ?_, ?_⟩, (Kp.set ss (by omega) _).trans (Kp.set _ (by omega) _), h1.cell k0 (j := 6) rfl, h1.fz k0 6⟩
  · rw [set_ne (by omega), set_ne (by omega)]; exact h.s1
  · rw [set_ne (by omega), set_ne (by omega)]; exact h.s2
  · rw [set_ne (by omega), set_ne (by omega)]; exact h.s3
  · rw [set_ne (by omega), set_ne (by omega)]; exact h.s4
  · rw [set_ne (by omega), set_ne (by omega)]; exact h.s5
  · rw [set_ne (by omega)]; exact set_eq h.s6
/-- one more that waits -/
theorem Fw.pushWt {E : FEnv} {w w2 : World} {wv mv wv' : Value} {ss : List Slot} {f : Fl} (h : Fw E w wv mv ss f) {i : Nat} (ho : w2.ownsRow E.w0.heap.size 3 1 wv' (f.wt.length + 1) (f.wt.map nmV ++ [nmV i])) (hg : w.grownBy w2 wv.ownBlock) (hat : wv'.ownBlock = wv.ownBlock ∨ wv'.ownBlock = some w.heap.size) :
    ∃ ss', Fw E (w2.setCell ⟨E.F, 5, none⟩ wv') wv' mv ss' { f with wt := f.wt ++ [i] } ∧ Kp ss ss' ∧ w2.cell? ⟨E.F, 5, none⟩ = some wv ∧ w2.frozen? ⟨E.F, 5, none⟩ = false := by
  have h1 : Heap w2 E.w0.heap.size (ss.set 5 ⟨wv', 3, 1, (f.wt ++ [i]).length, (f.wt ++ [i]).map nmV⟩) := h.heap.grow h.s5 (by show World.ownsRow _ _ _ _ _ _ _; simpa using ho) hg hat
  have k0 : (ss.set 5 ⟨wv', 3, 1, (f.wt ++ [i]).length, (f.wt ++ [i]).map nmV⟩)[0]? = some ⟨.slice (some ⟨E.F, 0, none⟩) 1 1, 77, 7, 1, flCells E wv mv⟩ := by rw [set_ne (by omega)]; exact h.s0
  have h2 := h1.store k0 5 wv'
  have hb := (h.heap.lt h.s0).1
  have hlow : Below E.w0.heap.size E.w0 w2 := below_grownB h.low hg (fun g hg' => ((h.heap.own 5 _ h.s5).lt g hg').1) h.low.size
  have e : (flCells E wv mv).set 5 wv' = flCells E wv' mv := rfl
  rw [e] at h2
  refine ⟨_, ⟨hlow.setCell (p := ⟨E.F, 5, none⟩) hb _, h2, set_eq k0, ?_, ?_, ?_, ?_, ?_, ?_⟩, (Kp.set ss (by omega) _).trans (Kp.set _ (by omega) _), h1.cell k0 (j := 5) rfl, h1.fz k0 5⟩
  · rw [set_ne (by omega), set_ne (by omega)]; exact h.s1
  · rw [set_ne (by omega), set_ne (by omega)]; exact h.s2
  · rw [set_ne (by omega), set_ne (by omega)]; exact h.s3
  · rw [set_ne (by omega), set_ne (by omega)]; exact h.s4
  · rw [set_ne (by omega)]; exact set_eq h.s5
  · rw [set_ne (by omega), set_ne (by omega)]; exact h.s6
/-- rows cut short -/
theorem Fw.cutWt {E : FEnv} {w : World} {mv : Value} {ss : List Slot} {f : Fl} {g c m : Nat} (h : Fw E w (.slice (some ⟨g, 0, none⟩) f.wt.length c) mv ss f) (hm : m ≤ f.wt.length) :
    ∃ ss', Fw E (w.setCell ⟨E.F, 5, none⟩ (.slice (some ⟨g, 0, none⟩) m c)) (.slice (some ⟨g, 0, none⟩) m c) mv ss' { f with wt := f.wt.take m } ∧ Kp ss ss' := by
  have h1 := h.heap.cut h.s5 hm
  have e1 : (f.wt.map nmV).take (m * 1) = (f.wt.take m).map nmV := by rw [Nat.mul_one, List.map_take]
  have e2 : (f.wt.take m).length = m := by rw [List.length_take]; omega
  rw [e1] at h1
  generalize hs : (⟨.slice (some ⟨g, 0, none⟩) m c, 3, 1, m, (f.wt.take m).map nmV⟩ : Slot) = sl at h1
  have k0 : (ss.set 5 sl)[0]? = some ⟨.slice (some ⟨E.F, 0, none⟩) 1 1, 77, 7, 1, flCells E (.slice (some ⟨g, 0, none⟩) f.wt.length c) mv⟩ := by rw [set_ne (by omega)]; exact h.s0
  have h2 := h1.store k0 5 (.slice (some ⟨g, 0, none⟩) m c)
  have hb := (h.heap.lt h.s0).1
  have e : (flCells E (.slice (some ⟨g, 0, none⟩) f.wt.length c) mv).set 5 (.slice (some ⟨g, 0, none⟩) m c) = flCells E (.slice (some ⟨g, 0, none⟩) m c) mv := rfl
  rw [e] at h2
  refine ⟨_, ⟨h.low.setCell (p := ⟨E.F, 5, none⟩) hb _, h2, set_eq k0, ?_, ?_, ?_, ?_, ?_, ?_⟩, (Kp.set ss (by omega) _).trans (Kp.set _ (by omega) _)⟩
  · rw [set_ne (by omega), set_ne (by omega)]; exact h.s1
  · rw [set_ne (by omega), set_ne (by omega)]; exact h.s2
  · rw [set_ne (by omega), set_ne (by omega)]; exact h.s3
  · rw [set_ne (by omega), set_ne (by omega)]; exact h.s4
  · rw [set_ne (by omega), set_eq h.s5, ← hs]; dsimp only; rw [e2]
  · rw [set_ne (by omega), set_ne (by omega)]; exact h.s6
theorem Fw.noMet {E : FEnv} {w : World} {wv mv mv' : Value} {ss : List Slot} {f : Fl} (h : Fw E w wv mv ss f) (hv : (mv = .slice none 0 0 ∧ mv' = .slice none 0 0) ∨ ∃ g c, mv = .slice (some ⟨g, 0, none⟩) f.met.length c ∧ mv' = .slice (some ⟨g, 0, none⟩) 0 c) :
    ∃ ss', Fw E (w.setCell ⟨E.F, 6, none⟩ mv') wv mv' ss' { f with met := [] } ∧ Kp ss ss' := by
  have h1 : Heap w E.w0.heap.size (ss.set 6 ⟨mv', 3, 1, 0, []⟩) := by
    rcases hv with ⟨e1, e2⟩ | ⟨g, c, e1, e2⟩
    · subst e2
      exact h.heap.turn h.s6 (fun _ _ _ => rfl) (World.ownsRow_nil _ _ _ _) (fun g hg => by simp [Value.ownBlock] at hg)
    · subst e2
      have hs := h.s6
      rw [e1] at hs
      have := h.heap.cut hs (m := 0) (by omega)
      simpa using this
  generalize hs : (⟨mv', 3, 1, 0, []⟩ : Slot) = sl at h1
  have k0 : (ss.set 6 sl)[0]? = some ⟨.slice (some ⟨E.F, 0, none⟩) 1 1, 77, 7, 1, flCells E wv mv⟩ := by rw [set_ne (by omega)]; exact h.s0
  have h2 := h1.store k0 6 mv'
  have hb := (h.heap.lt h.s0).1
  have e : (flCells E wv mv).set 6 mv' = flCells E wv mv' := rfl
  rw [e] at h2
  refine ⟨_, ⟨h.low.setCell (p := ⟨E.F, 6, none⟩) hb _, h2, set_eq k0, ?_, ?_, ?_, ?_, ?_, ?_⟩, (Kp.set ss (by omega) _).trans (Kp.set _ (by omega) _)⟩
  · rw [set_ne (by omega), set_ne (by omega)]; exact h.s1
  · rw [set_ne (by omega), set_ne (by omega)]; exact h.s2
  · rw [set_ne (by omega), set_ne (by omega)]; exact h.s3
  · rw [set_ne (by omega), set_ne (by omega)]; exact h.s4
  · rw [set_ne (by omega), set_ne (by omega)]; exact h.s5
  · rw [set_ne (by omega), set_eq h.s6, ← hs]; rfl
/- words' operations -/
theorem wd_zero {x : Nat} : ((x : Int) == 0) = decide (x = 0) := by
  by_cases h : x = 0
  · subst h; rfl
  · rw [decide_eq_false h]; exact beq_false_of_ne (by omega)
theorem or_wd {x y : Nat} (hx : x < 2 ^ 64) (hy : y < 2 ^ 64) : bits .or .u64 (x : Int) (y : Int) = ((x ||| y : Nat) : Int) := bits_or_u64_nat x y (by omega) (by omega)
theorem and_wd {x y : Nat} (hx : x < 2 ^ 64) (hy : y < 2 ^ 64) : bits .and .u64 (x : Int) (y : Int) = ((x &&& y : Nat) : Int) := bits_and_u64_nat x y (by omega) (by omega)
theorem andN_wd {x y : Nat} (hx : x < 2 ^ 64) (hy : y < 2 ^ 64) : bits .andNot .u64 (x : Int) (y : Int) = ((andN x y : Nat) : Int) := u64_andNot_nat x y (by omega) (by omega)
end Go.Proofs.YtcggbedjhglmmaaGreatDoor
