/- A forest in memory, among other rows. -/
import Derived.Test.YtbbfnladoaimpaaDAh
namespace Go.Proofs.Ytbbfnladoaimpaa
open Go.RowKit Lt

theorem set_same {α : Type} {l : List α} {i : Nat} {x : α} (h : l[i]? = some x) : l.set i x = l := by
  apply List.ext_getElem?
  intro j
  rw [List.getElem?_set]
  split
  · rename_i e
    subst e
    rw [if_pos (List.getElem?_eq_some_iff.1 h).1, h]
  · rfl
abbrev slV (g m : Nat) : Value := .slice (some ⟨g, 0, none⟩) m m
abbrev rowM (g m : Nat) (l : List Int) : Slot := ⟨slV g m, 3, 1, m, l.map intV⟩
/-- Slots 0 to 4: the forest, over, best, high, path. -/
def fsS (ss : List Slot) (B ovg beg hig m : Nat) (ov be : List Int) (pv : Value) (p : List Int) : List Slot :=
  (((ss.set 0 (boxS B [slV ovg m, slV beg m, slV hig m, pv])).set 1 (rowM ovg m ov)).set 2 (rowM beg m be)).set 4 (rowS pv p)
structure FAt (w : World) (base : Nat) (ss : List Slot) (B ovg beg hig m : Nat) (ov be hi : List Int) (pv : Value) (p : List Int) : Prop where
  len : 5 ≤ ss.length
  hp : Heap w base (fsS ss B ovg beg hig m ov be pv p)
  h3 : ss[3]? = some (rowM hig m hi)
  hb : base ≤ w.heap.size
theorem fsS_0 {ss : List Slot} {B ovg beg hig m : Nat} {ov be : List Int} {pv : Value} {p : List Int} (h : 5 ≤ ss.length) : (fsS ss B ovg beg hig m ov be pv p)[0]? = some (boxS B [slV ovg m, slV beg m, slV hig m, pv]) := by
  unfold fsS
  rw [List.getElem?_set, if_neg (by omega), List.getElem?_set, if_neg (by omega), List.getElem?_set, if_neg (by omega), List.getElem?_set, if_pos rfl, if_pos (by omega)]
theorem fsS_1 {ss : List Slot} {B ovg beg hig m : Nat} {ov be : List Int} {pv : Value} {p : List Int} (h : 5 ≤ ss.length) : (fsS ss B ovg beg hig m ov be pv p)[1]? = some (rowM ovg m ov) := by
  unfold fsS
  rw [List.getElem?_set, if_neg (by omega), List.getElem?_set, if_neg (by omega), List.getElem?_set, if_pos rfl, if_pos (by simp; omega)]
theorem fsS_2 {ss : List Slot} {B ovg beg hig m : Nat} {ov be : List Int} {pv : Value} {p : List Int} (h : 5 ≤ ss.length) : (fsS ss B ovg beg hig m ov be pv p)[2]? = some (rowM beg m be) := by
  unfold fsS
  rw [List.getElem?_set, if_neg (by omega), List.getElem?_set, if_pos rfl, if_pos (by simp; omega)]
theorem fsS_4 {ss : List Slot} {B ovg beg hig m : Nat} {ov be : List Int} {pv : Value} {p : List Int} (h : 5 ≤ ss.length) : (fsS ss B ovg beg hig m ov be pv p)[4]? = some (rowS pv p) := by
  unfold fsS
  rw [List.getElem?_set, if_pos rfl, if_pos (by simp; omega)]
theorem fsS_o {ss : List Slot} {B ovg beg hig m : Nat} {ov be : List Int} {pv : Value} {p : List Int} {i : Nat} (h0 : i ≠ 0) (h1 : i ≠ 1) (h2 : i ≠ 2) (h4 : i ≠ 4) : (fsS ss B ovg beg hig m ov be pv p)[i]? = ss[i]? := by
  unfold fsS
  rw [List.getElem?_set, if_neg (by omega), List.getElem?_set, if_neg (by omega), List.getElem?_set, if_neg (by omega), List.getElem?_set, if_neg (by omega)]
theorem fsS_len {ss : List Slot} {B ovg beg hig m : Nat} {ov be : List Int} {pv : Value} {p : List Int} : (fsS ss B ovg beg hig m ov be pv p).length = ss.length := by simp [fsS]
theorem fsS_set1 {ss : List Slot} {B ovg beg hig m : Nat} {ov ov' be : List Int} {pv : Value} {p : List Int} : (fsS ss B ovg beg hig m ov be pv p).set 1 (rowM ovg m ov') = fsS ss B ovg beg hig m ov' be pv p := by
  unfold fsS
  rw [List.set_comm _ _ (by decide : (4 : Nat) ≠ 1), List.set_comm _ _ (by decide : (2 : Nat) ≠ 1), List.set_set]
theorem fsS_set2 {ss : List Slot} {B ovg beg hig m : Nat} {ov be be' : List Int} {pv : Value} {p : List Int} : (fsS ss B ovg beg hig m ov be pv p).set 2 (rowM beg m be') = fsS ss B ovg beg hig m ov be' pv p := by
  unfold fsS
  rw [List.set_comm _ _ (by decide : (4 : Nat) ≠ 2), List.set_set]
theorem fsS_set4 {ss : List Slot} {B ovg beg hig m : Nat} {ov be : List Int} {pv pv' : Value} {p p' : List Int} : ((fsS ss B ovg beg hig m ov be pv p).set 4 (rowS pv' p')).set 0 (boxS B [slV ovg m, slV beg m, slV hig m, pv']) = fsS ss B ovg beg hig m ov be pv' p' := by
  unfold fsS
  rw [List.set_set, List.set_comm _ _ (by decide : (4 : Nat) ≠ 0), List.set_comm _ _ (by decide : (2 : Nat) ≠ 0), List.set_comm _ _ (by decide : (1 : Nat) ≠ 0), List.set_set]
theorem fsS_id {ss : List Slot} {B ovg beg hig m : Nat} {ov be : List Int} {pv : Value} {p : List Int} (h0 : ss[0]? = some (boxS B [slV ovg m, slV beg m, slV hig m, pv])) (h1 : ss[1]? = some (rowM ovg m ov)) (h2 : ss[2]? = some (rowM beg m be)) (h4 : ss[4]? = some (rowS pv p)) : fsS ss B ovg beg hig m ov be pv p = ss := by
  unfold fsS
  rw [set_same h0, set_same h1, set_same h2, set_same h4]
/-- What one reads. -/
theorem FAt.box {w : World} {base : Nat} {ss : List Slot} {B ovg beg hig m : Nat} {ov be hi : List Int} {pv : Value} {p : List Int} (h : FAt w base ss B ovg beg hig m ov be hi pv p) : w.cell? ⟨B, 0, none⟩ = some (slV ovg m) ∧ w.cell? ⟨B, 1, none⟩ = some (slV beg m) ∧ w.cell? ⟨B, 2, none⟩ = some (slV hig m) ∧ w.cell? ⟨B, 3, none⟩ = some pv ∧ w.frozen? ⟨B, 3, none⟩ = false :=
  ⟨h.hp.cell (fsS_0 h.len) rfl, h.hp.cell (fsS_0 h.len) rfl, h.hp.cell (fsS_0 h.len) rfl, h.hp.cell (fsS_0 h.len) rfl, h.hp.fz (fsS_0 h.len) 3⟩
theorem map_get {l : List Int} {i : Nat} {x : Int} (h : l[i]? = some x) : (l.map intV)[i]? = some (.int .i64 x) := by rw [List.getElem?_map, h]; rfl
theorem FAt.o {w : World} {base : Nat} {ss : List Slot} {B ovg beg hig m : Nat} {ov be hi : List Int} {pv : Value} {p : List Int} (h : FAt w base ss B ovg beg hig m ov be hi pv p) {i : Nat} {x : Int} (hx : ov[i]? = some x) : w.cell? ⟨ovg, i, none⟩ = some (.int .i64 x) := h.hp.cell (fsS_1 h.len) (map_get hx)
theorem FAt.b {w : World} {base : Nat} {ss : List Slot} {B ovg beg hig m : Nat} {ov be hi : List Int} {pv : Value} {p : List Int} (h : FAt w base ss B ovg beg hig m ov be hi pv p) {i : Nat} {x : Int} (hx : be[i]? = some x) : w.cell? ⟨beg, i, none⟩ = some (.int .i64 x) := h.hp.cell (fsS_2 h.len) (map_get hx)
theorem FAt.h {w : World} {base : Nat} {ss : List Slot} {B ovg beg hig m : Nat} {ov be hi : List Int} {pv : Value} {p : List Int} (h : FAt w base ss B ovg beg hig m ov be hi pv p) {i : Nat} {x : Int} (hx : hi[i]? = some x) : w.cell? ⟨hig, i, none⟩ = some (.int .i64 x) := h.hp.cell ((fsS_o (by decide) (by decide) (by decide) (by decide)).trans h.h3) (map_get hx)
theorem FAt.path {w : World} {base : Nat} {ss : List Slot} {B ovg beg hig m : Nat} {ov be hi : List Int} {pv : Value} {p : List Int} (h : FAt w base ss B ovg beg hig m ov be hi pv p) : w.ownsRow base 3 1 pv p.length (p.map intV) := h.hp.own 4 _ (fsS_4 h.len)
theorem FAt.fzo {w : World} {base : Nat} {ss : List Slot} {B ovg beg hig m : Nat} {ov be hi : List Int} {pv : Value} {p : List Int} (h : FAt w base ss B ovg beg hig m ov be hi pv p) (i : Nat) : w.frozen? ⟨ovg, i, none⟩ = false := h.hp.fz (fsS_1 h.len) i
theorem FAt.fzb {w : World} {base : Nat} {ss : List Slot} {B ovg beg hig m : Nat} {ov be hi : List Int} {pv : Value} {p : List Int} (h : FAt w base ss B ovg beg hig m ov be hi pv p) (i : Nat) : w.frozen? ⟨beg, i, none⟩ = false := h.hp.fz (fsS_2 h.len) i
/-- What one writes. -/
theorem FAt.same {w w' : World} {base : Nat} {ss : List Slot} {B ovg beg hig m : Nat} {ov be hi : List Int} {pv : Value} {p : List Int} (h : FAt w base ss B ovg beg hig m ov be hi pv p) (hw : w'.heap = w.heap) : FAt w' base ss B ovg beg hig m ov be hi pv p := ⟨h.len, h.hp.same hw, h.h3, by rw [hw]; exact h.hb⟩
theorem FAt.setO {w : World} {base : Nat} {ss : List Slot} {B ovg beg hig m : Nat} {ov be hi : List Int} {pv : Value} {p : List Int} (h : FAt w base ss B ovg beg hig m ov be hi pv p) (i : Nat) (x : Int) : FAt (w.setCell ⟨ovg, i, none⟩ (.int .i64 x)) base ss B ovg beg hig m (ov.set i x) be hi pv p := by
  refine ⟨h.len, ?_, h.h3, by simpa [World.setCell] using h.hb⟩
  have := h.hp.store (fsS_1 h.len) i (.int .i64 x)
  rw [show (⟨slV ovg m, 3, 1, m, (ov.map intV).set i (.int .i64 x)⟩ : Slot) = rowM ovg m (ov.set i x) by simp [rowM, List.map_set], fsS_set1] at this
  exact this
theorem FAt.setB {w : World} {base : Nat} {ss : List Slot} {B ovg beg hig m : Nat} {ov be hi : List Int} {pv : Value} {p : List Int} (h : FAt w base ss B ovg beg hig m ov be hi pv p) (i : Nat) (x : Int) : FAt (w.setCell ⟨beg, i, none⟩ (.int .i64 x)) base ss B ovg beg hig m ov (be.set i x) hi pv p := by
  refine ⟨h.len, ?_, h.h3, by simpa [World.setCell] using h.hb⟩
  have := h.hp.store (fsS_2 h.len) i (.int .i64 x)
  rw [show (⟨slV beg m, 3, 1, m, (be.map intV).set i (.int .i64 x)⟩ : Slot) = rowM beg m (be.set i x) by simp [rowM, List.map_set], fsS_set2] at this
  exact this
theorem FAt.turnP {w w' : World} {base : Nat} {ss : List Slot} {B ovg beg hig m : Nat} {ov be hi : List Int} {pv pv' : Value} {p p' : List Int} (h : FAt w base ss B ovg beg hig m ov be hi pv p) (ho : w'.ownsRow base 3 1 pv' p'.length (p'.map intV)) (hg : w.grownBy w' pv.ownBlock) (hat : pv'.ownBlock = pv.ownBlock ∨ pv'.ownBlock = some w.heap.size ∨ pv'.ownBlock = none) : FAt (w'.setCell ⟨B, 3, none⟩ pv') base ss B ovg beg hig m ov be hi pv' p' ∧ w'.cell? ⟨B, 3, none⟩ = some pv ∧ w'.frozen? ⟨B, 3, none⟩ = false := by
  have h1 : Heap w' base ((fsS ss B ovg beg hig m ov be pv p).set 4 (rowS pv' p')) := h.hp.turn (fsS_4 h.len) (fun k hk hne => hg.block k hk (fun e => hne e.symm)) ho (fun g hg' => by
    rcases hat with e | e | e
    · exact .inl (e ▸ hg')
    · have h9 : pv'.ownBlock = some g := hg'
      rw [e] at h9
      cases h9
      exact .inr (Nat.le_refl _)
    · have h9 : pv'.ownBlock = some g := hg'
      rw [e] at h9
      cases h9)
  have h0 : ((fsS ss B ovg beg hig m ov be pv p).set 4 (rowS pv' p'))[0]? = some (boxS B [slV ovg m, slV beg m, slV hig m, pv]) := by
    rw [List.getElem?_set, if_neg (by omega)]
    exact fsS_0 h.len
  refine ⟨⟨h.len, ?_, h.h3, by have := h.hb; have := hg.size; simpa [World.setCell] using (by omega : base ≤ w'.heap.size)⟩, h1.cell h0 rfl, h1.fz h0 3⟩
  have h2 := h1.store h0 3 pv'
  rw [show (⟨.slice (some ⟨B, 0, none⟩) 1 1, 69, 4, 1, ([slV ovg m, slV beg m, slV hig m, pv] : List Value).set 3 pv'⟩ : Slot) = boxS B [slV ovg m, slV beg m, slV hig m, pv'] by rfl, fsS_set4] at h2
  exact h2
/-- Blocks that are apart. -/
theorem FAt.ne {w : World} {base : Nat} {ss : List Slot} {B ovg beg hig m : Nat} {ov be hi : List Int} {pv : Value} {p : List Int} (h : FAt w base ss B ovg beg hig m ov be hi pv p) : (base ≤ B ∧ B < w.heap.size) ∧ (base ≤ ovg ∧ ovg < w.heap.size) ∧ (base ≤ beg ∧ beg < w.heap.size) ∧ B ≠ ovg ∧ B ≠ beg ∧ ovg ≠ beg ∧ hig ≠ beg ∧ hig ≠ ovg ∧ hig ≠ B := by
  have q0 := fsS_0 (B := B) (ovg := ovg) (beg := beg) (hig := hig) (m := m) (ov := ov) (be := be) (pv := pv) (p := p) h.len
  have q1 := fsS_1 (B := B) (ovg := ovg) (beg := beg) (hig := hig) (m := m) (ov := ov) (be := be) (pv := pv) (p := p) h.len
  have q2 := fsS_2 (B := B) (ovg := ovg) (beg := beg) (hig := hig) (m := m) (ov := ov) (be := be) (pv := pv) (p := p) h.len
  have q3 := (fsS_o (ss := ss) (B := B) (ovg := ovg) (beg := beg) (hig := hig) (m := m) (ov := ov) (be := be) (pv := pv) (p := p) (i := 3) (by decide) (by decide) (by decide) (by decide)).trans h.h3
  refine ⟨h.hp.lt q0, h.hp.lt q1, h.hp.lt q2, ?_, ?_, ?_, ?_, ?_, ?_⟩
  · intro e; exact h.hp.apart 0 1 _ _ B (by decide) q0 q1 rfl (by simp [Value.ownBlock, e])
  · intro e; exact h.hp.apart 0 2 _ _ B (by decide) q0 q2 rfl (by simp [Value.ownBlock, e])
  · intro e; exact h.hp.apart 1 2 _ _ ovg (by decide) q1 q2 rfl (by simp [Value.ownBlock, e])
  · intro e; exact h.hp.apart 3 2 _ _ hig (by decide) q3 q2 rfl (by simp [Value.ownBlock, e])
  · intro e; exact h.hp.apart 3 1 _ _ hig (by decide) q3 q1 rfl (by simp [Value.ownBlock, e])
  · intro e; exact h.hp.apart 3 0 _ _ hig (by decide) q3 q0 rfl (by simp [Value.ownBlock, e])
end Go.Proofs.Ytbbfnladoaimpaa
