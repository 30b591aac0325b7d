/- A forest in memory, among other rows. -/
import Derived.Test.YtogjjmbcbnceoaaGreatDAh
namespace Go.Proofs.YtogjjmbcbnceoaaGreat
open Go.RowKit Lt

theorem set_same {α : Type} {l : List α} {i : Nat} {x : α} (h : l[i]? = some x) : l.set i x = l := by
  apply List.ext_getElem?
  intro j
  rw [List.getElem?_set]
  split
  · rename_i e
    subst e
    rw [if_pos (List.getElem?_eq_some_iff.1 h).1, h]
  · rfl
abbrev slV (g m : Nat) : Value := .slice (some ⟨g, 0, none⟩) m m
abbrev rowM (g m : Nat) (l : List Int) : Slot := ⟨slV g m, 3, 1, m, l.map intV⟩
/-- Slots 0 to 4: the forest, over, best, high, path. -/
def fsS (ss : List Slot) (B ovg beg hig m : Nat) (ov be : List Int) (pv : Value) (p : List Int) : List Slot :=
  (((ss.set 0 (boxS B [slV ovg m, slV beg m, slV hig m, pv])).set 1 (rowM ovg m ov)).set 2 (rowM beg m be)).set 4 (rowS pv p)
structure FAt (w : World) (base : Nat) (ss : List Slot) (B ovg beg hig m : Nat) (ov be hi : List Int) (pv : Value) (p : List Int) : Prop where
  len : 5 ≤ ss.length
  hp : Heap w base (fsS ss B ovg beg hig m ov be pv p)
  h3 : ss[3]? = some (rowM hig m hi)
  hb : base ≤ w.heap.size
theorem fsS_0 {ss : List Slot} {B ovg beg hig m : Nat} {ov be : List Int} {pv : Value} {p : List Int} (h : 5 ≤ ss.length) : (fsS ss B ovg beg hig m ov be pv p)[0]? = some (boxS B [slV ovg m, slV beg m, slV hig m, pv]) := by
  unfold fsS
  rw [List.getElem?_set, if_neg (by omega), List.getElem?_set, if_neg (by omega), List.getElem?_set, if_neg (by omega), List.getElem?_set, if_pos rfl, if_pos (by omega)]
theorem fsS_1 {ss : List Slot} {B ovg beg hig m : Nat} {ov be : List Int} {pv : Value} {p : List Int} (h : 5 ≤ ss.length) : (fsS ss B ovg beg hig m ov be pv p)[1]? = some (rowM ovg m ov) := by
  unfold fsS
  rw [List.getElem?_set, if_neg (by omega), List.getElem?_set, if_neg (by omega), List.getElem?_set, if_pos rfl, if_pos (by simp; omega)]
theorem fsS_2 {ss : List Slot} {B ovg beg hig m : Nat} {ov be : List Int} {pv : Value} {p : List Int} (h : 5 ≤ ss.length) : (fsS ss B ovg beg hig m ov be pv p)[2]? = some (rowM beg m be) := by
  unfold fsS
  rw [List.getElem?_set, if_neg (by omega), List.getElem?_set, if_pos rfl, if_pos (by simp; omega)]
theorem fsS_4 {ss : List Slot} {B ovg beg hig m : Nat} {ov be : List Int} {pv : Value} {p : List Int} (h : 5 ≤ ss.length) : (fsS ss B ovg beg hig m ov be pv p)[4]? = some (rowS pv p) := by
  unfold fsS
  rw [List.getElem?_set, if_pos rfl, if_pos (by simp; omega)]
theorem fsS_o {ss : List Slot} {B ovg beg hig m : Nat} {ov be : List Int} {pv : Value} {p : List Int} {i : Nat} (h0 : i ≠ 0) (h1 : i ≠ 1) (h2 : i ≠ 2) (h4 : i ≠ 4) : (fsS ss B ovg beg hig m ov be pv p)[i]? = ss[i]? := by
  unfold fsS
  rw [List.getElem?_set, if_neg (by omega), List.getElem?_set, if_neg (by omega), List.getElem?_set, if_neg (by omega), List.getElem?_set, if_neg (by omega)]
theorem fsS_len {ss : List Slot} {B ovg beg hig m : Nat} {ov be : List Int} {pv : Value} {p : List Int} : (fsS ss B ovg beg hig m ov be pv p).length = ss.length := by simp [fsS]
theorem fsS_set1 {ss : List Slot} {B ovg beg hig m : Nat} {ov ov' be : List Int} {pv : Value} {p : List Int} : (fsS ss B ovg beg hig m ov be pv p).set 1 (rowM ovg m ov') = fsS ss B ovg beg hig m ov' be pv p := by
  unfold fsS
  rw [List.set_comm _ _ (by decide : (4 : Nat) ≠ 1), List.set_comm _ _ (by decide : (2 : Nat) ≠ 1), List.set_set]
theorem fsS_set2 {ss : List Slot} {B ovg beg hig m : Nat} {ov be be' : List Int} {pv : Value} {p : List Int} : (fsS ss B ovg beg hig m ov be pv p).set 2 (rowM beg m be') = fsS ss B ovg beg hig m ov be' pv p := by
  unfold fsS
  rw [List.set_comm _ _ (by decide : (4 : Nat) ≠ 2), List.set_set]
theorem fsS_set4 {ss : List Slot} {B ovg beg hig m : Nat} {ov be : List Int} {pv pv' : Value} {p p' : List Int} : ((fsS ss B ovg beg hig m ov be pv p).set 4 (rowS pv' p')).set 0 (boxS B [slV ovg m, slV beg m, slV hig m, pv']) = fsS ss B ovg beg hig m ov be pv' p' := by
  unfold fsS
  rw [List.set_set, List.set_comm _ _ (by decide : (4 : Nat) ≠ 0), List.set_comm _ _ (by decide : (2 : Nat) ≠ 0), List.set_comm _ _ (by decide : (1 : Nat) ≠ 0), List.set_set]
theorem fsS_id {ss : List Slot} {B ovg beg hig m : Nat} {ov be : List Int} {pv : Value} {p : List Int} (h0 : ss[0]? = some (boxS B [slV ovg m, slV beg m, slV hig m, pv])) (h1 : ss[1]? = some (rowM ovg m ov)) (h2 : ss[2]? = some (rowM beg m be)) (h4 : ss[4]? = some (rowS pv p)) : fsS ss B ovg beg hig m ov be pv p = ss := by
  unfold fsS
  rw [set_same h0, set_same h1, set_same h2, set_same h4]
/-- What one reads. -/
theorem FAt.box {w : World} {base : Nat} {ss : List Slot} {B ovg beg hig m : Nat} {ov be hi : List Int} {pv : Value} {p : List Int} (h : FAt w base ss B ovg beg hig m ov be hi pv p) : w.cell? ⟨B, 0, none⟩ = some (slV ovg m) ∧ w.cell? ⟨B, 1, none⟩ = some (slV beg m) ∧ w.cell? ⟨B, 2, none⟩ = some (slV hig m) ∧ w.cell? ⟨B, 3, none⟩ = some pv ∧ w.frozen? ⟨B, 3, none⟩ = false :=
  ⟨h.hp.cell (fsS_0 h.len) rfl, h.hp.cell (fsS_0 h.len) rfl, h.hp.cell (fsS_0 h.len) rfl, h.hp.cell (fsS_0 h.len) rfl, h.hp.fz (fsS_0 h.len) 3⟩
theorem map_get {l : List Int} {i : Nat} {x : Int} (h : l[i]? = some x) : (l.map intV)[i]? = some (.int .i64 x) := by rw [List.getElem?_map, h]; rfl
theorem FAt.o {w : World} {base : Nat} {ss : List Slot} {B ovg beg hig m : Nat} {ov be hi : List Int} {pv : Value} {p : List Int} (h : FAt w base ss B ovg beg hig m ov be hi pv p) {i : Nat} {x : Int} (hx : ov[i]? = some x) : w.cell? ⟨ovg, i, none⟩ = some (.int .i64 x) := h.hp.cell (fsS_1 h.len) (map_get hx)
theorem FAt.b {w : World} {base : Nat} {ss : List Slot} {B ovg beg hig m : Nat} {ov be hi : List Int} {pv : Value} {p : List Int} (h : FAt w base ss B ovg beg hig m ov be hi pv p) {i : Nat} {x : Int} (hx : be[i]? = some x) : w.cell? ⟨beg, i, none⟩ = some (.int .i64 x) := h.hp.cell (fsS_2 h.len) (map_get hx)
theorem FAt.h {w : World} {base : Nat} {ss : List Slot} {B ovg beg hig m : Nat} {ov be hi : List Int} {pv : Value} {p : List Int} (h : FAt w base ss B ovg beg hig m ov be hi pv p) {i : Nat} {x : Int} (hx : hi[i]? = some x) : w.cell? ⟨hig, i, none⟩ = some (.int .i64 x) := h.hp.cell ((fsS_o (by decide) (by decide) (by decide) (by decide)).trans h.h3) (map_get hx)
theorem FAt.path {w : World} {base : Nat} {ss : List Slot} {B ovg beg hig m : Nat} {ov be hi : List Int} {pv : Value} {p : List Int} (h : FAt w base ss B ovg beg hig m ov be hi pv p) : w.ownsRow base 3 1 pv p.length (p.map intV) := h.hp.own 4 _ (fsS_4 h.len)
theorem FAt.fzo {w : World} {base : Nat} {ss : List Slot} {B ovg beg hig m : Nat} {ov be hi : List Int} {pv : Value} {p : List Int} (h : FAt w base ss B ovg beg hig m ov be hi pv p) (i : Nat) : w.frozen? ⟨ovg, i, none⟩ = false := h.hp.fz (fsS_1 h.len) i
theorem FAt.fzb {w : World} {base : Nat} {ss : List Slot} {B ovg beg hig m : Nat} {ov be hi : List Int} {pv : Value} {p : List Int} (h : FAt w base ss B ovg beg hig m ov be hi pv p) (i : Nat) : w.frozen? ⟨beg, i, none⟩ = false := h.hp.fz (fsS_2 h.len) i
/-- What one writes. -/
theorem FAt.same {w w' : World} {base : Nat} {ss : List Slot} {B ovg beg hig m : Nat} {ov be hi : List Int} {pv : Value} {p : List Int} (h : FAt w base ss B ovg beg hig m ov be hi pv p) (hw : w'.heap = w.heap) : FAt w' base ss B ovg beg hig m ov be hi pv p := ⟨h.len, h.hp.same hw, h.h3, by rw [hw]; exact h.hb⟩
theorem FAt.setO {w : World} {base : Nat} {ss : List Slot} {B ovg beg hig m : Nat} {ov be hi : List Int} {pv : Value} {p : List Int} (h : FAt w base ss B ovg beg hig m ov be hi pv p) (i : Nat) (x : Int) : FAt (w.setCell ⟨ovg, i, none⟩ (.int .i64 x)) base ss B ovg beg hig m (ov.set i x) be hi pv p := by
  refine ⟨h.len, ?_, h.h3, by simpa [World.setCell] using h.hb⟩
  have := h.hp.store (fsS_1 h.len) i (.int .i64 x)
  rw [show (⟨slV ovg m, 3, 1, m, (ov.map intV).set i (.int .i64 x)⟩ : Slot) = rowM ovg m (ov.set i x) by simp [rowM, List.map_set], fsS_set1] at this
  exact this
theorem FAt.setB {w : World} {base : Nat} {ss : List Slot} {B ovg beg hig m : Nat} {ov be hi : List Int} {pv : Value} {p : List Int} (h : FAt w base ss B ovg beg hig m ov be hi pv p) (i : Nat) (x : Int) : FAt (w.setCell ⟨beg, i, none⟩ (.int .i64 x)) base ss B ovg beg hig m ov (be.set i x) hi pv p := by
  refine ⟨h.len, ?_, h.h3, by simpa [World.setCell] using h.hb⟩
  have := h.hp.store (fsS_2 h.len) i (.int .i64 x)
  rw [show (⟨slV beg m, 3, 1, m, (be.map intV).set i (.int .i64 x)⟩ : Slot) = rowM beg m (be.set i x) by simp [rowM, List.map_set], fsS_set2] at this
  exact this
theorem FAt.turnP {w w' : World} {base : Nat} {ss : List Slot} {B ovg beg hig m : Nat} {ov be hi : List Int} {pv pv' : Value} {p p' : List Int} (h : FAt w base ss B ovg beg hig m ov be hi pv p) (ho : w'.ownsRow base 3 1 pv' p'.length (p'.map intV)) (hg : w.grownBy w' pv.ownBlock) (hat : pv'.ownBlock = pv.ownBlock ∨ pv'.ownBlock = some w.heap.size ∨ pv'.ownBlock = none) : FAt (w'.setCell ⟨B, 3, none⟩ pv') base ss B ovg beg hig m ov be hi pv' p' ∧ w'.cell? ⟨B, 3, none⟩ = some pv ∧ w'.frozen? ⟨B, 3, none⟩ = false := by
  have h1 : Heap w' base ((fsS ss B ovg beg hig m ov be pv p).set 4 (rowS pv' p')) := h.hp.turn (fsS_4 h.len) (fun k hk hne => hg.block k hk (fun e => hne e.symm)) ho (fun g hg' => by
    rcases hat with e | e | e
    · exact .inl (e ▸ hg')
    · have h9 : pv'.ownBlock = some g := hg'
      rw [e] at h9
      cases h9
      exact .inr (Nat.le_refl _)
    · have h9 : pv'.ownBlock = some g := hg'
      rw [e] at h9
      cases h9)
  have h0 : ((fsS ss B ovg beg hig m ov be pv p).set 4 (rowS pv' p'))[0]? = some (boxS B [slV ovg m, slV beg m, slV hig m, pv]) := by
    rw [List.getElem?_set, if_neg (by omega)]
    exact fsS_0 h.len
  refine ⟨⟨h.len, ?_, h.h3, by have := h.hb; have := hg.size; simpa [World.setCell] using (by omega : base ≤ w'.heap.size)⟩, h1.cell h0 rfl, h1.fz h0 3⟩
  have h2 := h1.store h0 3 pv'
  rw [show (⟨.slice (some ⟨B, 0, none⟩) 1 1, 94, 4, 1, ([slV ovg m, slV beg m, slV hig m, pv] : List Value).set 3 pv'⟩ : Slot) = boxS B [slV ovg m, slV beg m, slV hig m, pv'] by rfl, fsS_set4] at h2
  exact h2
/-- Blocks that are apart. -/
theorem FAt.ne {w : World} {base : Nat} {ss : List Slot} {B ovg beg hig m : Nat} {ov be hi : List Int} {pv : Value} {p : List Int} (h : FAt w base ss B ovg beg hig m ov be hi pv p) : (base ≤ B ∧ B < w.heap.size) ∧ (base ≤ ovg ∧ ovg < w.heap.size) ∧ (base ≤ beg ∧ beg < w.heap.size) ∧ B ≠ ovg ∧ B ≠ beg ∧ ovg ≠ beg ∧ hig ≠ beg ∧ hig ≠ ovg ∧ hig ≠ B := by
  have q0 := fsS_0 (B := B) (ovg := ovg) (beg := beg) (hig := hig) (m := m) (ov := ov) (be := be) (pv := pv) (p := p) h.len
  have q1 := fsS_1 (B := B) (ovg := ovg) (beg := beg) (hig := hig) (m := m) (ov := ov) (be := be) (pv := pv) (p := p) h.len
  have q2 := fsS_2 (B := B) (ovg := ovg) (beg := beg) (hig := hig) (m := m) (ov := ov) (be := be) (pv := pv) (p := p) h.len
  have q3 := (fsS_o (ss := ss) (B := B) (ovg := ovg) (beg := beg) (hig := hig) (m := m) (ov := ov) (be := be) (pv := pv) (p := p) (i := 3) (by decide) (by decide) (by decide) (by decide)).trans h.h3
  refine ⟨h.hp.lt q0, h.hp.lt q1, h.hp.lt q2, ?_, ?_, ?_, ?_, ?_, ?_⟩
  · intro e; exact h.hp.apart 0 1 _ _ B (by decide) q0 q1 rfl (by simp [Value.ownBlock, e])
  · intro e; exact h.hp.apart 0 2 _ _ B (by decide) q0 q2 rfl (by simp [Value.ownBlock, e])
  · intro e; exact h.hp.apart 1 2 _ _ ovg (by decide) q1 q2 rfl (by simp [Value.ownBlock, e])
  · intro e; exact h.hp.apart 3 2 _ _ hig (by decide) q3 q2 rfl (by simp [Value.ownBlock, e])
  · intro e; exact h.hp.apart 3 1 _ _ hig (by decide) q3 q1 rfl (by simp [Value.ownBlock, e])
  · intro e; exact h.hp.apart 3 0 _ _ hig (by decide) q3 q0 rfl (by simp [Value.ownBlock, e])
end Go.Proofs.YtogjjmbcbnceoaaGreat
/- The program's highest: a tree climbed, and cut short. -/
namespace Go.Proofs.YtogjjmbcbnceoaaGreat
open Go.RowKit Lt

/-- A row cut to nothing. -/
theorem cut_none {w : World} {base : Nat} {v : Value} {p : List Int} (h : w.ownsRow base 3 1 v p.length (p.map intV)) : ∃ a c, (∀ W, (Instr.slice 23 v none (some (.int .i64 0)) none).run Tryz.prog W = .ok (.slice a 0 c) W) ∧ w.ownsRow base 3 1 (.slice a 0 c) ([] : List Int).length (([] : List Int).map intV) ∧ (Value.slice a 0 c).ownBlock = v.ownBlock := by
  rcases own_shape h with ⟨rfl, h0⟩ | ⟨g, c, rfl, h1, h2, _⟩
  · refine ⟨none, 0, fun W => ?_, World.ownsRow_nil _ _ _ _, rfl⟩
    have hs : ∀ W : World, (sizeOf (Tryz.prog.elem 23)).run Tryz.prog W = .ok 1 W := fun W => by kernel_rfl
    have hu : Tryz.prog.underlying 23 = some (.slice (Tryz.prog.elem 23)) := by kernel_rfl
    rw [run_slice_h W 23 _ 0 0 hu .i64 0 (by omega) (by omega), hs]
    simp [Result.andThen, sliced]
  · refine ⟨some ⟨g, 0, none⟩, c, fun W => ?_, ?_, rfl⟩
    · exact slice_cut (g := g) (m := p.length) (c := c) (f := 0) h1 (by omega) W
    · have := own_take h (m := 0) (by omega)
      simpa using this
theorem FI.get {m : Nat} {fr : Nat → Nat} {L : Nat} {ov be hi : List Int} (F : FI m fr L ov be hi) (hf : ∀ i, 0 < i → fr i < i) {i : Nat} (hi' : i < m) : (i < L ∧ ov[i]? = some (-1) ∧ be[i]? = some (i : Int)) ∨ (L ≤ i ∧ ∃ o b : Nat, ov[i]? = some (o : Int) ∧ o < i ∧ be[i]? = some (b : Int) ∧ b < m) := by
  rcases Nat.lt_or_ge i L with h | h
  · exact .inl ⟨h, F.lowO i h hi', F.lowB i h hi'⟩
  · obtain ⟨o, b, h1, h2, h3, h4, h5, _⟩ := F.lnk i h hi'
    have := h5.le hf
    exact .inr ⟨h, o, b, h1, by omega, h2, by omega⟩
theorem clb_len {ov : List Int} {z : Nat} {p : List Int} {i : Nat} (h : Clb ov z p i) : p.length + i ≤ z := by
  induction h with
  | nil => simp
  | @snoc p i j _ _ hl ih => simp; omega
theorem clb_nil {ov : List Int} {z x : Nat} (h : Clb ov z [] x) : x = z := by
  generalize hq : ([] : List Int) = q at h
  cases h with
  | nil => rfl
  | snoc _ _ _ => simp at hq
theorem own_sl {w : World} {base : Nat} {v : Value} {p : List Int} (h : w.ownsRow base 3 1 v p.length (p.map intV)) : ∃ a c, v = .slice a p.length c := by
  rcases own_shape h with ⟨rfl, h0⟩ | ⟨g, c, rfl, _⟩
  · exact ⟨none, 0, by rw [h0]⟩
  · exact ⟨_, _, rfl⟩
theorem bel_drewN {B : Nat} {w0 w : World} (h : Below B w0 w) (k : Nat) : Below B w0 (w.drewN k) := h.trans ⟨rfl, rfl, rfl, Nat.le_refl _, fun _ _ => rfl⟩
theorem bel_grown {B : Nat} {w0 w w2 : World} {row : Option Nat} (h : Below B w0 w) (hB : B ≤ w0.heap.size) (hg : w.grownBy w2 row) (hr : ∀ g, row = some g → B ≤ g) : Below B w0 w2 :=
  ⟨hg.os.trans h.os, hg.tape.trans h.tape, hg.output.trans h.output, Nat.le_trans h.size hg.size, fun k hk => (hg.block k (by have := h.size; omega) (fun e => by have := hr k e.symm; omega)).trans (h.block k hk)⟩
theorem bel_alloc {B : Nat} {w0 w : World} (h : Below B w0 w) (hB : B ≤ w0.heap.size) (o : Obj) : Below B w0 (w.alloc o) := h.alloc (by have := h.size; omega) o
set_option maxRecDepth 100000 in
set_option maxHeartbeats 4000000 in
theorem highest_any (m : Nat) (fr : Nat → Nat) (L : Nat) (hf : ∀ i, 0 < i → fr i < i) (ov be hi pa : List Int) (F : FI m fr L ov be hi) (hnn : ∀ i, i < m → ∃ s : Nat, hi[i]? = some (s : Int)) (hm : m ≤ 2000000) (w : World) (base : Nat) (ss : List Slot) (B ovg beg hig : Nat) (pv : Value) (A : FAt w base ss B ovg beg hig m ov be hi pv pa) (z : Nat) (hz : z < m) :
    Calls Tryz.prog 53 #[ptr B, .int .i64 (z : Int)] w fun e w' => ∃ (b : Nat) (ov' be' pa' : List Int) (pv' : Value), e = .returned (.int .i64 (b : Int)) ∧ b < m ∧ Hst fr L hi z b ∧ FI m fr L ov' be' hi ∧ FAt w' base ss B ovg beg hig m ov' be' hi pv' pa' ∧ Below base w w' := by
  obtain ⟨c0, c1, c2, c3, f3⟩ := A.box
  have hz' : (z : Int) < m := by omega
  rcases FI.get F hf hz with ⟨hzL, ho, hb⟩ | ⟨hzL, o, b, ho, hoz, hb, hbm⟩
  · have co := A.o ho
    have HE : Hid (Hst fr L hi z z) := ⟨fun _ => rfl, fun h => by omega⟩
    have HF : Hid _ := F
    have HA : Hid _ := A
    clear F A hnn ho hb hzL
    go_enter Tryz.func53, Tryz.ntmps53
    go_wp2
    go_ret
    exact ⟨z, ov, be, pa, pv, rfl, hz, HE.out, HF.out, HA.out, Below.refl _ _⟩
  · have co := A.o ho
    obtain ⟨pa0, pc0, hcut, hown0, hblk⟩ := cut_none A.path
    obtain ⟨hA1, _, _⟩ := A.turnP (w' := w) (p' := []) hown0 (grownBy_refl _ _) (.inl hblk)
    have HA1 : Hid _ := hA1
    have HF : Hid _ := F
    have HNN : Hid _ := hnn
    have HB0 : Hid (Below base w (w.setCell ⟨B, 3, none⟩ (.slice pa0 0 pc0))) := Below.setCell (p := ⟨B, 3, none⟩) (Below.refl _ _) A.ne.1.1 _
    have HC : Hid (Clb ov z [] z) := .nil
    have HZL : Hid (L ≤ z) := hzL
    have HFR : Hid _ := hf
    have HBW : Hid (base ≤ w.heap.size) := A.hb
    have hob : ((o : Int) == -1) = false := beq_false_of_ne (by omega)
    clear F A hnn hb hA1 hown0 hblk hbm
    go_enter Tryz.func53, Tryz.ntmps53
    go_wp2
    clear c0 c1 c2 c3 f3 hcut
    go_loopw [5] (fun vi wr => ∃ (i : Nat) (p : List Int) (pv : Value), vi = .int .i64 i ∧ i ≤ z ∧ Hid (L ≤ i ∧ Clb ov z p i ∧ FAt wr base ss B ovg beg hig m ov be hi pv p ∧ Below base w wr)) (fun vi _ => (intOf vi).toNat)
    case atStart => exact ⟨z, [], .slice pa0 0 pc0, rfl, Nat.le_refl _, HZL.out, HC.out, HA1.out, HB0.out⟩
    case round =>
      obtain ⟨i, p, pv1, rfl, hiz, hq⟩ := hrel
      clear HA1 HB0 HC
      have him : i < m := by omega
      have him' : (i : Int) < m := by omega
      obtain ⟨pa1, pc1, hpv1⟩ := own_sl hq.out.2.2.1.path
      subst hpv1
      obtain ⟨c0, c1, c2, c3, f3⟩ := hq.out.2.2.1.box
      rcases FI.get HF.out hf him with ⟨hc, _⟩ | ⟨_, o1, b1, ho1, ho1i, _⟩
      · exfalso
        have := hq.out.1
        omega
      have co1 := hq.out.2.2.1.o ho1
      have ho1m : o1 < m := by omega
      have ho1m' : (o1 : Int) < m := by omega
      have HO1 : Hid _ := ho1
      clear ho1 ho hoz co
      rcases FI.get HF.out hf ho1m with ⟨ho1L, ho2, _⟩ | ⟨ho1L, o2, _, ho2, _⟩
      · have co2 := hq.out.2.2.1.o ho2
        have HR2 : Hid (Clb ov z (p.take p.length) i ∧ ov[i]? = some (o1 : Int) ∧ ov[o1]? = some (-1)) := ⟨by rw [List.take_length]; exact hq.out.2.1, HO1.out, ho2⟩
        have HPL : Hid (p.length ≤ z) := by have := clb_len hq.out.2.1; show _ ≤ _; omega
        have HA0 : Hid _ := hq.out.2.2.1
        have HB0 : Hid _ := hq.out.2.2.2
        obtain ⟨n, hn⟩ : ∃ n, n = p.length := ⟨_, rfl⟩
        have HN : Hid _ := hn
        rw [← hn] at HR2 HPL c3
        clear ho2 hq hn HO1
        generalize wr = wo at *
        have HAS : Hid (∀ q, FAt (wo.drewN q) base ss B ovg beg hig m ov be hi (.slice pa1 p.length pc1) p ∧ Below base w (wo.drewN q)) := fun q => ⟨HA0.out.same rfl, bel_drewN HB0.out q⟩
        have hsb : IntKind.i64.wrap ((n : Int) - 1) = (n : Int) - 1 := by have := HPL.out; unfold IntKind.wrap; simp [IntKind.bits, IntKind.signed]; omega
        have HSB : Hid _ := hsb
        clear HA0 HB0
        go_wp2
        go_quiet (fail)
        go_wp2
        clear hsb c0 c1 c2 c3 f3 co1 co2
        go_loopw [6] (fun vn wr => ∃ (j : Int) (k : Nat) (ov' be' : List Int) (x r : Nat), vn = .int .i64 j ∧ j = (k : Int) - 1 ∧ k ≤ n ∧ Hid (x ≤ z ∧ Clb ov' z (p.take k) x ∧ ov'[x]? = some (r : Int) ∧ ov'[r]? = some (-1) ∧ FI m fr L ov' be' hi ∧ FAt wr base ss B ovg beg hig m ov' be' hi (.slice pa1 p.length pc1) p ∧ Below base w wr)) (fun vn _ => (intOf vn + 1).toNat)
        case atStart => exact ⟨(n : Int) - 1, n, ov, be, i, o1, rfl, rfl, Nat.le_refl _, hiz, HR2.out.1, HR2.out.2.1, HR2.out.2.2, HF.out, (HAS.out _).1, (HAS.out _).2⟩
        case round =>
          obtain ⟨j, k, ov', be', x, r, rfl, hj, hk, hq⟩ := hrel
          clear HAS HR2
          rcases k with _ | k
          · have hj' : j = -1 := by omega
            subst hj'
            clear hj
            obtain ⟨hxz, hcl, hx, hr, hF, hA, hB⟩ := hq.out
            rw [List.take_zero] at hcl
            have exz : x = z := clb_nil hcl
            subst exz
            rcases FI.get hF hf hz with ⟨hc, h9, _⟩ | ⟨_, _, b2, _, _, hb2, hb2m⟩
            · rw [hx] at h9; cases h9
            have HT : Hid (Hst fr L hi x b2) := hF.top hz hx hb2 hr
            have cb := hA.b hb2
            obtain ⟨_, c1, _, _, _⟩ := hA.box
            have HFF : Hid _ := hF
            have HAA : Hid _ := hA
            have HBB : Hid _ := hB
            clear hF hA hB hq hcl hx hr hb2
            go_wp2
            go_ret
            exact ⟨b2, ov', be', p, _, rfl, hb2m, HT.out, HFF.out, HAA.out, HBB.out⟩
          · have hj' : j = (k : Int) := by omega
            subst hj'
            clear hj
            obtain ⟨hxz, hcl, hx, hr, hF, hA, hB⟩ := hq.out
            have hkp : k < p.length := by rw [← HN.out]; omega
            obtain ⟨y, hy⟩ : ∃ y, p[k]? = some y := ⟨_, List.getElem?_eq_getElem hkp⟩
            have htk : p.take (k + 1) = p.take k ++ [y] := by rw [List.take_add_one, hy]; rfl
            rw [htk] at hcl
            obtain ⟨i2, rfl, hcl2, hi2, hxi⟩ := hcl.last
            have hi2z : i2 ≤ z := by have := clb_len hcl2; omega
            have hi2m : i2 < m := by omega
            have hxm : x < m := by omega
            have hrm : r < m := by have := (List.getElem?_eq_some_iff.1 hr).1; rw [hF.lo] at this; exact this
            rcases FI.get hF hf hxm with ⟨hc, h9, _⟩ | ⟨_, _, b2, _, _, hb2, hb2m⟩
            · rw [hx] at h9; cases h9
            rcases FI.get hF hf hi2m with ⟨hc, h9, _⟩ | ⟨_, _, b1, _, _, hb1, hb1m⟩
            · rw [hi2] at h9; cases h9
            obtain ⟨s1, hs1⟩ := HNN.out b1 hb1m
            obtain ⟨s2, hs2⟩ := HNN.out b2 hb2m
            have hrne : r ≠ i2 := fun e => by rw [e, hi2] at hr; cases hr
            have HPUL : Hid (∀ b', b' = (if s2 < s1 then b2 else b1) → FI m fr L (ov'.set i2 (r : Int)) (be'.set i2 (b' : Int)) hi) := fun b' hb' => hF.pull hf hi2m hi2 hx hb1 hb2 (by rw [gN_at hs1, gN_at hs2]; exact hb')
            have HCL2 : Hid (Clb (ov'.set i2 (r : Int)) z (p.take k) i2) := hcl2.set _ (Nat.le_refl _)
            have HX2 : Hid ((ov'.set i2 (r : Int))[i2]? = some (r : Int) ∧ (ov'.set i2 (r : Int))[r]? = some (-1)) := ⟨by rw [List.getElem?_set, if_pos rfl, if_pos (by rw [hF.lo]; exact hi2m)], by rw [List.getElem?_set, if_neg (fun e => hrne e.symm)]; exact hr⟩
            obtain ⟨c0, c1, c2, c3, f3⟩ := hA.box
            have d1 := hA.o hi2
            have d2 := hA.b hb2
            have d3 := hA.b hb1
            have d4 := hA.h hs1
            have d5 := hA.h hs2
            have d6 := hA.o hx
            have hpath := hA.path
            obtain ⟨pg, hpa1⟩ : ∃ pg, pa1 = some ⟨pg, 0, none⟩ := by
              rcases own_shape hpath with ⟨_, h0⟩ | ⟨g, c, h9, _⟩
              · omega
              · injection h9 with e1 e2 e3
                exact ⟨g, e1⟩
            subst hpa1
            have d7 : wr.cell? ⟨pg, k, none⟩ = some (.int .i64 (i2 : Int)) := by
              rw [hpath.cellAt k (by omega)]
              exact map_get hy
            have k1 : (i2 : Int) < m := by omega
            have k2 : (x : Int) < m := by omega
            have k3 : (b1 : Int) < m := by omega
            have k4 : (b2 : Int) < m := by omega
            have k5 : (k : Int) < p.length := by omega
            have hwk : IntKind.i64.wrap ((k : Int) - 1) = (k : Int) - 1 := by have := HPL.out; unfold IntKind.wrap; simp [IntKind.bits, IntKind.signed]; omega
            have HAA : Hid _ := hA
            have HBB : Hid _ := hB
            have HB1 : Hid _ := hb1
            have HXX : Hid _ := hx
            have HI2 : Hid _ := hi2
            have HNE : Hid _ := hA.ne
            clear hF hA hB hq hcl hcl2 hx hr hb1 hb2 hi2 hs1 hs2 hpath hy htk
            by_cases hlt : s2 < s1
            · have hlt' : (s2 : Int) < s1 := by omega
              have HPP : Hid _ := HPUL.out b2 (by rw [if_pos hlt])
              go_wp2
              go_quiet (fail)
              go_wp2
              refine wp_region_last 13 _ rfl rfl (by kernel_rfl) (by kernel_rfl) (by kernel_rfl) (by kernel_rfl) (by kernel_rfl) (by kernel_rfl) ?_
              simp only [List.take_succ_cons, List.take_zero]
              repeat (go_big_quiet_step (fail))
              refine wpQuiet_nil ?_
              intro _ hw'
              obtain ⟨nq2, hw''⟩ := hw'
              subst hw''
              intro K hK
              have fb : wr.frozen? ⟨beg, i2, none⟩ = false := HAA.out.fzb i2
              go_simp
              refine hK _ _ ?_
              clear hK K
              have HA2 : Hid (FAt ((wr.drewN (nq + nq2)).setCell ⟨beg, i2, none⟩ (.int .i64 (b2 : Int))) base ss B ovg beg hig m ov' (be'.set i2 (b2 : Int)) hi (.slice (some ⟨pg, 0, none⟩) p.length pc1) p) := (HAA.out.same (w' := wr.drewN (nq + nq2)) rfl).setB i2 (b2 : Int)
              have HB2 : Hid (Below base w ((wr.drewN (nq + nq2)).setCell ⟨beg, i2, none⟩ (.int .i64 (b2 : Int)))) := Below.setCell (p := ⟨beg, i2, none⟩) (bel_drewN HBB.out (nq + nq2)) HNE.out.2.2.1.1 _
              generalize (wr.drewN (nq + nq2)).setCell ⟨beg, i2, none⟩ (.int .i64 (b2 : Int)) = w3 at *
              clear HAA HBB c0 c1 c2 c3 f3 d1 d2 d3 d4 d5 d6 d7 fb HPUL
              obtain ⟨c0, c1, c2, c3, f3⟩ := HA2.out.box
              have d6 := HA2.out.o HXX.out
              have d1 := HA2.out.o HI2.out
              have fo : w3.frozen? ⟨ovg, i2, none⟩ = false := HA2.out.fzo i2
              go_wp2
              refine wp_region_last 13 _ rfl rfl (by kernel_rfl) (by kernel_rfl) (by kernel_rfl) (by kernel_rfl) (by kernel_rfl) (by kernel_rfl) ?_
              simp only [List.take_succ_cons, List.take_zero]
              repeat (go_big_quiet_step (fail))
              refine wpQuiet_nil ?_
              intro _ hw'
              obtain ⟨nq3, hw''⟩ := hw'
              subst hw''
              intro K hK
              go_simp
              refine hK _ _ ?_
              clear hK K
              have HA3 : Hid (FAt ((w3.drewN nq3).setCell ⟨ovg, i2, none⟩ (.int .i64 (r : Int))) base ss B ovg beg hig m (ov'.set i2 (r : Int)) (be'.set i2 (b2 : Int)) hi (.slice (some ⟨pg, 0, none⟩) p.length pc1) p) := (HA2.out.same (w' := w3.drewN nq3) rfl).setO i2 (r : Int)
              have HB3 : Hid (Below base w ((w3.drewN nq3).setCell ⟨ovg, i2, none⟩ (.int .i64 (r : Int)))) := Below.setCell (p := ⟨ovg, i2, none⟩) (bel_drewN HB2.out nq3) HNE.out.2.1.1 _
              go_wp2
              go_roundw
              case rel => exact ⟨(k : Int) - 1, k, ov'.set i2 (r : Int), (be'.set i2 (b2 : Int)), i2, r, by first | rfl | (rw [hwk]) | (congr 1; omega), rfl, by omega, hi2z, HCL2.out, HX2.out.1, HX2.out.2, HPP.out, HA3.out, HB3.out⟩
              case measure => simp only [intOf]; omega
            · have hlt' : ¬ (s2 : Int) < s1 := by omega
              have HPP : Hid (FI m fr L (ov'.set i2 (r : Int)) be' hi) := by
                have h9 := HPUL.out b1 (by rw [if_neg hlt])
                rw [set_same HB1.out] at h9
                exact h9
              go_wp2
              go_quiet (fail)
              have HA2 : Hid (FAt (wr.drewN nq) base ss B ovg beg hig m ov' be' hi (.slice (some ⟨pg, 0, none⟩) p.length pc1) p) := HAA.out.same rfl
              have HB2 : Hid (Below base w (wr.drewN nq)) := bel_drewN HBB.out nq
              generalize wr.drewN nq = w3 at *
              clear HAA HBB c0 c1 c2 c3 f3 d1 d2 d3 d4 d5 d6 d7 HPUL
              obtain ⟨c0, c1, c2, c3, f3⟩ := HA2.out.box
              have d6 := HA2.out.o HXX.out
              have d1 := HA2.out.o HI2.out
              have fo : w3.frozen? ⟨ovg, i2, none⟩ = false := HA2.out.fzo i2
              go_wp2
              refine wp_region_last 13 _ rfl rfl (by kernel_rfl) (by kernel_rfl) (by kernel_rfl) (by kernel_rfl) (by kernel_rfl) (by kernel_rfl) ?_
              simp only [List.take_succ_cons, List.take_zero]
              repeat (go_big_quiet_step (fail))
              refine wpQuiet_nil ?_
              intro _ hw'
              obtain ⟨nq3, hw''⟩ := hw'
              subst hw''
              intro K hK
              go_simp
              refine hK _ _ ?_
              clear hK K
              have HA3 : Hid (FAt ((w3.drewN nq3).setCell ⟨ovg, i2, none⟩ (.int .i64 (r : Int))) base ss B ovg beg hig m (ov'.set i2 (r : Int)) be' hi (.slice (some ⟨pg, 0, none⟩) p.length pc1) p) := (HA2.out.same (w' := w3.drewN nq3) rfl).setO i2 (r : Int)
              have HB3 : Hid (Below base w ((w3.drewN nq3).setCell ⟨ovg, i2, none⟩ (.int .i64 (r : Int)))) := Below.setCell (p := ⟨ovg, i2, none⟩) (bel_drewN HB2.out nq3) HNE.out.2.1.1 _
              go_wp2
              go_roundw
              case rel => exact ⟨(k : Int) - 1, k, ov'.set i2 (r : Int), be', i2, r, by first | rfl | (rw [hwk]) | (congr 1; omega), rfl, by omega, hi2z, HCL2.out, HX2.out.1, HX2.out.2, HPP.out, HA3.out, HB3.out⟩
              case measure => simp only [intOf]; omega
      · have co2 := hq.out.2.2.1.o ho2
        have hne : ¬ (o2 : Int) = -1 := by omega
        have hne' : ((o2 : Int) != -1) = true := by simp [hne]
        have HCL : Hid (Clb ov z (p ++ [(i : Int)]) o1) := .snoc hq.out.2.1 HO1.out ho1i
        have HB0 : Hid _ := hq.out.2.2.2
        have HA0 : Hid _ := hq.out.2.2.1
        have HPL : Hid (p.length ≤ z) := by have := clb_len hq.out.2.1; show _ ≤ _; omega
        have HO1L : Hid (L ≤ o1) := ho1L
        clear ho2 hq
        go_wp2
        go_quiet (fail)
        have HA1 : Hid (FAt (wr.drewN nq) base ss B ovg beg hig m ov be hi (.slice pa1 p.length pc1) p) := HA0.out.same rfl
        have HB1 : Hid (Below base w (wr.drewN nq)) := bel_drewN HB0.out nq
        clear HA0 HB0 c0 c1 c2 c3 f3 co1 co2
        generalize wr.drewN nq = w1 at *
        obtain ⟨c0, c1, c2, c3, f3⟩ := HA1.out.box
        obtain ⟨i0, hi0, hz0, hz1, hz2⟩ := info_parts (P := Tryz.prog) infoI
        have hbs := HA1.out.hb
        go_wp2_with (at_builtin; go_loud (refine wpList_append_own_at _ rfl _ _ 23 rfl base 3 i0 (.int .i64 0) 1 8 Tryz.underlying23 hi0 hz0 hz1 hz2 rfl (by decide) (.slice pa1 p.length pc1) p.length (p.map intV) rfl (HA1.out.path.alloc _) ⟨w1.heap.size, 0, none⟩ 1 1 [intV i] rfl rfl ?c1 ?c2 ?c3 ?c4 ?c5 ?_))
        case c1 => exact cell_one_new w1 (intV i) 3
        case c2 => intro u hu; simp at hu; subst hu; rfl
        case c3 => have := HPL.out; unfold maxLen; omega
        case c4 => have := HPL.out; omega
        case c5 => simp; omega
        intro v2 w2 ho hg2 _ hat
        have ho' : w2.ownsRow base 3 1 v2 (p ++ [(i : Int)]).length ((p ++ [(i : Int)]).map intV) := by simpa using ho
        obtain ⟨a2, cc2, hv2⟩ := own_sl ho'
        rw [show (p ++ [(i : Int)]).length = p.length + 1 by simp] at hv2
        have HA2' : FAt (w1.alloc (.cells #[intV i] 3)) base ss B ovg beg hig m ov be hi (.slice pa1 p.length pc1) p := ⟨HA1.out.len, HA1.out.hp.below (below_alloc (Below.refl _ _) _), HA1.out.h3, by simp; omega⟩
        obtain ⟨hA3, e3, g3⟩ := HA2'.turnP (w' := w2) ho' hg2 (by rcases hat with h | h; exact .inl h; exact .inr (.inl (by rw [h]; simp)))
        have hB3 : Below base w (w2.setCell ⟨B, 3, none⟩ v2) := Below.setCell (p := ⟨B, 3, none⟩) (bel_grown (bel_alloc HB1.out HBW.out _) HBW.out hg2 (fun g e => (HA1.out.path.lt g e).1)) HA1.out.ne.1.1 _
        subst hv2
        have c0' := hA3.box.1
        have co' := hA3.o HO1.out
        have HA3 : Hid _ := hA3
        have HB3 : Hid _ := hB3
        clear hA3 hB3 ho ho' hg2 hat HA2' c0 c1 c2 c3 f3
        go_wp2
        go_roundw
        case rel => exact ⟨o1, p ++ [(i : Int)], _, rfl, by omega, HO1L.out, HCL.out, HA3.out, HB3.out⟩
        case measure => simp [intOf]; omega
end Go.Proofs.YtogjjmbcbnceoaaGreat
