/- Rows that are grown while they are still read in front. -/
import Derived.Test.YtogjjmbcbnceoaaGreatDHp
import Derived.Test.YtogjjmbcbnceoaaGreatKApartM
namespace Go.Proofs.YtogjjmbcbnceoaaGreat
open Go.RowKit

/-- A row put to a row of one's own: what was read of it is still there. -/
theorem append_front (w : World) (base : Nat) (ty : TypeId) (v : Value) (xs ys : List Int) (a : Addr) (c : Nat) (hown : OwnI w base v xs) (hy : ∀ j u, (ys.map intV)[j]? = some u → w.cell? (a.add j) = some u) (hl : xs.length + ys.length ≤ 1000000) (hb : base ≤ w.heap.size) :
    ∃ v' w', (Builtin.append_ #[23, 23] ty #[v, .slice (some a) ys.length c]).run Tryz.prog w = .ok v' w' ∧ OwnI w' base v' (xs ++ ys) ∧ w.grownBy w' v.ownBlock ∧ OwnI w' base v xs ∧ (v'.ownBlock = v.ownBlock ∨ v'.ownBlock = some w.heap.size) := by
  obtain ⟨i0, hi0, hz0, hz1, hz2⟩ := info_parts (P := Tryz.prog) infoI
  have h1c : ∀ u ∈ ys.map intV, u.oneCell' = true := fun u hu => by obtain ⟨z, _, rfl⟩ := List.mem_map.1 hu; rfl
  obtain ⟨v', w', hr, h2, h3, _, h5⟩ := run_append_own_at (P := Tryz.prog) w base 23 ty 3 i0 (.int .i64 0) 1 8 Tryz.underlying23 hi0 hz0 hz1 hz2 rfl (by decide) v xs.length (xs.map intV) hown a ys.length c (ys.map intV) (by simp) hy h1c (by unfold maxLen; omega) (by omega) hb
  have h2' : OwnI w' base v' (xs ++ ys) := by
    show World.ownsRow _ _ _ _ _ _ _
    rw [List.length_append, List.map_append]
    exact h2
  refine ⟨v', w', hr, h2', h3, ?_, h5⟩
  rcases hown.2 with ⟨hv, h0⟩ | ⟨g, cap, cur, hv, hbg, hg, hnc, hcm, hcs, htake⟩
  · rw [hv, List.eq_nil_of_length_eq_zero h0]
    exact World.ownsRow_nil _ _ _ _
  · subst hv
    by_cases hroom : xs.length + ys.length ≤ cap
    · have hr2 := run_append_room (P := Tryz.prog) w 23 ty 3 i0 Tryz.underlying23 hi0 g xs.length cap cur hg a ys.length c (ys.map intV) (by simp [hz1]) hy h1c hroom (by rw [hz1, hcs]; simp; omega)
      rw [hr] at hr2
      injection hr2 with e1 e2
      refine ⟨by simp, .inr ⟨g, cap, _, rfl, hbg, by rw [e2]; exact setRow_heap w g cur _ 3 _ hg, hnc, hcm, ?_, ?_⟩⟩
      · simp only [hz1, List.size_toArray, List.length_append, List.length_take, List.length_drop, Array.length_toList, List.length_map]
        omega
      · simp only [hz1] at htake ⊢
        rw [List.append_assoc, List.take_append_of_le_length (by simp; omega), List.take_take, Nat.min_self]
        exact htake
    · have hr2 := run_append_grow (P := Tryz.prog) w 23 ty 3 i0 (.int .i64 0) Tryz.underlying23 hi0 hz0 ⟨g, 0, none⟩ xs.length cap (xs.map intV) (by simp [hz1]) (World.ownsRow.cells hown (g := g) rfl) a ys.length c (ys.map intV) (by simp [hz1]) hy (by omega) (by omega) (by
        rw [hz2]
        exact growslice_fits (by omega) (by omega))
      rw [hr] at hr2
      injection hr2 with e1 e2
      refine ⟨by simp, .inr ⟨g, cap, cur, rfl, hbg, ?_, hnc, hcm, hcs, htake⟩⟩
      rw [e2]
      have hgl := (Array.getElem?_eq_some_iff.1 hg).1
      exact ((below_alloc (Below.refl _ w.drew) _).block g hgl).trans hg
/-- Another name of the same row, in front. -/
theorem own_alias {w w' : World} {base : Nat} {u v : Value} {xs t R : List Int} (hu : OwnI w base u R) (hv : OwnI w base v xs) (hp : xs = R ++ t) (h1 : OwnI w' base v xs) (hg : w.grownBy w' v.ownBlock) : OwnI w' base u R := by
  by_cases e : u.ownBlock = v.ownBlock
  · rcases hu.2 with ⟨hn, h0⟩ | ⟨g, cap, cur, hgu, hbg, hh, hnc, hcm, hcs, htk⟩
    · rw [hn, List.eq_nil_of_length_eq_zero h0]
      exact World.ownsRow_nil _ _ _ _
    · subst hgu
      rcases hv.2 with ⟨hn, h0⟩ | ⟨g2, cap2, cur2, hgv, hbg2, hh2, hnc2, hcm2, hcs2, htk2⟩
      · rw [hn] at e
        simp [Value.ownBlock] at e
      · subst hgv
        simp [Value.ownBlock] at e
        subst e
        rw [hh] at hh2
        have hcc : cur = cur2 := by cases hh2; rfl
        subst hcc
        have hcap : cap = cap2 := by omega
        subst hcap
        have h3 := own_take h1 (m := R.length) (by rw [hp]; simp)
        have h4 : (xs.map intV).take (R.length * 1) = R.map intV := by rw [hp, List.map_append, Nat.mul_one, List.take_append_of_le_length (by simp), List.take_of_length_le (by simp)]
        rw [h4] at h3
        exact h3
  · exact owns_same hu fun q hq => hg.block q (World.ownsRow.lt hu q hq).2 (fun e2 => e (hq.trans e2))
def upd {α : Type} (f : Nat → α) (k : Nat) (x : α) : Nat → α := fun j => if j = k then x else f j
theorem upd_same {α : Type} (f : Nat → α) (k : Nat) (x : α) : upd f k x k = x := by simp [upd]
theorem upd_ne {α : Type} (f : Nat → α) {k j : Nat} (x : α) (h : j ≠ k) : upd f k x j = f j := by simp [upd, h]
/-- Rows, and what has grown of each. -/
structure FL (w : World) (base n : Nat) (vs gv : Nat → Value) (R Q : Nat → List Int) : Prop where
  own : ∀ k, k < n → OwnI w base (vs k) (R k)
  gow : ∀ k, k < n → OwnI w base (gv k) (Q k)
  pre : ∀ k, k < n → ∃ t, Q k = R k ++ t
  ap : ∀ j k g, j < n → k < n → j ≠ k → ((vs j).ownBlock = some g ∨ (gv j).ownBlock = some g) → ¬ ((vs k).ownBlock = some g ∨ (gv k).ownBlock = some g)
theorem FL.below {w w' : World} {base n : Nat} {vs gv : Nat → Value} {R Q : Nat → List Int} (h : FL w base n vs gv R Q) (hb : Below w.heap.size w w') : FL w' base n vs gv R Q :=
  ⟨fun k hk => owns_below (h.own k hk) hb, fun k hk => owns_below (h.gow k hk) hb, h.pre, h.ap⟩
/-- Nothing of them is touched. -/
theorem FL.but {w w' : World} {base n : Nat} {vs gv : Nat → Value} {R Q : Nat → List Int} (h : FL w base n vs gv R Q) {r : Option Nat} (hg : w.grownBy w' r) (hr : ∀ k g, k < n → ((vs k).ownBlock = some g ∨ (gv k).ownBlock = some g) → r ≠ some g) : FL w' base n vs gv R Q :=
  ⟨fun k hk => owns_same (h.own k hk) fun q hq => hg.block q (World.ownsRow.lt (h.own k hk) q hq).2 (fun e => hr k q hk (.inl hq) e.symm), fun k hk => owns_same (h.gow k hk) fun q hq => hg.block q (World.ownsRow.lt (h.gow k hk) q hq).2 (fun e => hr k q hk (.inr hq) e.symm), h.pre, h.ap⟩
theorem FL.lt {w : World} {base n : Nat} {vs gv : Nat → Value} {R Q : Nat → List Int} (h : FL w base n vs gv R Q) {k g : Nat} (hk : k < n) (hg : (vs k).ownBlock = some g ∨ (gv k).ownBlock = some g) : g < w.heap.size := by
  rcases hg with hg | hg
  · exact (World.ownsRow.lt (h.own k hk) g hg).2
  · exact (World.ownsRow.lt (h.gow k hk) g hg).2
/-- What has grown of one is replaced. -/
theorem FL.put {w w' : World} {base n : Nat} {vs gv : Nat → Value} {R Q : Nat → List Int} (h : FL w base n vs gv R Q) {k : Nat} (hk : k < n) {u : Value} (hu : (vs k).ownBlock = u.ownBlock ∨ (gv k).ownBlock = u.ownBlock) {v' : Value} {t : List Int} (hg : w.grownBy w' u.ownBlock) (hv : OwnI w' base (vs k) (R k)) (ho : OwnI w' base v' (R k ++ t)) (hat : v'.ownBlock = u.ownBlock ∨ v'.ownBlock = some w.heap.size) : FL w' base n vs (upd gv k v') R (upd Q k (R k ++ t)) := by
  have far : ∀ j q, j < n → j ≠ k → ((vs j).ownBlock = some q ∨ (gv j).ownBlock = some q) → some q ≠ u.ownBlock := fun j q hj hjk hq e => by
    refine h.ap j k q hj hk hjk hq ?_
    rcases hu with e2 | e2
    · exact .inl (e2.trans e.symm)
    · exact .inr (e2.trans e.symm)
  refine ⟨fun j hj => ?_, fun j hj => ?_, fun j hj => ?_, fun i j g hi hj hij h1 h2 => ?_⟩
  · by_cases e : j = k
    · subst e; exact hv
    · exact owns_same (h.own j hj) fun q hq => hg.block q (World.ownsRow.lt (h.own j hj) q hq).2 (far j q hj e (.inl hq))
  · by_cases e : j = k
    · subst e; rw [upd_same, upd_same]; exact ho
    · rw [upd_ne _ _ e, upd_ne _ _ e]
      exact owns_same (h.gow j hj) fun q hq => hg.block q (World.ownsRow.lt (h.gow j hj) q hq).2 (far j q hj e (.inr hq))
  · by_cases e : j = k
    · subst e; rw [upd_same]; exact ⟨t, rfl⟩
    · rw [upd_ne _ _ e]; exact h.pre j hj
  · have key : ∀ (j : Nat), j < n → j ≠ k → ((vs j).ownBlock = some g ∨ (gv j).ownBlock = some g) → ¬ ((vs k).ownBlock = some g ∨ v'.ownBlock = some g) := fun j hj hjk hjg hkg => by
      rcases hkg with h3 | h3
      · exact h.ap j k g hj hk hjk hjg (.inl h3)
      · rcases hat with e | e
        · exact far j g hj hjk hjg (by rw [← e, h3])
        · rw [e] at h3
          cases h3
          have := h.lt hj hjg
          omega
    by_cases e1 : i = k
    · subst e1
      rw [upd_same] at h1
      rw [upd_ne _ _ (fun e => hij e.symm)] at h2
      exact key j hj (fun e => hij e.symm) h2 h1
    · rw [upd_ne _ _ e1] at h1
      by_cases e2 : j = k
      · subst e2
        rw [upd_same] at h2
        exact key i hi e1 h1 h2
      · rw [upd_ne _ _ e2] at h2
        exact h.ap i j g hi hj hij h1 h2
end Go.Proofs.YtogjjmbcbnceoaaGreat
/- Rows that are written over with marks; what stands in front of them. -/
namespace Go.Proofs.YtogjjmbcbnceoaaGreat
open Go.RowKit

abbrev slK (g n : Nat) : Value := .slice (some ⟨g, 0, none⟩) n n
theorem grown_setK (w : World) (g j : Nat) (u : Value) : w.grownBy (w.setCell ⟨g, j, none⟩ u) (some g) :=
  ⟨rfl, rfl, rfl, by simp [World.setCell], fun k _ hk => Below.heap_setCell _ _ _ _ (fun e => hk (by rw [e]))⟩
theorem own_setI {w : World} {base g c m : Nat} {R : List Int} (h : OwnI w base (.slice (some ⟨g, 0, none⟩) m c) R) (i : Nat) (x : Int) : OwnI (w.setCell ⟨g, i, none⟩ (.int .i64 x)) base (.slice (some ⟨g, 0, none⟩) m c) (R.set i x) := by
  have hm : m = R.length := by
    rcases own_shape h with ⟨h1, _⟩ | ⟨g', c', h1, _⟩
    · cases h1
    · cases h1; rfl
  subst hm
  have h9 := (World.ownsRow.stored h i (.int .i64 x)).1
  show World.ownsRow _ _ _ _ _ _ _
  rw [List.map_set, List.length_set]
  exact h9
theorem own_slK {w : World} {base : Nat} {e : TypeId} {sz : Nat} {v : Value} {n : Nat} {xs : List Value} (h : w.ownsRow base e sz v n xs) : ∃ a c, v = .slice a n c ∧ (0 < n → ∃ g, a = some ⟨g, 0, none⟩ ∧ g < w.heap.size) := by
  rcases own_shape h with ⟨h1, h2⟩ | ⟨g, c, h1, _, _, _, h2⟩
  · exact ⟨none, 0, by rw [h1, h2], fun h0 => by omega⟩
  · exact ⟨_, _, h1, fun _ => ⟨g, rfl, h2⟩⟩
theorem own_getK {w : World} {base g c n : Nat} {p : List Int} (h : OwnI w base (.slice (some ⟨g, 0, none⟩) n c) p) {i : Nat} {x : Int} (hx : p[i]? = some x) : w.cell? ⟨g, i, none⟩ = some (.int .i64 x) := by
  have hi := (List.getElem?_eq_some_iff.1 hx).1
  have hm : n = p.length := by
    rcases own_shape h with ⟨h1, _⟩ | ⟨g', c', h1, _⟩
    · cases h1
    · cases h1; rfl
  subst hm
  rw [World.ownsRow.cellAt h i (by omega), List.getElem?_map, hx]
  rfl
theorem FL.setR {w : World} {base n : Nat} {vs : Nat → Value} {R : Nat → List Int} (h : FL w base n vs vs R R) {k g m c : Nat} (hk : k < n) (hv : vs k = .slice (some ⟨g, 0, none⟩) m c) (i : Nat) (x : Int) : FL (w.setCell ⟨g, i, none⟩ (.int .i64 x)) base n vs vs (upd R k ((R k).set i x)) (upd R k ((R k).set i x)) := by
  have hg : (vs k).ownBlock = some g := by rw [hv]; rfl
  have one : ∀ j, j < n → OwnI (w.setCell ⟨g, i, none⟩ (.int .i64 x)) base (vs j) (upd R k ((R k).set i x) j) := fun j hj => by
    by_cases e : j = k
    · subst e
      rw [upd_same]
      have h1 := h.own j hj
      rw [hv] at h1 ⊢
      exact own_setI h1 i x
    · rw [upd_ne _ _ e]
      exact owns_other (h.own j hj) (fun hq => h.ap j k g hj hk e (.inl hq) (.inl hg)) _
  exact ⟨one, one, fun j _ => ⟨[], by simp⟩, h.ap⟩
theorem FL.of {w : World} {base : Nat} {vs : List Value} {ls : List (List Int)} (h : Aparts w base vs ls) : FL w base vs.length (fun k => vs.getD k nilV) (fun k => vs.getD k nilV) (fun k => ls.getD k []) (fun k => ls.getD k []) := by
  have get : ∀ k, k < vs.length → vs[k]? = some (vs.getD k nilV) ∧ ls[k]? = some (ls.getD k []) := fun k hk => ⟨by rw [getD_of hk, List.getElem?_eq_getElem hk], by rw [getD_of (by rw [← h.len]; exact hk), List.getElem?_eq_getElem]⟩
  refine ⟨fun k hk => (h.own k _ _ (get k hk).1 (get k hk).2).1, fun k hk => (h.own k _ _ (get k hk).1 (get k hk).2).1, fun k _ => ⟨[], by simp⟩, fun i j g hi hj hij h1 h2 => ?_⟩
  exact h.apart i j _ _ g hij (get i hi).1 (get j hj).1 (h1.elim id id) (h2.elim id id)
theorem marks_drop {k : Int} {l : List Int} {i : Nat} (h : i < l.length) : (marks k i ++ l.drop i).set i (markI k (i : Int)) = marks k (i + 1) ++ l.drop (i + 1) := by
  rw [List.set_append_right _ _ (by rw [marks_len]; exact Nat.le_refl _), marks_len, Nat.sub_self, List.drop_eq_getElem_cons h, List.set_cons_zero, marks_succ]
  simp
theorem marks_all {k : Int} {l : List Int} : marks k l.length ++ l.drop l.length = marks k l.length := by simp
theorem marks_zero (k : Int) (l : List Int) : marks k 0 ++ l.drop 0 = l := by simp [marks]
theorem drop_len {k : Int} {l : List Int} {i : Nat} (h : i ≤ l.length) : (marks k i ++ l.drop i).length = l.length := by simp [marks_len]; omega
/-- append by its run. -/
theorem wpList_append_is {P : Program} {w : World} {ops : Array Oper} {rest : List Oper} {o : Oper} {a : Act} {Q : Exit → Act → World → Prop} (hg : o.guard = none) (s x : Operand) (t : TypeId) (hop : o.op = Op.call { callee := Callee.builtin Builtin.append, args := #[s, x], argTypes := #[t, t] })
    (v y v' : Value) (w' : World) (hs : a.eval s = v) (hx : a.eval x = y) (hrun : (Builtin.append_ #[t, t] o.type #[v, y]).run P w = .ok v' w') (h : wpList P ops Q rest (a.put o.dst v') w') : wpList P ops Q (o :: rest) a w := by
  refine wpList_plain hg fun K hK => ?_
  unfold Oper.wp execOp
  simp only [hop, resolve, invoke, builtin, Sem.run_bind, Sem.run_pure, Result.andThen_ok, List.map_toArray, List.map_cons, List.map_nil, hs, hx, hrun]
  exact hK _ _ h
end Go.Proofs.YtogjjmbcbnceoaaGreat
/- The rows, what has grown of them, and the list of what has grown. -/
namespace Go.Proofs.YtogjjmbcbnceoaaGreat
open Go.RowKit

structure ZF (W wr : World) (base n Gs : Nat) (S : Nat → Prop) (vf gv : Nat → Value) (R Q : Nat → List Int) (gm : List Value) : Prop where
  only : Only W wr S
  fl : FL wr base n vf gv R Q
  gs : wr.ownsRow base 23 1 (slK Gs n) n gm
  nb : ∀ j, j < n → ∀ g, (gv j).ownBlock = some g → S g ∨ Gs < g
/-- What they hang on. -/
structure ZE (W : World) (n Gs : Nat) (S : Nat → Prop) (vf : Nat → Value) : Prop where
  lt : ∀ g, S g → g < W.heap.size
  vs : ∀ j, j < n → ∀ g, (vf j).ownBlock = some g → S g
  gs : W.heap.size ≤ Gs
theorem ZF.below {W wr w' : World} {base n Gs : Nat} {S : Nat → Prop} {vf gv : Nat → Value} {R Q : Nat → List Int} {gm : List Value} (h : ZF W wr base n Gs S vf gv R Q gm) (hb : Below wr.heap.size wr w') : ZF W w' base n Gs S vf gv R Q gm :=
  ⟨h.only.after hb, h.fl.below hb, owns_below h.gs hb, h.nb⟩
theorem ZF.notGs {W wr : World} {base n Gs : Nat} {S : Nat → Prop} {vf gv : Nat → Value} {R Q : Nat → List Int} {gm : List Value} (E : ZE W n Gs S vf) (h : ZF W wr base n Gs S vf gv R Q gm) {j g : Nat} (hj : j < n) (hg : (vf j).ownBlock = some g ∨ (gv j).ownBlock = some g) : g ≠ Gs := by
  have hE := E.gs
  rcases hg with hg | hg
  · have := E.lt g (E.vs j hj g hg); omega
  · rcases h.nb j hj g hg with h1 | h1
    · have := E.lt g h1; omega
    · omega
/-- One grows. -/
theorem ZF.put {W wr wa w' : World} {base n Gs : Nat} {S : Nat → Prop} {vf gv : Nat → Value} {R Q : Nat → List Int} {gm : List Value} (E : ZE W n Gs S vf) (h : ZF W wr base n Gs S vf gv R Q gm) {k : Nat} (hk : k < n) (hA : Below wr.heap.size wr wa) {u : Value} (hu : (vf k).ownBlock = u.ownBlock ∨ (gv k).ownBlock = u.ownBlock) {v' : Value} {t : List Int} (hg : wa.grownBy w' u.ownBlock) (hv : OwnI w' base (vf k) (R k)) (ho : OwnI w' base v' (R k ++ t)) (hat : v'.ownBlock = u.ownBlock ∨ v'.ownBlock = some wa.heap.size) :
    ZF W w' base n Gs S vf (upd gv k v') R (upd Q k (R k ++ t)) gm := by
  have ha := h.below hA
  have hu2 : ∀ g, u.ownBlock = some g → (vf k).ownBlock = some g ∨ (gv k).ownBlock = some g := fun g hg => hu.imp (fun e => e.trans hg) (fun e => e.trans hg)
  have hS : ∀ g, u.ownBlock = some g → S g ∨ Gs < g := fun g hg => (hu2 g hg).elim (fun e => .inl (E.vs k hk g e)) (fun e => h.nb k hk g e)
  refine ⟨ha.only.grown hg fun g hgl e => ?_, ha.fl.put hk hu hg hv ho hat, owns_same ha.gs fun q hq => ?_, fun j hj g hgj => ?_⟩
  · rcases hS g e with h1 | h1
    · exact h1
    · have := E.gs; omega
  · simp [Value.ownBlock] at hq
    subst hq
    exact hg.block _ (World.ownsRow.lt ha.gs _ rfl).2 (fun e => ha.notGs E hk (hu2 _ e.symm) rfl)
  · by_cases e : j = k
    · subst e
      rw [upd_same] at hgj
      rcases hat with e2 | e2
      · exact hS g (e2 ▸ hgj)
      · rw [e2] at hgj
        cases hgj
        exact .inr (World.ownsRow.lt ha.gs Gs rfl).2
    · rw [upd_ne _ _ e] at hgj
      exact h.nb j hj g hgj
/-- What has grown is written down. -/
theorem ZF.store {W wr : World} {base n Gs : Nat} {S : Nat → Prop} {vf gv : Nat → Value} {R Q : Nat → List Int} {gm : List Value} (E : ZE W n Gs S vf) (h : ZF W wr base n Gs S vf gv R Q gm) (k : Nat) (x : Value) : ZF W (wr.setCell ⟨Gs, k, none⟩ x) base n Gs S vf gv R Q (gm.set k x) := by
  have hg : wr.grownBy (wr.setCell ⟨Gs, k, none⟩ x) (some Gs) := grown_setK wr Gs k x
  refine ⟨h.only.grown hg fun g hgl e => ?_, h.fl.but hg fun j g hj hjg e => h.notGs E hj hjg (by cases e; rfl), (World.ownsRow.stored h.gs k x).1, h.nb⟩
  cases e
  have := E.gs
  omega
/-- Something else is written. -/
theorem ZF.but {W wr w' : World} {base n Gs : Nat} {S : Nat → Prop} {vf gv : Nat → Value} {R Q : Nat → List Int} {gm : List Value} (h : ZF W wr base n Gs S vf gv R Q gm) {M : Nat} (hM : W.heap.size ≤ M) (hMG : M ≠ Gs) (hMF : ∀ j, j < n → ∀ g, ((vf j).ownBlock = some g ∨ (gv j).ownBlock = some g) → g ≠ M) (hg : wr.grownBy w' (some M)) : ZF W w' base n Gs S vf gv R Q gm :=
  ⟨h.only.grown hg fun g hgl e => by cases e; omega, h.fl.but hg fun j g hj hjg e => hMF j hj g hjg (by cases e; rfl), owns_same h.gs fun q hq => by
    simp [Value.ownBlock] at hq
    subst hq
    exact hg.block _ (World.ownsRow.lt h.gs _ rfl).2 (fun e => hMG (by cases e; rfl)), h.nb⟩
end Go.Proofs.YtogjjmbcbnceoaaGreat
