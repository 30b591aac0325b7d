/- Rows that lie apart are written over and grown: what stands; a region whose operations but the last only read or make. -/
import Derived.Test.YtajaijilfclhpaaGreatDoorGLstM
import Derived.Test.YtajaijilfclhpaaGreatDoorGRCxM
import Derived.Lib.QuietBelow
import Derived.Maps.AppendAt
namespace Go.Proofs.YtajaijilfclhpaaGreatDoor
open Go.RowKit Go.Sort

theorem wp_region_lastC {P : Program} {id : Nat} {Q : Exit → Act → World → Prop} {a : Act} {w : World} {L : List Oper} {C : World → Prop} (hC : C { w with drawn := w.drawn + 1 }) (m : Nat) (o : Oper) (ho : L.toArray[m]? = some o) (hg : o.guard = none) (hm : P.follows .mixedOrders = true) (hB : Region.lexB .any (L.take m).toArray = true) (hml : decide (L.length = m + 1) = true) (hp : preB .any L.toArray m (Array.replicate L.length false) = true) (hr : Region.ready .any L.toArray (listed1 L.length m) = [m]) (hr2 : Region.ready .any L.toArray ((listed1 L.length m).setIfInBounds m true) = [])
  (h : wpQuiet P (L.take m).toArray C (fun a' => ∀ w', C w' → ∀ K : Act → World → Prop, (∀ a w, Q .normal a w → K a w) → o.wp P a' w' K Q) (L.take m) a) : (Code.region id L.toArray true).wp P Q a w := by
 have hml' : L.length = m + 1 := by simpa using hml
 have e : L.length - m = 1 := by omega
 have hF : ∀ (a' : Act), (∀ w', C w' → ∀ K : Act → World → Prop, (∀ a w, Q .normal a w → K a w) → o.wp P a' w' K Q) → ∀ w', C w' → wpAny P .any L.toArray Q (L.length - m) (listed1 L.length m) a' w' := fun a' ha w' hw => by
  rw [e]
  refine ⟨fun h0 => (by rw [hr] at h0; cases h0), fun i hi => ?_⟩
  rw [hr] at hi
  have : i = m := by simpa using hi
  subst this
  unfold wpOp
  simp only [ho]
  rw [if_pos (by simp [Region.wanted, hg])]
  exact .inl (ha w' hw _ fun a w hq => ⟨hr2, hq⟩)
 have mono : ∀ (l : List Oper) (a : Act) (Q1 Q2 : Act → Prop), (∀ a, Q1 a → Q2 a) → wpQuiet P (L.take m).toArray C Q1 l a → wpQuiet P (L.take m).toArray C Q2 l a := by
  intro l
  induction l with
  | nil => intro a Q1 Q2 h12 h; exact h12 _ h
  | cons o l ih =>
   intro a Q1 Q2 h12 h
   unfold wpQuiet at h ⊢
   split
   ·rename_i hw
    rw [if_pos hw] at h
    exact Oper.quiet_mono (fun a h => ih a Q1 Q2 h12 h) h
   ·rename_i hw
    rw [if_neg hw] at h
    exact ih _ Q1 Q2 h12 h
 refine wp_region_any hm ?_
 have hpre := Pre.of (md := .any) (show m ≤ L.length by omega) (by simp) hp
 simp only [Region.lexB, Bool.and_eq_true] at hB
 have hq := wpAnyQ_lex (C := C) (md := .any) hB.1 (L.take m) 0 (Array.replicate m false) a (by simp) (by simpa [Nat.min_eq_left (show m ≤ L.length by omega)] using hB.2) (mono _ _ _ _ hF h)
 have hl : (L.take m).length = m := by rw [List.length_take]; omega
 rw [hl] at hq
 have := pre_main (P := P) (r := L.length - m) (C := C) (Q := Q) (l1 := listed1 L.length m) (l0 := Array.replicate L.length false) hpre (fun j hj => by rw [listed1_at, if_pos (by omega), decide_eq_true hj]) (fun k hk => by
  rw [listed1_at, Array.getElem?_replicate, decide_eq_false (by omega)]) (fun a' w' hw' hqm => hqm w' hw') m (Array.replicate L.length false) (Array.replicate m false) a { w with drawn := w.drawn + 1 } ⟨by simp, by simp, fun j hj => by simp [Array.getElem?_replicate, hj]; omega, fun k hk => rfl, fun j o hj hl => by simp [Array.getElem?_replicate] at hl⟩ hC hq
 rw [show m + (L.length - m) = L.toArray.size by simp; omega] at this
 simpa using this
theorem own_takeK {w : World} {base : Nat} {e : TypeId} {sz g n c m : Nat} {cs : List Value} (h : w.ownsRow base e sz (.slice (some ⟨g, 0, none⟩) n c) n cs) (hm : m ≤ n) : w.ownsRow base e sz (.slice (some ⟨g, 0, none⟩) m c) m (cs.take (m * sz)) := by
 have hle : m * sz ≤ n * sz := Nat.mul_le_mul_right _ hm
 refine ⟨by rw [List.length_take, h.1]; omega, ?_⟩
 rcases h.2 with ⟨h0, _⟩ | ⟨g', cap, cur, hv, h1, hh, h2, h3, h4, h5⟩
 ·cases h0
 ·injection hv with e1 e2 e3
  cases e1
  subst e3
  refine .inr ⟨g, c, cur, rfl, h1, hh, by omega, h3, h4, ?_⟩
  rw [← h5, List.take_take]
  congr 1
  omega
/-- A row put to a row of one's own: what was read of it is still there. -/
theorem append_frontG (w : World) (base : Nat) (S E ty : TypeId) (i0 : TypeInfo) (z : Value) (sz bytes : Nat) (hu : Tryz.prog.underlying S = some (.slice E)) (hi0 : Tryz.prog.info? E = some i0) (hz0 : i0.zero = some z) (hz1 : i0.size = sz) (hz2 : i0.bytes = bytes) (hzz : z.cells.size = sz) (hsz : 0 < sz) (v : Value) (n : Nat) (xs news : List Value) (a : Addr) (m c : Nat) (hown : w.ownsRow base E sz v n xs) (hnl : news.length = m * sz) (hy : ∀ j u, news[j]? = some u → w.cell? (a.add j) = some u) (h1c : ∀ u ∈ news, u.oneCell' = true) (hl : n + m ≤ maxLen) (hby : (n + m) * bytes ≤ 140737488355328) (hb : base ≤ w.heap.size) :
  ∃ v' w', (Builtin.append_ #[S, S] ty #[v, .slice (some a) m c]).run Tryz.prog w = .ok v' w' ∧ w'.ownsRow base E sz v' (n + m) (xs ++ news) ∧ w.grownBy w' v.ownBlock ∧ w'.ownsRow base E sz v n xs ∧ (v'.ownBlock = v.ownBlock ∨ v'.ownBlock = some w.heap.size) := by
 have hxl : xs.length = n * sz := hown.1
 obtain ⟨v', w', hr, h2, h3, _, h5⟩ := run_append_own_at (P := Tryz.prog) w base S ty E i0 z sz bytes hu hi0 hz0 hz1 hz2 hzz hsz v n xs hown a m c news hnl hy h1c hl hby hb
 refine ⟨v', w', hr, h2, h3, ?_, h5⟩
 rcases hown.2 with ⟨hv, h0⟩ | ⟨g, cap, cur, hv, hbg, hg, hnc, hcm, hcs, htake⟩
 ·subst h0
  rw [hv, List.eq_nil_of_length_eq_zero (hxl.trans (Nat.zero_mul _))]
  exact World.ownsRow_nil _ _ _ _
 ·subst hv
  by_cases hroom : n + m ≤ cap
  ·have hmul := Nat.mul_le_mul_right sz hroom
   rw [Nat.add_mul] at hmul
   have hr2 := run_append_room (P := Tryz.prog) w S ty E i0 hu hi0 g n cap cur hg a m c news (by rw [hz1]; exact hnl) hy h1c hroom (by rw [hz1, hcs, hnl]; exact hmul)
   rw [hr] at hr2
   injection hr2 with e1 e2
   refine ⟨hown.1, .inr ⟨g, cap, _, rfl, hbg, by rw [e2]; exact setRow_heap w g cur _ E _ hg, hnc, hcm, ?_, ?_⟩⟩
   ·simp only [hz1, List.size_toArray, List.length_append, List.length_take, List.length_drop, Array.length_toList]
    rw [hnl, hcs]
    omega
   ·simp only [hz1] at htake ⊢
    rw [List.append_assoc, List.take_append_of_le_length (by simp; omega), List.take_take, Nat.min_self]
    exact htake
  ·have hr2 := run_append_grow (P := Tryz.prog) w S ty E i0 z hu hi0 hz0 ⟨g, 0, none⟩ n cap xs (by rw [hz1]; exact hxl) (World.ownsRow.cells hown (g := g) rfl) a m c news (by rw [hz1]; exact hnl) hy (by omega) (by unfold maxLen at hl; omega) (by
    rw [hz2]
    exact growslice_fits (by omega) hby)
   rw [hr] at hr2
   injection hr2 with e1 e2
   refine ⟨hown.1, .inr ⟨g, cap, cur, rfl, hbg, ?_, hnc, hcm, hcs, htake⟩⟩
   rw [e2]
   have hgl := (Array.getElem?_eq_some_iff.1 hg).1
   exact ((below_alloc (Below.refl _ w.drew) _).block g hgl).trans hg
/-- Another name of the same row, in front. -/
theorem own_aliasG {w w' : World} {base : Nat} {E : TypeId} {sz n N : Nat} {u v : Value} {xs t R : List Value} (hu : w.ownsRow base E sz u n R) (hv : w.ownsRow base E sz v N xs) (hp : xs = R ++ t) (hn : n ≤ N) (h1 : w'.ownsRow base E sz v N xs) (hg : w.grownBy w' v.ownBlock) : w'.ownsRow base E sz u n R := by
 by_cases e : u.ownBlock = v.ownBlock
 ·rcases hu.2 with ⟨hnn, h0⟩ | ⟨g, cap, cur, hgu, hbg, hh, hnc, hcm, hcs, htk⟩
  ·subst h0
   rw [hnn, List.eq_nil_of_length_eq_zero (hu.1.trans (Nat.zero_mul _))]
   exact World.ownsRow_nil _ _ _ _
  ·have hul := hu.1
   subst hgu
   rcases hv.2 with ⟨hn2, h0⟩ | ⟨g2, cap2, cur2, hgv, hbg2, hh2, hnc2, hcm2, hcs2, htk2⟩
   ·rw [hn2] at e
    simp [Value.ownBlock] at e
   ·subst hgv
    simp [Value.ownBlock] at e
    subst e
    rw [hh] at hh2
    have hcc : cur = cur2 := by cases hh2; rfl
    subst hcc
    have h3 := own_takeK h1 hn
    have h4 : xs.take (n * sz) = R := by rw [hp, List.take_append_of_le_length (by omega), List.take_of_length_le (by omega)]
    rw [h4] at h3
    rcases h3.2 with ⟨h0, _⟩ | ⟨g3, cap3, cur3, hv3, b1, b2, b3, b4, b5, b6⟩
    ·cases h0
    ·cases hv3
     rcases h1.2 with ⟨h0, _⟩ | ⟨g4, cap4, cur4, hv4, d1, d2, d3, d4, d5, d6⟩
     ·cases h0
     ·cases hv4
      refine ⟨hul, .inr ⟨g, cap, cur3, rfl, b1, b2, hnc, hcm, ?_, b6⟩⟩
      have hsame : cap * sz = cap2 * sz := by rw [← hcs, ← hcs2]
      rw [b5, hsame]
 ·exact owns_same hu fun q hq => hg.block q (World.ownsRow.lt hu q hq).2 (fun e2 => e (hq.trans e2))
def upd {α : Type} (f : Nat → α) (k : Nat) (x : α) : Nat → α := fun j => if j = k then x else f j
theorem upd_same {α : Type} (f : Nat → α) (k : Nat) (x : α) : upd f k x k = x := by simp [upd]
theorem upd_ne {α : Type} (f : Nat → α) {k j : Nat} (x : α) (h : j ≠ k) : upd f k x j = f j := by simp [upd, h]
/-- Cells written one behind the other. -/
def setS : List Value → Nat → List Value → List Value
 | l, _, [] => l
 | l, o, u :: us => setS (l.set o u) (o + 1) us
def setW (w : World) (g : Nat) : Nat → List Value → World
 | _, [] => w
 | o, u :: us => setW (w.setCell ⟨g, o, none⟩ u) g (o + 1) us
theorem setS_eq : ∀ (us l : List Value) (o : Nat), o + us.length ≤ l.length → setS l o us = l.take o ++ us ++ l.drop (o + us.length)
 | [], l, o, _ => by simp [setS]
 | u :: us, l, o, h => by
  have hlt : o < l.length := by simp at h; omega
  show setS (l.set o u) (o + 1) us = _
  rw [setS_eq us (l.set o u) (o + 1) (by simp at h ⊢; omega)]
  have h1 : (l.set o u).take (o + 1) = l.take o ++ [u] := by
   rw [List.take_add_one, List.getElem?_set_self (by simpa using hlt), List.take_set_of_le (Nat.le_refl o)]
   rfl
  have h2 : (l.set o u).drop (o + 1 + us.length) = l.drop (o + (u :: us).length) := by
   rw [List.drop_set_of_lt (by omega), List.length_cons]
   congr 1
   omega
  rw [h1, h2]
  simp
theorem own_setS {base : Nat} {E : TypeId} {sz g n c : Nat} : ∀ (us : List Value) {w : World} {cs : List Value} (o : Nat), w.ownsRow base E sz (.slice (some ⟨g, 0, none⟩) n c) n cs → (setW w g o us).ownsRow base E sz (.slice (some ⟨g, 0, none⟩) n c) n (setS cs o us)
 | [], _, _, _, h => h
 | u :: us, _, _, o, h => own_setS us (o + 1) (h.stored o u).1
theorem grown_setW (g : Nat) : ∀ (us : List Value) (w : World) (o : Nat), w.grownBy (setW w g o us) (some g)
 | [], w, _ => ⟨rfl, rfl, rfl, Nat.le_refl _, fun _ _ _ => rfl⟩
 | u :: us, w, o => by
  have h := grown_setW g us (w.setCell ⟨g, o, none⟩ u) (o + 1)
  have hs : (w.setCell ⟨g, o, none⟩ u).heap.size = w.heap.size := by simp [World.setCell]
  refine ⟨h.os, h.tape, h.output, by rw [← hs]; exact h.size, fun k hk hn => (h.block k (by rw [hs]; exact hk) hn).trans (Below.heap_setCell w ⟨g, o, none⟩ u k (fun e => hn (by rw [e])))⟩
theorem marks_next {f : Int → List Value} {sz m i : Nat} (hf : ∀ i, (f i).length = sz) {l : List Value} (hl : l.length = m * sz) (hi : i < m) : setS (mksL f i ++ l.drop (i * sz)) (i * sz) (f (i : Int)) = mksL f (i + 1) ++ l.drop ((i + 1) * sz) := by
 have h1 : (i + 1) * sz ≤ m * sz := Nat.mul_le_mul_right sz (by omega)
 rw [Nat.succ_mul] at h1
 have hml := mksL_len hf i
 rw [setS_eq _ _ _ (by rw [List.length_append, hml, List.length_drop, hf]; omega), List.take_left' hml, hf, mksL_succ, List.drop_append, hml, List.drop_drop]
 rw [show i * sz + sz - i * sz = sz by omega, List.drop_eq_nil_of_le (by omega), Nat.succ_mul]
 simp
/-- Rows, and what has grown of each. -/
structure FLc (E : TypeId) (sz : Nat) (w : World) (base n : Nat) (vs gv : Nat → Value) (N M : Nat → Nat) (R Q : Nat → List Value) : Prop where
 own : ∀ k, k < n → w.ownsRow base E sz (vs k) (N k) (R k)
 gow : ∀ k, k < n → w.ownsRow base E sz (gv k) (M k) (Q k)
 le : ∀ k, k < n → N k ≤ M k
 pre : ∀ k, k < n → ∃ t, Q k = R k ++ t
 ap : ∀ j k g, j < n → k < n → j ≠ k → ((vs j).ownBlock = some g ∨ (gv j).ownBlock = some g) → ¬ ((vs k).ownBlock = some g ∨ (gv k).ownBlock = some g)
theorem FLc.below {E : TypeId} {sz : Nat} {w w' : World} {base n : Nat} {vs gv : Nat → Value} {N M : Nat → Nat} {R Q : Nat → List Value} (h : FLc E sz w base n vs gv N M R Q) (hb : Below w.heap.size w w') : FLc E sz w' base n vs gv N M R Q :=
 ⟨fun k hk => owns_below (h.own k hk) hb, fun k hk => owns_below (h.gow k hk) hb, h.le, h.pre, h.ap⟩
theorem FLc.but {E : TypeId} {sz : Nat} {w w' : World} {base n : Nat} {vs gv : Nat → Value} {N M : Nat → Nat} {R Q : Nat → List Value} (h : FLc E sz w base n vs gv N M R Q) {r : Option Nat} (hg : w.grownBy w' r) (hr : ∀ k g, k < n → ((vs k).ownBlock = some g ∨ (gv k).ownBlock = some g) → r ≠ some g) : FLc E sz w' base n vs gv N M R Q :=
 ⟨fun k hk => owns_same (h.own k hk) fun q hq => hg.block q (World.ownsRow.lt (h.own k hk) q hq).2 (fun e => hr k q hk (.inl hq) e.symm), fun k hk => owns_same (h.gow k hk) fun q hq => hg.block q (World.ownsRow.lt (h.gow k hk) q hq).2 (fun e => hr k q hk (.inr hq) e.symm), h.le, h.pre, h.ap⟩
theorem FLc.lt {E : TypeId} {sz : Nat} {w : World} {base n : Nat} {vs gv : Nat → Value} {N M : Nat → Nat} {R Q : Nat → List Value} (h : FLc E sz w base n vs gv N M R Q) {k g : Nat} (hk : k < n) (hg : (vs k).ownBlock = some g ∨ (gv k).ownBlock = some g) : g < w.heap.size := by
 rcases hg with hg | hg
 ·exact (World.ownsRow.lt (h.own k hk) g hg).2
 ·exact (World.ownsRow.lt (h.gow k hk) g hg).2
/-- What has grown of one is replaced. -/
theorem FLc.put {E : TypeId} {sz : Nat} {w w' : World} {base n : Nat} {vs gv : Nat → Value} {N M : Nat → Nat} {R Q : Nat → List Value} (h : FLc E sz w base n vs gv N M R Q) {k m' : Nat} (hk : k < n) {u : Value} (hu : (vs k).ownBlock = u.ownBlock ∨ (gv k).ownBlock = u.ownBlock) {v' : Value} {t : List Value} (hg : w.grownBy w' u.ownBlock) (hv : w'.ownsRow base E sz (vs k) (N k) (R k)) (ho : w'.ownsRow base E sz v' m' (R k ++ t)) (hm : N k ≤ m') (hat : v'.ownBlock = u.ownBlock ∨ v'.ownBlock = some w.heap.size) : FLc E sz w' base n vs (upd gv k v') N (upd M k m') R (upd Q k (R k ++ t)) := by
 have far : ∀ j q, j < n → j ≠ k → ((vs j).ownBlock = some q ∨ (gv j).ownBlock = some q) → some q ≠ u.ownBlock := fun j q hj hjk hq e => by
  refine h.ap j k q hj hk hjk hq ?_
  rcases hu with e2 | e2
  ·exact .inl (e2.trans e.symm)
  ·exact .inr (e2.trans e.symm)
 refine ⟨fun j hj => ?_, fun j hj => ?_, fun j hj => ?_, fun j hj => ?_, fun i j g hi hj hij h1 h2 => ?_⟩
 ·by_cases e : j = k
  ·subst e; exact hv
  ·exact owns_same (h.own j hj) fun q hq => hg.block q (World.ownsRow.lt (h.own j hj) q hq).2 (far j q hj e (.inl hq))
 ·by_cases e : j = k
  ·subst e; rw [upd_same, upd_same, upd_same]; exact ho
  ·rw [upd_ne _ _ e, upd_ne _ _ e, upd_ne _ _ e]
   exact owns_same (h.gow j hj) fun q hq => hg.block q (World.ownsRow.lt (h.gow j hj) q hq).2 (far j q hj e (.inr hq))
 ·by_cases e : j = k
  ·subst e; rw [upd_same]; exact hm
  ·rw [upd_ne _ _ e]; exact h.le j hj
 ·by_cases e : j = k
  ·subst e; rw [upd_same]; exact ⟨t, rfl⟩
  ·rw [upd_ne _ _ e]; exact h.pre j hj
 ·have key : ∀ (j : Nat), j < n → j ≠ k → ((vs j).ownBlock = some g ∨ (gv j).ownBlock = some g) → ¬ ((vs k).ownBlock = some g ∨ v'.ownBlock = some g) := fun j hj hjk hjg hkg => by
   rcases hkg with h3 | h3
   ·exact h.ap j k g hj hk hjk hjg (.inl h3)
   ·rcases hat with e | e
    ·exact far j g hj hjk hjg (by rw [← e, h3])
    ·rw [e] at h3
     cases h3
     have := h.lt hj hjg
     omega
  by_cases e1 : i = k
  ·subst e1
   rw [upd_same] at h1
   rw [upd_ne _ _ (fun e => hij e.symm)] at h2
   exact key j hj (fun e => hij e.symm) h2 h1
  ·rw [upd_ne _ _ e1] at h1
   by_cases e2 : j = k
   ·subst e2
    rw [upd_same] at h2
    exact key i hi e1 h1 h2
   ·rw [upd_ne _ _ e2] at h2
    exact h.ap i j g hi hj hij h1 h2
theorem FLc.setR {E : TypeId} {sz : Nat} {w : World} {base n : Nat} {vs : Nat → Value} {N : Nat → Nat} {R : Nat → List Value} (h : FLc E sz w base n vs vs N N R R) {k g m c : Nat} (hk : k < n) (hv : vs k = .slice (some ⟨g, 0, none⟩) m c) (hm : N k = m) (o : Nat) (us : List Value) : FLc E sz (setW w g o us) base n vs vs N N (upd R k (setS (R k) o us)) (upd R k (setS (R k) o us)) := by
 have hg : (vs k).ownBlock = some g := by rw [hv]; rfl
 have one : ∀ j, j < n → (setW w g o us).ownsRow base E sz (vs j) (N j) (upd R k (setS (R k) o us) j) := fun j hj => by
  by_cases e : j = k
  ·subst e
   rw [upd_same]
   have h1 := h.own j hj
   rw [hv, hm] at h1 ⊢
   exact own_setS us o h1
  ·rw [upd_ne _ _ e]
   exact owns_same (h.own j hj) fun q hq => (grown_setW g us w o).block q (World.ownsRow.lt (h.own j hj) q hq).2 (fun e2 => h.ap j k g hj hk e (.inl (by rw [hq, e2])) (.inl hg))
 exact ⟨one, one, fun _ _ => Nat.le_refl _, fun j _ => ⟨[], by simp⟩, h.ap⟩
theorem Only.grown {w w1 w2 : World} {S : Nat → Prop} {row : Option Nat} (h : Only w w1 S) (hg : w1.grownBy w2 row) (hS : ∀ k, k < w.heap.size → row = some k → S k) : Only w w2 S :=
 ⟨h.low.trans ⟨hg.os, hg.tape, hg.output, hg.size, fun k hk => by omega⟩, fun k hk hn => (hg.block k (Nat.lt_of_lt_of_le hk h.low.size) (fun e => hn (hS k hk e.symm))).trans (h.same k hk hn)⟩
abbrev nilV : Value := .slice none 0 0
abbrev slK (g n : Nat) : Value := .slice (some ⟨g, 0, none⟩) n n
abbrev rowBl (vs : List Value) (k : Nat) : Prop := ∃ x ∈ vs, x.ownBlock = some k
/-- Rows of one's own, no two in one block. -/
structure ApartsC (E : TypeId) (sz : Nat) (w : World) (base : Nat) (vs : List Value) : Prop where
 own : ∀ (k : Nat) (x : Value), vs[k]? = some x → ∃ n cs, n ≤ 100000 ∧ w.ownsRow base E sz x n cs
 apart : ∀ (i j : Nat) (a b : Value) (g : Nat), i ≠ j → vs[i]? = some a → vs[j]? = some b → a.ownBlock = some g → b.ownBlock ≠ some g
theorem ApartsC.same {E : TypeId} {sz : Nat} {w w' : World} {base : Nat} {vs : List Value} (h : ApartsC E sz w base vs) (hs : ∀ g, rowBl vs g → w'.heap[g]? = w.heap[g]?) : ApartsC E sz w' base vs :=
 ⟨fun k x hx => by
  obtain ⟨n, cs, h1, h2⟩ := h.own k x hx
  exact ⟨n, cs, h1, owns_same h2 fun g hg => hs g ⟨x, List.mem_of_getElem? hx, hg⟩⟩, h.apart⟩
theorem ApartsC.lt {E : TypeId} {sz : Nat} {w : World} {base : Nat} {vs : List Value} (h : ApartsC E sz w base vs) {g : Nat} (hg : rowBl vs g) : base ≤ g ∧ g < w.heap.size := by
 obtain ⟨x, hx, hg⟩ := hg
 obtain ⟨k, hk⟩ := List.getElem?_of_mem hx
 obtain ⟨n, cs, _, h2⟩ := h.own k x hk
 exact World.ownsRow.lt h2 g hg
theorem ApartsC.below {E : TypeId} {sz : Nat} {w w' : World} {base : Nat} {vs : List Value} (h : ApartsC E sz w base vs) (hb : Below w.heap.size w w') : ApartsC E sz w' base vs :=
 h.same fun g hg => hb.block g (h.lt hg).2
theorem getD_vs {l : List Value} {k : Nat} (h : k < l.length) : l[k]? = some (l.getD k nilV) := by simp [List.getD, List.getElem?_eq_getElem h]
theorem ApartsC.fl {E : TypeId} {sz : Nat} {w : World} {base : Nat} {vs : List Value} (h : ApartsC E sz w base vs) : ∃ (vf : Nat → Value) (N : Nat → Nat) (R : Nat → List Value), (vf = fun k => vs.getD k nilV) ∧ FLc E sz w base vs.length vf vf N N R R ∧ ∀ k, k < vs.length → N k ≤ 100000 := by
 have h1 : ∀ k, ∃ q : Nat × List Value, k < vs.length → q.1 ≤ 100000 ∧ w.ownsRow base E sz (vs.getD k nilV) q.1 q.2 := fun k => by
  by_cases hk : k < vs.length
  ·obtain ⟨n, cs, q1, q2⟩ := h.own k _ (getD_vs hk)
   exact ⟨(n, cs), fun _ => ⟨q1, q2⟩⟩
  ·exact ⟨(0, []), fun hc => absurd hc hk⟩
 obtain ⟨F, hF⟩ := Classical.skolem.1 h1
 refine ⟨_, fun k => (F k).1, fun k => (F k).2, rfl, ⟨fun k hk => (hF k hk).2, fun k hk => (hF k hk).2, fun k _ => Nat.le_refl _, fun k _ => ⟨[], by simp⟩, fun i j g hi hj hij h1 h2 => ?_⟩, fun k hk => (hF k hk).1⟩
 exact h.apart i j _ _ g hij (getD_vs hi) (getD_vs hj) (h1.elim id id) (h2.elim id id)
theorem own_slK {w : World} {base : Nat} {e : TypeId} {sz : Nat} {v : Value} {n : Nat} {xs : List Value} (h : w.ownsRow base e sz v n xs) : ∃ a c, v = .slice a n c ∧ (0 < n → ∃ g, a = some ⟨g, 0, none⟩ ∧ g < w.heap.size) := by
 rcases own_shape h with ⟨h1, h2⟩ | ⟨g, c, h1, _, _, _, h2⟩
 ·exact ⟨none, 0, by rw [h1, h2], fun h0 => by omega⟩
 ·exact ⟨_, _, h1, fun _ => ⟨g, rfl, h2⟩⟩
/-- The rows, what has grown of them, and the list of what has grown. -/
structure ZFc (E S : TypeId) (sz : Nat) (W wr : World) (base n Gs : Nat) (B : Nat → Prop) (vf gv : Nat → Value) (N M : Nat → Nat) (R Q : Nat → List Value) (gm : List Value) : Prop where
 only : Only W wr B
 fl : FLc E sz wr base n vf gv N M R Q
 gs : wr.ownsRow base S 1 (slK Gs n) n gm
 nb : ∀ j, j < n → ∀ g, (gv j).ownBlock = some g → B g ∨ Gs < g
structure ZEc (W : World) (n Gs : Nat) (B : Nat → Prop) (vf : Nat → Value) : Prop where
 lt : ∀ g, B g → g < W.heap.size
 vs : ∀ j, j < n → ∀ g, (vf j).ownBlock = some g → B g
 gs : W.heap.size ≤ Gs
theorem ZFc.below {E S : TypeId} {sz : Nat} {W wr w' : World} {base n Gs : Nat} {B : Nat → Prop} {vf gv : Nat → Value} {N M : Nat → Nat} {R Q : Nat → List Value} {gm : List Value} (h : ZFc E S sz W wr base n Gs B vf gv N M R Q gm) (hb : Below wr.heap.size wr w') : ZFc E S sz W w' base n Gs B vf gv N M R Q gm :=
 ⟨h.only.after hb, h.fl.below hb, owns_below h.gs hb, h.nb⟩
theorem ZFc.notGs {E S : TypeId} {sz : Nat} {W wr : World} {base n Gs : Nat} {B : Nat → Prop} {vf gv : Nat → Value} {N M : Nat → Nat} {R Q : Nat → List Value} {gm : List Value} (A : ZEc W n Gs B vf) (h : ZFc E S sz W wr base n Gs B vf gv N M R Q gm) {j g : Nat} (hj : j < n) (hg : (vf j).ownBlock = some g ∨ (gv j).ownBlock = some g) : g ≠ Gs := by
 have hE := A.gs
 rcases hg with hg | hg
 ·have := A.lt g (A.vs j hj g hg); omega
 ·rcases h.nb j hj g hg with h1 | h1
  ·have := A.lt g h1; omega
  ·omega
theorem ZFc.put {E S : TypeId} {sz : Nat} {W wr w' : World} {base n Gs : Nat} {B : Nat → Prop} {vf gv : Nat → Value} {N M : Nat → Nat} {R Q : Nat → List Value} {gm : List Value} {wa : World} (A : ZEc W n Gs B vf) (h : ZFc E S sz W wr base n Gs B vf gv N M R Q gm) {k m' : Nat} (hk : k < n) (hA : Below wr.heap.size wr wa) {u : Value} (hu : (vf k).ownBlock = u.ownBlock ∨ (gv k).ownBlock = u.ownBlock) {v' : Value} {t : List Value} (hg : wa.grownBy w' u.ownBlock) (hv : w'.ownsRow base E sz (vf k) (N k) (R k)) (ho : w'.ownsRow base E sz v' m' (R k ++ t)) (hm : N k ≤ m') (hat : v'.ownBlock = u.ownBlock ∨ v'.ownBlock = some wa.heap.size) :
  ZFc E S sz W w' base n Gs B vf (upd gv k v') N (upd M k m') R (upd Q k (R k ++ t)) gm := by
 have ha := h.below hA
 have hu2 : ∀ g, u.ownBlock = some g → (vf k).ownBlock = some g ∨ (gv k).ownBlock = some g := fun g hg => hu.imp (fun e => e.trans hg) (fun e => e.trans hg)
 have hS : ∀ g, u.ownBlock = some g → B g ∨ Gs < g := fun g hg => (hu2 g hg).elim (fun e => .inl (A.vs k hk g e)) (fun e => h.nb k hk g e)
 refine ⟨ha.only.grown hg fun g hgl e => ?_, ha.fl.put hk hu hg hv ho hm hat, owns_same ha.gs fun q hq => ?_, fun j hj g hgj => ?_⟩
 ·rcases hS g e with h1 | h1
  ·exact h1
  ·have := A.gs; omega
 ·simp [Value.ownBlock] at hq
  subst hq
  exact hg.block _ (World.ownsRow.lt ha.gs _ rfl).2 (fun e => ha.notGs A hk (hu2 _ e.symm) rfl)
 ·by_cases e : j = k
  ·subst e
   rw [upd_same] at hgj
   rcases hat with e2 | e2
   ·exact hS g (e2 ▸ hgj)
   ·rw [e2] at hgj
    cases hgj
    exact .inr (World.ownsRow.lt ha.gs Gs rfl).2
  ·rw [upd_ne _ _ e] at hgj
   exact h.nb j hj g hgj
theorem ZFc.but {E S : TypeId} {sz : Nat} {W wr w' : World} {base n Gs : Nat} {B : Nat → Prop} {vf gv : Nat → Value} {N M : Nat → Nat} {R Q : Nat → List Value} {gm : List Value} (h : ZFc E S sz W wr base n Gs B vf gv N M R Q gm) {T : Nat} (hM : W.heap.size ≤ T) (hMG : T ≠ Gs) (hMF : ∀ j, j < n → ∀ g, ((vf j).ownBlock = some g ∨ (gv j).ownBlock = some g) → g ≠ T) (hg : wr.grownBy w' (some T)) : ZFc E S sz W w' base n Gs B vf gv N M R Q gm :=
 ⟨h.only.grown hg fun g hgl e => by cases e; omega, h.fl.but hg fun j g hj hjg e => hMF j hj g hjg (by cases e; rfl), owns_same h.gs fun q hq => by
  simp [Value.ownBlock] at hq
  subst hq
  exact hg.block _ (World.ownsRow.lt h.gs _ rfl).2 (fun e => hMG (by cases e; rfl)), h.nb⟩
theorem ZFc.store {E S : TypeId} {sz : Nat} {W wr : World} {base n Gs : Nat} {B : Nat → Prop} {vf gv : Nat → Value} {N M : Nat → Nat} {R Q : Nat → List Value} {gm : List Value} (A : ZEc W n Gs B vf) (h : ZFc E S sz W wr base n Gs B vf gv N M R Q gm) (k : Nat) (x : Value) : ZFc E S sz W (wr.setCell ⟨Gs, k, none⟩ x) base n Gs B vf gv N M R Q (gm.set k x) := by
 have hg : wr.grownBy (wr.setCell ⟨Gs, k, none⟩ x) (some Gs) := grown_setW Gs [x] wr k
 refine ⟨h.only.grown hg fun g hgl e => ?_, h.fl.but hg fun j g hj hjg e => h.notGs A hj hjg (by cases e; rfl), (World.ownsRow.stored h.gs k x).1, h.nb⟩
 cases e
 have := A.gs
 omega
/-- append by its run. -/
theorem wpList_append_is {P : Program} {w : World} {ops : Array Oper} {rest : List Oper} {o : Oper} {a : Act} {Q : Exit → Act → World → Prop} (hg : o.guard = none) (s x : Operand) (t : TypeId) (hop : o.op = Op.call { callee := Callee.builtin Builtin.append, args := #[s, x], argTypes := #[t, t] })
  (v y v' : Value) (w' : World) (hs : a.eval s = v) (hx : a.eval x = y) (hrun : (Builtin.append_ #[t, t] o.type #[v, y]).run P w = .ok v' w') (h : wpList P ops Q rest (a.put o.dst v') w') : wpList P ops Q (o :: rest) a w := by
 refine wpList_plain hg fun K hK => ?_
 unfold Oper.wp execOp
 simp only [hop, resolve, invoke, builtin, Sem.run_bind, Sem.run_pure, Result.andThen_ok, List.map_toArray, List.map_cons, List.map_nil, hs, hx, hrun]
 exact hK _ _ h
end Go.Proofs.YtajaijilfclhpaaGreatDoor
