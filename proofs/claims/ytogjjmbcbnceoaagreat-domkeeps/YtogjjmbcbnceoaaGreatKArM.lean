/- Rows of rows that grow and are read in front. -/
import Derived.Test.YtogjjmbcbnceoaaGreatKFlat
import Derived.Test.YtogjjmbcbnceoaaGreatKApartM
namespace Go.Proofs.YtogjjmbcbnceoaaGreat
open Go.RowKit

theorem append_frontR (w : World) (base : Nat) (ty : TypeId) (v : Value) (n : Nat) (xs news : List Value) (a : Addr) (m c : Nat) (hown : w.ownsRow base 23 1 v n xs) (hnl : news.length = m) (hy : ∀ j u, news[j]? = some u → w.cell? (a.add j) = some u) (h1c : ∀ u ∈ news, u.oneCell' = true) (hl : n + m ≤ 1000000) (hb : base ≤ w.heap.size) :
    ∃ v' w', (Builtin.append_ #[22, 22] ty #[v, .slice (some a) m c]).run Tryz.prog w = .ok v' w' ∧ w'.ownsRow base 23 1 v' (n + m) (xs ++ news) ∧ w.grownBy w' v.ownBlock ∧ w'.ownsRow base 23 1 v n xs ∧ (v'.ownBlock = v.ownBlock ∨ v'.ownBlock = some w.heap.size) := by
  obtain ⟨i0, hi0, hz0, hz1, hz2⟩ := info_parts (P := Tryz.prog) infoS
  have hxl : xs.length = n := by have := hown.1; simpa using this
  obtain ⟨v', w', hr, h2, h3, _, h5⟩ := run_append_own_at (P := Tryz.prog) w base 22 ty 23 i0 (.slice none 0 0) 1 24 Tryz.underlying22 hi0 hz0 hz1 hz2 rfl (by decide) v n xs hown a m c news (by simpa using hnl) hy h1c (by unfold maxLen; omega) (by omega) hb
  refine ⟨v', w', hr, h2, h3, ?_, h5⟩
  rcases hown.2 with ⟨hv, h0⟩ | ⟨g, cap, cur, hv, hbg, hg, hnc, hcm, hcs, htake⟩
  · rw [hv, h0, List.eq_nil_of_length_eq_zero (hxl.trans h0)]
    exact World.ownsRow_nil _ _ _ _
  · subst hv
    by_cases hroom : n + m ≤ cap
    · have hr2 := run_append_room (P := Tryz.prog) w 22 ty 23 i0 Tryz.underlying22 hi0 g n cap cur hg a m c news (by rw [hz1]; simpa using hnl) hy h1c hroom (by rw [hz1, hcs, hnl]; omega)
      rw [hr] at hr2
      injection hr2 with e1 e2
      refine ⟨hown.1, .inr ⟨g, cap, _, rfl, hbg, by rw [e2]; exact setRow_heap w g cur _ 23 _ hg, hnc, hcm, ?_, ?_⟩⟩
      · simp only [hz1, List.size_toArray, List.length_append, List.length_take, List.length_drop, Array.length_toList]
        omega
      · simp only [hz1] at htake ⊢
        rw [List.append_assoc, List.take_append_of_le_length (by simp; omega), List.take_take, Nat.min_self]
        exact htake
    · have hr2 := run_append_grow (P := Tryz.prog) w 22 ty 23 i0 (.slice none 0 0) Tryz.underlying22 hi0 hz0 ⟨g, 0, none⟩ n cap xs (by rw [hz1]; simpa using hxl) (World.ownsRow.cells hown (g := g) rfl) a m c news (by rw [hz1]; simpa using hnl) hy (by omega) (by omega) (by
        rw [hz2]
        exact growslice_fits (by omega) (by omega))
      rw [hr] at hr2
      injection hr2 with e1 e2
      refine ⟨hown.1, .inr ⟨g, cap, cur, rfl, hbg, ?_, hnc, hcm, hcs, htake⟩⟩
      rw [e2]
      have hgl := (Array.getElem?_eq_some_iff.1 hg).1
      exact ((below_alloc (Below.refl _ w.drew) _).block g hgl).trans hg
/-- A row of one number, laid down for good. -/
def Mkd (T0 : Nat) (w : World) (k : Nat) (x : Value) : Prop := ∃ b, x = .slice (some ⟨b, 0, none⟩) 1 1 ∧ T0 ≤ b ∧ b < w.heap.size ∧ w.cell? ⟨b, 0, none⟩ = some (.int .i64 (k : Int))
theorem Mkd.below {T0 k : Nat} {w w' : World} {x : Value} (h : Mkd T0 w k x) (hb : Below w.heap.size w w') : Mkd T0 w' k x := by
  obtain ⟨b, h1, h2, h3, h4⟩ := h
  exact ⟨b, h1, h2, Nat.lt_of_lt_of_le h3 hb.size, (hb.cell (p := ⟨b, 0, none⟩) h3).trans h4⟩
theorem Mkd.grown {T0 k : Nat} {w w' : World} {x : Value} {r : Option Nat} (h : Mkd T0 w k x) (hg : w.grownBy w' r) (hr : ∀ g, r = some g → g < T0) : Mkd T0 w' k x := by
  obtain ⟨b, h1, h2, h3, h4⟩ := h
  exact ⟨b, h1, h2, Nat.lt_of_lt_of_le h3 hg.size, (World.cell?_of_block (a := ⟨b, 0, none⟩) (hg.block b h3 (fun e => by have := hr b e.symm; omega))).trans h4⟩
/-- Lists of rows: where their headers lie; what is written of them. -/
structure HR (W wr : World) (base K T0 : Nat) (S : Nat → Prop) (hv : Nat → Value) (N : Nat → Nat) (cur : Nat → List Value) : Prop where
  only : Only W wr S
  own : ∀ k, k < K → wr.ownsRow base 23 1 (hv k) (N k) (cur k)
/-- What they hang on. -/
structure HE (W : World) (K T0 : Nat) (S : Nat → Prop) (hv : Nat → Value) : Prop where
  hd : ∀ k, k < K → ∀ g, (hv k).ownBlock = some g → S g ∧ g < T0
  ap : ∀ j k g, j < K → k < K → j ≠ k → (hv j).ownBlock = some g → (hv k).ownBlock ≠ some g
  lt : W.heap.size ≤ T0
theorem HR.below {W wr w' : World} {base K T0 : Nat} {S : Nat → Prop} {hv : Nat → Value} {N : Nat → Nat} {cur : Nat → List Value} (h : HR W wr base K T0 S hv N cur) (hb : Below wr.heap.size wr w') : HR W w' base K T0 S hv N cur :=
  ⟨h.only.after hb, fun k hk => owns_below (h.own k hk) hb⟩
theorem HR.set {W wr : World} {base K T0 : Nat} {S : Nat → Prop} {hv : Nat → Value} {N : Nat → Nat} {cur : Nat → List Value} (E : HE W K T0 S hv) (h : HR W wr base K T0 S hv N cur) {k g c : Nat} (hk : k < K) (hg : hv k = .slice (some ⟨g, 0, none⟩) (N k) c) (i : Nat) (x : Value) : HR W (wr.setCell ⟨g, i, none⟩ x) base K T0 S hv N (upd cur k ((cur k).set i x)) := by
  have hgb : (hv k).ownBlock = some g := by rw [hg]; rfl
  refine ⟨h.only.set (E.hd k hk g hgb).1 _ _, fun j hj => ?_⟩
  by_cases e : j = k
  · subst e
    rw [upd_same]
    have h1 := h.own j hj
    rw [hg] at h1 ⊢
    exact (World.ownsRow.stored h1 i x).1
  · rw [upd_ne _ _ e]
    exact owns_other (h.own j hj) (fun e2 => E.ap j k g hj hk e e2 hgb) _
theorem HR.turn {W wr w' : World} {base K T0 : Nat} {S : Nat → Prop} {hv : Nat → Value} {N : Nat → Nat} {cur : Nat → List Value} (E : HE W K T0 S hv) (h : HR W wr base K T0 S hv N cur) {k : Nat} (hk : k < K) (hg : wr.grownBy w' (hv k).ownBlock) (ho : w'.ownsRow base 23 1 (hv k) (N k) (cur k)) : HR W w' base K T0 S hv N cur := by
  refine ⟨h.only.grown hg fun g _ e => (E.hd k hk g e).1, fun j hj => ?_⟩
  by_cases e : j = k
  · subst e; exact ho
  · exact owns_same (h.own j hj) fun q hq => hg.block q (World.ownsRow.lt (h.own j hj) q hq).2 (fun e2 => E.ap j k q hj hk e hq e2.symm)
end Go.Proofs.YtogjjmbcbnceoaaGreat
/- Lists of rows that lie apart: found so. -/
namespace Go.Proofs.YtogjjmbcbnceoaaGreat
open Go.RowKit

/-- Lists of rows in memory, all apart. -/
structure RA (w : World) (base gL K : Nat) (hv : Nat → Value) (N : Nat → Nat) (kv : Nat → List Value) (vs : List Value) (ls : List (List Int)) : Prop where
  bs : base ≤ w.heap.size
  gl : gL < w.heap.size
  cl : ∀ k, k < K → w.cell? ⟨gL, k, none⟩ = some (hv k)
  own : ∀ k, k < K → w.ownsRow base 23 1 (hv k) (N k) (kv k)
  ap : ∀ j k g, j < K → k < K → j ≠ k → (hv j).ownBlock = some g → (hv k).ownBlock ≠ some g
  hL : ∀ k, k < K → (hv k).ownBlock ≠ some gL
  all : vs = (List.range K).flatMap kv
  kids : Aparts w base vs ls
  far : ∀ x ∈ vs, ∀ g, x.ownBlock = some g → g ≠ gL ∧ ∀ k, k < K → (hv k).ownBlock ≠ some g
abbrev hdBl (K : Nat) (hv : Nat → Value) (vs : List Value) (g : Nat) : Prop := rowBl vs g ∨ ∃ k, k < K ∧ (hv k).ownBlock = some g
def preL (kv : Nat → List Value) (k i : Nat) : List Value := (List.range k).flatMap kv ++ (kv k).take i
theorem preL_next {kv : Nat → List Value} {k i : Nat} {x : Value} (h : (kv k)[i]? = some x) : preL kv k (i + 1) = preL kv k i ++ [x] := by
  unfold preL
  rw [List.take_add_one, h, List.append_assoc]
  rfl
theorem preL_row {kv : Nat → List Value} {k i : Nat} (h : i = (kv k).length) : preL kv k i = preL kv (k + 1) 0 := by
  unfold preL
  rw [h, List.take_length, List.range_succ, List.flatMap_append]
  simp
theorem preL_len {kv : Nat → List Value} {N : Nat → Nat} {K : Nat} (hK : K ≤ 100) (hN : ∀ k, k < K → (kv k).length = N k ∧ N k ≤ 1000) : ∀ k, k ≤ K → ((List.range k).flatMap kv).length ≤ k * 1000
  | 0, _ => by simp
  | k + 1, h => by
    have h1 := preL_len hK hN k (by omega)
    have h2 := hN k (by omega)
    have h3 : ([k].flatMap kv).length = (kv k).length := by simp
    rw [List.range_succ, List.flatMap_append, List.length_append, h3]
    omega
theorem bag_apart {w wr : World} {base : Nat} {v : Value} {vs : List Value} {ls : List (List Int)} (hbase : base ≤ w.heap.size) (hn : vs.length ≤ 100000) (hA : Aparts w base vs ls) (hb : Below w.heap.size w wr) (hx : Box wr w.heap.size (bagL v)) (ho : wr.ownsRow w.heap.size 23 1 v vs.length vs) :
    Calls Tryz.prog 38 #[ptr w.heap.size] wr fun e w' => e = .returned (.bool true) ∧ Only w w' (rowBl vs) := by
  refine (apart_any (rowBl vs) w.heap.size v wr hx fun W hW => ?_).mono fun e w' hh => ⟨hh.1, ((Only.refl w _).after hb).trans hh.2⟩
  have hbW : Below w.heap.size w W := below_trans hb hW
  refine (flat_ok base v vs ls W hn (Nat.le_trans hbase hbW.size) (own_mono (owns_below ho hW) hbase) (hA.below hbW) fun x hx g hg hv => ?_).mono fun e w' hh => ⟨hh.1, hh.2, hh.2.same _ (Nat.lt_of_lt_of_le hx.lt hW.size) fun ⟨x, hx, hg⟩ => ?_⟩
  · have h1 := (hA.lt hx hg).2
    have h2 := (ho.lt g hv).1
    omega
  · have h1 := (hA.lt hx hg).2
    omega
theorem lit_cell (w : World) (x : Value) (t : TypeId) : (w.alloc (.cells #[x] t)).cell? ⟨w.heap.size, 0, none⟩ = some x := (Box.new w [x] t).cell 0 _ rfl
set_option maxRecDepth 100000 in
set_option maxHeartbeats 4000000 in
theorem apartR_any {w : World} {base gL K cL : Nat} {hv : Nat → Value} {N : Nat → Nat} {kv : Nat → List Value} {vs : List Value} {ls : List (List Int)} (A : RA w base gL K hv N kv vs ls) (hK : K ≤ 100) (hN : ∀ k, k < K → N k ≤ 1000) :
    Calls Tryz.prog 21 #[.slice (some ⟨gL, 0, none⟩) K cL] w fun e w' => e = .returned (.bool true) ∧ Only w w' (hdBl K hv vs) := by
  have hkl : ∀ k, k < K → (kv k).length = N k := fun k hk => by have := (A.own k hk).1; simpa using this
  have HPL : Hid (∀ k i, k < K → i ≤ N k → (preL kv k i).length ≤ 200000) := fun k i hk hi => by
    have h1 := preL_len hK (fun k hk => ⟨hkl k hk, hN k hk⟩) k (by omega)
    have h2 := hN k hk
    have h3 := hkl k hk
    unfold preL
    rw [List.length_append, List.length_take]
    omega
  have hvl : vs.length ≤ 100000 := by
    rw [A.all]
    have := preL_len hK (fun k hk => ⟨hkl k hk, hN k hk⟩) K (Nat.le_refl _)
    omega
  have hmem : ∀ k i x, k < K → (kv k)[i]? = some x → x ∈ vs := fun k i x hk hx => by
    rw [A.all]
    exact List.mem_flatMap.2 ⟨k, List.mem_range.2 hk, List.mem_of_getElem? hx⟩
  have HKF : Hid (∀ k i, k < K → i < N k → ∃ a m c, (kv k)[i]? = some (.slice a m c)) := fun k i hk hi => by
    have hx : (kv k)[i]? = some ((kv k)[i]'(by rw [hkl k hk]; exact hi)) := List.getElem?_eq_getElem _
    obtain ⟨q, hq⟩ := List.getElem?_of_mem (hmem k i _ hk hx)
    have hql : q < ls.length := by rw [← A.kids.len]; exact (List.getElem?_eq_some_iff.1 hq).1
    obtain ⟨a, c, e, _⟩ := own_slK (A.kids.own q _ _ hq (List.getElem?_eq_getElem hql)).1
    exact ⟨a, _, c, by rw [hx, e]⟩
  have HHV : Hid (∀ k, k < K → ∃ a c, hv k = .slice a (N k) c ∧ (0 < N k → ∃ g, a = some ⟨g, 0, none⟩ ∧ g < w.heap.size)) := fun k hk => own_slK (A.own k hk)
  have HCL : Hid (∀ wr, Only w wr (hdBl K hv vs) → ∀ k, k < K → wr.cell? ⟨gL, k, none⟩ = some (hv k)) := fun wr ho k hk => by
    have h4 := ho.same gL A.gl (fun hh => by
      rcases hh with ⟨x, hx, hg⟩ | ⟨j, hj, hg⟩
      · exact (A.far x hx gL hg).1 rfl
      · exact A.hL j hj hg)
    exact (World.cell?_of_block (a := ⟨gL, k, none⟩) h4).trans (A.cl k hk)
  have HBC : Hid (∀ wr, Below w.heap.size w wr → ∀ k, k < K → ∀ i x, (kv k)[i]? = some x → ∃ g c, hv k = .slice (some ⟨g, 0, none⟩) (N k) c ∧ wr.cell? ⟨g, i, none⟩ = some x) := fun wr hb k hk i x hx => by
    obtain ⟨a, c, e, hg⟩ := own_slK (A.own k hk)
    have hil : i < N k := by rw [← hkl k hk]; exact (List.getElem?_eq_some_iff.1 hx).1
    obtain ⟨g, hge, hgl⟩ := hg (by omega)
    subst hge
    have h1 := A.own k hk
    rw [e] at h1
    exact ⟨g, c, e, (hb.cell (p := ⟨g, i, none⟩) hgl).trans (by rw [h1.cellAt i (by omega)]; exact hx)⟩
  have HAP : Hid (∀ wr v, Below w.heap.size w wr → Box wr w.heap.size (bagL v) → wr.ownsRow w.heap.size 23 1 v vs.length vs → _) := fun wr v h1 h2 h3 => bag_apart A.bs hvl A.kids h1 h2 h3
  have HA : Hid _ := A
  have HX0 : Hid _ := bag_new w
  have HB0 : Hid (Below w.heap.size w (w.alloc (.cells (bagL (.slice none 0 0)).toArray 82))) := below_alloc (Below.refl _ _) _
  have HO0 : Hid ((w.alloc (.cells (bagL (.slice none 0 0)).toArray 82)).ownsRow w.heap.size 23 1 (.slice none 0 0) (preL kv 0 0).length (preL kv 0 0)) := by
    have e : preL kv 0 0 = [] := by simp [preL]
    rw [e]
    exact World.ownsRow_nil _ _ _ _
  have HVS : Hid (preL kv K 0 = vs) := by show _ = _; rw [A.all]; simp [preL]
  have HKL : Hid _ := hkl
  have HNL : Hid _ := hN
  clear A hmem hkl hN
  go_enter Tryz.func21, Tryz.ntmps21
  go_wp2
  go_loopw [4] (fun vk wr => ∃ (k : Nat) (v : Value), vk = .int .i64 k ∧ k ≤ K ∧ Hid (Below w.heap.size w wr ∧ Box wr w.heap.size (bagL v) ∧ wr.ownsRow w.heap.size 23 1 v (preL kv k 0).length (preL kv k 0) ∧ v.ownBlock ≠ some w.heap.size)) (fun vk _ => K - (intOf vk).toNat)
  case atStart => exact ⟨0, .slice none 0 0, rfl, by omega, HB0.out, HX0.out, HO0.out, fun e => by cases e⟩
  case round =>
    obtain ⟨k, v, rfl, hk, hq⟩ := hrel
    clear HB0 HX0 HO0
    generalize wr = wo at *
    by_cases hkK : k < K
    · have hkK' : (k : Int) < K := by omega
      obtain ⟨ha, hc, hhv, _⟩ := HHV.out k hkK
      have HQ0 : Hid _ := hq.out
      have HCK : Hid (∀ wr, Below w.heap.size w wr → wr.cell? ⟨gL, k, none⟩ = some (.slice ha (N k) hc)) := fun wr hb => by rw [← hhv]; exact HCL.out wr ((Only.refl w _).after hb) k hkK
      have HBK : Hid (∀ wr, Below w.heap.size w wr → ∀ i, i < N k → ∃ g a m c, ha = some ⟨g, 0, none⟩ ∧ (kv k)[i]? = some (.slice a m c) ∧ wr.cell? ⟨g, i, none⟩ = some (.slice a m c)) := fun wr hb i hi => by
        obtain ⟨a, m, c, hx⟩ := HKF.out k i hkK hi
        obtain ⟨g, c2, e, hc2⟩ := HBC.out wr hb k hkK i _ hx
        rw [hhv] at e
        refine ⟨g, a, m, c, ?_, hx, hc2⟩
        cases e
        rfl
      have HPK : Hid (∀ i, i ≤ N k → (preL kv k i).length ≤ 200000) := fun i hi => HPL.out k i hkK hi
      have hNk := HNL.out k hkK
      have HRW : Hid (preL kv k (N k) = preL kv (k + 1) 0) := preL_row (HKL.out k hkK).symm
      clear hq hhv
      generalize N k = m at *
      go_wp2
      go_loopw [5] (fun vi wr => ∃ (i : Nat) (v : Value), vi = .int .i64 i ∧ i ≤ m ∧ Hid (Below w.heap.size w wr ∧ Box wr w.heap.size (bagL v) ∧ wr.ownsRow w.heap.size 23 1 v (preL kv k i).length (preL kv k i) ∧ v.ownBlock ≠ some w.heap.size)) (fun vi _ => m - (intOf vi).toNat)
      case atStart => exact ⟨0, v, rfl, by omega, HQ0.out.1, HQ0.out.2.1, HQ0.out.2.2.1, HQ0.out.2.2.2⟩
      case round =>
        obtain ⟨i, v, rfl, hi, hr⟩ := hrel
        clear HQ0
        have cL' := HCK.out wr hr.out.1
        by_cases him : i < m
        · have him' : (i : Int) < m := by omega
          obtain ⟨g, a, mm, cc, hg, hx, cx⟩ := HBK.out wr hr.out.1 i him
          subst hg
          have HP : Hid (Calls Tryz.prog 37 #[ptr w.heap.size, .slice a mm cc] wr _) := putInts_any w.heap.size w.heap.size (preL kv k i).length mm cc v a (preL kv k i) wr hr.out.1.size hr.out.2.1 hr.out.2.2.1 (by have := HPK.out i hi; omega) hr.out.2.2.2
          have HT : Hid _ := preL_next hx
          clear HCK HBK HPK HKF HHV HCL HBC HAP HPL hx HKL HNL
          go_wp2_with (go_at_call 37; go_loud (refine Calls.mono (by exact HP.out) ?_; rintro e w1 ⟨rfl, v1, h1, h2, h3, h4, h5⟩; have H1 : Hid _ := h1; have H2 : Hid _ := h2; have H3 : Hid _ := h3; have H5 : Hid _ := h5; clear h1 h2 h3 h4 h5))
          go_roundw
          case rel =>
            refine ⟨i + 1, v1, by first | rfl | (congr 1; omega), by omega, hr.out.1.trans (H5.out.below hr.out.1.size fun q hq => ?_), H1.out, by rw [HT.out, List.length_append]; exact H2.out, H3.out⟩
            rcases hq with rfl | hq
            · exact Nat.le_refl _
            · exact (hr.out.2.2.1.lt q hq).1
          case measure => simp [intOf]; omega
        · obtain rfl : i = m := by omega
          clear HCK HBK HPK HKF HHV HCL HBC HAP HPL HKL HNL
          go_wp2
          go_roundw
          case rel => exact ⟨k + 1, v, by first | rfl | (congr 1; omega), by omega, hr.out.1, hr.out.2.1, by rw [← HRW.out]; exact hr.out.2.2.1, hr.out.2.2.2⟩
          case measure => simp [intOf]; omega
    · obtain rfl : K = k := by omega
      have HE1 : Hid _ := HAP.out wo v hq.out.1 hq.out.2.1 (by have h9 := hq.out.2.2.1; rw [HVS.out] at h9; exact h9)
      clear hq HAP HKF HBC HPL
      go_wp2_with (go_at_call 38; go_loud (refine Calls.mono (by exact HE1.out) ?_; rintro e w2 ⟨rfl, h1⟩; have H2 : Hid _ := h1; clear h1))
      obtain ⟨T0, hT0⟩ : ∃ T0, T0 = w2.heap.size := ⟨_, rfl⟩
      have hwT : w.heap.size ≤ T0 := by rw [hT0]; exact H2.out.low.size
      have HEE : Hid (HE w K T0 (hdBl K hv vs) hv) := ⟨fun j hj g hg => ⟨.inr ⟨j, hj, hg⟩, by
        have := (World.ownsRow.lt (HA.out.own j hj) g hg).2
        omega⟩, HA.out.ap, hwT⟩
      have HR0 : Hid (HR w w2 base K T0 (hdBl K hv vs) hv N kv) := ⟨H2.out.mono fun g _ hg => .inl hg, fun j hj => owns_same (HA.out.own j hj) fun q hq => H2.out.same q (World.ownsRow.lt (HA.out.own j hj) q hq).2 (fun ⟨x, hx, hg⟩ => (HA.out.far x hx q hg).2 j hj hq)⟩
      have hT1 : T0 ≤ w2.heap.size := by omega
      have HBS : Hid (base ≤ w.heap.size) := HA.out.bs
      clear H2 hT0 HA
      go_loopw [6] (fun vk wr => ∃ (k : Nat) (cur : Nat → List Value), vk = .int .i64 k ∧ k ≤ K ∧ T0 ≤ wr.heap.size ∧ Hid (HR w wr base K T0 (hdBl K hv vs) hv N cur ∧ ∀ j, j < k → ∀ x ∈ cur j, Mkd T0 wr j x)) (fun vk _ => K - (intOf vk).toNat)
      case atStart => exact ⟨0, kv, rfl, by omega, hT1, HR0.out, fun j hj => by omega⟩
      case round =>
        obtain ⟨k, cur, rfl, hk, hTw, hq⟩ := hrel
        clear HR0 hT1
        generalize wr = wp at *
        by_cases hkK : k < K
        · have hkK' : (k : Int) < K := by omega
          obtain ⟨ha, hc, hhv, hhg⟩ := HHV.out k hkK
          have HCK : Hid (∀ wr, Only w wr (hdBl K hv vs) → wr.cell? ⟨gL, k, none⟩ = some (.slice ha (N k) hc)) := fun wr ho => by rw [← hhv]; exact HCL.out wr ho k hkK
          have hNk := HNL.out k hkK
          have HHK : Hid _ := hhv
          have HHG : Hid _ := hhg
          have HQ0 : Hid _ := hq.out
          have HHD : Hid (∀ g, (hv k).ownBlock = some g → g < T0) := fun g hg => (HEE.out.hd k hkK g hg).2
          clear hq hhv hhg HCL HHV
          obtain ⟨m, hm⟩ : ∃ m, m = N k := ⟨_, rfl⟩
          have HMM : Hid _ := hm
          rw [← hm] at HCK hNk HHK HHG
          clear hm
          go_wp2
          go_loopw [7] (fun vi wr => ∃ (i : Nat) (cur : Nat → List Value), vi = .int .i64 i ∧ i ≤ m ∧ T0 ≤ wr.heap.size ∧ Hid (HR w wr base K T0 (hdBl K hv vs) hv N cur ∧ (∀ j, j < k → ∀ x ∈ cur j, Mkd T0 wr j x) ∧ ∀ q, q < i → ∃ x, (cur k)[q]? = some x ∧ Mkd T0 wr k x)) (fun vi _ => m - (intOf vi).toNat)
          case atStart => exact ⟨0, cur, rfl, by omega, hTw, HQ0.out.1, HQ0.out.2, fun q hq => by omega⟩
          case round =>
            obtain ⟨i, cur, rfl, hi, hTw, hq⟩ := hrel
            clear HQ0
            have cL' := HCK.out wr hq.out.1.only
            have hown := hq.out.1.own k hkK
            rw [← HMM.out] at hown
            have hcl : (cur k).length = m := by have := hown.1; simpa using this
            by_cases him : i < m
            · have him' : (i : Int) < m := by omega
              obtain ⟨g, hg, hgl⟩ := HHG.out (by omega)
              subst hg
              rw [HHK.out] at hown
              obtain ⟨y, hy⟩ : ∃ y, (cur k)[i]? = some y := ⟨_, List.getElem?_eq_getElem (by omega)⟩
              have cy : wr.cell? ⟨g, i, none⟩ = some y := by rw [hown.cellAt i (by omega)]; exact hy
              have fy : wr.frozen? ⟨g, i, none⟩ = false := hown.frozenAt i
              have hgw : g < wr.heap.size := (World.ownsRow.lt hown g rfl).2
              obtain ⟨ws, hws⟩ : ∃ ws, ws = wr.setCell ⟨g, i, none⟩ (.slice (some ⟨wr.heap.size, 0, none⟩) 1 1) := ⟨_, rfl⟩
              have hss : ws.heap.size = wr.heap.size := by rw [hws]; simp [World.setCell]
              have hgs : wr.grownBy ws (some g) := by rw [hws]; exact grown_setK _ _ _ _
              have hba : Below ws.heap.size ws (ws.alloc (.cells #[.int .i64 (k : Int)] 3)) := below_alloc (Below.refl _ _) _
              have hgT : g < T0 := HHD.out g (by rw [HHK.out]; rfl)
              have HN1 : Hid (HR w (ws.alloc (.cells #[.int .i64 (k : Int)] 3)) base K T0 (hdBl K hv vs) hv N (upd cur k ((cur k).set i (.slice (some ⟨wr.heap.size, 0, none⟩) 1 1)))) := by
                refine HR.below ?_ hba
                rw [hws]
                exact hq.out.1.set HEE.out hkK (by rw [HHK.out, HMM.out]) i _
              have keep : ∀ j x, Mkd T0 wr j x → Mkd T0 (ws.alloc (.cells #[.int .i64 (k : Int)] 3)) j x := fun j x hx => (hx.grown hgs (fun g2 e => by cases e; exact hgT)).below hba
              have HN2 : Hid (∀ j, j < k → ∀ x ∈ upd cur k ((cur k).set i (.slice (some ⟨wr.heap.size, 0, none⟩) 1 1)) j, Mkd T0 (ws.alloc (.cells #[.int .i64 (k : Int)] 3)) j x) := fun j hj x hx => by
                rw [upd_ne _ _ (by omega)] at hx
                exact keep j x (hq.out.2.1 j hj x hx)
              have HN3 : Hid (∀ q, q < i + 1 → ∃ x, (upd cur k ((cur k).set i (.slice (some ⟨wr.heap.size, 0, none⟩) 1 1)) k)[q]? = some x ∧ Mkd T0 (ws.alloc (.cells #[.int .i64 (k : Int)] 3)) k x) := fun q hqi => by
                rw [upd_same, List.getElem?_set]
                by_cases e : i = q
                · subst e
                  rw [if_pos rfl, if_pos (by omega)]
                  refine ⟨_, rfl, wr.heap.size, rfl, hTw, by simp [hss], ?_⟩
                  have h9 := lit_cell ws (.int .i64 (k : Int)) 3
                  rw [hss] at h9
                  exact h9
                · rw [if_neg e]
                  obtain ⟨x, h1, h2⟩ := hq.out.2.2 q (by omega)
                  exact ⟨x, h1, keep k x h2⟩
              have HTW : Hid (T0 ≤ (ws.alloc (.cells #[.int .i64 (k : Int)] 3)).heap.size) := by
                show _ ≤ _
                simp [hss]
                omega
              rw [hws] at HN1 HN2 HN3 HTW
              clear hq hown hy hcl HCK HHK HHG HHD HEE keep hba hgs hss hws HKL HNL
              go_wp2
              go_roundw
              case rel => exact ⟨i + 1, _, by first | rfl | (congr 1; omega), by omega, HTW.out, HN1.out, HN2.out, HN3.out⟩
              case measure => simp [intOf]; omega
            · obtain rfl : m = i := by omega
              have hall : ∀ x ∈ cur k, Mkd T0 wr k x := fun x hx => by
                obtain ⟨q, hqx⟩ := List.getElem?_of_mem hx
                have hql := (List.getElem?_eq_some_iff.1 hqx).1
                obtain ⟨x2, h1, h2⟩ := hq.out.2.2 q (by omega)
                rw [hqx] at h1
                cases h1
                exact h2
              obtain ⟨w5, hw5⟩ : ∃ w5, w5 = (((wr.alloc (.cells #[.int .i64 (-1)] 3)).alloc (.cells #[.int .i64 (-1)] 3)).alloc (.cells #[.int .i64 (-1)] 3)).alloc (.cells #[.slice (some ⟨wr.heap.size, 0, none⟩) 1 1, .slice (some ⟨wr.heap.size + 1, 0, none⟩) 1 1, .slice (some ⟨wr.heap.size + 1 + 1, 0, none⟩) 1 1] 23) := ⟨_, rfl⟩
              have hb5 : Below wr.heap.size wr w5 := by rw [hw5]; exact below_alloc (below_alloc (below_alloc (below_alloc (Below.refl _ _) _) _) _) _
              have hc5 : ∀ j u, [Value.slice (some ⟨wr.heap.size, 0, none⟩) 1 1, .slice (some ⟨wr.heap.size + 1, 0, none⟩) 1 1, .slice (some ⟨wr.heap.size + 1 + 1, 0, none⟩) 1 1][j]? = some u → w5.cell? ((⟨wr.heap.size + 1 + 1 + 1, 0, none⟩ : Addr).add j) = some u := fun j u hj => by
                have h9 := (Box.new (((wr.alloc (.cells #[.int .i64 (-1)] 3)).alloc (.cells #[.int .i64 (-1)] 3)).alloc (.cells #[.int .i64 (-1)] 3)) [.slice (some ⟨wr.heap.size, 0, none⟩) 1 1, .slice (some ⟨wr.heap.size + 1, 0, none⟩) 1 1, .slice (some ⟨wr.heap.size + 1 + 1, 0, none⟩) 1 1] 23).cell j u hj
                rw [← hw5, show (((wr.alloc (.cells #[.int .i64 (-1)] 3)).alloc (.cells #[.int .i64 (-1)] 3)).alloc (.cells #[.int .i64 (-1)] 3)).heap.size = wr.heap.size + 1 + 1 + 1 by simp] at h9
                rw [Addr.add_lit]
                rw [Nat.zero_add]
                exact h9
              have h5 := hq.out.1.below hb5
              have hown5 := h5.own k hkK
              rw [← HMM.out] at hown5
              obtain ⟨v', w6, hrun, ho6, hg6, hown6, hat6⟩ := append_frontR w5 base 22 (hv k) m (cur k) _ ⟨wr.heap.size + 1 + 1 + 1, 0, none⟩ 3 3 hown5 rfl hc5 (fun u hu => by
                rcases List.mem_cons.1 hu with rfl | hu
                · rfl
                rcases List.mem_cons.1 hu with rfl | hu
                · rfl
                rcases List.mem_cons.1 hu with rfl | hu
                · rfl
                · cases hu) (by omega) (Nat.le_trans HBS.out h5.only.low.size)
              obtain ⟨a6, c6, hv6, _⟩ := own_slK ho6
              subst hv6
              have HN1 : Hid (HR w w6 base K T0 (hdBl K hv vs) hv N cur) := h5.turn HEE.out hkK hg6 (by rw [← HMM.out]; exact hown6)
              have HN2 : Hid (∀ j, j < k + 1 → ∀ x ∈ cur j, Mkd T0 w6 j x) := fun j hj x hx => by
                have h1 : Mkd T0 wr j x := by
                  by_cases e : j = k
                  · subst e; exact hall x hx
                  · exact hq.out.2.1 j (by omega) x hx
                exact (h1.below hb5).grown hg6 HHD.out
              have hT6 : T0 ≤ w6.heap.size := Nat.le_trans hTw (Nat.le_trans hb5.size hg6.size)
              have cL6 := HCK.out w6 HN1.out.only
              have hne : ((m : Int) + 3 != (m : Int) + 3) = false := by simp
              rw [HHK.out] at hrun
              have HW5 : Hid _ := hw5
              clear hq hown hcl hall hc5 h5 hown5 ho6 hg6 hown6 hat6 HCK HHK HHG HHD HEE hb5 hw5 HKL HNL
              go_wp2_with (at_builtin; go_loud (rw [← HW5.out]; refine wpList_append_is rfl _ _ 22 rfl _ _ _ _ rfl rfl hrun ?_))
              go_wp2
              go_roundw
              case rel => exact ⟨k + 1, cur, by first | rfl | (congr 1; omega), by omega, hT6, HN1.out, HN2.out⟩
              case measure => simp [intOf]; omega
        · obtain rfl : K = k := by omega
          have HZ : Hid _ := hq.out.1
          have HMK : Hid _ := hq.out.2
          have HOL : Hid (Only w wp (hdBl K hv vs)) := hq.out.1.only
          clear hq
          go_wp2
          go_loopw [9] (fun vk wr => ∃ k : Nat, vk = .int .i64 k ∧ k ≤ K ∧ wr = wp) (fun vk _ => K - (intOf vk).toNat)
          case atStart => exact ⟨0, rfl, by omega, by first | rfl | trivial⟩
          case round =>
            obtain ⟨k, rfl, hk, hw⟩ := hrel
            subst hw
            by_cases hkK : k < K
            · have hkK' : (k : Int) < K := by omega
              obtain ⟨ha, hc, hhv, hhg⟩ := HHV.out k hkK
              have cL' := HCL.out wr HOL.out k hkK
              rw [hhv] at cL'
              have hown := HZ.out.own k hkK
              have hcl : (cur k).length = N k := by have := hown.1; simpa using this
              have HCI : Hid (∀ i, i < N k → ∃ g b, ha = some ⟨g, 0, none⟩ ∧ wr.cell? ⟨g, i, none⟩ = some (.slice (some ⟨b, 0, none⟩) 1 1) ∧ wr.cell? ⟨b, 0, none⟩ = some (.int .i64 (k : Int))) := fun i hi => by
                obtain ⟨g, hg, _⟩ := hhg (by omega)
                subst hg
                rw [hhv] at hown
                have hx : (cur k)[i]? = some ((cur k)[i]'(by omega)) := List.getElem?_eq_getElem _
                obtain ⟨b, h1, _, _, h4⟩ := HMK.out k hkK _ (List.mem_of_getElem? hx)
                exact ⟨g, b, rfl, by rw [hown.cellAt i (by omega), hx, h1], h4⟩
              have hNk := HNL.out k hkK
              clear hown hcl hhv hhg HCL HHV
              generalize N k = m at *
              have HC0 : Hid (∀ wq, wq = wr → wq.cell? ⟨gL, k, none⟩ = some (.slice ha m hc)) := fun wq e => by rw [e]; exact cL'
              have HC1 : Hid (∀ wq, wq = wr → ∀ i, i < m → ∃ g b, ha = some ⟨g, 0, none⟩ ∧ wq.cell? ⟨g, i, none⟩ = some (.slice (some ⟨b, 0, none⟩) 1 1) ∧ wq.cell? ⟨b, 0, none⟩ = some (.int .i64 (k : Int))) := fun wq e => by rw [e]; exact HCI.out
              clear HCI
              go_wp2
              obtain ⟨wz, hwz⟩ : ∃ wz, wz = wr := ⟨_, rfl⟩
              have HWZ : Hid (wz = wr) := hwz
              go_loopw [10] (fun vi wq => ∃ i : Nat, vi = .int .i64 i ∧ i ≤ m ∧ Hid (wq = wz)) (fun vi _ => m - (intOf vi).toNat)
              case atStart => exact ⟨0, rfl, by omega, hwz.symm⟩
              case round =>
                obtain ⟨i, rfl, hi, hw⟩ := hrel
                have hw2 := hw.out.trans HWZ.out
                have HW3 : Hid _ := hw2
                have cL' := HC0.out _ hw2
                have HCI : Hid _ := HC1.out _ hw2
                clear hwz hw2 HC0 HC1
                by_cases him : i < m
                · have him' : (i : Int) < m := by omega
                  obtain ⟨g, b, hg, c1, c2⟩ := HCI.out i him
                  subst hg
                  clear HCI
                  go_wp2
                  go_roundw
                  case rel => exact ⟨i + 1, by first | rfl | (congr 1; omega), by omega, hw.out⟩
                  case measure => simp [intOf]; omega
                · obtain rfl : i = m := by omega
                  clear HCI
                  go_wp2
                  go_roundw
                  case rel => exact ⟨k + 1, by first | rfl | (congr 1; omega), by omega, HW3.out⟩
                  case measure => simp [intOf]; omega
            · clear HCL HHV
              go_wp2
              go_ret
              exact ⟨rfl, HOL.out⟩
end Go.Proofs.YtogjjmbcbnceoaaGreat
