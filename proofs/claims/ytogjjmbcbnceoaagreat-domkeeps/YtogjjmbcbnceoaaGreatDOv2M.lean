/- Which stand over which, row by row: what lies in memory. -/
import Derived.Test.YtogjjmbcbnceoaaGreatDRe2M
import Derived.BigRegion
import Derived.Test.YtogjjmbcbnceoaaGreatDOrd
namespace Go.Proofs.YtogjjmbcbnceoaaGreat
open Go.RowKit

noncomputable def ovRow (nx : List (List Int)) (a : Nat) : List Bool := (List.range nx.length).map fun b => dec (Ov nx a b)
noncomputable def ovRows (nx : List (List Int)) : List (List Bool) := (List.range nx.length).map (ovRow nx)
theorem ovRow_get {nx : List (List Int)} {a b : Nat} (hb : b < nx.length) (d : Bool) : (ovRow nx a).getD b d = dec (Ov nx a b) := by
  simp [ovRow, List.getD, List.getElem?_map, List.getElem?_range hb]
theorem ovRow_len (nx : List (List Int)) (a : Nat) : (ovRow nx a).length = nx.length := by simp [ovRow]
theorem ovRows_get {nx : List (List Int)} {a : Nat} (ha : a < nx.length) : (ovRows nx).getD a [] = ovRow nx a := by
  simp [ovRows, List.getD, List.getElem?_map, List.getElem?_range ha]
theorem ovRow_of {nx : List (List Int)} {a : Nat} {l : List Bool} (hl : l.length = nx.length) (h : ∀ j, j < nx.length → l.getD j false = dec (Ov nx a j)) : l = ovRow nx a := by
  apply List.ext_getElem
  · rw [hl, ovRow_len]
  · intro i h1 h2
    rw [← getD_of h1 false, ← getD_of h2 false, ovRow_get (by omega)]
    exact h i (by omega)
theorem ovRow_none {nx : List (List Int)} {a : Nat} (h : ¬ Rch nx noneS a) : List.replicate nx.length false = ovRow nx a := by
  refine ovRow_of (by simp) fun j hj => ?_
  rw [dec_false fun ho => h ho.1]
  simp [List.getD, hj]
/-- Rows of truths, the first a of them there. -/
structure OvS (w : World) (n Bo : Nat) (wr : World) (kvs : List Value) (rows : List (List Bool)) (a : Nat) : Prop where
  bel : Below w.heap.size w wr
  klen : kvs.length = n
  own : wr.ownsRow w.heap.size 53 1 (.slice (some ⟨Bo, 0, none⟩) n n) n kvs
  kid : ∀ i, i < a → ∃ g, kvs[i]? = some (.slice (some ⟨g, 0, none⟩) n n) ∧ OwnB wr w.heap.size g n (rows.getD i []) ∧ g ≠ Bo
theorem OvS.below {w wr wr' : World} {n Bo a : Nat} {kvs : List Value} {rows : List (List Bool)} (h : OvS w n Bo wr kvs rows a) (hb : Below wr.heap.size wr wr') : OvS w n Bo wr' kvs rows a :=
  ⟨below_trans h.bel hb, h.klen, owns_below h.own hb, fun i hi => by
    obtain ⟨g, h1, h2, h3⟩ := h.kid i hi
    exact ⟨g, h1, owns_below h2 hb, h3⟩⟩
theorem OvS.ltB {w wr : World} {n Bo a : Nat} {kvs : List Value} {rows : List (List Bool)} (h : OvS w n Bo wr kvs rows a) : w.heap.size ≤ Bo ∧ Bo < wr.heap.size := h.own.lt Bo rfl
/-- A new row is laid in its place; it is not there yet. -/
theorem OvS.put {w wr : World} {n Bo a : Nat} {kvs : List Value} {rows : List (List Bool)} (h : OvS w n Bo wr kvs rows a) (t : Nat) (hat : a ≤ t) (v : Value) : OvS w n Bo (wr.setCell ⟨Bo, t, none⟩ v) (kvs.set t v) rows a := by
  refine ⟨below_set h.bel h.ltB.1 _ _, by simp [h.klen], (World.ownsRow.stored h.own t v).1, fun i hi => ?_⟩
  obtain ⟨g, h1, h2, h3⟩ := h.kid i hi
  refine ⟨g, ?_, owns_other h2 (fun e => h3 (by simpa [Value.ownBlock] using e)) _, h3⟩
  rw [List.getElem?_set, if_neg (by omega)]
  exact h1
/-- One of the current row's cells is set. -/
theorem OvS.cell {w wr : World} {n Bo a g : Nat} {kvs : List Value} {rows : List (List Bool)} (h : OvS w n Bo wr kvs rows a) (hg0 : w.heap.size ≤ g) (hgB : g ≠ Bo) (hgi : ∀ i, i < a → kvs[i]? ≠ some (.slice (some ⟨g, 0, none⟩) n n)) (j : Nat) (u : Value) : OvS w n Bo (wr.setCell ⟨g, j, none⟩ u) kvs rows a := by
  refine ⟨below_set h.bel hg0 _ _, h.klen, owns_other h.own (fun e => hgB (by simpa [Value.ownBlock] using e.symm)) _, fun i hi => ?_⟩
  obtain ⟨g', h1, h2, h3⟩ := h.kid i hi
  refine ⟨g', h1, owns_other h2 (fun e => hgi i hi ?_) _, h3⟩
  have : g' = g := by simpa [Value.ownBlock] using e
  rw [← this]; exact h1
/-- The current row is whole. -/
theorem OvS.more {w wr : World} {n Bo a g : Nat} {kvs : List Value} {rows : List (List Bool)} (h : OvS w n Bo wr kvs rows a) (hk : kvs[a]? = some (.slice (some ⟨g, 0, none⟩) n n)) (hg : OwnB wr w.heap.size g n (rows.getD a [])) (hgB : g ≠ Bo) : OvS w n Bo wr kvs rows (a + 1) := by
  refine ⟨h.bel, h.klen, h.own, fun i hi => ?_⟩
  rcases Nat.lt_or_ge i a with h1 | h1
  · exact h.kid i h1
  · have : i = a := by omega
    subst this; exact ⟨g, hk, hg, hgB⟩
theorem OvS.cellB {w wr : World} {n Bo a : Nat} {kvs : List Value} {rows : List (List Bool)} (h : OvS w n Bo wr kvs rows a) {t : Nat} {kv : Value} (hk : kvs[t]? = some kv) : wr.cell? ⟨Bo, t, none⟩ = some kv := by
  have ht : t < n := by have := (List.getElem?_eq_some_iff.1 hk).1; rw [h.klen] at this; exact this
  rw [h.own.cellAt t (by omega)]
  exact hk
theorem infoSB : (Tryz.prog.info? 53).map (fun i => (i.zero, i.size, i.bytes)) = some (some (.slice none 0 0), 1, 24) := by kernel_rfl
theorem OvS.new (w w1 : World) (n : Nat) (rows : List (List Bool)) (hb : Below w.heap.size w w1) (hn : n ≤ 1000000) : OvS w n w1.heap.size (w1.alloc (.cells (madeCells #[.slice none 0 0] n) 53)) (List.replicate n (.slice none 0 0)) rows 0 := by
  have r1 := World.ownsRow_lit (base := w.heap.size) (e := 53) (size := 1) w1 (madeCells #[.slice none 0 0] n) n hb.size (by unfold maxLen; omega) (by simp [size_madeCells])
  rw [toList_madeCells_one] at r1
  exact ⟨below_alloc hb _, by simp, r1, fun i hi => by omega⟩
end Go.Proofs.YtogjjmbcbnceoaaGreat
/- Which stand over which, as the document finds it. -/
namespace Go.Proofs.YtogjjmbcbnceoaaGreat
open Go.RowKit

theorem OwnB.mono {w : World} {base base' b n : Nat} {l : List Bool} (h : OwnB w base b n l) (hb : base' ≤ base) : OwnB w base' b n l := own_mono h hb
theorem OwnB.off {w : World} {base b n : Nat} {l : List Bool} (h : OwnB w base b n l) {g : Nat} (hg : g ≠ b) (j : Nat) (u : Value) : OwnB (w.setCell ⟨g, j, none⟩ u) base b n l := owns_other h (fun e => hg (by simpa [Value.ownBlock] using e.symm)) _
/-- Within the row of a: all that is there. -/
structure OvT (nx : List (List Int)) (w : World) (n Bo gc gl a b : Nat) (wr : World) (kvs : List Value) (cur : List Bool) : Prop where
  s : OvS w n Bo wr kvs (ovRows nx) a
  all : OwnB wr w.heap.size w.heap.size n (reachL nx noneS)
  left : OwnB wr w.heap.size gl n (reachL nx (· = a))
  crow : OwnB wr w.heap.size gc n cur
  k : kvs[a]? = some (.slice (some ⟨gc, 0, none⟩) n n)
  ne : gc ≠ Bo ∧ gc ≠ gl ∧ gc ≠ w.heap.size ∧ ∀ i, i < a → kvs[i]? ≠ some (.slice (some ⟨gc, 0, none⟩) n n)
  ok : ∀ j, j < b → cur.getD j false = dec (Ov nx a j)
theorem OvT.step {nx : List (List Int)} {w wr : World} {n Bo gc gl a b : Nat} {kvs : List Value} {cur : List Bool} (h : OvT nx w n Bo gc gl a b wr kvs cur) (hbn : b < n) {u : Bool} (hu : u = dec (Ov nx a b)) (d : Nat) : OvT nx w n Bo gc gl a (b + 1) ((wr.setCell ⟨gc, b, none⟩ (.bool u)).drewN d) kvs (cur.set b u) := by
  have hd : Below (wr.setCell ⟨gc, b, none⟩ (.bool u)).heap.size (wr.setCell ⟨gc, b, none⟩ (.bool u)) ((wr.setCell ⟨gc, b, none⟩ (.bool u)).drewN d) := below_drewN (Below.refl _ _) d
  refine ⟨(h.s.cell h.crow.lt'.1 h.ne.1 h.ne.2.2.2 b _).below hd, owns_below (h.all.off h.ne.2.2.1 _ _) hd, owns_below (h.left.off h.ne.2.1 _ _) hd, owns_below (h.crow.set' b u) hd, h.k, h.ne, fun j hj => ?_⟩
  have hl := h.crow.len
  by_cases e : b = j
  · subst e
    rw [getD_of (by simp; omega)]
    simp [hu]
  · rw [← h.ok j (by omega)]
    simp only [List.getD, List.getElem?_set, if_neg e]
set_option maxRecDepth 100000 in
set_option maxHeartbeats 2000000 in
theorem rovers_any (nx : List (List Int)) (v : Value) (w : World) (h : NetAt w v nx) (hM : May nx) (hn : nx.length ≤ 100000) :
    Calls Tryz.prog 36 #[v] w fun e w' => ∃ Bo kvs, e = .returned (.slice (some ⟨Bo, 0, none⟩) nx.length nx.length) ∧ OvS w nx.length Bo w' kvs (ovRows nx) nx.length := by
  obtain ⟨va, vc, rfl, _⟩ := h.form
  have HA : Hid _ := rreach_any nx _ (-1) noneS (fun i => ⟨fun h => h.elim, fun h => by omega⟩) w h hM hn
  have HL : Hid (∀ (a : Nat) (W : World), Below w.heap.size w W → _) := fun a W hb => rreach_any nx _ (a : Int) (· = a) (fun i => ⟨fun h => by rw [h], fun h => by omega⟩) W (h.below hb) hM hn
  have HNO : Hid (∀ a, ¬ Rch nx noneS a → List.replicate nx.length false = ovRow nx a) := fun a ha => ovRow_none ha
  have HG : Hid (∀ a, a < nx.length → (ovRows nx).getD a [] = ovRow nx a) := fun a ha => ovRows_get ha
  have HOF : Hid (∀ a (l : List Bool), l.length = nx.length → (∀ j, j < nx.length → l.getD j false = dec (Ov nx a j)) → l = ovRow nx a) := fun a l h1 h2 => ovRow_of h1 h2
  have HRG : Hid (∀ S j, j < nx.length → (reachL nx S).getD j false = dec (Rch nx S j)) := fun S j hj => reachL_get hj false
  clear h hM
  obtain ⟨n, hnn⟩ : ∃ n, n = nx.length := ⟨_, rfl⟩
  rw [← hnn] at HA HL HNO HG HOF HRG hn
  rw [← hnn]
  clear hnn
  have hmk := run_make_row' (P := Tryz.prog) 51 53 (.slice none 0 0) 24 Tryz.underlying51 infoSB rfl .i64 .i64 n (by omega) (by omega)
  have hmb := run_make_row' (P := Tryz.prog) 53 4 (.bool false) 1 Tryz.underlying53 infoB rfl .i64 .i64 n (by omega) (by omega)
  go_enter Tryz.func36, Tryz.ntmps36
  go_wp2_with (go_at_call 55; go_loud (refine Calls.mono (by exact HA.out) ?_; rintro e w1 ⟨rfl, ho1, hb1⟩; have HO1 : Hid (OwnB w1 w.heap.size w.heap.size n (reachL nx noneS)) := ho1; have HB1 : Hid _ := hb1; clear ho1 hb1))
  have HS0 : Hid _ := OvS.new w w1 n (ovRows nx) HB1.out (by omega)
  have HO2 : Hid (OwnB (w1.alloc (.cells (madeCells #[.slice none 0 0] n) 53)) w.heap.size w.heap.size n (reachL nx noneS)) := owns_below HO1.out (below_alloc (Below.refl _ _) _)
  obtain ⟨Bo, hBo⟩ : ∃ Bo, Bo = w1.heap.size := ⟨_, rfl⟩
  have HBO : Hid (w.heap.size < Bo) := by show w.heap.size < Bo; rw [hBo]; exact HO1.out.lt'.2
  rw [← hBo] at HS0
  rw [← hBo]
  clear hBo HA hmk
  go_loopw [5] (fun va wr => ∃ (a : Nat) (kvs : List Value), va = .int .i64 a ∧ a ≤ n ∧ Hid (OvS w n Bo wr kvs (ovRows nx) a ∧ OwnB wr w.heap.size w.heap.size n (reachL nx noneS))) (fun va _ => n - (intOf va).toNat)
  case atStart => exact ⟨0, _, rfl, by omega, HS0.out, HO2.out⟩
  case round =>
    obtain ⟨a, kvs, rfl, ha, hr⟩ := hrel
    clear HS0 HO1 HO2 HB1
    generalize wr = wo at *
    by_cases han : a < n
    · have han' : (a : Int) < n := by omega
      have hkl := hr.out.1.klen
      have ek : kvs[a]? = some (kvs[a]'(by omega)) := List.getElem?_eq_getElem _
      have cB := hr.out.1.cellB ek
      have fB : wo.frozen? ⟨Bo, a, none⟩ = false := hr.out.1.own.frozenAt a
      have hlB := hr.out.1.ltB.2
      generalize kvs[a]'(by omega) = kv at *
      have HW : Hid (OvS w n Bo ((wo.setCell ⟨Bo, a, none⟩ (.slice (some ⟨wo.heap.size, 0, none⟩) n n)).alloc (.cells (madeCells #[.bool false] n) 4)) (kvs.set a (.slice (some ⟨wo.heap.size, 0, none⟩) n n)) (ovRows nx) a
          ∧ OwnB ((wo.setCell ⟨Bo, a, none⟩ (.slice (some ⟨wo.heap.size, 0, none⟩) n n)).alloc (.cells (madeCells #[.bool false] n) 4)) w.heap.size w.heap.size n (reachL nx noneS)
          ∧ OwnB ((wo.setCell ⟨Bo, a, none⟩ (.slice (some ⟨wo.heap.size, 0, none⟩) n n)).alloc (.cells (madeCells #[.bool false] n) 4)) w.heap.size wo.heap.size n (List.replicate n false)
          ∧ (kvs.set a (.slice (some ⟨wo.heap.size, 0, none⟩) n n))[a]? = some (.slice (some ⟨wo.heap.size, 0, none⟩) n n)
          ∧ (∀ i, i < a → (kvs.set a (.slice (some ⟨wo.heap.size, 0, none⟩) n n))[i]? ≠ some (.slice (some ⟨wo.heap.size, 0, none⟩) n n))) := by
        have hsz : (wo.setCell ⟨Bo, a, none⟩ (.slice (some ⟨wo.heap.size, 0, none⟩) n n)).heap.size = wo.heap.size := by simp [World.setCell]
        refine ⟨(hr.out.1.put a (Nat.le_refl _) _).below (below_alloc (Below.refl _ _) _), owns_below (hr.out.2.off (by have := HBO.out; omega) _ _) (below_alloc (Below.refl _ _) _), ?_, by simp [hkl, han], fun i hi => ?_⟩
        · have := OwnB.made (wo.setCell ⟨Bo, a, none⟩ (.slice (some ⟨wo.heap.size, 0, none⟩) n n)) w.heap.size n (by rw [hsz]; exact hr.out.1.bel.size) (by omega)
          rw [hsz] at this
          exact this
        · rw [List.getElem?_set, if_neg (by omega)]
          obtain ⟨g, h1, h2, _⟩ := hr.out.1.kid i hi
          rw [h1]
          intro he
          have : g = wo.heap.size := by simpa using he
          have := h2.lt'.2
          omega
      have HBW : Hid (Below w.heap.size w ((wo.setCell ⟨Bo, a, none⟩ (.slice (some ⟨wo.heap.size, 0, none⟩) n n)).alloc (.cells (madeCells #[.bool false] n) 4))) := HW.out.1.bel
      have HLT : Hid (wo.heap.size < ((wo.setCell ⟨Bo, a, none⟩ (.slice (some ⟨wo.heap.size, 0, none⟩) n n)).alloc (.cells (madeCells #[.bool false] n) 4)).heap.size ∧ Bo < wo.heap.size) := ⟨HW.out.2.2.1.lt'.2, hlB⟩
      have cA : ((wo.setCell ⟨Bo, a, none⟩ (.slice (some ⟨wo.heap.size, 0, none⟩) n n)).alloc (.cells (madeCells #[.bool false] n) 4)).cell? ⟨w.heap.size, a, none⟩ = some (.bool (dec (Rch nx noneS a))) := by
        rw [HW.out.2.1.at' han false, HRG.out _ _ han]
      rcases hb : dec (Rch nx noneS a) with _ | _
      · have HX : Hid (List.replicate n false = ovRow nx a) := HNO.out a (fun hh => by rw [dec_true hh] at hb; cases hb)
        rw [hb] at cA
        clear hb HL HNO HOF
        go_wp2
        go_roundw
        case rel => exact ⟨a + 1, _, by first | rfl | (congr 1; omega), by omega, HW.out.1.more HW.out.2.2.2.1 (by rw [HG.out a han, ← HX.out]; exact HW.out.2.2.1) (by have := HLT.out; omega), HW.out.2.1⟩
        case measure => simp [intOf]; omega
      · have HRA : Hid (Rch nx noneS a) := dec_iff.1 hb
        rw [hb] at cA
        have HLA : Hid _ := HL.out a _ HBW.out
        have HSZ : Hid (((wo.setCell ⟨Bo, a, none⟩ (.slice (some ⟨wo.heap.size, 0, none⟩) n n)).alloc (.cells (madeCells #[.bool false] n) 4)).heap.size = wo.heap.size + 1) := by show _ = _; simp [World.setCell]
        clear hb HL HNO
        go_wp2_with (go_at_call 55; go_loud (refine Calls.mono (by exact HLA.out) ?_; rintro e w2 ⟨rfl, ho2, hb2⟩; rw [HSZ.out] at ho2; have HT0 : Hid (OvT nx w n Bo wo.heap.size (wo.heap.size + 1) a 0 w2 (kvs.set a (.slice (some ⟨wo.heap.size, 0, none⟩) n n)) (List.replicate n false)) := ⟨HW.out.1.below hb2, owns_below HW.out.2.1 hb2, own_mono ho2 (by have := HBW.out.size; rw [HSZ.out] at this; exact this), owns_below HW.out.2.2.1 hb2, HW.out.2.2.2.1, ⟨by have := HLT.out; omega, by omega, by have := HLT.out; have := HBO.out; omega, HW.out.2.2.2.2⟩, fun j hj => by omega⟩; clear ho2 hb2))
        clear HLA HW HBW HLT HSZ cA cB fB
        generalize kvs.set a (.slice (some ⟨wo.heap.size, 0, none⟩) n n) = kvs1 at *
        generalize wo.heap.size = gc at *
        go_loopw [7] (fun vb wq => ∃ (b : Nat) (cur : List Bool), vb = .int .i64 b ∧ b ≤ n ∧ Hid (OvT nx w n Bo gc (gc + 1) a b wq kvs1 cur)) (fun vb _ => n - (intOf vb).toNat)
        case atStart => exact ⟨0, _, rfl, by omega, HT0.out⟩
        case round =>
          obtain ⟨b, cur, rfl, hb, hq⟩ := hrel
          clear HT0
          by_cases hbn : b < n
          · have hbn' : (b : Int) < n := by omega
            have d1 : wr.cell? ⟨w.heap.size, b, none⟩ = some (.bool (dec (Rch nx noneS b))) := by rw [hq.out.all.at' hbn false, HRG.out _ _ hbn]
            have d2 : wr.cell? ⟨gc + 1, b, none⟩ = some (.bool (dec (Rch nx (· = a) b))) := by rw [hq.out.left.at' hbn false, HRG.out _ _ hbn]
            have d3 : wr.cell? ⟨Bo, a, none⟩ = some (.slice (some ⟨gc, 0, none⟩) n n) := hq.out.s.cellB hq.out.k
            have d4 : wr.cell? ⟨gc, b, none⟩ = some (.bool (cur.getD b false)) := hq.out.crow.at' hbn false
            have d5 : wr.frozen? ⟨gc, b, none⟩ = false := hq.out.crow.frozenAt b
            have HST : Hid (∀ (u : Bool), u = dec (Ov nx a b) → ∀ d, _) := fun u hu d => hq.out.step hbn hu d
            have HE1 : Hid (dec (Rch nx noneS b) = false → dec (Ov nx a b) = false) := fun hh => dec_false fun ho => by rw [dec_true ho.2.1] at hh; cases hh
            have HE2 : Hid (dec (Rch nx noneS b) = true → a = b → dec (Ov nx a b) = true) := fun hh e => dec_true ⟨HRA.out, dec_iff.1 hh, .inl e⟩
            have HE3 : Hid (dec (Rch nx noneS b) = true → a ≠ b → dec (Ov nx a b) = !dec (Rch nx (· = a) b)) := fun hh e => by
              by_cases hx : Rch nx (· = a) b
              · rw [dec_true hx, dec_false fun ho => ho.2.2.elim e (fun h9 => h9 hx)]; rfl
              · rw [dec_false hx, dec_true ⟨HRA.out, dec_iff.1 hh, .inr hx⟩]; rfl
            generalize dec (Rch nx noneS b) = q1 at *
            generalize dec (Rch nx (· = a) b) = q2 at *
            generalize cur.getD b false = q3 at *
            clear HRG HOF HG
            cases q1 with
            | false =>
              have HF : Hid _ := HST.out false (HE1.out rfl).symm
              clear HST HE1 HE2 HE3
              go_wp2
              refine wp_region_last 22 _ rfl rfl (by kernel_rfl) (by kernel_rfl) (by kernel_rfl) (by kernel_rfl) (by kernel_rfl) (by kernel_rfl) ?_
              simp only [List.take_succ_cons, List.take_zero]
              repeat (go_big_quiet_step (fail))
              refine wpQuiet_nil ?_
              intro _ hw'
              obtain ⟨nq, hw''⟩ := hw'
              subst hw''
              intro K hK
              go_simp
              refine hK _ _ ?_
              clear hK K
              go_wp2
              go_roundw
              case rel => exact ⟨b + 1, _, by first | rfl | (congr 1; omega), by omega, by first | exact HF.out nq | exact HF.out _⟩
              case measure => simp [intOf]; omega
            | true =>
              by_cases hab : a = b
              · subst hab
                have HF : Hid _ := HST.out true (HE2.out rfl rfl).symm
                clear HST HE1 HE2 HE3
                go_wp2
                refine wp_region_last 22 _ rfl rfl (by kernel_rfl) (by kernel_rfl) (by kernel_rfl) (by kernel_rfl) (by kernel_rfl) (by kernel_rfl) ?_
                simp only [List.take_succ_cons, List.take_zero]
                repeat (go_big_quiet_step (fail))
                refine wpQuiet_nil ?_
                intro _ hw'
                obtain ⟨nq, hw''⟩ := hw'
                subst hw''
                intro K hK
                go_simp
                refine hK _ _ ?_
                clear hK K
                go_wp2
                go_roundw
                case rel => exact ⟨a + 1, _, by first | rfl | (congr 1; omega), by omega, by first | exact HF.out nq | exact HF.out _⟩
                case measure => simp [intOf]; omega
              · have habf : ((a : Int) == (b : Int)) = false := beq_false_of_ne (by omega)
                have habn : ¬ (a : Int) = (b : Int) := by omega
                have HF : Hid _ := HST.out (!q2) (HE3.out rfl hab).symm
                clear HST HE1 HE2 HE3
                cases q2 with
                | false =>
                  go_wp2
                  refine wp_region_last 22 _ rfl rfl (by kernel_rfl) (by kernel_rfl) (by kernel_rfl) (by kernel_rfl) (by kernel_rfl) (by kernel_rfl) ?_
                  simp only [List.take_succ_cons, List.take_zero]
                  repeat (go_big_quiet_step (fail))
                  refine wpQuiet_nil ?_
                  intro _ hw'
                  obtain ⟨nq, hw''⟩ := hw'
                  subst hw''
                  intro K hK
                  go_simp
                  refine hK _ _ ?_
                  clear hK K
                  go_wp2
                  go_roundw
                  case rel => exact ⟨b + 1, _, by first | rfl | (congr 1; omega), by omega, by first | exact HF.out nq | exact HF.out _⟩
                  case measure => simp [intOf]; omega
                | true =>
                  go_wp2
                  refine wp_region_last 22 _ rfl rfl (by kernel_rfl) (by kernel_rfl) (by kernel_rfl) (by kernel_rfl) (by kernel_rfl) (by kernel_rfl) ?_
                  simp only [List.take_succ_cons, List.take_zero]
                  repeat (go_big_quiet_step (fail))
                  refine wpQuiet_nil ?_
                  intro _ hw'
                  obtain ⟨nq, hw''⟩ := hw'
                  subst hw''
                  intro K hK
                  go_simp
                  refine hK _ _ ?_
                  clear hK K
                  go_wp2
                  go_roundw
                  case rel => exact ⟨b + 1, _, by first | rfl | (congr 1; omega), by omega, by first | exact HF.out nq | exact HF.out _⟩
                  case measure => simp [intOf]; omega
          · obtain rfl : b = n := by omega
            have HX : Hid (cur = ovRow nx a) := HOF.out a cur hq.out.crow.len (fun j hj => hq.out.ok j hj)
            clear HRG HOF
            go_wp2
            go_roundw
            case rel => exact ⟨a + 1, kvs1, by first | rfl | (congr 1; omega), by omega, hq.out.s.more hq.out.k (by rw [HG.out a han, ← HX.out]; exact hq.out.crow) hq.out.ne.1, hq.out.all⟩
            case measure => simp [intOf]; omega
    · obtain rfl : a = n := by omega
      clear HL HNO HG HOF HRG
      go_wp2
      go_ret
      exact ⟨Bo, kvs, rfl, hr.out.1⟩
end Go.Proofs.YtogjjmbcbnceoaaGreat
