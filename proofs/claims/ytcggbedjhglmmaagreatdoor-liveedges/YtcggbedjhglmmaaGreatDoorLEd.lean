/- The law LiveEdges: its run. -/
import Derived.Test.YtcggbedjhglmmaaGreatDoorLEqM
namespace Go.Proofs.YtcggbedjhglmmaaGreatDoor
open Go.RowKit

/-- a mark in a row of numbers -/
def mk (A : List Int) (v : Int) : Prop := A.getD v.toNat 0 = 1
theorem mk_set {A : List Int} {t : Nat} (ht : t < A.length) {v : Int} : (mk A v → mk (A.set t 1) v) ∧ mk (A.set t 1) (t : Int) := by
  unfold mk
  constructor
  · intro h
    rw [List.getD_eq_getElem?_getD, List.getElem?_set] at *
    by_cases e : t = v.toNat
    · rw [if_pos e, if_pos ht]; rfl
    · rw [if_neg e]; exact h
  · rw [Int.toNat_natCast, List.getD_eq_getElem?_getD, List.getElem?_set, if_pos rfl, if_pos ht]; rfl
theorem make_intsL (n : Nat) (hn : n ≤ 1000000) (W : World) : (Instr.makeSlice 22 (.int .i64 (n : Int)) (.int .i64 (n : Int))).run Tryz.prog W = .ok (.slice (some ⟨W.heap.size, 0, none⟩) n n) (W.alloc (.cells (madeCells #[.int .i64 0] n) 3)) := by
  obtain ⟨i, hi, hz, hs, hb⟩ := info_parts infoI
  have hr := run_make (P := Tryz.prog) W 22 3 i _ Tryz.underlying22 hi hz .i64 .i64 n n (by omega) (Int.le_refl _) (by rw [hb]; omega) (by omega)
  simp only [Int.toNat_natCast, hs, Nat.mul_one] at hr
  exact hr
/-- a row of marks -/
structure MR (wr : World) (base g m : Nat) (A : List Int) : Prop where
  own : wr.ownsRow base 3 1 (.slice (some ⟨g, 0, none⟩) m m) m (A.map intV)
theorem MR.len {wr : World} {base g m : Nat} {A : List Int} (h : MR wr base g m A) : A.length = m := by have := h.own.1; simpa using this
theorem MR.made (W : World) (m base : Nat) (hm : m ≤ 1000000) (hb : base ≤ W.heap.size) : MR (W.alloc (.cells (madeCells #[.int .i64 0] m) 3)) base W.heap.size m (List.replicate m 0) := by
  have h := made_row 3 (.int .i64 0) W m base hm hb
  refine ⟨?_⟩
  rw [List.map_replicate]
  exact h
theorem MR.below {w w' : World} {base g m : Nat} {A : List Int} (h : MR w base g m A) (hb : Below w.heap.size w w') : MR w' base g m A := ⟨owns_below h.own hb⟩
theorem MR.set {w : World} {base g m : Nat} {A : List Int} (h : MR w base g m A) (t : Nat) : MR (w.setCell ⟨g, t, none⟩ (.int .i64 1)) base g m (A.set t 1) := by
  refine ⟨?_⟩
  have := (World.ownsRow.stored h.own t (.int .i64 1)).1
  rw [List.map_set]
  exact this
theorem MR.other {w : World} {base g m : Nat} {A : List Int} (h : MR w base g m A) {q : Nat} (hq : q ≠ g) (t : Nat) (u : Value) : MR (w.setCell ⟨q, t, none⟩ u) base g m A := ⟨owns_other h.own (by simp only [Value.ownBlock, ne_eq, Option.some.injEq]; exact fun e => hq e.symm) u⟩
theorem MR.cell {w : World} {base g m : Nat} {A : List Int} (h : MR w base g m A) {t : Nat} (ht : t < m) : w.cell? ⟨g, t, none⟩ = some (.int .i64 (A.getD t 0)) := by
  rw [h.own.cellAt t (by omega), List.getElem?_map, List.getElem?_eq_getElem (by rw [h.len]; exact ht), getD_of (by rw [h.len]; exact ht)]; rfl
theorem MR.fz {w : World} {base g m : Nat} {A : List Int} (h : MR w base g m A) (t : Nat) : w.frozen? ⟨g, t, none⟩ = false := h.own.frozenAt t
theorem MR.lt {w : World} {base g m : Nat} {A : List Int} (h : MR w base g m A) : base ≤ g ∧ g < w.heap.size := h.own.lt g rfl
/-- both rows of marks, the block at hand, and what stood before -/
structure EH (w6 wr : World) (m gA gH gb : Nat) (cs : List Value) (A H : List Int) : Prop where
  bel : Below w6.heap.size w6 wr
  ra : MR wr w6.heap.size gA m A
  rh : MR wr w6.heap.size gH m H
  bx : Box wr gb cs
  d1 : gA ≠ gH
  d2 : gb ≠ gA
  d3 : gb ≠ gH
theorem EH.below {w6 wr w' : World} {m gA gH gb : Nat} {cs : List Value} {A H : List Int} (h : EH w6 wr m gA gH gb cs A H) (hb : Below wr.heap.size wr w') : EH w6 w' m gA gH gb cs A H := ⟨below_trans h.bel hb, h.ra.below hb, h.rh.below hb, h.bx.below hb, h.d1, h.d2, h.d3⟩
theorem EH.setA {w6 wr : World} {m gA gH gb : Nat} {cs : List Value} {A H : List Int} (h : EH w6 wr m gA gH gb cs A H) (t : Nat) : EH w6 (wr.setCell ⟨gA, t, none⟩ (.int .i64 1)) m gA gH gb cs (A.set t 1) H := ⟨h.bel.setCell (p := ⟨gA, t, none⟩) h.ra.lt.1 _, h.ra.set t, h.rh.other h.d1 t _, h.bx.other h.d2 _, h.d1, h.d2, h.d3⟩
theorem EH.setH {w6 wr : World} {m gA gH gb : Nat} {cs : List Value} {A H : List Int} (h : EH w6 wr m gA gH gb cs A H) (t : Nat) : EH w6 (wr.setCell ⟨gH, t, none⟩ (.int .i64 1)) m gA gH gb cs A (H.set t 1) := ⟨h.bel.setCell (p := ⟨gH, t, none⟩) h.rh.lt.1 _, h.ra.other (fun e => h.d1 e.symm) t _, h.rh.set t, h.bx.other h.d3 _, h.d1, h.d2, h.d3⟩
/-- what is marked by now -/
structure MK (bs : List Bl) (i : Nat) (L : List In) (k : Nat) (xs : List Int) (ph : Prop) (j : Nat) (A H : List Int) : Prop where
  a1 : ∀ q, q < i → ∀ v, AskB (blk bs q) v → mk A v
  a2 : ∀ x ∈ L.take k, ∀ v ∈ x.args, mk A v
  h2 : ∀ x ∈ L.take k, x.kind ≠ 1 → ∀ v ∈ x.args, mk H v
  a3 : ∀ v ∈ xs.take j, mk A v
  h3 : ph → ∀ v ∈ xs.take j, mk H v
theorem take_mem {α : Type} {l : List α} {j : Nat} {x : α} (hx : l[j]? = some x) : ∀ v ∈ l.take (j + 1), v ∈ l.take j ∨ v = x := fun v hv => by
  rw [List.take_add_one, hx] at hv
  rcases List.mem_append.1 hv with h | h
  · exact .inl h
  · exact .inr (by simpa using h)
theorem MK.argA {bs : List Bl} {i : Nat} {L : List In} {k : Nat} {xs : List Int} {ph : Prop} {j : Nat} {A H : List Int} (h : MK bs i L k xs ph j A H) {t : Nat} (hx : xs[j]? = some (t : Int)) (ht : t < A.length) (hp : ¬ ph) : MK bs i L k xs ph (j + 1) (A.set t 1) H :=
  ⟨fun q hq v hv => (mk_set ht).1 (h.a1 q hq v hv), fun x hx v hv => (mk_set ht).1 (h.a2 x hx v hv), h.h2, fun v hv => by
    rcases take_mem hx v hv with h9 | rfl
    · exact (mk_set ht).1 (h.a3 v h9)
    · exact (mk_set (v := 0) ht).2, fun hc => absurd hc hp⟩
theorem MK.argH {bs : List Bl} {i : Nat} {L : List In} {k : Nat} {xs : List Int} {ph : Prop} {j : Nat} {A H : List Int} (h : MK bs i L k xs ph j A H) {t : Nat} (hx : xs[j]? = some (t : Int)) (ht : t < A.length) (ht2 : t < H.length) : MK bs i L k xs ph (j + 1) (A.set t 1) (H.set t 1) :=
  ⟨fun q hq v hv => (mk_set ht).1 (h.a1 q hq v hv), fun x hx v hv => (mk_set ht).1 (h.a2 x hx v hv), fun x hx hk v hv => (mk_set ht2).1 (h.h2 x hx hk v hv), fun v hv => by
    rcases take_mem hx v hv with h9 | rfl
    · exact (mk_set ht).1 (h.a3 v h9)
    · exact (mk_set (v := 0) ht).2, fun hc v hv => by
    rcases take_mem hx v hv with h9 | rfl
    · exact (mk_set ht2).1 (h.h3 hc v h9)
    · exact (mk_set (v := 0) ht2).2⟩
theorem MK.ins {bs : List Bl} {i : Nat} {L : List In} {k : Nat} {x : In} {A H : List Int} (h : MK bs i L k x.args (x.kind ≠ 1) x.args.length A H) (hx : L[k]? = some x) : MK bs i L (k + 1) [] False 0 A H := by
  refine ⟨h.a1, fun y hy v hv => ?_, fun y hy hk v hv => ?_, fun v hv => by simp at hv, fun hc => hc.elim⟩
  · rcases take_mem hx y hy with h9 | rfl
    · exact h.a2 y h9 v hv
    · exact h.a3 v (by rw [List.take_length]; exact hv)
  · rcases take_mem hx y hy with h9 | rfl
    · exact h.h2 y h9 hk v hv
    · exact h.h3 hk v (by rw [List.take_length]; exact hv)
theorem MK.begin {bs : List Bl} {i : Nat} {L : List In} {k : Nat} {ys xs : List Int} {ph ph' : Prop} {j : Nat} {A H : List Int} (h : MK bs i L k ys ph j A H) : MK bs i L k xs ph' 0 A H := ⟨h.a1, h.a2, h.h2, fun v hv => by simp at hv, fun _ v hv => by simp at hv⟩
set_option maxRecDepth 100000 in
set_option maxHeartbeats 8000000 in
theorem edgesL_any (G : Gr) (pv vv av bv : Value) (w : World) (h : GrAt w pv vv av bv G) (hT : Tabs w) :
    Calls Tryz.prog 4 #[.agg #[.string G.name, pv, .int .u8 G.result, vv, av, bv]] w fun e w' => e = .returned (.bool true) ∧ Below w.heap.size w w' := by
  have HGR : Hid (∀ W, Below w.heap.size w W → _) := fun W hb => greatE_any G pv vv av bv W (h.below hb)
  have HAW : Hid (∀ W, Below w.heap.size w W → Calls Tryz.prog 6 #[] W fun e w' => e = .returned (.bool true) ∧ Below W.heap.size W w') := fun W hb => awakeL_any W (hT.below hb)
  have HLV : Hid (szB G.blocks ≤ 720 → G.vars.length ≤ 240 → ∀ W, Below w.heap.size w W → Calls Tryz.prog 7 #[.agg #[.string G.name, pv, .int .u8 G.result, vv, av, bv]] W fun e w' => LvPost W (aloneG G) G.blocks (aheadT (tms G.blocks)) G.blocks.length G.vars.length e w') := fun h1 h2 W hb => live_any G pv vv av bv W (h.below hb) (hT.below hb).1 (hT.below hb).2 (by omega) (by have := szB_len G.blocks; omega) (by omega)
  have HNB : Hid (szB G.blocks ≤ 720 → G.blocks.length ≤ 720) := fun h1 => by have := szB_len G.blocks; omega
  have HAH : Hid (szB G.blocks ≤ 720 → ∀ W, Below w.heap.size w W → _) := fun h1 W hb => ahead_any G pv vv av bv W (h.below hb) (by have := szB_len G.blocks; omega)
  have HUN : Hid (szB G.blocks ≤ 720 → G.vars.length ≤ 240 → G.arrs.length ≤ 720 → G.params.length ≤ 120 → ∀ W, Below w.heap.size w W → _) := fun h1 h2 h3 h4 W hb => unk_any G pv vv av bv W (h.below hb) (by omega) (by omega) (by omega) (by omega)
  have HCK : Hid (aloneG G = true → szB G.blocks ≤ 720 → ∀ (W : World) (p v a b : Value), Below w.heap.size w W → GrAt W p v a b (unkG G) → Calls Tryz.prog 11 #[.slice (some ⟨W.heap.size, 0, none⟩) 1 1] (W.alloc (.cells #[.string G.name, p, .int .u8 G.result, v, a, b] 28)) fun e w' => e = .returned (.tuple #[.int .i64 0, .int .i64 0]) ∧ Below (W.alloc (.cells #[.string G.name, p, .int .u8 G.result, v, a, b] 28)).heap.size (W.alloc (.cells #[.string G.name, p, .int .u8 G.result, v, a, b] 28)) w') := fun ha h1 W p v a b hW hG => by
    have h9 := check_any [unkG G] _ _ (grs_one hG) (hT.1.below (below_trans hW (below_alloc (Below.refl _ _) _))) (fun _ G' hG' => by rw [List.mem_singleton.1 hG']; unfold unkG; dsimp only; rw [List.length_map]; have := szB_len G.blocks; omega)
    rw [check_unk ha (args_of_sz (by omega))] at h9
    exact h9
  have HGA : Hid (∀ W, Below w.heap.size w W → GrAt W pv vv av bv G) := fun W hb => h.below hb
  obtain ⟨pa, pc, va, vc, aa, ac, ba, bc, rfl, rfl, rfl, rfl, _, _, _, _⟩ := h.openF
  have HAL : Hid _ := @alone_ins G
  have HST : Hid (aloneG G = true → szB G.blocks ≤ 720 → G.vars.length ≤ 240 → StpOk G.blocks (aheadT (tms G.blocks)) G.vars.length ∧ (∀ i, i < G.blocks.length → ∀ t ∈ nextT (G.blocks.getD i default).tm, 0 ≤ t ∧ t < (G.blocks.length : Int))) := fun ha h1 h2 => ⟨(stp_ok ha (by omega)).resolve_right (fun c => c (by omega)), fun i hi t ht => rend_next (alone_ins ha _ (blk_mem hi)).1 t ht⟩
  have HAHL : Hid ((aheadT (tms G.blocks)).length = G.blocks.length ∧ ∀ r ∈ aheadT (tms G.blocks), r.length ≤ 2 * G.blocks.length) := ⟨by rw [aheadT_len]; simp [tms], fun r hr => by
    obtain ⟨j, hj, he⟩ := List.mem_iff_getElem.1 hr
    have h9 := ahead_len (bs := G.blocks) j
    rw [getD_of hj, he] at h9
    exact h9⟩
  clear h hT
  have HBX0 : Hid (Box (w.alloc (.cells #[.string G.name, .slice pa G.params.length pc, .int .u8 G.result, .slice va G.vars.length vc, .slice aa G.arrs.length ac, .slice ba G.blocks.length bc] 28)) w.heap.size [.string G.name, .slice pa G.params.length pc, .int .u8 G.result, .slice va G.vars.length vc, .slice aa G.arrs.length ac, .slice ba G.blocks.length bc] ∧ Below w.heap.size w (w.alloc (.cells #[.string G.name, .slice pa G.params.length pc, .int .u8 G.result, .slice va G.vars.length vc, .slice aa G.arrs.length ac, .slice ba G.blocks.length bc] 28))) := ⟨Box.new w [.string G.name, .slice pa G.params.length pc, .int .u8 G.result, .slice va G.vars.length vc, .slice aa G.arrs.length ac, .slice ba G.blocks.length bc] 28, below_alloc (Below.refl _ _) _⟩
  generalize aheadT (tms G.blocks) = ah at *
  generalize hAG : aloneG G = AG at *
  clear hAG HAL
  obtain ⟨nm, ps, r, vs, ars, bs⟩ := G
  dsimp only at *
  generalize ps.length = pl at *
  generalize hvm : vs.length = m at *
  have HVM : Hid (vs.length = m) := hvm
  clear hvm
  generalize ars.length = al at *
  generalize hbn : bs.length = n at *
  have HBN : Hid (bs.length = n) := hbn
  clear hbn
  generalize szB bs = Z at *
  cases AG with
  | false =>
    go_enter Tryz.func4, Tryz.ntmps4
    go_wp2_with (first
    | (go_at_call 6; go_loud (refine Calls.mono (by exact HAW.out _ HBX0.out.2) ?_; rintro e w1 ⟨rfl, hb⟩; have H1 : Hid (Below w.heap.size w w1 ∧ Box w1 w.heap.size [.string nm, .slice pa pl pc, .int .u8 r, .slice va m vc, .slice aa al ac, .slice ba n bc]) := ⟨below_trans HBX0.out.2 hb, HBX0.out.1.below hb⟩; obtain ⟨f0, f1, f2, f3, f4, f5⟩ := box6 H1.out.2; clear hb))
    | (go_at_call 5; go_loud (refine Calls.mono (by exact HGR.out _ H1.out.1) ?_; rintro e w2 ⟨bg, rfl, hng, hb⟩; have HNG : Hid (Hid (bg = false → Z ≤ 720 ∧ m ≤ 240 ∧ al ≤ 720 ∧ pl ≤ 120)) := hng; have H2 : Hid (Below w.heap.size w w2 ∧ Box w2 w.heap.size [.string nm, .slice pa pl pc, .int .u8 r, .slice va m vc, .slice aa al ac, .slice ba n bc]) := ⟨below_trans H1.out.1 hb, H1.out.2.below hb⟩; obtain ⟨g0, g1, g2, g3, g4, g5⟩ := box6 H2.out.2; clear hb hng; cases bg))
    | (go_at_call 7; go_loud (have hbd : Z ≤ 720 ∧ m ≤ 240 ∧ al ≤ 720 ∧ pl ≤ 120 := (by first | exact HNG.out.out rfl | exact HNG.out.out | exact HNG.out trivial); refine Calls.mono (by exact HLV.out hbd.1 hbd.2.1 _ H2.out.1) ?_; rintro e w3 hp; obtain ⟨rfl, hb⟩ := lvpost_no hp; have H3 : Hid (Below w.heap.size w w3) := below_trans H2.out.1 hb; clear hp hb hbd)))
    all_goals (go_ret; first | exact ⟨rfl, H3.out⟩ | exact ⟨rfl, H2.out.1⟩)
  | true =>
    go_enter Tryz.func4, Tryz.ntmps4
    go_wp2_with (first
    | (go_at_call 6; go_loud (refine Calls.mono (by exact HAW.out _ HBX0.out.2) ?_; rintro e w1 ⟨rfl, hb⟩; have H1 : Hid (Below w.heap.size w w1 ∧ Box w1 w.heap.size [.string nm, .slice pa pl pc, .int .u8 r, .slice va m vc, .slice aa al ac, .slice ba n bc]) := ⟨below_trans HBX0.out.2 hb, HBX0.out.1.below hb⟩; obtain ⟨f0, f1, f2, f3, f4, f5⟩ := box6 H1.out.2; clear hb))
    | (go_at_call 5; go_loud (refine Calls.mono (by exact HGR.out _ H1.out.1) ?_; rintro e w2 ⟨bg, rfl, hng, hb⟩; have HNG : Hid (Hid (bg = false → Z ≤ 720 ∧ m ≤ 240 ∧ al ≤ 720 ∧ pl ≤ 120)) := hng; have H2 : Hid (Below w.heap.size w w2 ∧ Box w2 w.heap.size [.string nm, .slice pa pl pc, .int .u8 r, .slice va m vc, .slice aa al ac, .slice ba n bc]) := ⟨below_trans H1.out.1 hb, H1.out.2.below hb⟩; obtain ⟨g0, g1, g2, g3, g4, g5⟩ := box6 H2.out.2; clear hb hng; cases bg))
    | (go_at_call 7; go_loud (have hbd : Z ≤ 720 ∧ m ≤ 240 ∧ al ≤ 720 ∧ pl ≤ 120 := (by first | exact HNG.out.out rfl | exact HNG.out.out | exact HNG.out trivial); have HBD : Hid (Z ≤ 720 ∧ m ≤ 240 ∧ al ≤ 720 ∧ pl ≤ 120) := hbd; have hmk := make_intsL m (by omega); refine Calls.mono (by exact HLV.out hbd.1 hbd.2.1 _ H2.out.1) ?_; rintro e w3 hp; obtain ⟨⟨gI, gO, rfl, hi, ho⟩, hb⟩ := lvpost_yes (by have := HNB.out hbd.1; omega) (by omega) hp; have HI3 : Hid (NetAt w3 (.slice (some ⟨gI, 0, none⟩) n n) (inL bs ah n m)) := hi; have HO3 : Hid (NetAt w3 (.slice (some ⟨gO, 0, none⟩) n n) (ouL bs ah n m)) := ho; have H3 : Hid (Below w.heap.size w w3 ∧ Box w3 w.heap.size [.string nm, .slice pa pl pc, .int .u8 r, .slice va m vc, .slice aa al ac, .slice ba n bc]) := ⟨below_trans H2.out.1 hb, H2.out.2.below hb⟩; obtain ⟨h0, h1, h2, h3, h4, h5⟩ := box6 H3.out.2; clear hp hb hbd hi ho))
    | (go_at_call 10; go_loud (refine Calls.mono (by exact HAH.out HBD.out.1 _ H3.out.1) ?_; rintro e w4 ⟨kvs, rfl, hr, hb⟩; have HA4 : Hid (NetAt w4 (.slice (some ⟨w3.heap.size + 1, 0, none⟩) n n) ah) := hr.at' (by have := HNB.out HBD.out.1; omega) (fun r hr => (by have h9 := HAHL.out.2 r hr; have := HNB.out HBD.out.1; omega)); have H4 : Hid (Below w.heap.size w w4 ∧ Box w4 w.heap.size [.string nm, .slice pa pl pc, .int .u8 r, .slice va m vc, .slice aa al ac, .slice ba n bc] ∧ Below w3.heap.size w3 w4) := ⟨below_trans H3.out.1 hb, H3.out.2.below hb, hb⟩; obtain ⟨i0, i1, i2, i3, i4, i5⟩ := box6 H4.out.2.1; clear hr hb))
    | (go_at_call 12; go_loud (refine Calls.mono (by exact HUN.out HBD.out.1 HBD.out.2.1 HBD.out.2.2.1 HBD.out.2.2.2 _ H4.out.1) ?_; rintro e w5 ⟨p5, v5, a5, b5, rfl, hg5, hb⟩; obtain ⟨xa, xc, xb, xd, xe, xf, xg, xh, rfl, rfl, rfl, rfl, _, _, _, _⟩ := hg5.openF; have HG5 : Hid _ := hg5; have H5 : Hid (Below w.heap.size w w5 ∧ Box w5 w.heap.size [.string nm, .slice pa pl pc, .int .u8 r, .slice va m vc, .slice aa al ac, .slice ba n bc] ∧ Below w4.heap.size w4 w5) := ⟨below_trans H4.out.1 hb, H4.out.2.1.below hb, hb⟩; obtain ⟨j0, j1, j2, j3, j4, j5⟩ := box6 H5.out.2.1; clear hg5 hb))
    | (go_at_call 11; go_loud (refine Calls.mono (by first | exact HCK.out rfl HBD.out.1 w5 _ _ _ _ H5.out.1 HG5.out | exact HCK.out HBD.out.1 w5 _ _ _ _ H5.out.1 HG5.out | exact HCK.out trivial HBD.out.1 w5 _ _ _ _ H5.out.1 HG5.out) ?_; rintro e w6 ⟨rfl, hb⟩; have hb' : Below w5.heap.size w5 w6 := below_trans (below_alloc (Below.refl _ _) _) hb; have H6 : Hid (Below w.heap.size w w6 ∧ Box w6 w.heap.size [.string nm, .slice pa pl pc, .int .u8 r, .slice va m vc, .slice aa al ac, .slice ba n bc] ∧ Below w3.heap.size w3 w6 ∧ Below w4.heap.size w4 w6) := ⟨below_trans H5.out.1 hb', H5.out.2.1.below hb', below_trans H4.out.2.2 (below_trans H5.out.2.2 hb'), below_trans H5.out.2.2 hb'⟩; obtain ⟨k0, k1, k2, k3, k4, k5⟩ := box6 H6.out.2.1; clear hb hb')))
    rotate_left 1
    · go_ret
      exact ⟨rfl, H2.out.1⟩
    have HM0 : Hid (MR (w6.alloc (.cells (madeCells #[.int .i64 0] m) 3)) w6.heap.size w6.heap.size m (List.replicate m 0) ∧ Below w6.heap.size w6 (w6.alloc (.cells (madeCells #[.int .i64 0] m) 3))) := ⟨MR.made w6 m _ (by have := HBD.out; omega) (Nat.le_refl _), below_alloc (Below.refl _ _) _⟩
    have HI6 : Hid (NetAt w6 (.slice (some ⟨gI, 0, none⟩) n n) (inL bs ah n m)) := HI3.out.below H6.out.2.2.1
    have HO6 : Hid (NetAt w6 (.slice (some ⟨gO, 0, none⟩) n n) (ouL bs ah n m)) := HO3.out.below H6.out.2.2.1
    have HA6 : Hid (NetAt w6 (.slice (some ⟨w3.heap.size + 1, 0, none⟩) n n) ah) := HA4.out.below H6.out.2.2.2
    obtain ⟨hst, hnxt⟩ : StpOk bs ah m ∧ (∀ i, i < n → ∀ t ∈ nextT (bs.getD i default).tm, 0 ≤ t ∧ t < (n : Int)) := by first | exact HST.out rfl HBD.out.1 HBD.out.2.1 | exact HST.out HBD.out.1 HBD.out.2.1 | exact HST.out trivial HBD.out.1 HBD.out.2.1
    have HSO : Hid (StpOk bs ah m) := hst
    have HNX : Hid _ := hnxt
    have hn7 : n ≤ 720 := HNB.out HBD.out.1
    have hm7 : m ≤ 240 := HBD.out.2.1
    clear hst hnxt HST HAW HLV HAH HUN HCK HGR HI3 HO3 HA4 H2 H1 H3 H4 H5 HG5 HNG HBX0 f0 f1 f2 f3 f4 f5 g0 g1 g2 g3 g4 g5 h0 h1 h2 h3 h4 h5 i0 i1 i2 i3 i4 i5 j0 j1 j2 j3 j4 j5 k0 k1 k2 k3 k4 k5
    have HB6 : Hid (∀ i, i < n → _) := fun i hi => (HGA.out w6 H6.out.1).bs.get (i := i) (by dsimp only; rw [HBN.out]; exact hi)
    have HKN : Hid (∀ W, Below w6.heap.size w6 W → ∀ l a, IntsAt W a l → (l.all (inB · m)) = true → _) := fun W hb l a hl ha => (known_any ⟨nm, ps, r, vs, ars, bs⟩ _ _ _ _ a l W (HGA.out W (below_trans H6.out.1 hb)) hl)
    go_loopw [10] (fun vi wr => ∃ (i : Nat) (A : List Int), vi = .int .i64 i ∧ i ≤ n ∧ Hid (Below w6.heap.size w6 wr ∧ MR wr w6.heap.size w6.heap.size m A ∧ ∀ q, q < i → ∀ v, AskB (blk bs q) v → mk A v)) (fun vi _ => n - (intOf vi).toNat)
    case atStart => exact ⟨0, _, rfl, by omega, HM0.out.2, HM0.out.1, fun q hq => by omega⟩
    case round =>
      obtain ⟨i, A, rfl, hi, hr⟩ := hrel
      clear HM0
      generalize wr = wo at *
      obtain ⟨e0, e1, e2, e3, e4, e5⟩ := box6 (H6.out.2.1.below hr.out.1)
      have hwl := (H6.out.2.1.below hr.out.1).lt
      by_cases hin : i < n
      · obtain ⟨g, o, iv, rfl, hg, c0, c1, c2, c3, c4, c5, hins⟩ := HB6.out i hin
        obtain ⟨ia, ic, rfl, hil⟩ := hins.form
        have hin' : (i : Int) < n := by omega
        have hcl : ∀ j, wo.cell? ⟨g, j, none⟩ = w6.cell? ⟨g, j, none⟩ := fun j => hr.out.1.cell (p := ⟨g, j, none⟩) hg
        rw [← hcl] at c0 c1 c2 c3 c4 c5
        have HII : Hid (∀ k, k < (bs.getD i default).ins.length → _) := fun k hk => hins.get (i := k) hk
        have HRG : Hid (∀ x ∈ (bs.getD i default).ins, ∀ a ∈ x.args, 0 ≤ a ∧ a < (m : Int)) := fun x hx a ha => (HSO.out.gr.ins i (by rw [HBN.out]; exact hin) x hx).1 a ha
        have HTG : Hid ((bs.getD i default).tm.kind = 2 ∨ (bs.getD i default).tm.kind = 3 → 0 ≤ (bs.getD i default).tm.arg ∧ (bs.getD i default).tm.arg < (m : Int)) := fun hk => HSO.out.gr.tm i (by rw [HBN.out]; exact hin) hk
        have HBE : Hid (blk bs i = bs.getD i default) := rfl
        have HNI : Hid (∀ j ∈ nxB bs i, j < n) := fun j hj => by
          unfold nxB at hj
          obtain ⟨t, ht, rfl⟩ := List.mem_map.1 hj
          have h9 := HNX.out i hin t ht
          omega
        have HFO : Hid (∀ W, Below w6.heap.size w6 W → ∀ v : Int, _) := fun W hb v => follows_any ⟨nm, ps, r, vs, ars, bs⟩ _ _ _ _ _ _ ah (inL bs ah n m) i v W (HGA.out W (below_trans H6.out.1 hb)) (HA6.out.below hb) (HI6.out.below hb) (by dsimp only; rw [HBN.out]; exact HAHL.out.1) (by simp [HBN.out]) (by dsimp only; rw [HBN.out]; exact hin) (by dsimp only; rw [HBN.out]; exact HNX.out i hin)
        clear hcl hins HB6
        generalize hBB : bs.getD i default = BB at *
        clear hBB
        obtain ⟨L, tk, ta, t0, t1, tt⟩ := BB
        dsimp only at *
        have HR0 : Hid (∀ q, q < i → ∀ v, AskB (blk bs q) v → mk A v) := hr.out.2.2
        have HE0 : Hid (EH w6 ((wo.alloc (.cells #[.slice ia L.length ic, .int .u8 tk, .int .i64 ta, .int .i64 t0, .int .i64 t1, .int .u8 tt] 48)).alloc (.cells (madeCells #[.int .i64 0] m) 3)) m w6.heap.size (wo.heap.size + 1) wo.heap.size [.slice ia L.length ic, .int .u8 tk, .int .i64 ta, .int .i64 t0, .int .i64 t1, .int .u8 tt] A (List.replicate m 0)) := by
          have hb1 : Below wo.heap.size wo (wo.alloc (.cells #[.slice ia L.length ic, .int .u8 tk, .int .i64 ta, .int .i64 t0, .int .i64 t1, .int .u8 tt] 48)) := below_alloc (Below.refl _ _) _
          have hb2 : Below (wo.alloc (.cells #[.slice ia L.length ic, .int .u8 tk, .int .i64 ta, .int .i64 t0, .int .i64 t1, .int .u8 tt] 48)).heap.size (wo.alloc (.cells #[.slice ia L.length ic, .int .u8 tk, .int .i64 ta, .int .i64 t0, .int .i64 t1, .int .u8 tt] 48)) ((wo.alloc (.cells #[.slice ia L.length ic, .int .u8 tk, .int .i64 ta, .int .i64 t0, .int .i64 t1, .int .u8 tt] 48)).alloc (.cells (madeCells #[.int .i64 0] m) 3)) := below_alloc (Below.refl _ _) _
          have hs : (wo.alloc (.cells #[.slice ia L.length ic, .int .u8 tk, .int .i64 ta, .int .i64 t0, .int .i64 t1, .int .u8 tt] 48)).heap.size = wo.heap.size + 1 := by simp
          have hlt := hr.out.2.1.lt.2
          have h9 := MR.made (wo.alloc (.cells #[.slice ia L.length ic, .int .u8 tk, .int .i64 ta, .int .i64 t0, .int .i64 t1, .int .u8 tt] 48)) m w6.heap.size (by omega) (by rw [hs]; have := hr.out.1.size; omega)
          rw [hs] at h9
          exact ⟨below_trans hr.out.1 (below_trans hb1 hb2), (hr.out.2.1.below hb1).below hb2, h9, (Box.new wo [.slice ia L.length ic, .int .u8 tk, .int .i64 ta, .int .i64 t0, .int .i64 t1, .int .u8 tt] 48).below hb2, by omega, by omega, by omega⟩
        have HK0 : Hid (MK bs i L 0 [] False 0 A (List.replicate m 0)) := ⟨HR0.out, fun x hx => by simp at hx, fun x hx => by simp at hx, fun v hv => by simp at hv, fun hc => hc.elim⟩
        have HSZ : Hid (∀ o : Obj, (wo.alloc o).heap.size = wo.heap.size + 1) := fun o => by simp
        clear hr
        go_wp2
        clear c0 c1 c2 c3 c4 c5 e0 e1 e2 e3 e4 e5
        go_loopw [13] (fun vk wr => ∃ (k : Nat) (A H : List Int), vk = .int .i64 k ∧ k ≤ L.length ∧ Hid (EH w6 wr m w6.heap.size (wo.heap.size + 1) wo.heap.size [.slice ia L.length ic, .int .u8 tk, .int .i64 ta, .int .i64 t0, .int .i64 t1, .int .u8 tt] A H ∧ MK bs i L k [] False 0 A H)) (fun vk _ => L.length - (intOf vk).toNat)
        case atStart => exact ⟨0, A, _, rfl, by omega, by first | exact HE0.out | (have h9 := HE0.out; rw [HSZ.out] at h9; exact h9), HK0.out⟩
        case round =>
          obtain ⟨k, A, H, rfl, hk, hq⟩ := hrel
          clear HE0 HK0 HR0
          generalize wr = wp at *
          obtain ⟨e0, e1, e2, e3, e4, e5⟩ := box6 (H6.out.2.1.below hq.out.1.bel)
          have hwl2 := (H6.out.2.1.below hq.out.1.bel).lt
          obtain ⟨b0, b1, b2, b3, b4, b5⟩ := box6 hq.out.1.bx
          have hbl := hq.out.1.bx.lt
          by_cases hkn : k < L.length
          · as_aux_lemma =>
              have hkn' : (k : Int) < L.length := by omega
              obtain ⟨gi, oi, xv, rfl, hgi, d0, d1, d2, d3, d4, d5, hxa⟩ := HII.out k hkn
              obtain ⟨xa, xc, rfl, hxl⟩ := hxa.form
              have HCX : Hid (∀ W, Below w6.heap.size w6 W → W.cell? ⟨gi, oi + k * 6, none⟩ = some (.int .u8 (L.getD k default).kind) ∧ W.cell? ⟨gi, oi + k * 6 + 3, none⟩ = some (.slice xa (L.getD k default).args.length xc)) := fun W hb => ⟨(hb.cell (p := ⟨gi, oi + k * 6, none⟩) hgi).trans d0, (hb.cell (p := ⟨gi, oi + k * 6 + 3, none⟩) hgi).trans d3⟩
              have hxm : L.getD k default ∈ L := getD_memI hkn
              have hall : ((L.getD k default).args.all (inB · m)) = true := List.all_eq_true.2 fun a ha => inB_iff.2 (HRG.out _ hxm a ha)
              have HK1 : Hid (∀ W, Below w6.heap.size w6 W → Calls Tryz.prog 13 #[.agg #[.string nm, .slice pa pl pc, .int .u8 r, .slice va m vc, .slice aa al ac, .slice (some ⟨g, o, none⟩) n bc], .slice xa (L.getD k default).args.length xc] W fun e w' => e = .returned (.bool true) ∧ Below W.heap.size W w') := fun W hb => by
                have h9 := HKN.out W hb (L.getD k default).args (.slice xa (L.getD k default).args.length xc) (hxa.below hb) hall
                rw [show (List.all (L.getD k default).args fun x => inB x vs.length) = true from by rw [HVM.out]; exact hall] at h9
                exact h9
              have HLK : Hid (L[k]? = some (L.getD k default)) := getD_somL hkn
              have HRX : Hid (∀ a ∈ (L.getD k default).args, 0 ≤ a ∧ a < (m : Int)) := HRG.out _ hxm
              have HXA : Hid (∀ j, j < (L.getD k default).args.length → _) := fun j hj => hxa.get (i := j) hj
              obtain ⟨q0, q3⟩ := HCX.out _ hq.out.1.bel
              have HEQ : Hid _ := hq.out.1
              have HMK : Hid (MK bs i L k (L.getD k default).args ((L.getD k default).kind ≠ 1) 0 A H) := hq.out.2.begin
              clear hq hall hxm hxa d0 d1 d2 d3 d4 d5 HII
              generalize L.getD k default = X at *
              obtain ⟨xk, xo, xd, xs, xb, xr⟩ := X
              dsimp only at *
              go_wp2
              refine wp_region_last2 7 _ _ rfl rfl rfl rfl (by kernel_rfl) (by kernel_rfl) (by kernel_rfl) (by kernel_rfl) (by kernel_rfl) (by kernel_rfl) (by kernel_rfl) ?_
              simp only [List.take_succ_cons, List.take_zero]
              repeat (go_big_quiet_step (fail))
              refine wpQuiet_nil ?_
              intro _ hw'
              obtain ⟨nq, hw''⟩ := hw'
              subst hw''
              intro K hK
              go_simp
              refine Calls.mono (by exact HK1.out _ (below_trans HEQ.out.bel (below_drewN (Below.refl _ _) nq))) ?_
              rintro e w7 ⟨rfl, hb7⟩
              refine hK _ _ ?_
              clear hK K
              have HE7 : Hid (EH w6 w7 m w6.heap.size (wo.heap.size + 1) wo.heap.size [.slice (some ⟨gi, oi, none⟩) L.length ic, .int .u8 tk, .int .i64 ta, .int .i64 t0, .int .i64 t1, .int .u8 tt] A H) := (HEQ.out.below (below_drewN (Below.refl _ _) nq)).below hb7
              clear hb7 HEQ HK1 e0 e1 e2 e3 e4 e5 b0 b1 b2 b3 b4 b5 q0 q3
              go_simp
              go_wp2
              go_loopw [14] (fun vj wr => ∃ (j : Nat) (A H : List Int), vj = .int .i64 j ∧ j ≤ xs.length ∧ Hid (EH w6 wr m w6.heap.size (wo.heap.size + 1) wo.heap.size [.slice (some ⟨gi, oi, none⟩) L.length ic, .int .u8 tk, .int .i64 ta, .int .i64 t0, .int .i64 t1, .int .u8 tt] A H ∧ MK bs i L k xs (xk ≠ 1) j A H)) (fun vj _ => xs.length - (intOf vj).toNat)
              case atStart => exact ⟨0, A, H, rfl, by omega, HE7.out, HMK.out⟩
              case round =>
                obtain ⟨j, A, H, rfl, hj, hz⟩ := hrel
                clear HE7 HMK
                generalize wr = wz at *
                obtain ⟨b0, b1, b2, b3, b4, b5⟩ := box6 hz.out.1.bx
                have hbl2 := hz.out.1.bx.lt
                obtain ⟨q0, q3⟩ := HCX.out _ hz.out.1.bel
                by_cases hjn : j < xs.length
                · as_aux_lemma =>
                    have hjn' : (j : Int) < xs.length := by omega
                    obtain ⟨gx, ox, rfl, hgx, cx⟩ := HXA.out j hjn
                    have hxj : xs[j]? = some (xs.getD j 0) := getD_some hjn
                    obtain ⟨ha0, ha1⟩ := HRX.out (xs.getD j 0) (getD_memF hjn)
                    obtain ⟨t, ht⟩ : ∃ t : Nat, xs.getD j 0 = (t : Int) := Int.eq_ofNat_of_zero_le ha0
                    rw [ht] at ha1 hxj cx
                    have htm : t < m := by omega
                    have htm' : (t : Int) < m := by omega
                    have cx' : wz.cell? ⟨gx, ox + j, none⟩ = some (.int .i64 (t : Int)) := (hz.out.1.bel.cell (p := ⟨gx, ox + j, none⟩) hgx).trans cx
                    have cA := hz.out.1.ra.cell htm
                    have fA := hz.out.1.ra.fz t
                    have HEA := hz.out.1.setA t
                    have cH := HEA.rh.cell htm
                    have fH := HEA.rh.fz t
                    obtain ⟨u0, u1, u2, u3, u4, u5⟩ := box6 HEA.bx
                    obtain ⟨v0, v3⟩ := HCX.out _ HEA.bel
                    have cy' : (wz.setCell ⟨w6.heap.size, t, none⟩ (.int .i64 1)).cell? ⟨gx, ox + j, none⟩ = some (.int .i64 (t : Int)) := (HEA.bel.cell (p := ⟨gx, ox + j, none⟩) hgx).trans cx
                    have hlA := hz.out.1.ra.len
                    have hlH := hz.out.1.rh.len
                    have HEA2 : Hid _ := HEA
                    by_cases hx : xk = 1
                    · subst hx
                      have HN : Hid (MK bs i L k xs ((1 : Int) ≠ 1) (j + 1) (A.set t 1) H) := hz.out.2.argA hxj (by omega) (by simp)
                      clear hz HEA cx HXA hxj ht
                      go_wp2
                      go_roundw
                      case rel => exact ⟨j + 1, A.set t 1, H, by first | rfl | (congr 1; omega), by omega, HEA2.out, HN.out⟩
                      case measure => simp [intOf]; omega
                    · have hxn : (xk != 1) = true := bne_iff_ne.2 hx
                      have HN : Hid (MK bs i L k xs (xk ≠ 1) (j + 1) (A.set t 1) (H.set t 1)) := hz.out.2.argH hxj (by omega) (by omega)
                      clear hz HEA cx HXA hxj ht
                      go_wp2
                      go_roundw
                      case rel => exact ⟨j + 1, A.set t 1, H.set t 1, by first | rfl | (congr 1; omega), by omega, HEA2.out.setH t, HN.out⟩
                      case measure => simp [intOf]; omega
                · obtain rfl : j = xs.length := by omega
                  have HN : Hid (MK bs i L (k + 1) [] False 0 A H) := MK.ins (x := ⟨xk, xo, xd, xs, xb, xr⟩) hz.out.2 HLK.out
                  have HEZ : Hid _ := hz.out.1
                  clear hz HXA
                  go_wp2
                  go_roundw
                  case rel => exact ⟨k + 1, A, H, by first | rfl | (congr 1; omega), by omega, HEZ.out, HN.out⟩
                  case measure => simp [intOf]; omega
          · obtain rfl : k = L.length := by omega
            have hb3 : blk bs i = ⟨L, tk, ta, t0, t1, tt⟩ := HBE.out
            have HAB : Hid (∀ v, AskB (blk bs i) v → mk A v ∨ asksT ⟨tk, ta, t0, t1, tt⟩ v = true) := fun v hv => by
              rw [hb3] at hv
              rcases hv with ⟨x, hx, hm⟩ | h
              · exact .inl (hq.out.2.a2 x (by rw [List.take_length]; exact hx) v hm)
              · exact .inr h
            have HHB : Hid (∀ v, HereB (blk bs i) v → mk H v ∨ asksT ⟨tk, ta, t0, t1, tt⟩ v = true) := fun v hv => by
              rw [hb3] at hv
              rcases hv with ⟨x, hx, hk9, hm⟩ | h
              · exact .inl (hq.out.2.h2 x (by rw [List.take_length]; exact hx) hk9 v hm)
              · exact .inr h
            have HA1 : Hid (∀ q, q < i → ∀ v, AskB (blk bs q) v → mk A v) := hq.out.2.a1
            have HEZ : Hid _ := hq.out.1
            clear hb3 hq HII HKN e0 e1 e2 e3 e4 e5
            by_cases hk23 : tk = 2 ∨ tk = 3
            · obtain ⟨ha0, ha1⟩ := HTG.out hk23
              obtain ⟨t, ht⟩ := Int.eq_ofNat_of_zero_le ha0
              subst ht
              have htm : t < m := by omega
              have htm' : (t : Int) < m := by omega
              have cA := HEZ.out.ra.cell htm
              have fA := HEZ.out.ra.fz t
              have HEA := HEZ.out.setA t
              have cH := HEA.rh.cell htm
              have fH := HEA.rh.fz t
              have cH0 := HEZ.out.rh.cell htm
              have fH0 := HEZ.out.rh.fz t
              obtain ⟨u0, u1, u2, u3, u4, u5⟩ := box6 HEA.bx
              have hlA := HEZ.out.ra.len
              have hlH := HEZ.out.rh.len
              have HAS : Hid (∀ v, asksT ⟨tk, (t : Int), t0, t1, tt⟩ v = true → v = (t : Int)) := fun v hv => by unfold asksT at hv; rw [Bool.and_eq_true] at hv; have := hv.2; simp at this; exact this.symm
              obtain ⟨A8, hA8⟩ : ∃ A8, A8 = A.set t 1 := ⟨_, rfl⟩
              obtain ⟨H8, hH8⟩ : ∃ H8, H8 = H.set t 1 := ⟨_, rfl⟩
              have HM8 : Hid ((∀ q, q < i + 1 → ∀ v, AskB (blk bs q) v → mk A8 v) ∧ ∀ v, HereB (blk bs i) v → mk H8 v) := by
                rw [hA8, hH8]
                refine ⟨fun q hq v hv => ?_, fun v hv => ?_⟩
                · by_cases e : q = i
                  · subst e
                    rcases HAB.out v hv with h9 | h9
                    · exact (mk_set (by omega)).1 h9
                    · rw [HAS.out v h9]; exact (mk_set (v := 0) (by omega)).2
                  · exact (mk_set (by omega)).1 (HA1.out q (by omega) v hv)
                · rcases HHB.out v hv with h9 | h9
                  · exact (mk_set (by omega)).1 h9
                  · rw [HAS.out v h9]; exact (mk_set (v := 0) (by omega)).2
              have HE8' : Hid (∀ nq, EH w6 (((wp.setCell ⟨w6.heap.size, t, none⟩ (.int .i64 1)).setCell ⟨wo.heap.size + 1, t, none⟩ (.int .i64 1)).drewN nq) m w6.heap.size (wo.heap.size + 1) wo.heap.size [.slice ia L.length ic, .int .u8 tk, .int .i64 (t : Int), .int .i64 t0, .int .i64 t1, .int .u8 tt] A8 H8) := fun nq => by rw [hA8, hH8]; exact (HEA.setH t).below (below_drewN (Below.refl _ _) nq)
              clear HEA HEZ hA8 hH8 HAS HAB HHB HA1 hlA hlH
              rcases hk23 with rfl | rfl
              · go_wp2
                go_region
                go_wp2
                have HE8 : Hid _ := HE8'.out 1
                clear HE8' b0 b1 b2 b3 b4 b5 u0 u1 u2 u3 u4 u5 cA fA cH fH cH0 fH0
                go_loopw [15] (fun vx wr => ∃ v : Nat, vx = .int .i64 v ∧ v ≤ m ∧ Hid (EH w6 wr m w6.heap.size (wo.heap.size + 1) wo.heap.size [.slice ia L.length ic, .int .u8 2, .int .i64 (t : Int), .int .i64 t0, .int .i64 t1, .int .u8 tt] A8 H8)) (fun vx _ => m - (intOf vx).toNat)
                case atStart => exact ⟨0, rfl, by omega, HE8.out⟩
                case round =>
                  obtain ⟨v, rfl, hv, hy⟩ := hrel
                  clear HE8
                  generalize wr = wy at *
                  obtain ⟨e0, e1, e2, e3, e4, e5⟩ := box6 (H6.out.2.1.below hy.out.bel)
                  have hwy := (H6.out.2.1.below hy.out.bel).lt
                  by_cases hvm : v < m
                  · as_aux_lemma =>
                      have hvm' : (v : Int) < m := by omega
                      go_wp2
                      have hrowO := HO6.out.get (i := i) (by simp; exact hin)
                      have hrowI := HI6.out.get (i := i) (by simp; exact hin)
                      obtain ⟨g1, o1, oa, oc, hge, hg1, cO, hIO⟩ := hrowO
                      injection hge with hge
                      injection hge with y1 y2
                      subst y1 y2
                      obtain ⟨g1, o1, na, nc, hge, hg2, cN, hIN⟩ := hrowI
                      injection hge with hge
                      injection hge with y1 y2
                      subst y1 y2
                      rw [Nat.zero_add] at cO cN
                      have hfol := out_follows (bs := bs) (ah := ah) (n := n) (m := m) hin hvm HNI.out
                      have hhere := fun h1 h2 => in_here (bs := bs) (ah := ah) (n := n) (m := m) (v := v) hin h1 h2
                      have HAO : Hid (∀ W, Below w6.heap.size w6 W → Calls Tryz.prog 14 #[.slice oa ((ouL bs ah n m).getD i []).length oc, .int .i64 (v : Int)] W fun e w' => e = .returned (.bool (memB ((ouL bs ah n m).getD i []) v)) ∧ w' = W) := fun W hb => amongL_any _ v _ W (hIO.below hb)
                      have HAI : Hid (∀ W, Below w6.heap.size w6 W → Calls Tryz.prog 14 #[.slice na ((inL bs ah n m).getD i []).length nc, .int .i64 (v : Int)] W fun e w' => e = .returned (.bool (memB ((inL bs ah n m).getD i []) v)) ∧ w' = W) := fun W hb => amongL_any _ v _ W (hIN.below hb)
                      have HFV : Hid (∀ W, Below w6.heap.size w6 W → _) := fun W hb => HFO.out W hb (v : Int)
                      rw [← hfol] at HFV
                      have hH9 : H8.getD v 0 = 0 → ¬ HereB (blk bs i) v := fun h0 hc => by have h9 := HM8.out.2 v hc; unfold mk at h9; rw [Int.toNat_natCast, h0] at h9; omega
                      have HSX : Hid (∀ W, EH w6 W m w6.heap.size (wo.heap.size + 1) wo.heap.size [.slice ia L.length ic, .int .u8 2, .int .i64 (t : Int), .int .i64 t0, .int .i64 t1, .int .u8 tt] A8 H8 → W.cell? ⟨gO, i, none⟩ = some (.slice oa ((ouL bs ah n m).getD i []).length oc) ∧ W.cell? ⟨gI, i, none⟩ = some (.slice na ((inL bs ah n m).getD i []).length nc) ∧ W.cell? ⟨wo.heap.size + 1, v, none⟩ = some (.int .i64 (H8.getD v 0))) := fun W hE => ⟨(hE.bel.cell (p := ⟨gO, i, none⟩) hg1).trans cO, (hE.bel.cell (p := ⟨gI, i, none⟩) hg2).trans cN, hE.rh.cell hvm⟩
                      have HYY : Hid _ := hy.out
                      obtain ⟨s1, s2, s3⟩ := HSX.out _ hy.out
                      clear hy hIO hIN cO cN hfol
                      generalize memB ((ouL bs ah n m).getD i []) (v : Int) = O at *
                      generalize memB ((inL bs ah n m).getD i []) (v : Int) = N at *
                      generalize ((ouL bs ah n m).getD i []).length = ol at *
                      generalize ((inL bs ah n m).getD i []).length = nl at *
                      generalize H8.getD v 0 = hv0 at *
                      have hno : ¬ (O = false ∧ N = true ∧ hv0 = 0) := fun ⟨q1, q2, q3⟩ => by have h9 := hhere q2 (hH9 q3); rw [q1] at h9; cases h9
                      clear hhere hH9
                      cases N with
                      | false =>
                        clear hno
                        cases O with
                        | false =>
                          as_aux_lemma =>
                            refine wp_region_pre 11 (by kernel_rfl) (by kernel_rfl) (by kernel_rfl) (by kernel_rfl) ?_
                            simp only [List.take_succ_cons, List.take_zero]
                            repeat (go_big_quiet_step (first | (go_at_call 14; exact Calls.quiet_of_same (HAO.out _ (below_trans HYY.out.bel (below_drewN (Below.refl _ _) _))))))
                            refine wpQuiet_nil ?_
                            intro w7 hw7
                            obtain ⟨nq, hw7⟩ := hw7
                            subst hw7
                            have HY7 : Hid (EH w6 (wy.drewN nq) m w6.heap.size (wo.heap.size + 1) wo.heap.size [.slice ia L.length ic, .int .u8 2, .int .i64 (t : Int), .int .i64 t0, .int .i64 t1, .int .u8 tt] A8 H8) := HYY.out.below (below_drewN (Below.refl _ _) nq)
                            refine wpAny_one (n := 25) 11 (by kernel_rfl) rfl (fun K hK0 => ?_)
                            have hK : Shut _ := hK0
                            clear hK0
                            go_simp
                            refine Calls.mono (by exact HFV.out _ HY7.out.bel) ?_
                            rintro e w8 ⟨rfl, hb8⟩
                            dsimp only
                            have HY8 : Hid (EH w6 w8 m w6.heap.size (wo.heap.size + 1) wo.heap.size [.slice ia L.length ic, .int .u8 2, .int .i64 (t : Int), .int .i64 t0, .int .i64 t1, .int .u8 tt] A8 H8) := HY7.out.below hb8
                            obtain ⟨x1, x2, x3⟩ := HSX.out _ HY8.out
                            refine hK.out _ _ ?_
                            clear hK K s1 s2 s3
                            refine wpAny_tail 12 (by kernel_rfl) rfl (by kernel_rfl) ?_
                            simp only [List.drop_succ_cons, List.drop_zero]
                            repeat (go_big_quiet_step (first | (go_at_call_of 14 (Value.slice na nl nc); exact Calls.quiet_of_same (HAI.out _ (below_trans HY8.out.bel (below_drewN (Below.refl _ _) _)))) | (go_at_call_of 14 (Value.slice oa ol oc); exact Calls.quiet_of_same (HAO.out _ (below_trans HY8.out.bel (below_drewN (Below.refl _ _) _))))))
                            refine wpQuiet_nil ?_
                            intro w9 hw9
                            obtain ⟨nq9, hw9⟩ := hw9
                            subst hw9
                            have HY9 : Hid (EH w6 (w8.drewN nq9) m w6.heap.size (wo.heap.size + 1) wo.heap.size [.slice ia L.length ic, .int .u8 2, .int .i64 (t : Int), .int .i64 t0, .int .i64 t1, .int .u8 tt] A8 H8) := HY8.out.below (below_drewN (Below.refl _ _) nq9)
                            go_wp2
                            go_roundw
                            case rel => exact ⟨v + 1, by first | rfl | (congr 1; omega), by omega, HY9.out⟩
                            case measure => simp [intOf]; omega
                        | true =>
                          as_aux_lemma =>
                            refine wp_region_pre 11 (by kernel_rfl) (by kernel_rfl) (by kernel_rfl) (by kernel_rfl) ?_
                            simp only [List.take_succ_cons, List.take_zero]
                            repeat (go_big_quiet_step (first | (go_at_call 14; exact Calls.quiet_of_same (HAO.out _ (below_trans HYY.out.bel (below_drewN (Below.refl _ _) _))))))
                            refine wpQuiet_nil ?_
                            intro w7 hw7
                            obtain ⟨nq, hw7⟩ := hw7
                            subst hw7
                            have HY7 : Hid (EH w6 (wy.drewN nq) m w6.heap.size (wo.heap.size + 1) wo.heap.size [.slice ia L.length ic, .int .u8 2, .int .i64 (t : Int), .int .i64 t0, .int .i64 t1, .int .u8 tt] A8 H8) := HYY.out.below (below_drewN (Below.refl _ _) nq)
                            refine wpAny_one (n := 25) 11 (by kernel_rfl) rfl (fun K hK0 => ?_)
                            have hK : Shut _ := hK0
                            clear hK0
                            go_simp
                            refine Calls.mono (by exact HFV.out _ HY7.out.bel) ?_
                            rintro e w8 ⟨rfl, hb8⟩
                            dsimp only
                            have HY8 : Hid (EH w6 w8 m w6.heap.size (wo.heap.size + 1) wo.heap.size [.slice ia L.length ic, .int .u8 2, .int .i64 (t : Int), .int .i64 t0, .int .i64 t1, .int .u8 tt] A8 H8) := HY7.out.below hb8
                            obtain ⟨x1, x2, x3⟩ := HSX.out _ HY8.out
                            refine hK.out _ _ ?_
                            clear hK K s1 s2 s3
                            refine wpAny_tail 12 (by kernel_rfl) rfl (by kernel_rfl) ?_
                            simp only [List.drop_succ_cons, List.drop_zero]
                            repeat (go_big_quiet_step (first | (go_at_call_of 14 (Value.slice na nl nc); exact Calls.quiet_of_same (HAI.out _ (below_trans HY8.out.bel (below_drewN (Below.refl _ _) _)))) | (go_at_call_of 14 (Value.slice oa ol oc); exact Calls.quiet_of_same (HAO.out _ (below_trans HY8.out.bel (below_drewN (Below.refl _ _) _))))))
                            refine wpQuiet_nil ?_
                            intro w9 hw9
                            obtain ⟨nq9, hw9⟩ := hw9
                            subst hw9
                            have HY9 : Hid (EH w6 (w8.drewN nq9) m w6.heap.size (wo.heap.size + 1) wo.heap.size [.slice ia L.length ic, .int .u8 2, .int .i64 (t : Int), .int .i64 t0, .int .i64 t1, .int .u8 tt] A8 H8) := HY8.out.below (below_drewN (Below.refl _ _) nq9)
                            go_wp2
                            go_roundw
                            case rel => exact ⟨v + 1, by first | rfl | (congr 1; omega), by omega, HY9.out⟩
                            case measure => simp [intOf]; omega
                      | true =>
                        by_cases hh0 : hv0 = 0
                        · subst hh0
                          cases O with
                          | false => exact absurd ⟨rfl, rfl, rfl⟩ hno
                          | true =>
                            clear hno
                            as_aux_lemma =>
                              refine wp_region_pre 11 (by kernel_rfl) (by kernel_rfl) (by kernel_rfl) (by kernel_rfl) ?_
                              simp only [List.take_succ_cons, List.take_zero]
                              repeat (go_big_quiet_step (first | (go_at_call 14; exact Calls.quiet_of_same (HAO.out _ (below_trans HYY.out.bel (below_drewN (Below.refl _ _) _))))))
                              refine wpQuiet_nil ?_
                              intro w7 hw7
                              obtain ⟨nq, hw7⟩ := hw7
                              subst hw7
                              have HY7 : Hid (EH w6 (wy.drewN nq) m w6.heap.size (wo.heap.size + 1) wo.heap.size [.slice ia L.length ic, .int .u8 2, .int .i64 (t : Int), .int .i64 t0, .int .i64 t1, .int .u8 tt] A8 H8) := HYY.out.below (below_drewN (Below.refl _ _) nq)
                              refine wpAny_one (n := 25) 11 (by kernel_rfl) rfl (fun K hK0 => ?_)
                              have hK : Shut _ := hK0
                              clear hK0
                              go_simp
                              refine Calls.mono (by exact HFV.out _ HY7.out.bel) ?_
                              rintro e w8 ⟨rfl, hb8⟩
                              dsimp only
                              have HY8 : Hid (EH w6 w8 m w6.heap.size (wo.heap.size + 1) wo.heap.size [.slice ia L.length ic, .int .u8 2, .int .i64 (t : Int), .int .i64 t0, .int .i64 t1, .int .u8 tt] A8 H8) := HY7.out.below hb8
                              obtain ⟨x1, x2, x3⟩ := HSX.out _ HY8.out
                              refine hK.out _ _ ?_
                              clear hK K s1 s2 s3
                              refine wpAny_tail 12 (by kernel_rfl) rfl (by kernel_rfl) ?_
                              simp only [List.drop_succ_cons, List.drop_zero]
                              repeat (go_big_quiet_step (first | (go_at_call_of 14 (Value.slice na nl nc); exact Calls.quiet_of_same (HAI.out _ (below_trans HY8.out.bel (below_drewN (Below.refl _ _) _)))) | (go_at_call_of 14 (Value.slice oa ol oc); exact Calls.quiet_of_same (HAO.out _ (below_trans HY8.out.bel (below_drewN (Below.refl _ _) _))))))
                              refine wpQuiet_nil ?_
                              intro w9 hw9
                              obtain ⟨nq9, hw9⟩ := hw9
                              subst hw9
                              have HY9 : Hid (EH w6 (w8.drewN nq9) m w6.heap.size (wo.heap.size + 1) wo.heap.size [.slice ia L.length ic, .int .u8 2, .int .i64 (t : Int), .int .i64 t0, .int .i64 t1, .int .u8 tt] A8 H8) := HY8.out.below (below_drewN (Below.refl _ _) nq9)
                              go_wp2
                              go_roundw
                              case rel => exact ⟨v + 1, by first | rfl | (congr 1; omega), by omega, HY9.out⟩
                              case measure => simp [intOf]; omega
                        · have hh0f : (hv0 == 0) = false := beq_false_of_ne hh0
                          clear hno
                          cases O with
                          | false =>
                            as_aux_lemma =>
                              refine wp_region_pre 11 (by kernel_rfl) (by kernel_rfl) (by kernel_rfl) (by kernel_rfl) ?_
                              simp only [List.take_succ_cons, List.take_zero]
                              repeat (go_big_quiet_step (first | (go_at_call 14; exact Calls.quiet_of_same (HAO.out _ (below_trans HYY.out.bel (below_drewN (Below.refl _ _) _))))))
                              refine wpQuiet_nil ?_
                              intro w7 hw7
                              obtain ⟨nq, hw7⟩ := hw7
                              subst hw7
                              have HY7 : Hid (EH w6 (wy.drewN nq) m w6.heap.size (wo.heap.size + 1) wo.heap.size [.slice ia L.length ic, .int .u8 2, .int .i64 (t : Int), .int .i64 t0, .int .i64 t1, .int .u8 tt] A8 H8) := HYY.out.below (below_drewN (Below.refl _ _) nq)
                              refine wpAny_one (n := 25) 11 (by kernel_rfl) rfl (fun K hK0 => ?_)
                              have hK : Shut _ := hK0
                              clear hK0
                              go_simp
                              refine Calls.mono (by exact HFV.out _ HY7.out.bel) ?_
                              rintro e w8 ⟨rfl, hb8⟩
                              dsimp only
                              have HY8 : Hid (EH w6 w8 m w6.heap.size (wo.heap.size + 1) wo.heap.size [.slice ia L.length ic, .int .u8 2, .int .i64 (t : Int), .int .i64 t0, .int .i64 t1, .int .u8 tt] A8 H8) := HY7.out.below hb8
                              obtain ⟨x1, x2, x3⟩ := HSX.out _ HY8.out
                              refine hK.out _ _ ?_
                              clear hK K s1 s2 s3
                              refine wpAny_tail 12 (by kernel_rfl) rfl (by kernel_rfl) ?_
                              simp only [List.drop_succ_cons, List.drop_zero]
                              repeat (go_big_quiet_step (first | (go_at_call_of 14 (Value.slice na nl nc); exact Calls.quiet_of_same (HAI.out _ (below_trans HY8.out.bel (below_drewN (Below.refl _ _) _)))) | (go_at_call_of 14 (Value.slice oa ol oc); exact Calls.quiet_of_same (HAO.out _ (below_trans HY8.out.bel (below_drewN (Below.refl _ _) _))))))
                              refine wpQuiet_nil ?_
                              intro w9 hw9
                              obtain ⟨nq9, hw9⟩ := hw9
                              subst hw9
                              have HY9 : Hid (EH w6 (w8.drewN nq9) m w6.heap.size (wo.heap.size + 1) wo.heap.size [.slice ia L.length ic, .int .u8 2, .int .i64 (t : Int), .int .i64 t0, .int .i64 t1, .int .u8 tt] A8 H8) := HY8.out.below (below_drewN (Below.refl _ _) nq9)
                              go_wp2
                              go_roundw
                              case rel => exact ⟨v + 1, by first | rfl | (congr 1; omega), by omega, HY9.out⟩
                              case measure => simp [intOf]; omega
                          | true =>
                            as_aux_lemma =>
                              refine wp_region_pre 11 (by kernel_rfl) (by kernel_rfl) (by kernel_rfl) (by kernel_rfl) ?_
                              simp only [List.take_succ_cons, List.take_zero]
                              repeat (go_big_quiet_step (first | (go_at_call 14; exact Calls.quiet_of_same (HAO.out _ (below_trans HYY.out.bel (below_drewN (Below.refl _ _) _))))))
                              refine wpQuiet_nil ?_
                              intro w7 hw7
                              obtain ⟨nq, hw7⟩ := hw7
                              subst hw7
                              have HY7 : Hid (EH w6 (wy.drewN nq) m w6.heap.size (wo.heap.size + 1) wo.heap.size [.slice ia L.length ic, .int .u8 2, .int .i64 (t : Int), .int .i64 t0, .int .i64 t1, .int .u8 tt] A8 H8) := HYY.out.below (below_drewN (Below.refl _ _) nq)
                              refine wpAny_one (n := 25) 11 (by kernel_rfl) rfl (fun K hK0 => ?_)
                              have hK : Shut _ := hK0
                              clear hK0
                              go_simp
                              refine Calls.mono (by exact HFV.out _ HY7.out.bel) ?_
                              rintro e w8 ⟨rfl, hb8⟩
                              dsimp only
                              have HY8 : Hid (EH w6 w8 m w6.heap.size (wo.heap.size + 1) wo.heap.size [.slice ia L.length ic, .int .u8 2, .int .i64 (t : Int), .int .i64 t0, .int .i64 t1, .int .u8 tt] A8 H8) := HY7.out.below hb8
                              obtain ⟨x1, x2, x3⟩ := HSX.out _ HY8.out
                              refine hK.out _ _ ?_
                              clear hK K s1 s2 s3
                              refine wpAny_tail 12 (by kernel_rfl) rfl (by kernel_rfl) ?_
                              simp only [List.drop_succ_cons, List.drop_zero]
                              repeat (go_big_quiet_step (first | (go_at_call_of 14 (Value.slice na nl nc); exact Calls.quiet_of_same (HAI.out _ (below_trans HY8.out.bel (below_drewN (Below.refl _ _) _)))) | (go_at_call_of 14 (Value.slice oa ol oc); exact Calls.quiet_of_same (HAO.out _ (below_trans HY8.out.bel (below_drewN (Below.refl _ _) _))))))
                              refine wpQuiet_nil ?_
                              intro w9 hw9
                              obtain ⟨nq9, hw9⟩ := hw9
                              subst hw9
                              have HY9 : Hid (EH w6 (w8.drewN nq9) m w6.heap.size (wo.heap.size + 1) wo.heap.size [.slice ia L.length ic, .int .u8 2, .int .i64 (t : Int), .int .i64 t0, .int .i64 t1, .int .u8 tt] A8 H8) := HY8.out.below (below_drewN (Below.refl _ _) nq9)
                              go_wp2
                              go_roundw
                              case rel => exact ⟨v + 1, by first | rfl | (congr 1; omega), by omega, HY9.out⟩
                              case measure => simp [intOf]; omega
                  · obtain rfl : v = m := by omega
                    have HY : Hid _ := hy.out
                    clear hy
                    go_wp2
                    go_roundw
                    case rel => exact ⟨i + 1, A8, by first | rfl | (congr 1; omega), by omega, HY.out.bel, HY.out.ra, HM8.out.1⟩
                    case measure => simp [intOf]; omega
              · go_wp2
                go_region
                go_wp2
                have HE8 : Hid _ := HE8'.out 1
                clear HE8' b0 b1 b2 b3 b4 b5 u0 u1 u2 u3 u4 u5 cA fA cH fH cH0 fH0
                go_loopw [15] (fun vx wr => ∃ v : Nat, vx = .int .i64 v ∧ v ≤ m ∧ Hid (EH w6 wr m w6.heap.size (wo.heap.size + 1) wo.heap.size [.slice ia L.length ic, .int .u8 3, .int .i64 (t : Int), .int .i64 t0, .int .i64 t1, .int .u8 tt] A8 H8)) (fun vx _ => m - (intOf vx).toNat)
                case atStart => exact ⟨0, rfl, by omega, HE8.out⟩
                case round =>
                  obtain ⟨v, rfl, hv, hy⟩ := hrel
                  clear HE8
                  generalize wr = wy at *
                  obtain ⟨e0, e1, e2, e3, e4, e5⟩ := box6 (H6.out.2.1.below hy.out.bel)
                  have hwy := (H6.out.2.1.below hy.out.bel).lt
                  by_cases hvm : v < m
                  · as_aux_lemma =>
                      have hvm' : (v : Int) < m := by omega
                      go_wp2
                      have hrowO := HO6.out.get (i := i) (by simp; exact hin)
                      have hrowI := HI6.out.get (i := i) (by simp; exact hin)
                      obtain ⟨g1, o1, oa, oc, hge, hg1, cO, hIO⟩ := hrowO
                      injection hge with hge
                      injection hge with y1 y2
                      subst y1 y2
                      obtain ⟨g1, o1, na, nc, hge, hg2, cN, hIN⟩ := hrowI
                      injection hge with hge
                      injection hge with y1 y2
                      subst y1 y2
                      rw [Nat.zero_add] at cO cN
                      have hfol := out_follows (bs := bs) (ah := ah) (n := n) (m := m) hin hvm HNI.out
                      have hhere := fun h1 h2 => in_here (bs := bs) (ah := ah) (n := n) (m := m) (v := v) hin h1 h2
                      have HAO : Hid (∀ W, Below w6.heap.size w6 W → Calls Tryz.prog 14 #[.slice oa ((ouL bs ah n m).getD i []).length oc, .int .i64 (v : Int)] W fun e w' => e = .returned (.bool (memB ((ouL bs ah n m).getD i []) v)) ∧ w' = W) := fun W hb => amongL_any _ v _ W (hIO.below hb)
                      have HAI : Hid (∀ W, Below w6.heap.size w6 W → Calls Tryz.prog 14 #[.slice na ((inL bs ah n m).getD i []).length nc, .int .i64 (v : Int)] W fun e w' => e = .returned (.bool (memB ((inL bs ah n m).getD i []) v)) ∧ w' = W) := fun W hb => amongL_any _ v _ W (hIN.below hb)
                      have HFV : Hid (∀ W, Below w6.heap.size w6 W → _) := fun W hb => HFO.out W hb (v : Int)
                      rw [← hfol] at HFV
                      have hH9 : H8.getD v 0 = 0 → ¬ HereB (blk bs i) v := fun h0 hc => by have h9 := HM8.out.2 v hc; unfold mk at h9; rw [Int.toNat_natCast, h0] at h9; omega
                      have HSX : Hid (∀ W, EH w6 W m w6.heap.size (wo.heap.size + 1) wo.heap.size [.slice ia L.length ic, .int .u8 3, .int .i64 (t : Int), .int .i64 t0, .int .i64 t1, .int .u8 tt] A8 H8 → W.cell? ⟨gO, i, none⟩ = some (.slice oa ((ouL bs ah n m).getD i []).length oc) ∧ W.cell? ⟨gI, i, none⟩ = some (.slice na ((inL bs ah n m).getD i []).length nc) ∧ W.cell? ⟨wo.heap.size + 1, v, none⟩ = some (.int .i64 (H8.getD v 0))) := fun W hE => ⟨(hE.bel.cell (p := ⟨gO, i, none⟩) hg1).trans cO, (hE.bel.cell (p := ⟨gI, i, none⟩) hg2).trans cN, hE.rh.cell hvm⟩
                      have HYY : Hid _ := hy.out
                      obtain ⟨s1, s2, s3⟩ := HSX.out _ hy.out
                      clear hy hIO hIN cO cN hfol
                      generalize memB ((ouL bs ah n m).getD i []) (v : Int) = O at *
                      generalize memB ((inL bs ah n m).getD i []) (v : Int) = N at *
                      generalize ((ouL bs ah n m).getD i []).length = ol at *
                      generalize ((inL bs ah n m).getD i []).length = nl at *
                      generalize H8.getD v 0 = hv0 at *
                      have hno : ¬ (O = false ∧ N = true ∧ hv0 = 0) := fun ⟨q1, q2, q3⟩ => by have h9 := hhere q2 (hH9 q3); rw [q1] at h9; cases h9
                      clear hhere hH9
                      cases N with
                      | false =>
                        clear hno
                        cases O with
                        | false =>
                          as_aux_lemma =>
                            refine wp_region_pre 11 (by kernel_rfl) (by kernel_rfl) (by kernel_rfl) (by kernel_rfl) ?_
                            simp only [List.take_succ_cons, List.take_zero]
                            repeat (go_big_quiet_step (first | (go_at_call 14; exact Calls.quiet_of_same (HAO.out _ (below_trans HYY.out.bel (below_drewN (Below.refl _ _) _))))))
                            refine wpQuiet_nil ?_
                            intro w7 hw7
                            obtain ⟨nq, hw7⟩ := hw7
                            subst hw7
                            have HY7 : Hid (EH w6 (wy.drewN nq) m w6.heap.size (wo.heap.size + 1) wo.heap.size [.slice ia L.length ic, .int .u8 3, .int .i64 (t : Int), .int .i64 t0, .int .i64 t1, .int .u8 tt] A8 H8) := HYY.out.below (below_drewN (Below.refl _ _) nq)
                            refine wpAny_one (n := 25) 11 (by kernel_rfl) rfl (fun K hK0 => ?_)
                            have hK : Shut _ := hK0
                            clear hK0
                            go_simp
                            refine Calls.mono (by exact HFV.out _ HY7.out.bel) ?_
                            rintro e w8 ⟨rfl, hb8⟩
                            dsimp only
                            have HY8 : Hid (EH w6 w8 m w6.heap.size (wo.heap.size + 1) wo.heap.size [.slice ia L.length ic, .int .u8 3, .int .i64 (t : Int), .int .i64 t0, .int .i64 t1, .int .u8 tt] A8 H8) := HY7.out.below hb8
                            obtain ⟨x1, x2, x3⟩ := HSX.out _ HY8.out
                            refine hK.out _ _ ?_
                            clear hK K s1 s2 s3
                            refine wpAny_tail 12 (by kernel_rfl) rfl (by kernel_rfl) ?_
                            simp only [List.drop_succ_cons, List.drop_zero]
                            repeat (go_big_quiet_step (first | (go_at_call_of 14 (Value.slice na nl nc); exact Calls.quiet_of_same (HAI.out _ (below_trans HY8.out.bel (below_drewN (Below.refl _ _) _)))) | (go_at_call_of 14 (Value.slice oa ol oc); exact Calls.quiet_of_same (HAO.out _ (below_trans HY8.out.bel (below_drewN (Below.refl _ _) _))))))
                            refine wpQuiet_nil ?_
                            intro w9 hw9
                            obtain ⟨nq9, hw9⟩ := hw9
                            subst hw9
                            have HY9 : Hid (EH w6 (w8.drewN nq9) m w6.heap.size (wo.heap.size + 1) wo.heap.size [.slice ia L.length ic, .int .u8 3, .int .i64 (t : Int), .int .i64 t0, .int .i64 t1, .int .u8 tt] A8 H8) := HY8.out.below (below_drewN (Below.refl _ _) nq9)
                            go_wp2
                            go_roundw
                            case rel => exact ⟨v + 1, by first | rfl | (congr 1; omega), by omega, HY9.out⟩
                            case measure => simp [intOf]; omega
                        | true =>
                          as_aux_lemma =>
                            refine wp_region_pre 11 (by kernel_rfl) (by kernel_rfl) (by kernel_rfl) (by kernel_rfl) ?_
                            simp only [List.take_succ_cons, List.take_zero]
                            repeat (go_big_quiet_step (first | (go_at_call 14; exact Calls.quiet_of_same (HAO.out _ (below_trans HYY.out.bel (below_drewN (Below.refl _ _) _))))))
                            refine wpQuiet_nil ?_
                            intro w7 hw7
                            obtain ⟨nq, hw7⟩ := hw7
                            subst hw7
                            have HY7 : Hid (EH w6 (wy.drewN nq) m w6.heap.size (wo.heap.size + 1) wo.heap.size [.slice ia L.length ic, .int .u8 3, .int .i64 (t : Int), .int .i64 t0, .int .i64 t1, .int .u8 tt] A8 H8) := HYY.out.below (below_drewN (Below.refl _ _) nq)
                            refine wpAny_one (n := 25) 11 (by kernel_rfl) rfl (fun K hK0 => ?_)
                            have hK : Shut _ := hK0
                            clear hK0
                            go_simp
                            refine Calls.mono (by exact HFV.out _ HY7.out.bel) ?_
                            rintro e w8 ⟨rfl, hb8⟩
                            dsimp only
                            have HY8 : Hid (EH w6 w8 m w6.heap.size (wo.heap.size + 1) wo.heap.size [.slice ia L.length ic, .int .u8 3, .int .i64 (t : Int), .int .i64 t0, .int .i64 t1, .int .u8 tt] A8 H8) := HY7.out.below hb8
                            obtain ⟨x1, x2, x3⟩ := HSX.out _ HY8.out
                            refine hK.out _ _ ?_
                            clear hK K s1 s2 s3
                            refine wpAny_tail 12 (by kernel_rfl) rfl (by kernel_rfl) ?_
                            simp only [List.drop_succ_cons, List.drop_zero]
                            repeat (go_big_quiet_step (first | (go_at_call_of 14 (Value.slice na nl nc); exact Calls.quiet_of_same (HAI.out _ (below_trans HY8.out.bel (below_drewN (Below.refl _ _) _)))) | (go_at_call_of 14 (Value.slice oa ol oc); exact Calls.quiet_of_same (HAO.out _ (below_trans HY8.out.bel (below_drewN (Below.refl _ _) _))))))
                            refine wpQuiet_nil ?_
                            intro w9 hw9
                            obtain ⟨nq9, hw9⟩ := hw9
                            subst hw9
                            have HY9 : Hid (EH w6 (w8.drewN nq9) m w6.heap.size (wo.heap.size + 1) wo.heap.size [.slice ia L.length ic, .int .u8 3, .int .i64 (t : Int), .int .i64 t0, .int .i64 t1, .int .u8 tt] A8 H8) := HY8.out.below (below_drewN (Below.refl _ _) nq9)
                            go_wp2
                            go_roundw
                            case rel => exact ⟨v + 1, by first | rfl | (congr 1; omega), by omega, HY9.out⟩
                            case measure => simp [intOf]; omega
                      | true =>
                        by_cases hh0 : hv0 = 0
                        · subst hh0
                          cases O with
                          | false => exact absurd ⟨rfl, rfl, rfl⟩ hno
                          | true =>
                            clear hno
                            as_aux_lemma =>
                              refine wp_region_pre 11 (by kernel_rfl) (by kernel_rfl) (by kernel_rfl) (by kernel_rfl) ?_
                              simp only [List.take_succ_cons, List.take_zero]
                              repeat (go_big_quiet_step (first | (go_at_call 14; exact Calls.quiet_of_same (HAO.out _ (below_trans HYY.out.bel (below_drewN (Below.refl _ _) _))))))
                              refine wpQuiet_nil ?_
                              intro w7 hw7
                              obtain ⟨nq, hw7⟩ := hw7
                              subst hw7
                              have HY7 : Hid (EH w6 (wy.drewN nq) m w6.heap.size (wo.heap.size + 1) wo.heap.size [.slice ia L.length ic, .int .u8 3, .int .i64 (t : Int), .int .i64 t0, .int .i64 t1, .int .u8 tt] A8 H8) := HYY.out.below (below_drewN (Below.refl _ _) nq)
                              refine wpAny_one (n := 25) 11 (by kernel_rfl) rfl (fun K hK0 => ?_)
                              have hK : Shut _ := hK0
                              clear hK0
                              go_simp
                              refine Calls.mono (by exact HFV.out _ HY7.out.bel) ?_
                              rintro e w8 ⟨rfl, hb8⟩
                              dsimp only
                              have HY8 : Hid (EH w6 w8 m w6.heap.size (wo.heap.size + 1) wo.heap.size [.slice ia L.length ic, .int .u8 3, .int .i64 (t : Int), .int .i64 t0, .int .i64 t1, .int .u8 tt] A8 H8) := HY7.out.below hb8
                              obtain ⟨x1, x2, x3⟩ := HSX.out _ HY8.out
                              refine hK.out _ _ ?_
                              clear hK K s1 s2 s3
                              refine wpAny_tail 12 (by kernel_rfl) rfl (by kernel_rfl) ?_
                              simp only [List.drop_succ_cons, List.drop_zero]
                              repeat (go_big_quiet_step (first | (go_at_call_of 14 (Value.slice na nl nc); exact Calls.quiet_of_same (HAI.out _ (below_trans HY8.out.bel (below_drewN (Below.refl _ _) _)))) | (go_at_call_of 14 (Value.slice oa ol oc); exact Calls.quiet_of_same (HAO.out _ (below_trans HY8.out.bel (below_drewN (Below.refl _ _) _))))))
                              refine wpQuiet_nil ?_
                              intro w9 hw9
                              obtain ⟨nq9, hw9⟩ := hw9
                              subst hw9
                              have HY9 : Hid (EH w6 (w8.drewN nq9) m w6.heap.size (wo.heap.size + 1) wo.heap.size [.slice ia L.length ic, .int .u8 3, .int .i64 (t : Int), .int .i64 t0, .int .i64 t1, .int .u8 tt] A8 H8) := HY8.out.below (below_drewN (Below.refl _ _) nq9)
                              go_wp2
                              go_roundw
                              case rel => exact ⟨v + 1, by first | rfl | (congr 1; omega), by omega, HY9.out⟩
                              case measure => simp [intOf]; omega
                        · have hh0f : (hv0 == 0) = false := beq_false_of_ne hh0
                          clear hno
                          cases O with
                          | false =>
                            as_aux_lemma =>
                              refine wp_region_pre 11 (by kernel_rfl) (by kernel_rfl) (by kernel_rfl) (by kernel_rfl) ?_
                              simp only [List.take_succ_cons, List.take_zero]
                              repeat (go_big_quiet_step (first | (go_at_call 14; exact Calls.quiet_of_same (HAO.out _ (below_trans HYY.out.bel (below_drewN (Below.refl _ _) _))))))
                              refine wpQuiet_nil ?_
                              intro w7 hw7
                              obtain ⟨nq, hw7⟩ := hw7
                              subst hw7
                              have HY7 : Hid (EH w6 (wy.drewN nq) m w6.heap.size (wo.heap.size + 1) wo.heap.size [.slice ia L.length ic, .int .u8 3, .int .i64 (t : Int), .int .i64 t0, .int .i64 t1, .int .u8 tt] A8 H8) := HYY.out.below (below_drewN (Below.refl _ _) nq)
                              refine wpAny_one (n := 25) 11 (by kernel_rfl) rfl (fun K hK0 => ?_)
                              have hK : Shut _ := hK0
                              clear hK0
                              go_simp
                              refine Calls.mono (by exact HFV.out _ HY7.out.bel) ?_
                              rintro e w8 ⟨rfl, hb8⟩
                              dsimp only
                              have HY8 : Hid (EH w6 w8 m w6.heap.size (wo.heap.size + 1) wo.heap.size [.slice ia L.length ic, .int .u8 3, .int .i64 (t : Int), .int .i64 t0, .int .i64 t1, .int .u8 tt] A8 H8) := HY7.out.below hb8
                              obtain ⟨x1, x2, x3⟩ := HSX.out _ HY8.out
                              refine hK.out _ _ ?_
                              clear hK K s1 s2 s3
                              refine wpAny_tail 12 (by kernel_rfl) rfl (by kernel_rfl) ?_
                              simp only [List.drop_succ_cons, List.drop_zero]
                              repeat (go_big_quiet_step (first | (go_at_call_of 14 (Value.slice na nl nc); exact Calls.quiet_of_same (HAI.out _ (below_trans HY8.out.bel (below_drewN (Below.refl _ _) _)))) | (go_at_call_of 14 (Value.slice oa ol oc); exact Calls.quiet_of_same (HAO.out _ (below_trans HY8.out.bel (below_drewN (Below.refl _ _) _))))))
                              refine wpQuiet_nil ?_
                              intro w9 hw9
                              obtain ⟨nq9, hw9⟩ := hw9
                              subst hw9
                              have HY9 : Hid (EH w6 (w8.drewN nq9) m w6.heap.size (wo.heap.size + 1) wo.heap.size [.slice ia L.length ic, .int .u8 3, .int .i64 (t : Int), .int .i64 t0, .int .i64 t1, .int .u8 tt] A8 H8) := HY8.out.below (below_drewN (Below.refl _ _) nq9)
                              go_wp2
                              go_roundw
                              case rel => exact ⟨v + 1, by first | rfl | (congr 1; omega), by omega, HY9.out⟩
                              case measure => simp [intOf]; omega
                          | true =>
                            as_aux_lemma =>
                              refine wp_region_pre 11 (by kernel_rfl) (by kernel_rfl) (by kernel_rfl) (by kernel_rfl) ?_
                              simp only [List.take_succ_cons, List.take_zero]
                              repeat (go_big_quiet_step (first | (go_at_call 14; exact Calls.quiet_of_same (HAO.out _ (below_trans HYY.out.bel (below_drewN (Below.refl _ _) _))))))
                              refine wpQuiet_nil ?_
                              intro w7 hw7
                              obtain ⟨nq, hw7⟩ := hw7
                              subst hw7
                              have HY7 : Hid (EH w6 (wy.drewN nq) m w6.heap.size (wo.heap.size + 1) wo.heap.size [.slice ia L.length ic, .int .u8 3, .int .i64 (t : Int), .int .i64 t0, .int .i64 t1, .int .u8 tt] A8 H8) := HYY.out.below (below_drewN (Below.refl _ _) nq)
                              refine wpAny_one (n := 25) 11 (by kernel_rfl) rfl (fun K hK0 => ?_)
                              have hK : Shut _ := hK0
                              clear hK0
                              go_simp
                              refine Calls.mono (by exact HFV.out _ HY7.out.bel) ?_
                              rintro e w8 ⟨rfl, hb8⟩
                              dsimp only
                              have HY8 : Hid (EH w6 w8 m w6.heap.size (wo.heap.size + 1) wo.heap.size [.slice ia L.length ic, .int .u8 3, .int .i64 (t : Int), .int .i64 t0, .int .i64 t1, .int .u8 tt] A8 H8) := HY7.out.below hb8
                              obtain ⟨x1, x2, x3⟩ := HSX.out _ HY8.out
                              refine hK.out _ _ ?_
                              clear hK K s1 s2 s3
                              refine wpAny_tail 12 (by kernel_rfl) rfl (by kernel_rfl) ?_
                              simp only [List.drop_succ_cons, List.drop_zero]
                              repeat (go_big_quiet_step (first | (go_at_call_of 14 (Value.slice na nl nc); exact Calls.quiet_of_same (HAI.out _ (below_trans HY8.out.bel (below_drewN (Below.refl _ _) _)))) | (go_at_call_of 14 (Value.slice oa ol oc); exact Calls.quiet_of_same (HAO.out _ (below_trans HY8.out.bel (below_drewN (Below.refl _ _) _))))))
                              refine wpQuiet_nil ?_
                              intro w9 hw9
                              obtain ⟨nq9, hw9⟩ := hw9
                              subst hw9
                              have HY9 : Hid (EH w6 (w8.drewN nq9) m w6.heap.size (wo.heap.size + 1) wo.heap.size [.slice ia L.length ic, .int .u8 3, .int .i64 (t : Int), .int .i64 t0, .int .i64 t1, .int .u8 tt] A8 H8) := HY8.out.below (below_drewN (Below.refl _ _) nq9)
                              go_wp2
                              go_roundw
                              case rel => exact ⟨v + 1, by first | rfl | (congr 1; omega), by omega, HY9.out⟩
                              case measure => simp [intOf]; omega
                  · obtain rfl : v = m := by omega
                    have HY : Hid _ := hy.out
                    clear hy
                    go_wp2
                    go_roundw
                    case rel => exact ⟨i + 1, A8, by first | rfl | (congr 1; omega), by omega, HY.out.bel, HY.out.ra, HM8.out.1⟩
                    case measure => simp [intOf]; omega
            · have f2 : (tk == 2) = false := beq_false_of_ne (fun e => hk23 (.inl e))
              have f3 : (tk == 3) = false := beq_false_of_ne (fun e => hk23 (.inr e))
              obtain ⟨A8, hA8⟩ : ∃ A8, A8 = A := ⟨_, rfl⟩
              obtain ⟨H8, hH8⟩ : ∃ H8, H8 = H := ⟨_, rfl⟩
              have hno : ∀ v, ¬ asksT ⟨tk, ta, t0, t1, tt⟩ v = true := fun v hv => by unfold asksT at hv; dsimp only at hv; rw [f2, f3] at hv; simp at hv
              have HM8 : Hid ((∀ q, q < i + 1 → ∀ v, AskB (blk bs q) v → mk A8 v) ∧ ∀ v, HereB (blk bs i) v → mk H8 v) := by
                rw [hA8, hH8]
                refine ⟨fun q hq v hv => ?_, fun v hv => ?_⟩
                · by_cases e : q = i
                  · subst e
                    exact (HAB.out v hv).resolve_right (hno v)
                  · exact HA1.out q (by omega) v hv
                · exact (HHB.out v hv).resolve_right (hno v)
              have HE8 : Hid (EH w6 wp m w6.heap.size (wo.heap.size + 1) wo.heap.size [.slice ia L.length ic, .int .u8 tk, .int .i64 ta, .int .i64 t0, .int .i64 t1, .int .u8 tt] A8 H8) := by rw [hA8, hH8]; exact HEZ.out
              clear HEZ hA8 hH8 HAB HHB HA1 hno
              go_wp2
              clear b0 b1 b2 b3 b4 b5
              go_loopw [15] (fun vx wr => ∃ v : Nat, vx = .int .i64 v ∧ v ≤ m ∧ Hid (EH w6 wr m w6.heap.size (wo.heap.size + 1) wo.heap.size [.slice ia L.length ic, .int .u8 tk, .int .i64 ta, .int .i64 t0, .int .i64 t1, .int .u8 tt] A8 H8)) (fun vx _ => m - (intOf vx).toNat)
              case atStart => exact ⟨0, rfl, by omega, HE8.out⟩
              case round =>
                obtain ⟨v, rfl, hv, hy⟩ := hrel
                clear HE8
                generalize wr = wy at *
                obtain ⟨e0, e1, e2, e3, e4, e5⟩ := box6 (H6.out.2.1.below hy.out.bel)
                have hwy := (H6.out.2.1.below hy.out.bel).lt
                by_cases hvm : v < m
                · as_aux_lemma =>
                    have hvm' : (v : Int) < m := by omega
                    go_wp2
                    have hrowO := HO6.out.get (i := i) (by simp; exact hin)
                    have hrowI := HI6.out.get (i := i) (by simp; exact hin)
                    obtain ⟨g1, o1, oa, oc, hge, hg1, cO, hIO⟩ := hrowO
                    injection hge with hge
                    injection hge with y1 y2
                    subst y1 y2
                    obtain ⟨g1, o1, na, nc, hge, hg2, cN, hIN⟩ := hrowI
                    injection hge with hge
                    injection hge with y1 y2
                    subst y1 y2
                    rw [Nat.zero_add] at cO cN
                    have hfol := out_follows (bs := bs) (ah := ah) (n := n) (m := m) hin hvm HNI.out
                    have hhere := fun h1 h2 => in_here (bs := bs) (ah := ah) (n := n) (m := m) (v := v) hin h1 h2
                    have HAO : Hid (∀ W, Below w6.heap.size w6 W → Calls Tryz.prog 14 #[.slice oa ((ouL bs ah n m).getD i []).length oc, .int .i64 (v : Int)] W fun e w' => e = .returned (.bool (memB ((ouL bs ah n m).getD i []) v)) ∧ w' = W) := fun W hb => amongL_any _ v _ W (hIO.below hb)
                    have HAI : Hid (∀ W, Below w6.heap.size w6 W → Calls Tryz.prog 14 #[.slice na ((inL bs ah n m).getD i []).length nc, .int .i64 (v : Int)] W fun e w' => e = .returned (.bool (memB ((inL bs ah n m).getD i []) v)) ∧ w' = W) := fun W hb => amongL_any _ v _ W (hIN.below hb)
                    have HFV : Hid (∀ W, Below w6.heap.size w6 W → _) := fun W hb => HFO.out W hb (v : Int)
                    rw [← hfol] at HFV
                    have hH9 : H8.getD v 0 = 0 → ¬ HereB (blk bs i) v := fun h0 hc => by have h9 := HM8.out.2 v hc; unfold mk at h9; rw [Int.toNat_natCast, h0] at h9; omega
                    have HSX : Hid (∀ W, EH w6 W m w6.heap.size (wo.heap.size + 1) wo.heap.size [.slice ia L.length ic, .int .u8 tk, .int .i64 ta, .int .i64 t0, .int .i64 t1, .int .u8 tt] A8 H8 → W.cell? ⟨gO, i, none⟩ = some (.slice oa ((ouL bs ah n m).getD i []).length oc) ∧ W.cell? ⟨gI, i, none⟩ = some (.slice na ((inL bs ah n m).getD i []).length nc) ∧ W.cell? ⟨wo.heap.size + 1, v, none⟩ = some (.int .i64 (H8.getD v 0))) := fun W hE => ⟨(hE.bel.cell (p := ⟨gO, i, none⟩) hg1).trans cO, (hE.bel.cell (p := ⟨gI, i, none⟩) hg2).trans cN, hE.rh.cell hvm⟩
                    have HYY : Hid _ := hy.out
                    obtain ⟨s1, s2, s3⟩ := HSX.out _ hy.out
                    clear hy hIO hIN cO cN hfol
                    generalize memB ((ouL bs ah n m).getD i []) (v : Int) = O at *
                    generalize memB ((inL bs ah n m).getD i []) (v : Int) = N at *
                    generalize ((ouL bs ah n m).getD i []).length = ol at *
                    generalize ((inL bs ah n m).getD i []).length = nl at *
                    generalize H8.getD v 0 = hv0 at *
                    have hno : ¬ (O = false ∧ N = true ∧ hv0 = 0) := fun ⟨q1, q2, q3⟩ => by have h9 := hhere q2 (hH9 q3); rw [q1] at h9; cases h9
                    clear hhere hH9
                    cases N with
                    | false =>
                      clear hno
                      cases O with
                      | false =>
                        as_aux_lemma =>
                          refine wp_region_pre 11 (by kernel_rfl) (by kernel_rfl) (by kernel_rfl) (by kernel_rfl) ?_
                          simp only [List.take_succ_cons, List.take_zero]
                          repeat (go_big_quiet_step (first | (go_at_call 14; exact Calls.quiet_of_same (HAO.out _ (below_trans HYY.out.bel (below_drewN (Below.refl _ _) _))))))
                          refine wpQuiet_nil ?_
                          intro w7 hw7
                          obtain ⟨nq, hw7⟩ := hw7
                          subst hw7
                          have HY7 : Hid (EH w6 (wy.drewN nq) m w6.heap.size (wo.heap.size + 1) wo.heap.size [.slice ia L.length ic, .int .u8 tk, .int .i64 ta, .int .i64 t0, .int .i64 t1, .int .u8 tt] A8 H8) := HYY.out.below (below_drewN (Below.refl _ _) nq)
                          refine wpAny_one (n := 25) 11 (by kernel_rfl) rfl (fun K hK0 => ?_)
                          have hK : Shut _ := hK0
                          clear hK0
                          go_simp
                          refine Calls.mono (by exact HFV.out _ HY7.out.bel) ?_
                          rintro e w8 ⟨rfl, hb8⟩
                          dsimp only
                          have HY8 : Hid (EH w6 w8 m w6.heap.size (wo.heap.size + 1) wo.heap.size [.slice ia L.length ic, .int .u8 tk, .int .i64 ta, .int .i64 t0, .int .i64 t1, .int .u8 tt] A8 H8) := HY7.out.below hb8
                          obtain ⟨x1, x2, x3⟩ := HSX.out _ HY8.out
                          refine hK.out _ _ ?_
                          clear hK K s1 s2 s3
                          refine wpAny_tail 12 (by kernel_rfl) rfl (by kernel_rfl) ?_
                          simp only [List.drop_succ_cons, List.drop_zero]
                          repeat (go_big_quiet_step (first | (go_at_call_of 14 (Value.slice na nl nc); exact Calls.quiet_of_same (HAI.out _ (below_trans HY8.out.bel (below_drewN (Below.refl _ _) _)))) | (go_at_call_of 14 (Value.slice oa ol oc); exact Calls.quiet_of_same (HAO.out _ (below_trans HY8.out.bel (below_drewN (Below.refl _ _) _))))))
                          refine wpQuiet_nil ?_
                          intro w9 hw9
                          obtain ⟨nq9, hw9⟩ := hw9
                          subst hw9
                          have HY9 : Hid (EH w6 (w8.drewN nq9) m w6.heap.size (wo.heap.size + 1) wo.heap.size [.slice ia L.length ic, .int .u8 tk, .int .i64 ta, .int .i64 t0, .int .i64 t1, .int .u8 tt] A8 H8) := HY8.out.below (below_drewN (Below.refl _ _) nq9)
                          go_wp2
                          go_roundw
                          case rel => exact ⟨v + 1, by first | rfl | (congr 1; omega), by omega, HY9.out⟩
                          case measure => simp [intOf]; omega
                      | true =>
                        as_aux_lemma =>
                          refine wp_region_pre 11 (by kernel_rfl) (by kernel_rfl) (by kernel_rfl) (by kernel_rfl) ?_
                          simp only [List.take_succ_cons, List.take_zero]
                          repeat (go_big_quiet_step (first | (go_at_call 14; exact Calls.quiet_of_same (HAO.out _ (below_trans HYY.out.bel (below_drewN (Below.refl _ _) _))))))
                          refine wpQuiet_nil ?_
                          intro w7 hw7
                          obtain ⟨nq, hw7⟩ := hw7
                          subst hw7
                          have HY7 : Hid (EH w6 (wy.drewN nq) m w6.heap.size (wo.heap.size + 1) wo.heap.size [.slice ia L.length ic, .int .u8 tk, .int .i64 ta, .int .i64 t0, .int .i64 t1, .int .u8 tt] A8 H8) := HYY.out.below (below_drewN (Below.refl _ _) nq)
                          refine wpAny_one (n := 25) 11 (by kernel_rfl) rfl (fun K hK0 => ?_)
                          have hK : Shut _ := hK0
                          clear hK0
                          go_simp
                          refine Calls.mono (by exact HFV.out _ HY7.out.bel) ?_
                          rintro e w8 ⟨rfl, hb8⟩
                          dsimp only
                          have HY8 : Hid (EH w6 w8 m w6.heap.size (wo.heap.size + 1) wo.heap.size [.slice ia L.length ic, .int .u8 tk, .int .i64 ta, .int .i64 t0, .int .i64 t1, .int .u8 tt] A8 H8) := HY7.out.below hb8
                          obtain ⟨x1, x2, x3⟩ := HSX.out _ HY8.out
                          refine hK.out _ _ ?_
                          clear hK K s1 s2 s3
                          refine wpAny_tail 12 (by kernel_rfl) rfl (by kernel_rfl) ?_
                          simp only [List.drop_succ_cons, List.drop_zero]
                          repeat (go_big_quiet_step (first | (go_at_call_of 14 (Value.slice na nl nc); exact Calls.quiet_of_same (HAI.out _ (below_trans HY8.out.bel (below_drewN (Below.refl _ _) _)))) | (go_at_call_of 14 (Value.slice oa ol oc); exact Calls.quiet_of_same (HAO.out _ (below_trans HY8.out.bel (below_drewN (Below.refl _ _) _))))))
                          refine wpQuiet_nil ?_
                          intro w9 hw9
                          obtain ⟨nq9, hw9⟩ := hw9
                          subst hw9
                          have HY9 : Hid (EH w6 (w8.drewN nq9) m w6.heap.size (wo.heap.size + 1) wo.heap.size [.slice ia L.length ic, .int .u8 tk, .int .i64 ta, .int .i64 t0, .int .i64 t1, .int .u8 tt] A8 H8) := HY8.out.below (below_drewN (Below.refl _ _) nq9)
                          go_wp2
                          go_roundw
                          case rel => exact ⟨v + 1, by first | rfl | (congr 1; omega), by omega, HY9.out⟩
                          case measure => simp [intOf]; omega
                    | true =>
                      by_cases hh0 : hv0 = 0
                      · subst hh0
                        cases O with
                        | false => exact absurd ⟨rfl, rfl, rfl⟩ hno
                        | true =>
                          clear hno
                          as_aux_lemma =>
                            refine wp_region_pre 11 (by kernel_rfl) (by kernel_rfl) (by kernel_rfl) (by kernel_rfl) ?_
                            simp only [List.take_succ_cons, List.take_zero]
                            repeat (go_big_quiet_step (first | (go_at_call 14; exact Calls.quiet_of_same (HAO.out _ (below_trans HYY.out.bel (below_drewN (Below.refl _ _) _))))))
                            refine wpQuiet_nil ?_
                            intro w7 hw7
                            obtain ⟨nq, hw7⟩ := hw7
                            subst hw7
                            have HY7 : Hid (EH w6 (wy.drewN nq) m w6.heap.size (wo.heap.size + 1) wo.heap.size [.slice ia L.length ic, .int .u8 tk, .int .i64 ta, .int .i64 t0, .int .i64 t1, .int .u8 tt] A8 H8) := HYY.out.below (below_drewN (Below.refl _ _) nq)
                            refine wpAny_one (n := 25) 11 (by kernel_rfl) rfl (fun K hK0 => ?_)
                            have hK : Shut _ := hK0
                            clear hK0
                            go_simp
                            refine Calls.mono (by exact HFV.out _ HY7.out.bel) ?_
                            rintro e w8 ⟨rfl, hb8⟩
                            dsimp only
                            have HY8 : Hid (EH w6 w8 m w6.heap.size (wo.heap.size + 1) wo.heap.size [.slice ia L.length ic, .int .u8 tk, .int .i64 ta, .int .i64 t0, .int .i64 t1, .int .u8 tt] A8 H8) := HY7.out.below hb8
                            obtain ⟨x1, x2, x3⟩ := HSX.out _ HY8.out
                            refine hK.out _ _ ?_
                            clear hK K s1 s2 s3
                            refine wpAny_tail 12 (by kernel_rfl) rfl (by kernel_rfl) ?_
                            simp only [List.drop_succ_cons, List.drop_zero]
                            repeat (go_big_quiet_step (first | (go_at_call_of 14 (Value.slice na nl nc); exact Calls.quiet_of_same (HAI.out _ (below_trans HY8.out.bel (below_drewN (Below.refl _ _) _)))) | (go_at_call_of 14 (Value.slice oa ol oc); exact Calls.quiet_of_same (HAO.out _ (below_trans HY8.out.bel (below_drewN (Below.refl _ _) _))))))
                            refine wpQuiet_nil ?_
                            intro w9 hw9
                            obtain ⟨nq9, hw9⟩ := hw9
                            subst hw9
                            have HY9 : Hid (EH w6 (w8.drewN nq9) m w6.heap.size (wo.heap.size + 1) wo.heap.size [.slice ia L.length ic, .int .u8 tk, .int .i64 ta, .int .i64 t0, .int .i64 t1, .int .u8 tt] A8 H8) := HY8.out.below (below_drewN (Below.refl _ _) nq9)
                            go_wp2
                            go_roundw
                            case rel => exact ⟨v + 1, by first | rfl | (congr 1; omega), by omega, HY9.out⟩
                            case measure => simp [intOf]; omega
                      · have hh0f : (hv0 == 0) = false := beq_false_of_ne hh0
                        clear hno
                        cases O with
                        | false =>
                          as_aux_lemma =>
                            refine wp_region_pre 11 (by kernel_rfl) (by kernel_rfl) (by kernel_rfl) (by kernel_rfl) ?_
                            simp only [List.take_succ_cons, List.take_zero]
                            repeat (go_big_quiet_step (first | (go_at_call 14; exact Calls.quiet_of_same (HAO.out _ (below_trans HYY.out.bel (below_drewN (Below.refl _ _) _))))))
                            refine wpQuiet_nil ?_
                            intro w7 hw7
                            obtain ⟨nq, hw7⟩ := hw7
                            subst hw7
                            have HY7 : Hid (EH w6 (wy.drewN nq) m w6.heap.size (wo.heap.size + 1) wo.heap.size [.slice ia L.length ic, .int .u8 tk, .int .i64 ta, .int .i64 t0, .int .i64 t1, .int .u8 tt] A8 H8) := HYY.out.below (below_drewN (Below.refl _ _) nq)
                            refine wpAny_one (n := 25) 11 (by kernel_rfl) rfl (fun K hK0 => ?_)
                            have hK : Shut _ := hK0
                            clear hK0
                            go_simp
                            refine Calls.mono (by exact HFV.out _ HY7.out.bel) ?_
                            rintro e w8 ⟨rfl, hb8⟩
                            dsimp only
                            have HY8 : Hid (EH w6 w8 m w6.heap.size (wo.heap.size + 1) wo.heap.size [.slice ia L.length ic, .int .u8 tk, .int .i64 ta, .int .i64 t0, .int .i64 t1, .int .u8 tt] A8 H8) := HY7.out.below hb8
                            obtain ⟨x1, x2, x3⟩ := HSX.out _ HY8.out
                            refine hK.out _ _ ?_
                            clear hK K s1 s2 s3
                            refine wpAny_tail 12 (by kernel_rfl) rfl (by kernel_rfl) ?_
                            simp only [List.drop_succ_cons, List.drop_zero]
                            repeat (go_big_quiet_step (first | (go_at_call_of 14 (Value.slice na nl nc); exact Calls.quiet_of_same (HAI.out _ (below_trans HY8.out.bel (below_drewN (Below.refl _ _) _)))) | (go_at_call_of 14 (Value.slice oa ol oc); exact Calls.quiet_of_same (HAO.out _ (below_trans HY8.out.bel (below_drewN (Below.refl _ _) _))))))
                            refine wpQuiet_nil ?_
                            intro w9 hw9
                            obtain ⟨nq9, hw9⟩ := hw9
                            subst hw9
                            have HY9 : Hid (EH w6 (w8.drewN nq9) m w6.heap.size (wo.heap.size + 1) wo.heap.size [.slice ia L.length ic, .int .u8 tk, .int .i64 ta, .int .i64 t0, .int .i64 t1, .int .u8 tt] A8 H8) := HY8.out.below (below_drewN (Below.refl _ _) nq9)
                            go_wp2
                            go_roundw
                            case rel => exact ⟨v + 1, by first | rfl | (congr 1; omega), by omega, HY9.out⟩
                            case measure => simp [intOf]; omega
                        | true =>
                          as_aux_lemma =>
                            refine wp_region_pre 11 (by kernel_rfl) (by kernel_rfl) (by kernel_rfl) (by kernel_rfl) ?_
                            simp only [List.take_succ_cons, List.take_zero]
                            repeat (go_big_quiet_step (first | (go_at_call 14; exact Calls.quiet_of_same (HAO.out _ (below_trans HYY.out.bel (below_drewN (Below.refl _ _) _))))))
                            refine wpQuiet_nil ?_
                            intro w7 hw7
                            obtain ⟨nq, hw7⟩ := hw7
                            subst hw7
                            have HY7 : Hid (EH w6 (wy.drewN nq) m w6.heap.size (wo.heap.size + 1) wo.heap.size [.slice ia L.length ic, .int .u8 tk, .int .i64 ta, .int .i64 t0, .int .i64 t1, .int .u8 tt] A8 H8) := HYY.out.below (below_drewN (Below.refl _ _) nq)
                            refine wpAny_one (n := 25) 11 (by kernel_rfl) rfl (fun K hK0 => ?_)
                            have hK : Shut _ := hK0
                            clear hK0
                            go_simp
                            refine Calls.mono (by exact HFV.out _ HY7.out.bel) ?_
                            rintro e w8 ⟨rfl, hb8⟩
                            dsimp only
                            have HY8 : Hid (EH w6 w8 m w6.heap.size (wo.heap.size + 1) wo.heap.size [.slice ia L.length ic, .int .u8 tk, .int .i64 ta, .int .i64 t0, .int .i64 t1, .int .u8 tt] A8 H8) := HY7.out.below hb8
                            obtain ⟨x1, x2, x3⟩ := HSX.out _ HY8.out
                            refine hK.out _ _ ?_
                            clear hK K s1 s2 s3
                            refine wpAny_tail 12 (by kernel_rfl) rfl (by kernel_rfl) ?_
                            simp only [List.drop_succ_cons, List.drop_zero]
                            repeat (go_big_quiet_step (first | (go_at_call_of 14 (Value.slice na nl nc); exact Calls.quiet_of_same (HAI.out _ (below_trans HY8.out.bel (below_drewN (Below.refl _ _) _)))) | (go_at_call_of 14 (Value.slice oa ol oc); exact Calls.quiet_of_same (HAO.out _ (below_trans HY8.out.bel (below_drewN (Below.refl _ _) _))))))
                            refine wpQuiet_nil ?_
                            intro w9 hw9
                            obtain ⟨nq9, hw9⟩ := hw9
                            subst hw9
                            have HY9 : Hid (EH w6 (w8.drewN nq9) m w6.heap.size (wo.heap.size + 1) wo.heap.size [.slice ia L.length ic, .int .u8 tk, .int .i64 ta, .int .i64 t0, .int .i64 t1, .int .u8 tt] A8 H8) := HY8.out.below (below_drewN (Below.refl _ _) nq9)
                            go_wp2
                            go_roundw
                            case rel => exact ⟨v + 1, by first | rfl | (congr 1; omega), by omega, HY9.out⟩
                            case measure => simp [intOf]; omega
                · obtain rfl : v = m := by omega
                  have HY : Hid _ := hy.out
                  clear hy
                  go_wp2
                  go_roundw
                  case rel => exact ⟨i + 1, A8, by first | rfl | (congr 1; omega), by omega, HY.out.bel, HY.out.ra, HM8.out.1⟩
                  case measure => simp [intOf]; omega
      · obtain rfl : i = n := by omega
        have HMA : Hid (∀ q, q < i → ∀ v, AskB (blk bs q) v → mk A v) := hr.out.2.2
        have HN6 : Hid (∀ q, q < i → _) := fun q hq => HI6.out.get (i := q) (by simp; exact hq)
        have HKQ : Hid (∀ q, q < i → ∀ W, Below w6.heap.size w6 W → ∀ a, IntsAt W a ((inL bs ah i m).getD q []) → Calls Tryz.prog 13 #[.agg #[.string nm, .slice pa pl pc, .int .u8 r, .slice va m vc, .slice aa al ac, .slice ba i bc], a] W fun e w' => e = .returned (.bool true) ∧ Below W.heap.size W w') := fun q hq W hb a ha => by
          have hal : (((inL bs ah i m).getD q []).all (inB · m)) = true := List.all_eq_true.2 fun v hv => inB_iff.2 (by
            have h9 := in_asked (bs := bs) (ah := ah) (m := m) (i := q) (v := v) (by rw [HBN.out]; exact hq) (by rw [HBN.out]; exact hv)
            exact h9.1)
          have h9 := HKN.out W hb _ a ha hal
          rw [show (List.all ((inL bs ah i m).getD q []) fun x => inB x vs.length) = true from by rw [HVM.out]; exact hal] at h9
          exact h9
        have HAS : Hid (∀ q, q < i → ∀ k, k < ((inL bs ah i m).getD q []).length → ∃ t : Nat, ((inL bs ah i m).getD q []).getD k 0 = (t : Int) ∧ t < m ∧ A.getD t 0 = 1) := fun q hq k hk => by
          have hm := getD_memF hk
          have h9 := in_asked (bs := bs) (ah := ah) (m := m) (i := q) (v := ((inL bs ah i m).getD q []).getD k 0) (by rw [HBN.out]; exact hq) (by rw [HBN.out]; exact hm)
          obtain ⟨⟨h0, h1⟩, c, hc, hask⟩ := h9
          obtain ⟨t, ht⟩ := Int.eq_ofNat_of_zero_le h0
          refine ⟨t, ht, by rw [ht] at h1; omega, ?_⟩
          have h8 := HMA.out c (by rw [← HBN.out]; exact hc) _ hask
          unfold mk at h8
          rw [ht, Int.toNat_natCast] at h8
          exact h8
        have HR1 : Hid (Below w6.heap.size w6 wo ∧ MR wo w6.heap.size w6.heap.size m A) := ⟨hr.out.1, hr.out.2.1⟩
        clear hr HB6 HMA HKN
        go_wp2
        clear e0 e1 e2 e3 e4 e5
        go_loopw [16] (fun vi wr => ∃ q : Nat, vi = .int .i64 q ∧ q ≤ i ∧ Hid (Below w6.heap.size w6 wr ∧ MR wr w6.heap.size w6.heap.size m A)) (fun vi _ => i - (intOf vi).toNat)
        case atStart => exact ⟨0, rfl, by omega, HR1.out⟩
        case round =>
          obtain ⟨q, rfl, hq, hz⟩ := hrel
          clear HR1
          generalize wr = wp at *
          obtain ⟨e0, e1, e2, e3, e4, e5⟩ := box6 (H6.out.2.1.below hz.out.1)
          have hwl2 := (H6.out.2.1.below hz.out.1).lt
          by_cases hqn : q < i
          · as_aux_lemma =>
              have hqn' : (q : Int) < i := by omega
              obtain ⟨gr, or, ra, rc, hge, hgr, cr, hrow⟩ := HN6.out q hqn
              injection hge with hge
              injection hge with y1 y2
              subst y1 y2
              have hrl : ((inL bs ah i m).getD q []).length ≤ 1000000 := by rw [row_at hqn]; exact Nat.le_trans (rowV_len _ _) (by omega)
              have HCR : Hid (∀ W, Below w6.heap.size w6 W → W.cell? ⟨gI, 0 + q, none⟩ = some (.slice ra ((inL bs ah i m).getD q []).length rc)) := fun W hb => (hb.cell (p := ⟨gI, 0 + q, none⟩) hgr).trans cr
              have HKR : Hid (∀ W, Below w6.heap.size w6 W → _) := fun W hb => HKQ.out q hqn W hb (.slice ra ((inL bs ah i m).getD q []).length rc) (hrow.below hb)
              have HRW : Hid (∀ k, k < ((inL bs ah i m).getD q []).length → _) := fun k hk => hrow.get (i := k) hk
              have HAQ : Hid _ := HAS.out q hqn
              have HZ : Hid _ := hz.out
              have c1 := HCR.out _ hz.out.1
              rw [Nat.zero_add] at c1
              clear hz HN6 HKQ HAS hrow cr
              generalize (inL bs ah i m).getD q [] = row at *
              go_wp2
              refine wp_region_last2 5 _ _ rfl rfl rfl rfl (by kernel_rfl) (by kernel_rfl) (by kernel_rfl) (by kernel_rfl) (by kernel_rfl) (by kernel_rfl) (by kernel_rfl) ?_
              simp only [List.take_succ_cons, List.take_zero]
              repeat (go_big_quiet_step (fail))
              refine wpQuiet_nil ?_
              intro _ hw'
              obtain ⟨nq, hw''⟩ := hw'
              subst hw''
              intro K hK
              go_simp
              refine Calls.mono (by exact HKR.out _ (below_trans HZ.out.1 (below_drewN (Below.refl _ _) nq))) ?_
              rintro e w7 ⟨rfl, hb7⟩
              refine hK _ _ ?_
              clear hK K
              have HE7 : Hid (Below w6.heap.size w6 w7 ∧ MR w7 w6.heap.size w6.heap.size m A) := ⟨below_trans (below_trans HZ.out.1 (below_drewN (Below.refl _ _) nq)) hb7, (HZ.out.2.below (below_drewN (Below.refl _ _) nq)).below hb7⟩
              clear hb7 HZ HKR e0 e1 e2 e3 e4 e5 c1
              go_simp
              go_wp2
              go_loopw [17] (fun vk wr => ∃ k : Nat, vk = .int .i64 k ∧ k ≤ row.length ∧ Hid (Below w6.heap.size w6 wr ∧ MR wr w6.heap.size w6.heap.size m A)) (fun vk _ => row.length - (intOf vk).toNat)
              case atStart => exact ⟨0, rfl, by omega, HE7.out⟩
              case round =>
                obtain ⟨k, rfl, hk, hy⟩ := hrel
                clear HE7
                generalize wr = wz at *
                have c1 := HCR.out _ hy.out.1
                rw [Nat.zero_add] at c1
                by_cases hkn : k < row.length
                · as_aux_lemma =>
                    have hkn' : (k : Int) < row.length := by omega
                    obtain ⟨gx, ox, rfl, hgx, cx⟩ := HRW.out k hkn
                    obtain ⟨t, ht, htm, hta⟩ := HAQ.out k hkn
                    rw [ht] at cx
                    have htm' : (t : Int) < m := by omega
                    have cx' : wz.cell? ⟨gx, ox + k, none⟩ = some (.int .i64 (t : Int)) := (hy.out.1.cell (p := ⟨gx, ox + k, none⟩) hgx).trans cx
                    have cA := hy.out.2.cell htm
                    rw [hta] at cA
                    have HY : Hid _ := hy.out
                    clear hy HRW HAQ cx ht
                    go_wp2
                    go_roundw
                    case rel => exact ⟨k + 1, by first | rfl | (congr 1; omega), by omega, HY.out⟩
                    case measure => simp [intOf]; omega
                · obtain rfl : k = row.length := by omega
                  have HY : Hid _ := hy.out
                  clear hy HRW HAQ
                  go_wp2
                  go_roundw
                  case rel => exact ⟨q + 1, by first | rfl | (congr 1; omega), by omega, HY.out⟩
                  case measure => simp [intOf]; omega
          · obtain rfl : q = i := by omega
            have HZ : Hid (Below w.heap.size w wp) := below_trans H6.out.1 hz.out.1
            clear hz HN6 HKQ HAS
            go_wp2
            go_ret
            exact ⟨rfl, HZ.out⟩
end Go.Proofs.YtcggbedjhglmmaaGreatDoor
