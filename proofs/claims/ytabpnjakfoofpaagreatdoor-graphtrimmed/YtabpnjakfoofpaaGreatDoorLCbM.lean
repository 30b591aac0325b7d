/- Instructions copied. -/
import Derived.Test.YtabpnjakfoofpaaGreatDoorLCiM
namespace Go.Proofs.YtabpnjakfoofpaaGreatDoor
open Go.RowKit

theorem insCells_snoc : ∀ {l : List In} {avs : List Value} (x : In) (a : Value), avs.length = l.length → insCells (l ++ [x]) (avs ++ [a]) = insCells l avs ++ inCells x a
  | [], [], x, a, _ => by simp [insCells]
  | y :: l, b :: avs, x, a, h => by
    have := insCells_snoc (l := l) (avs := avs) x a (by simpa using h)
    rw [List.cons_append, List.cons_append, insCells_cons, insCells_cons, this, List.append_assoc]
  | [], b :: avs, _, _, h => by simp at h
  | y :: l, [], _, _, h => by simp at h
/-- instructions in memory of their own: the row, and each one's arguments, apart from it -/
structure CI (w : World) (base : Nat) (v : Value) (l : List In) (avs : List Value) : Prop where
  row : w.ownsRow base 58 6 v l.length (insCells l avs)
  al : avs.length = l.length
  kid : ∀ (i : Nat) (x : In) (a : Value), l[i]? = some x → avs[i]? = some a → OwnI w base a x.args
  ap : ∀ (i : Nat) (a : Value) (g : Nat), avs[i]? = some a → a.ownBlock = some g → v.ownBlock ≠ some g
theorem CI.nil (w : World) (base : Nat) : CI w base (.slice none 0 0) [] [] := ⟨World.ownsRow_nil _ _ _ _, rfl, fun i x a h => by simp at h, fun i a g h => by simp at h⟩
theorem CI.below {w w' : World} {base : Nat} {v : Value} {l : List In} {avs : List Value} (h : CI w base v l avs) (hb : Below w.heap.size w w') : CI w' base v l avs :=
  ⟨owns_below h.row hb, h.al, fun i x a hx ha => owns_below (h.kid i x a hx ha) hb, h.ap⟩
theorem CI.push {w w1 w2 : World} {base : Nat} {v v2 av : Value} {l : List In} {avs : List Value} {x : In} (h : CI w base v l avs) (hb : Below w.heap.size w w1) (ha : OwnI w1 w.heap.size av x.args) (hsz : base ≤ w.heap.size)
    (ho : w2.ownsRow base 58 6 v2 (l.length + 1) (insCells l avs ++ inCells x av)) (hg : w1.grownBy w2 v.ownBlock) (hat : v2.ownBlock = v.ownBlock ∨ v2.ownBlock = some w1.heap.size) : CI w2 base v2 (l ++ [x]) (avs ++ [av]) := by
  have hvb : ∀ g, v.ownBlock = some g → g < w.heap.size := fun g hg => (h.row.lt g hg).2
  have hne : ∀ g, av.ownBlock = some g → v.ownBlock ≠ some g := fun g hg hc => by have := hvb g hc; have := (ha.lt g hg).1; omega
  have keep : ∀ {a : Value} {r : List Int}, OwnI w1 base a r → (∀ g, a.ownBlock = some g → v.ownBlock ≠ some g) → OwnI w2 base a r := fun ho hn => owns_same ho fun g hg' => hg.block g (ho.lt g hg').2 (fun e => hn g hg' e.symm)
  have hn2 : ∀ {a : Value} {g : Nat}, a.ownBlock = some g → g < w1.heap.size → v.ownBlock ≠ some g → v2.ownBlock ≠ some g := fun hag hlt hn hc => by
    rcases hat with e | e
    · rw [e] at hc; exact hn hc
    · rw [e] at hc; cases hc; omega
  refine ⟨?_, by simp [h.al], fun i y a hy ha' => ?_, fun i a g ha' hag => ?_⟩
  · rw [insCells_snoc x av h.al, List.length_append]; exact ho
  · rcases Nat.lt_or_ge i l.length with hi | hi
    · rw [List.getElem?_append_left hi] at hy
      rw [List.getElem?_append_left (by rw [h.al]; exact hi)] at ha'
      exact keep (owns_below (h.kid i y a hy ha') hb) (fun g hg => h.ap i a g ha' hg)
    · rw [List.getElem?_append_right hi] at hy
      rw [List.getElem?_append_right (by rw [h.al]; exact hi), h.al] at ha'
      rcases hd : i - l.length with _ | k
      · rw [hd] at hy ha'; cases hy; cases ha'
        exact keep (own_mono ha hsz) hne
      · rw [hd] at hy; simp at hy
  · rcases Nat.lt_or_ge i avs.length with hi | hi
    · rw [List.getElem?_append_left hi] at ha'
      have hi' : i < l.length := by rw [← h.al]; exact hi
      have hk := h.kid i l[i] a (List.getElem?_eq_getElem hi') ha'
      exact hn2 hag (Nat.lt_of_lt_of_le (hk.lt g hag).2 hb.size) (h.ap i a g ha' hag)
    · rw [List.getElem?_append_right hi] at ha'
      rcases hd : i - avs.length with _ | k
      · rw [hd] at ha'; cases ha'
        exact hn2 hag (ha.lt g hag).2 (hne g hag)
      · rw [hd] at ha'; simp at ha'
theorem in_cells_one {x : In} {a : Value} (ha : a.oneCell' = true) : ∀ u ∈ inCells x a, u.oneCell' = true := fun u hu => by
  unfold inCells at hu
  simp only [List.mem_cons, List.not_mem_nil, or_false] at hu
  rcases hu with rfl | rfl | rfl | rfl | rfl | rfl
  · rfl
  · rfl
  · rfl
  · exact ha
  · rfl
  · rfl
set_option maxRecDepth 100000 in
set_option maxHeartbeats 4000000 in
theorem copyN_any (l : List In) (v : Value) (w : World) (h : InsAt w v l) (hl : l.length ≤ 1000000) (hla : ∀ x ∈ l, x.args.length ≤ 1000000) :
    Calls Tryz.prog 117 #[v] w fun e w' => ∃ v' avs, e = .returned v' ∧ CI w' w.heap.size v' l avs ∧ Below w.heap.size w w' := by
  obtain ⟨a, c, rfl, hll⟩ := h.form
  have HI : Hid (∀ i, i < l.length → _) := fun i hi => h.get (i := i) hi
  have HCP : Hid (∀ i, i < l.length → ∀ av W, IntsAt W av (l.getD i default).args → Calls Tryz.prog 125 #[inV (l.getD i default) av] W fun e w' => ∃ av', e = .returned (inV (l.getD i default) av') ∧ OwnI w' W.heap.size av' (l.getD i default).args ∧ Below W.heap.size W w') := fun i hi av W hW => copyIns_any _ av W hW (hla _ (getD_memI hi))
  have HTK : Hid (∀ i, i < l.length → l.take (i + 1) = l.take i ++ [l.getD i default]) := fun i hi => by
    rw [List.take_add_one, List.getElem?_eq_getElem hi, List.getD, List.getElem?_eq_getElem hi]; rfl
  have HTF : Hid (l.take l.length = l) := List.take_length
  have HLT : Hid (∀ i, i ≤ l.length → (l.take i).length = i) := fun i hi => by rw [List.length_take]; omega
  have HLA : Hid _ := hla
  have H0 : Hid (CI w w.heap.size (.slice none 0 0) (l.take 0) []) := CI.nil w _
  obtain ⟨i0, hi0, hz0, hz1, hz2⟩ := info_parts infoIn
  clear h
  generalize hnn : l.length = n at *
  have HNN : Hid _ := hnn
  clear hnn
  have hl' : (n : Int) ≤ 1000000 := by omega
  go_enter Tryz.func117, Tryz.ntmps117
  go_wp2
  go_loopw [3, 4] (fun vo vi wr => ∃ (i : Nat) (avs : List Value) (oa : Option Addr) (oc : Nat), vi = .int .i64 i ∧ vo = .slice oa i oc ∧ i ≤ n ∧ Hid (Below w.heap.size w wr ∧ CI wr w.heap.size (.slice oa i oc) (l.take i) avs)) (fun _ vi _ => n - (intOf vi).toNat)
  case atStart => exact ⟨0, [], none, 0, rfl, rfl, by omega, Below.refl _ _, H0.out⟩
  case round =>
    obtain ⟨i, avs, oa, oc, rfl, rfl, hi, hr⟩ := hrel
    clear H0
    generalize wr = wo at *
    have hrl := hr.out.2.row
    rw [HLT.out i hi] at hrl
    by_cases hin : i < n
    · obtain ⟨g, o, av, rfl, hg, c0, c1, c2, c3, c4, c5, hxa⟩ := HI.out i hin
      obtain ⟨xa, xc, rfl, hxl⟩ := hxa.form
      have hin' : (i : Int) < n := by omega
      have hcl : ∀ j, wo.cell? ⟨g, j, none⟩ = w.cell? ⟨g, j, none⟩ := fun j => hr.out.1.cell (p := ⟨g, j, none⟩) hg
      rw [← hcl] at c0 c1 c2 c3 c4 c5
      have HC1 : Hid _ := HCP.out i hin (.slice xa (l.getD i default).args.length xc) wo (hxa.below hr.out.1)
      have HT1 : Hid _ := HTK.out i hin
      have HRR : Hid _ := hr.out
      have HRL : Hid (wo.ownsRow w.heap.size 58 6 (.slice oa i oc) i (insCells (l.take i) avs)) := hrl
      have HLI : Hid ((l.take i).length = i) := HLT.out i hi
      clear hr hrl HI HCP HTK hxa hcl HTF HLT
      generalize l.getD i default = X at *
      obtain ⟨k, op, dst, args, bits, ref⟩ := X
      dsimp only at *
      have HSZ : Hid (∀ (V : World) (o : Obj), (V.alloc o).heap.size = V.heap.size + 1) := fun V o => by simp
      have HSB : Hid (w.heap.size ≤ wo.heap.size) := HRR.out.1.size
      go_wp2_with (first | (go_at_call 125; go_loud (refine Calls.mono (by exact HC1.out) ?_; rintro e w2 ⟨av2, rfl, ho2, hb2⟩; obtain ⟨ya, yc, rfl⟩ : ∃ ya yc, av2 = .slice ya args.length yc := (by obtain ⟨ya, yc, hv, _⟩ := own_blk (Nat.le_refl _) ho2; exact ⟨ya, yc, hv⟩); have HO2 : Hid _ := ho2; have HB2 : Hid _ := hb2; clear ho2 hb2)) | (at_builtin; go_loud (refine wpList_append_own_at _ rfl _ _ 33 rfl w.heap.size 58 i0 (.agg #[.int .u8 0, .int .u8 0, .int .i64 0, .slice none 0 0, .int .u64 0, .int .i64 0]) 6 56 Tryz.underlying33 hi0 hz0 hz1 hz2 rfl (by decide) _ i (insCells (l.take i) avs) rfl (owns_below (owns_below HRL.out HB2.out) (below_alloc (below_alloc (Below.refl _ _) _) _)) ⟨w2.heap.size + 1, 0, none⟩ 1 1 (inCells ⟨k, op, dst, args, bits, ref⟩ (.slice ya args.length yc)) rfl rfl ?c1 ?c2 ?c3 ?c4 ?c5 ?_)))
      case c1 => intro j u hj; rw [Addr.add_lit, Nat.zero_add]; have h9 := (Box.new (w2.alloc (.cells #[.int .u8 k, .int .u8 op, .int .i64 dst, .slice ya args.length yc, .int .u64 bits, .int .i64 ref] 58)) (inCells ⟨k, op, dst, args, bits, ref⟩ (.slice ya args.length yc)) 58).cell j u hj; rw [HSZ.out] at h9; exact h9
      case c2 => exact in_cells_one rfl
      case c3 => unfold maxLen; omega
      case c4 => omega
      case c5 => have h9 := HB2.out.size; have h8 := HSB.out; simp; omega
      intro v2 w3 ho hg2 _ hat
      obtain ⟨g2, cc2, rfl, _, _, _, _⟩ := own_form ho
      have HBA : Hid (Below wo.heap.size wo ((w2.alloc (.cells #[.int .u8 k, .int .u8 op, .int .i64 dst, .slice ya args.length yc, .int .u64 bits, .int .i64 ref] 58)).alloc (.cells #[.int .u8 k, .int .u8 op, .int .i64 dst, .slice ya args.length yc, .int .u64 bits, .int .i64 ref] 58))) := below_trans HB2.out (below_alloc (below_alloc (Below.refl _ _) _) _)
      have HN : Hid (Below w.heap.size w w3 ∧ CI w3 w.heap.size (.slice (some ⟨g2, 0, none⟩) (i + 1) cc2) (l.take (i + 1)) (avs ++ [.slice ya args.length yc])) := by
        refine ⟨below_grown (below_trans HRR.out.1 HBA.out) hg2 (fun q hq => (HRL.out.lt q hq).1), ?_⟩
        rw [HT1.out]
        refine CI.push HRR.out.2 HBA.out (owns_below HO2.out (below_alloc (below_alloc (Below.refl _ _) _) _)) HSB.out (by rw [HLI.out]; exact ho) hg2 ?_
        rcases hat with e | e
        · exact .inl e
        · exact .inr (by rw [HSZ.out, HSZ.out]; exact e)
      clear ho hg2 hat
      go_wp2
      go_roundw
      case rel => exact ⟨i + 1, _, _, _, by first | rfl | (congr 1; omega), rfl, by omega, HN.out.1, HN.out.2⟩
      case measure => simp [intOf]; omega
    · obtain rfl : i = n := by omega
      rw [HTF.out] at hr
      have HRR : Hid _ := hr.out
      clear hr hrl HI HCP HTK
      go_wp2
      go_ret
      exact ⟨_, avs, rfl, HRR.out.2, HRR.out.1⟩
end Go.Proofs.YtabpnjakfoofpaaGreatDoor
/- Blocks copied. -/
namespace Go.Proofs.YtabpnjakfoofpaaGreatDoor
open Go.RowKit

theorem CI.moved {w w' : World} {base base' : Nat} {v : Value} {l : List In} {avs : List Value} (h : CI w base v l avs) (hb : base' ≤ base) (hk : ∀ g, base ≤ g → w'.heap[g]? = w.heap[g]?) : CI w' base' v l avs :=
  ⟨own_mono (owns_same h.row fun g hg => hk g (h.row.lt g hg).1) hb, h.al, fun i x a hx ha => own_mono (owns_same (h.kid i x a hx ha) fun g hg => hk g ((h.kid i x a hx ha).lt g hg).1) hb, h.ap⟩
set_option maxRecDepth 100000 in
set_option maxHeartbeats 2000000 in
theorem copyBl_any (b : Bl) (iv : Value) (w : World) (h : InsAt w iv b.ins) (hl : b.ins.length ≤ 1000000) (hla : ∀ x ∈ b.ins, x.args.length ≤ 1000000) :
    Calls Tryz.prog 93 #[.agg (blArr iv b.tm)] w fun e w' => ∃ iv' avs, e = .returned (.agg (blArr iv' b.tm)) ∧ CI w' w.heap.size iv' b.ins avs ∧ Below w.heap.size w w' := by
  obtain ⟨L, k, ta, t0, t1, tt⟩ := b
  dsimp only at h hl hla ⊢
  obtain ⟨a, c, rfl, _⟩ := h.form
  have HCI : Hid (∀ W, Below w.heap.size w W → Calls Tryz.prog 117 #[.slice a L.length c] W fun e w' => ∃ v' avs, e = .returned v' ∧ CI w' W.heap.size v' L avs ∧ Below W.heap.size W w') := fun W hb => copyN_any L _ W (h.below hb) hl hla
  clear h hla
  generalize hal : L.length = il at *
  have HAL : Hid _ := hal
  clear hal
  have HB0 : Hid (Box ((w.alloc (.cells #[.slice a il c, .int .u8 k, .int .i64 ta, .int .i64 t0, .int .i64 t1, .int .u8 tt] 40)).alloc (.cells #[.slice none 0 0, .int .u8 0, .int .i64 0, .int .i64 0, .int .i64 0, .int .u8 0] 40)) w.heap.size [.slice a il c, .int .u8 k, .int .i64 ta, .int .i64 t0, .int .i64 t1, .int .u8 tt] ∧ Box ((w.alloc (.cells #[.slice a il c, .int .u8 k, .int .i64 ta, .int .i64 t0, .int .i64 t1, .int .u8 tt] 40)).alloc (.cells #[.slice none 0 0, .int .u8 0, .int .i64 0, .int .i64 0, .int .i64 0, .int .u8 0] 40)) (w.heap.size + 1) [.slice none 0 0, .int .u8 0, .int .i64 0, .int .i64 0, .int .i64 0, .int .u8 0] ∧ Below w.heap.size w ((w.alloc (.cells #[.slice a il c, .int .u8 k, .int .i64 ta, .int .i64 t0, .int .i64 t1, .int .u8 tt] 40)).alloc (.cells #[.slice none 0 0, .int .u8 0, .int .i64 0, .int .i64 0, .int .i64 0, .int .u8 0] 40))) := by
    refine ⟨(Box.new w [.slice a il c, .int .u8 k, .int .i64 ta, .int .i64 t0, .int .i64 t1, .int .u8 tt] 40).below (below_alloc (Below.refl _ _) _), ?_, below_alloc (below_alloc (Below.refl _ _) _) _⟩
    have h9 := Box.new (w.alloc (.cells #[.slice a il c, .int .u8 k, .int .i64 ta, .int .i64 t0, .int .i64 t1, .int .u8 tt] 40)) [.slice none 0 0, .int .u8 0, .int .i64 0, .int .i64 0, .int .i64 0, .int .u8 0] 40
    rwa [show (w.alloc (.cells #[.slice a il c, .int .u8 k, .int .i64 ta, .int .i64 t0, .int .i64 t1, .int .u8 tt] 40)).heap.size = w.heap.size + 1 by simp] at h9
  have HOB : Hid (∀ W, Below (w.heap.size + 2) ((w.alloc (.cells #[.slice a il c, .int .u8 k, .int .i64 ta, .int .i64 t0, .int .i64 t1, .int .u8 tt] 40)).alloc (.cells #[.slice none 0 0, .int .u8 0, .int .i64 0, .int .i64 0, .int .i64 0, .int .u8 0] 40)) W → W.heap[w.heap.size + 1]? = some (.cells #[.slice none 0 0, .int .u8 0, .int .i64 0, .int .i64 0, .int .i64 0, .int .u8 0] 40 (0, 0))) := fun W hb => by
    rw [hb.block (w.heap.size + 1) (by omega)]
    have e : (w.alloc (.cells #[.slice a il c, .int .u8 k, .int .i64 ta, .int .i64 t0, .int .i64 t1, .int .u8 tt] 40)).heap.size = w.heap.size + 1 := by simp
    have h9 := heap_alloc_new (w.alloc (.cells #[.slice a il c, .int .u8 k, .int .i64 ta, .int .i64 t0, .int .i64 t1, .int .u8 tt] 40)) (.cells #[.slice none 0 0, .int .u8 0, .int .i64 0, .int .i64 0, .int .i64 0, .int .u8 0] 40)
    rw [e] at h9
    exact h9
  have HSZ : Hid (∀ o o' : Obj, ((w.alloc o).alloc o').heap.size = w.heap.size + 2) := fun o o' => by simp
  clear hl
  go_enter Tryz.func93, Tryz.ntmps93
  go_wp2_with (go_at_call 117; go_loud (refine Calls.mono (by exact HCI.out _ HB0.out.2.2) ?_; rintro e w2 ⟨v2, avs, rfl, ho2, hb2⟩; obtain ⟨ya, yc, rfl⟩ : ∃ ya yc, v2 = .slice ya il yc := (by have h9 := ho2.row; rw [HAL.out] at h9; obtain ⟨ya, yc, hv, _⟩ := own_blk (Nat.le_refl _) h9; exact ⟨ya, yc, hv⟩); obtain ⟨e0, e1, e2, e3, e4, e5⟩ := box6 (HB0.out.1.below hb2); have ef := (HB0.out.1.below hb2).fz 0; have HX1 := HB0.out.2.1.below hb2; obtain ⟨g0, g1, g2, g3, g4, g5⟩ := box6 HX1; have gf := HX1.fz; have hwl := (HB0.out.1.below hb2).lt; have hwl2 := HX1.lt; have HO2 : Hid _ := ho2; have HB2 : Hid _ := hb2; clear ho2 hb2 HX1))
  have hoi := HOB.out w2 (by have h9 := HB2.out; rw [HSZ.out] at h9; exact h9)
  have hoi2 : (w2.setCell ⟨w.heap.size, 0, none⟩ (.slice ya il yc)).heap[w.heap.size + 1]? = _ := (Below.heap_setCell w2 ⟨w.heap.size, 0, none⟩ (.slice ya il yc) (w.heap.size + 1) (by show w.heap.size + 1 ≠ w.heap.size; omega)).trans hoi
  have hbw : Below w.heap.size w (w2.setCell ⟨w.heap.size, 0, none⟩ (.slice ya il yc)) := (below_trans HB0.out.2.2 HB2.out).setCell (p := ⟨w.heap.size, 0, none⟩) (Nat.le_refl _) _
  obtain ⟨q1, q2, q3⟩ := six_end hbw (Nat.le_succ _) hoi2 (.slice ya il yc) (.int .u8 k) (.int .i64 ta) (.int .i64 t0) (.int .i64 t1) (.int .u8 tt)
  refine bodyPost_ret (results_cell_row rfl _ _ (w.heap.size + 1) 40 #[.slice ya il yc, .int .u8 k, .int .i64 ta, .int .i64 t0, .int .i64 t1, .int .u8 tt] _ _ rfl q2 Tryz.underlying40 rfl (by rfl)) rfl ⟨_, avs, rfl, ?_, q1⟩
  have h7 := HO2.out
  rw [HSZ.out] at h7
  have keep : ∀ g, w.heap.size + 2 ≤ g → (setSix (w2.setCell ⟨w.heap.size, 0, none⟩ (.slice ya il yc)) (w.heap.size + 1) (.slice ya il yc) (.int .u8 k) (.int .i64 ta) (.int .i64 t0) (.int .i64 t1) (.int .u8 tt)).heap[g]? = w2.heap[g]? := fun g hg => by
    rw [q3 g (by omega)]
    exact Below.heap_setCell w2 ⟨w.heap.size, 0, none⟩ (.slice ya il yc) g (by show g ≠ w.heap.size; omega)
  exact CI.moved h7 (by omega) keep
end Go.Proofs.YtabpnjakfoofpaaGreatDoor
