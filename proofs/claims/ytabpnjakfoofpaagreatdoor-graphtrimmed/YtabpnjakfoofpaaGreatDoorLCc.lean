/- Rows of blocks copied. -/
import Derived.Test.YtabpnjakfoofpaaGreatDoorLCbM
namespace Go.Proofs.YtabpnjakfoofpaaGreatDoor
open Go.RowKit

theorem blsCells_snoc : ∀ {l : List Bl} {avs : List Value} (x : Bl) (a : Value), avs.length = l.length → blsCells (l ++ [x]) (avs ++ [a]) = blsCells l avs ++ blCells x a
  | [], [], x, a, _ => by simp [blsCells]
  | y :: l, b :: avs, x, a, h => by
    have := blsCells_snoc (l := l) (avs := avs) x a (by simpa using h)
    rw [List.cons_append, List.cons_append, blsCells_cons, blsCells_cons, this, List.append_assoc]
  | [], b :: avs, _, _, h => by simp at h
  | y :: l, [], _, _, h => by simp at h
/-- the memory of a row of instructions -/
def KB (iv : Value) (avs : List Value) (g : Nat) : Prop := iv.ownBlock = some g ∨ ∃ (i : Nat) (a : Value), avs[i]? = some a ∧ a.ownBlock = some g
theorem CI.lt {w : World} {base : Nat} {v : Value} {l : List In} {avs : List Value} (h : CI w base v l avs) {g : Nat} (hg : KB v avs g) : base ≤ g ∧ g < w.heap.size := by
  rcases hg with hg | ⟨i, a, ha, hg⟩
  · exact h.row.lt g hg
  · have hi : i < l.length := by rw [← h.al]; exact (List.getElem?_eq_some_iff.1 ha).1
    exact (h.kid i l[i] a (List.getElem?_eq_getElem hi) ha).lt g hg
theorem CI.same {w w' : World} {base : Nat} {v : Value} {l : List In} {avs : List Value} (h : CI w base v l avs) (hk : ∀ g, KB v avs g → w'.heap[g]? = w.heap[g]?) : CI w' base v l avs :=
  ⟨owns_same h.row fun g hg => hk g (.inl hg), h.al, fun i x a hx ha => owns_same (h.kid i x a hx ha) fun g hg => hk g (.inr ⟨i, a, ha, hg⟩), h.ap⟩
theorem CI.low {w : World} {base base' : Nat} {v : Value} {l : List In} {avs : List Value} (h : CI w base v l avs) (hb : base' ≤ base) : CI w base' v l avs :=
  ⟨own_mono h.row hb, h.al, fun i x a hx ha => own_mono (h.kid i x a hx ha) hb, h.ap⟩
/-- blocks in memory of their own -/
structure CB (w : World) (base : Nat) (v : Value) (bs : List Bl) (ivs : List Value) (avss : List (List Value)) : Prop where
  row : w.ownsRow base 40 6 v bs.length (blsCells bs ivs)
  al : ivs.length = bs.length
  vl : avss.length = bs.length
  kid : ∀ (i : Nat) (b : Bl) (iv : Value) (avs : List Value), bs[i]? = some b → ivs[i]? = some iv → avss[i]? = some avs → CI w base iv b.ins avs
  ap : ∀ (i : Nat) (iv : Value) (avs : List Value) (g : Nat), ivs[i]? = some iv → avss[i]? = some avs → KB iv avs g → v.ownBlock ≠ some g
  pw : ∀ (i j : Nat) (iv iv' : Value) (avs' : List Value) (g : Nat), i ≠ j → ivs[i]? = some iv → ivs[j]? = some iv' → avss[j]? = some avs' → iv.ownBlock = some g → ¬ KB iv' avs' g
theorem CB.nil (w : World) (base : Nat) : CB w base (.slice none 0 0) [] [] [] := ⟨World.ownsRow_nil _ _ _ _, rfl, rfl, fun i x a _ h => by simp at h, fun i a _ g h => by simp at h, fun i j a _ _ g _ h => by simp at h⟩
theorem CB.below {w w' : World} {base : Nat} {v : Value} {bs : List Bl} {ivs : List Value} {avss : List (List Value)} (h : CB w base v bs ivs avss) (hb : Below w.heap.size w w') : CB w' base v bs ivs avss :=
  ⟨owns_below h.row hb, h.al, h.vl, fun i b iv avs h1 h2 h3 => (h.kid i b iv avs h1 h2 h3).below hb, h.ap, h.pw⟩
theorem CB.iv_kb {w : World} {base : Nat} {v : Value} {bs : List Bl} {ivs : List Value} {avss : List (List Value)} (h : CB w base v bs ivs avss) {i : Nat} {iv : Value} {avs : List Value} (hi : ivs[i]? = some iv) (ha : avss[i]? = some avs) {g : Nat} (hg : KB iv avs g) : base ≤ g ∧ g < w.heap.size := by
  have hl : i < bs.length := by rw [← h.al]; exact (List.getElem?_eq_some_iff.1 hi).1
  exact (h.kid i bs[i] iv avs (List.getElem?_eq_getElem hl) hi ha).lt hg
theorem app_cases {α : Type} {l : List α} {x y : α} {i : Nat} (h : (l ++ [x])[i]? = some y) : (i < l.length ∧ l[i]? = some y) ∨ (i = l.length ∧ y = x) := by
  rcases Nat.lt_or_ge i l.length with hi | hi
  · rw [List.getElem?_append_left hi] at h; exact .inl ⟨hi, h⟩
  · rw [List.getElem?_append_right hi] at h
    rcases hd : i - l.length with _ | k
    · rw [hd] at h; cases h; exact .inr ⟨by omega, rfl⟩
    · rw [hd] at h; simp at h
theorem CB.push {w w1 w2 : World} {base : Nat} {v v2 iv : Value} {bs : List Bl} {ivs avs : List Value} {avss : List (List Value)} {b : Bl} (h : CB w base v bs ivs avss) (hb : Below w.heap.size w w1) (hk : CI w1 w.heap.size iv b.ins avs) (hsz : base ≤ w.heap.size)
    (ho : w2.ownsRow base 40 6 v2 (bs.length + 1) (blsCells bs ivs ++ blCells b iv)) (hg : w1.grownBy w2 v.ownBlock) (hat : v2.ownBlock = v.ownBlock ∨ v2.ownBlock = some w1.heap.size) : CB w2 base v2 (bs ++ [b]) (ivs ++ [iv]) (avss ++ [avs]) := by
  have hvb : ∀ g, v.ownBlock = some g → g < w.heap.size := fun g hg => (h.row.lt g hg).2
  have hnew : ∀ g, KB iv avs g → v.ownBlock ≠ some g := fun g hg hc => by have := hvb g hc; have := (hk.lt hg).1; omega
  have hn2 : ∀ g, g < w1.heap.size → v.ownBlock ≠ some g → v2.ownBlock ≠ some g := fun g hlt hn hc => by
    rcases hat with e | e
    · rw [e] at hc; exact hn hc
    · rw [e] at hc; cases hc; omega
  have hkeep : ∀ g, g < w1.heap.size → v.ownBlock ≠ some g → w2.heap[g]? = w1.heap[g]? := fun g hlt hn => hg.block g hlt (fun e => hn e.symm)
  refine ⟨?_, by simp [h.al], by simp [h.vl], fun i y jv ax h1 h2 h3 => ?_, fun i jv ax g h2 h3 hkb => ?_, fun i j jv kv ax g hij h1 h2 h3 hjg hkb => ?_⟩
  · rw [blsCells_snoc b iv h.al, List.length_append]; exact ho
  · rcases app_cases h1 with ⟨hi, h1⟩ | ⟨hi, rfl⟩
    · rcases app_cases h2 with ⟨_, h2⟩ | ⟨hi2, _⟩
      · rcases app_cases h3 with ⟨_, h3⟩ | ⟨hi3, _⟩
        · have hc := (h.kid i y jv ax h1 h2 h3).below hb
          exact hc.same fun g hg' => hkeep g (hc.lt hg').2 (h.ap i jv ax g h2 h3 hg')
        · rw [h.vl] at hi3; omega
      · rw [h.al] at hi2; omega
    · rcases app_cases h2 with ⟨hi2, _⟩ | ⟨_, rfl⟩
      · rw [h.al] at hi2; omega
      · rcases app_cases h3 with ⟨hi3, _⟩ | ⟨_, rfl⟩
        · rw [h.vl] at hi3; omega
        · exact (hk.same fun g hg' => hkeep g (hk.lt hg').2 (hnew g hg')).low hsz
  · rcases app_cases h2 with ⟨hi, h2⟩ | ⟨hi, rfl⟩
    · rcases app_cases h3 with ⟨_, h3⟩ | ⟨hi3, _⟩
      · exact hn2 g (Nat.lt_of_lt_of_le (h.iv_kb h2 h3 hkb).2 hb.size) (h.ap i jv ax g h2 h3 hkb)
      · rw [h.vl] at hi3; rw [h.al] at hi; omega
    · rcases app_cases h3 with ⟨hi3, _⟩ | ⟨_, rfl⟩
      · rw [h.vl] at hi3; rw [h.al] at hi; omega
      · exact hn2 g (hk.lt hkb).2 (hnew g hkb)
  · rcases app_cases h1 with ⟨hi, h1⟩ | ⟨hi, rfl⟩
    · have hil : i < avss.length := by rw [h.vl, ← h.al]; exact hi
      have hlo := (h.iv_kb h1 (List.getElem?_eq_getElem hil) (.inl hjg)).2
      rcases app_cases h2 with ⟨_, h2⟩ | ⟨hj, rfl⟩
      · rcases app_cases h3 with ⟨_, h3⟩ | ⟨hj3, _⟩
        · exact h.pw i j jv kv ax g hij h1 h2 h3 hjg hkb
        · have := (List.getElem?_eq_some_iff.1 h2).1; rw [h.vl] at hj3; rw [h.al] at this; omega
      · rcases app_cases h3 with ⟨hj3, _⟩ | ⟨_, rfl⟩
        · rw [h.vl] at hj3; rw [h.al] at hj; omega
        · have := (hk.lt hkb).1; omega
    · have hhi := (hk.lt (.inl hjg)).1
      rcases app_cases h2 with ⟨_, h2⟩ | ⟨hj, rfl⟩
      · rcases app_cases h3 with ⟨_, h3⟩ | ⟨hj3, _⟩
        · have := (h.iv_kb h2 h3 hkb).2; omega
        · have := (List.getElem?_eq_some_iff.1 h2).1; rw [h.vl] at hj3; rw [h.al] at this; omega
      · omega
theorem bl_cells_one {x : Bl} {a : Value} (ha : a.oneCell' = true) : ∀ u ∈ blCells x a, u.oneCell' = true := fun u hu => by
  unfold blCells at hu
  simp only [List.mem_cons, List.not_mem_nil, or_false] at hu
  rcases hu with rfl | rfl | rfl | rfl | rfl | rfl
  · exact ha
  · rfl
  · rfl
  · rfl
  · rfl
  · rfl
theorem getD_memB {L : List Bl} {i : Nat} (h : i < L.length) : L.getD i default ∈ L := by
  have e : L.getD i default = L[i] := by simp [List.getD, List.getElem?_eq_getElem h]
  rw [e]; exact List.getElem_mem h
set_option maxRecDepth 100000 in
set_option maxHeartbeats 4000000 in
theorem copyBs_any (bs : List Bl) (v : Value) (w : World) (h : BlsAt w v bs) (hl : bs.length ≤ 1000000) (hli : ∀ b ∈ bs, b.ins.length ≤ 1000000) (hla : ∀ b ∈ bs, ∀ x ∈ b.ins, x.args.length ≤ 1000000) :
    Calls Tryz.prog 68 #[v] w fun e w' => ∃ v' ivs avss, e = .returned v' ∧ CB w' w.heap.size v' bs ivs avss ∧ Below w.heap.size w w' := by
  obtain ⟨a, c, rfl, hll⟩ := h.form
  have HI : Hid (∀ i, i < bs.length → _) := fun i hi => h.get (i := i) hi
  have HCP : Hid (∀ i, i < bs.length → ∀ iv W, InsAt W iv (bs.getD i default).ins → Calls Tryz.prog 93 #[.agg (blArr iv (bs.getD i default).tm)] W fun e w' => ∃ iv' avs, e = .returned (.agg (blArr iv' (bs.getD i default).tm)) ∧ CI w' W.heap.size iv' (bs.getD i default).ins avs ∧ Below W.heap.size W w') := fun i hi iv W hW => copyBl_any _ iv W hW (hli _ (getD_memB hi)) (hla _ (getD_memB hi))
  have HTK : Hid (∀ i, i < bs.length → bs.take (i + 1) = bs.take i ++ [bs.getD i default]) := fun i hi => by
    rw [List.take_add_one, List.getElem?_eq_getElem hi, List.getD, List.getElem?_eq_getElem hi]; rfl
  have HTF : Hid (bs.take bs.length = bs) := List.take_length
  have HLT : Hid (∀ i, i ≤ bs.length → (bs.take i).length = i) := fun i hi => by rw [List.length_take]; omega
  have H0 : Hid (CB w w.heap.size (.slice none 0 0) (bs.take 0) [] []) := CB.nil w _
  obtain ⟨i0, hi0, hz0, hz1, hz2⟩ := info_parts infoBl
  clear h hli hla
  generalize bs.length = n at *
  have hl' : (n : Int) ≤ 1000000 := by omega
  go_enter Tryz.func68, Tryz.ntmps68
  go_wp2
  go_loopw [3, 4] (fun vo vi wr => ∃ (i : Nat) (ivs : List Value) (avss : List (List Value)) (oa : Option Addr) (oc : Nat), vi = .int .i64 i ∧ vo = .slice oa i oc ∧ i ≤ n ∧ Hid (Below w.heap.size w wr ∧ CB wr w.heap.size (.slice oa i oc) (bs.take i) ivs avss)) (fun _ vi _ => n - (intOf vi).toNat)
  case atStart => exact ⟨0, [], [], none, 0, rfl, rfl, by omega, Below.refl _ _, H0.out⟩
  case round =>
    obtain ⟨i, ivs, avss, oa, oc, rfl, rfl, hi, hr⟩ := hrel
    clear H0
    generalize wr = wo at *
    have hrl := hr.out.2.row
    rw [HLT.out i hi] at hrl
    by_cases hin : i < n
    · obtain ⟨g, o, iv, rfl, hg, c0, c1, c2, c3, c4, c5, hins⟩ := HI.out i hin
      obtain ⟨xa, xc, rfl, hxl⟩ := hins.form
      have hin' : (i : Int) < n := by omega
      have hcl : ∀ j, wo.cell? ⟨g, j, none⟩ = w.cell? ⟨g, j, none⟩ := fun j => hr.out.1.cell (p := ⟨g, j, none⟩) hg
      rw [← hcl] at c0 c1 c2 c3 c4 c5
      have HC1 : Hid _ := HCP.out i hin (.slice xa (bs.getD i default).ins.length xc) wo (hins.below hr.out.1)
      have HT1 : Hid _ := HTK.out i hin
      have HRR : Hid _ := hr.out
      have HRL : Hid (wo.ownsRow w.heap.size 40 6 (.slice oa i oc) i (blsCells (bs.take i) ivs)) := hrl
      have HLI : Hid ((bs.take i).length = i) := HLT.out i hi
      clear hr hrl HI HCP HTK hins hcl HTF HLT
      generalize bs.getD i default = X at *
      obtain ⟨L, k, ta, t0, t1, tt⟩ := X
      dsimp only at *
      generalize hil : L.length = il at *
      have HIL : Hid (L.length = il) := hil
      clear hil
      have HSZ : Hid (∀ (V : World) (o : Obj), (V.alloc o).heap.size = V.heap.size + 1) := fun V o => by simp
      have HSB : Hid (w.heap.size ≤ wo.heap.size) := HRR.out.1.size
      go_wp2_with (first | (go_at_call 93; go_loud (refine Calls.mono (by exact HC1.out) ?_; rintro e w2 ⟨iv2, avs2, rfl, ho2, hb2⟩; obtain ⟨ya, yc, rfl⟩ : ∃ ya yc, iv2 = .slice ya il yc := (by have h9 := ho2.row; rw [HIL.out] at h9; obtain ⟨ya, yc, hv, _⟩ := own_blk (Nat.le_refl _) h9; exact ⟨ya, yc, hv⟩); have HO2 : Hid _ := ho2; have HB2 : Hid _ := hb2; clear ho2 hb2)) | (at_builtin; go_loud (refine wpList_append_own_at _ rfl _ _ 26 rfl w.heap.size 40 i0 (.agg #[.slice none 0 0, .int .u8 0, .int .i64 0, .int .i64 0, .int .i64 0, .int .u8 0]) 6 64 Tryz.underlying26 hi0 hz0 hz1 hz2 rfl (by decide) _ i (blsCells (bs.take i) ivs) rfl (owns_below (owns_below HRL.out HB2.out) (below_alloc (below_alloc (Below.refl _ _) _) _)) ⟨w2.heap.size + 1, 0, none⟩ 1 1 (blCells ⟨L, k, ta, t0, t1, tt⟩ (.slice ya il yc)) rfl rfl ?c1 ?c2 ?c3 ?c4 ?c5 ?_)))
      case c1 => intro j u hj; rw [Addr.add_lit, Nat.zero_add]; have h9 := (Box.new (w2.alloc (.cells #[.slice ya il yc, .int .u8 k, .int .i64 ta, .int .i64 t0, .int .i64 t1, .int .u8 tt] 40)) (blCells ⟨L, k, ta, t0, t1, tt⟩ (.slice ya il yc)) 40).cell j u hj; rw [HSZ.out] at h9; exact h9
      case c2 => exact bl_cells_one rfl
      case c3 => unfold maxLen; omega
      case c4 => omega
      case c5 => have h9 := HB2.out.size; have h8 := HSB.out; simp; omega
      intro v2 w3 ho hg2 _ hat
      obtain ⟨g2, cc2, rfl, _, _, _, _⟩ := own_form ho
      have HBA : Hid (Below wo.heap.size wo ((w2.alloc (.cells #[.slice ya il yc, .int .u8 k, .int .i64 ta, .int .i64 t0, .int .i64 t1, .int .u8 tt] 40)).alloc (.cells #[.slice ya il yc, .int .u8 k, .int .i64 ta, .int .i64 t0, .int .i64 t1, .int .u8 tt] 40))) := below_trans HB2.out (below_alloc (below_alloc (Below.refl _ _) _) _)
      have HN : Hid (Below w.heap.size w w3 ∧ CB w3 w.heap.size (.slice (some ⟨g2, 0, none⟩) (i + 1) cc2) (bs.take (i + 1)) (ivs ++ [.slice ya il yc]) (avss ++ [avs2])) := by
        refine ⟨below_grown (below_trans HRR.out.1 HBA.out) hg2 (fun q hq => (HRL.out.lt q hq).1), ?_⟩
        rw [HT1.out]
        refine CB.push HRR.out.2 HBA.out (HO2.out.below (below_alloc (below_alloc (Below.refl _ _) _) _)) HSB.out (by rw [HLI.out]; exact ho) hg2 ?_
        rcases hat with e | e
        · exact .inl e
        · exact .inr (by rw [HSZ.out, HSZ.out]; exact e)
      clear ho hg2 hat
      go_wp2
      go_roundw
      case rel => exact ⟨i + 1, _, _, _, _, by first | rfl | (congr 1; omega), rfl, by omega, HN.out.1, HN.out.2⟩
      case measure => simp [intOf]; omega
    · obtain rfl : i = n := by omega
      rw [HTF.out] at hr
      have HRR : Hid _ := hr.out
      clear hr hrl HI HCP HTK
      go_wp2
      go_ret
      exact ⟨_, ivs, avss, rfl, HRR.out.2, HRR.out.1⟩
end Go.Proofs.YtabpnjakfoofpaaGreatDoor
