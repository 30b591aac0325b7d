/- A right program whose first graphs are trimmed is right. Plain. -/
import Derived.Test.YtabpnjakfoofpaaGreatDoorGTr9
import Derived.Test.YtabpnjakfoofpaaGreatDoorGWd2M
import Derived.Test.YtabpnjakfoofpaaGreatDoorGEqX
import Derived.Test.YtabpnjakfoofpaaGreatDoorGQ0M
import Derived.Test.YtabpnjakfoofpaaGreatDoorGChk4
import Derived.Test.YtabpnjakfoofpaaGreatDoorLOrd
namespace Go.Proofs.YtabpnjakfoofpaaGreatDoor

theorem checkF_kinds (p : List Gr) : ∀ (l : List Gr) (i : Nat), (checkF p l i).1 = 0 ∨ (checkF p l i).1 = 4
  | [], _ => .inl rfl
  | G :: l, i => by
    unfold checkF
    split
    · exact checkF_kinds p l (i + 1)
    · exact .inr rfl
theorem check_kinds (p : List Gr) : (checkT p).1 = 0 ∨ (checkT p).1 = 3 ∨ (checkT p).1 = 4 := by
  unfold checkT
  split
  · exact .inr (.inl rfl)
  · rcases checkF_kinds p p 0 with h | h
    · exact .inl h
    · exact .inr (.inr h)
theorem checkF_all (p : List Gr) : ∀ (l : List Gr) (i : Nat), (checkF p l i).1 = 0 ↔ ∀ G ∈ l, graphB p G = true
  | [], _ => by simp [checkF]
  | G :: l, i => by
    unfold checkF
    by_cases h : graphB p G = true
    · rw [if_pos h, checkF_all p l (i + 1)]
      simp [h]
    · rw [if_neg h]
      simp [h]
theorem checkF_zero (p : List Gr) : ∀ (l : List Gr) (i : Nat), (∀ G ∈ l, graphB p G = true) → checkF p l i = (0, 0)
  | [], _, _ => rfl
  | G :: l, i, h => by
    unfold checkF
    rw [if_pos (h G (by simp))]
    exact checkF_zero p l (i + 1) fun G' hG => h G' (by simp [hG])
theorem check_ok {p : List Gr} (h : (checkT p).1 = 0) : p.length ≤ 64 ∧ ∀ G ∈ p, graphB p G = true := by
  unfold checkT at h
  split at h
  · exact absurd h (by decide)
  · exact ⟨by omega, (checkF_all p p 0).1 h⟩
theorem check_of {p : List Gr} (h1 : p.length ≤ 64) (h2 : ∀ G ∈ p, graphB p G = true) : checkT p = (0, 0) := by
  unfold checkT
  rw [if_neg (by omega)]
  exact checkF_zero p p 0 h2
theorem okG_args {G : Gr} (h : OkG G) : ∀ b ∈ G.blocks, ∀ x ∈ b.ins, x.args.length ≤ 140737488355328 := fun b hb x hx => Nat.le_trans ((h.2.2.2.2 b hb).2 x hx) (by omega)
theorem okG_trim {G : Gr} (h : OkG G) : OkG (trimG G) := by
  obtain ⟨h1, h2, h3, h4, h5⟩ := h
  have hol := order_len (order_ok (tms G.blocks))
  have htl : (tms G.blocks).length = G.blocks.length := by simp [tms]
  refine ⟨by show (trimBs G.blocks).length ≤ 400; rw [trim_len]; omega, h2, h3, h4, fun b hb => ?_⟩
  obtain ⟨i, a, _, _, _, hm, rfl⟩ := trim_at hb
  obtain ⟨q1, q2⟩ := h5 _ hm
  unfold trimB
  refine ⟨by rw [List.length_map]; exact q1, fun x hx => ?_⟩
  obtain ⟨y, hy, rfl⟩ := List.mem_map.1 hx
  unfold trimI
  split
  · exact Nat.le_trans kept_le (Nat.le_trans stay_le (by omega))
  · exact q2 y hy
/-- the first ones trimmed -/
def mixT (p : List Gr) (i : Nat) : List Gr := (p.take i).map trimG ++ p.drop i
theorem mixT_len (p : List Gr) (i : Nat) : (mixT p i).length = p.length := by unfold mixT; simp; omega
theorem mixT_zero (p : List Gr) : mixT p 0 = p := by unfold mixT; simp
theorem mixT_get {p : List Gr} {i j : Nat} (hj : j < p.length) : (mixT p i)[j]? = some (if j < i then trimG (p.getD j default) else p.getD j default) := by
  have e : p[j]? = some (p.getD j default) := getD_somL hj
  unfold mixT
  by_cases h : j < i
  · rw [if_pos h, List.getElem?_append_left (by simp; omega), List.getElem?_map, List.getElem?_take_of_lt h, e]; rfl
  · rw [if_neg h, List.getElem?_append_right (by simp; omega), List.length_map, List.length_take, List.getElem?_drop, Nat.min_eq_left (by omega), show i + (j - i) = j by omega, e]
theorem mixT_set {p : List Gr} {i : Nat} (hi : i < p.length) : (mixT p i).set i (trimG (p.getD i default)) = mixT p (i + 1) := by
  apply List.ext_getElem?
  intro j
  rcases Nat.lt_or_ge j p.length with hj | hj
  · rw [List.getElem?_set, mixT_get hj, mixT_get hj, mixT_len]
    by_cases e : i = j
    · subst e
      rw [if_pos rfl, if_pos hi, if_pos (by omega)]
    · rw [if_neg e]
      by_cases h : j < i
      · rw [if_pos h, if_pos (by omega)]
      · rw [if_neg h, if_neg (by omega)]
  · rw [List.getElem?_eq_none (by rw [List.length_set, mixT_len]; exact hj), List.getElem?_eq_none (by rw [mixT_len]; exact hj)]
theorem mixT_mem {p : List Gr} {i : Nat} {G : Gr} (h : G ∈ mixT p i) : ∃ H ∈ p, G = H ∨ G = trimG H := by
  unfold mixT at h
  rcases List.mem_append.1 h with h | h
  · obtain ⟨H, hH, rfl⟩ := List.mem_map.1 h
    exact ⟨H, List.mem_of_mem_take hH, .inr rfl⟩
  · exact ⟨G, List.mem_of_mem_drop h, .inl rfl⟩
theorem mixT_sig (p : List Gr) (i : Nat) : SigSame p (mixT p i) := by
  refine ⟨(mixT_len p i).symm, fun j => ?_⟩
  rcases Nat.lt_or_ge j p.length with hj | hj
  · have h := mixT_get (i := i) hj
    rw [List.getD_eq_getElem?_getD (l := mixT p i), h]
    by_cases hc : j < i
    · rw [if_pos hc]; exact ⟨rfl, rfl, rfl⟩
    · rw [if_neg hc]; exact ⟨rfl, rfl, rfl⟩
  · rw [List.getD_eq_getElem?_getD, List.getD_eq_getElem?_getD, List.getElem?_eq_none hj, List.getElem?_eq_none (by rw [mixT_len]; exact hj)]
    exact ⟨rfl, rfl, rfl⟩
theorem mixT_ok {p : List Gr} {i : Nat} (h : ∀ G ∈ p, OkG G) : ∀ G ∈ mixT p i, OkG G := fun G hG => by
  obtain ⟨H, hH, rfl | rfl⟩ := mixT_mem hG
  · exact h _ hH
  · exact okG_trim (h _ hH)
theorem mixT_right {p : List Gr} (hk : ∀ G ∈ p, OkG G) (h : (checkT p).1 = 0) (i : Nat) : checkT (mixT p i) = (0, 0) := by
  obtain ⟨h1, h2⟩ := check_ok h
  refine check_of (by rw [mixT_len]; exact h1) fun G hG => ?_
  rw [graph_same (okG_args (mixT_ok hk G hG)), ← right_sig (mixT_sig p i)]
  obtain ⟨H, hH, rfl | rfl⟩ := mixT_mem hG
  · rw [← graph_same (okG_args (hk _ hH))]; exact h2 _ hH
  · refine right_trim ?_
    rw [← graph_same (okG_args (hk _ hH))]; exact h2 _ hH
theorem right_phis {p : List Gr} {G : Gr} (hk : OkG G) (h : graphB p G = true) : phisR G = true ∧ 1 ≤ G.blocks.length := by
  rw [graph_same (okG_args hk)] at h
  unfold rightR aloneG headR at h
  simp only [Bool.and_eq_true, decide_eq_true_eq] at h
  exact ⟨h.1.2.2, h.1.1.1⟩
theorem order_k (G : Gr) : (orderT (tms (trimG G).blocks)).length = (trimG G).blocks.length ∧ (orderT (tms G.blocks)).length = (trimG G).blocks.length ∧ ∀ j, j < (trimG G).blocks.length → (orderT (tms (trimG G).blocks)).getD j 0 = (j : Int) := by
  have e : orderT (tms (trimBs G.blocks)) = (List.range (trimBs G.blocks).length).map fun i => ((i : Nat) : Int) := order_again G.blocks
  refine ⟨?_, (trim_len G.blocks).symm, fun j hj => ?_⟩
  · show (orderT (tms (trimBs G.blocks))).length = (trimBs G.blocks).length
    rw [e]; simp
  · have hj : j < (trimBs G.blocks).length := hj
    show (orderT (tms (trimBs G.blocks))).getD j 0 = (j : Int)
    rw [e, List.getD_eq_getElem?_getD, List.getElem?_map, List.getElem?_range hj]; rfl
end Go.Proofs.YtabpnjakfoofpaaGreatDoor
/- Programs copied. -/
namespace Go.Proofs.YtabpnjakfoofpaaGreatDoor
open Go.RowKit

theorem infoGr : (Tryz.prog.info? 28).map (fun i => (i.zero, i.size, i.bytes)) = some (some (.agg #[.string ⟨#[]⟩, .slice none 0 0, .int .u8 0, .slice none 0 0, .slice none 0 0, .slice none 0 0]), 6, 120) := by kernel_rfl
theorem gr_cells_one (x : Gr) {a b c d : Value} (ha : a.oneCell' = true) (hb : b.oneCell' = true) (hc : c.oneCell' = true) (hd : d.oneCell' = true) : ∀ u ∈ grL x a b c d, u.oneCell' = true := fun u hu => by
  unfold grL at hu
  simp only [List.mem_cons, List.not_mem_nil, or_false] at hu
  rcases hu with rfl | rfl | rfl | rfl | rfl | rfl
  · rfl
  · exact ha
  · rfl
  · exact hb
  · exact hc
  · exact hd
theorem getD_memG {L : List Gr} {i : Nat} (h : i < L.length) : L.getD i default ∈ L := by
  have e : L.getD i default = L[i] := by simp [List.getD, List.getElem?_eq_getElem h]
  rw [e]; exact List.getElem_mem h
theorem gr_bits {w : World} {pv vv av bv : Value} {G : Gr} (h : GrAt w pv vv av bv G) : ∀ b ∈ G.blocks, ∀ x ∈ b.ins, 0 ≤ x.bits ∧ x.bits < 18446744073709551616 := fun b hb x hx => by
  obtain ⟨q, hq, hqe⟩ := List.mem_iff_getElem.1 hb
  obtain ⟨a, c, e, _⟩ := h.bs.form
  subst e
  obtain ⟨_, _, _, _, _, _, _, _, _, _, _, hins⟩ := h.bs.get (i := q) hq
  have e9 : G.blocks.getD q default = b := by rw [List.getD_eq_getElem?_getD, List.getElem?_eq_getElem hq, Option.getD_some, hqe]
  rw [e9] at hins
  exact hins.wf x hx
theorem copyG_new (G : Gr) (pv vv av bv : Value) (w : World) (h : GrAt w pv vv av bv G) (hk : OkG G) :
    Calls Tryz.prog 46 #[.agg #[.string G.name, pv, .int .u8 G.result, vv, av, bv]] w fun e w' => ∃ pv' vv' av' bv', e = .returned (.agg #[.string G.name, pv', .int .u8 G.result, vv', av', bv']) ∧ GN w w' pv' vv' av' bv' G ∧ Below w.heap.size w w' := by
  obtain ⟨h1, h2, h3, h4, h5⟩ := hk
  refine (copyG_any G pv vv av bv w h (by omega) (by omega) (by omega) (by omega) (fun b hb => Nat.le_trans (h5 b hb).1 (by omega)) (fun b hb x hx => Nat.le_trans ((h5 b hb).2 x hx) (by omega))).mono ?_
  rintro e w' ⟨p', v', a', b', B, ivs, avss, rfl, hc, hb⟩
  exact ⟨p', v', a', b', rfl, hc.new (by omega) (by omega) (by omega) (by omega) (fun b hb => Nat.le_trans (h5 b hb).1 (by omega)) (fun b hb x hx => Nat.le_trans ((h5 b hb).2 x hx) (by omega)) (gr_bits h), hb⟩
set_option maxRecDepth 100000 in
set_option maxHeartbeats 4000000 in
theorem copyGs_any (l : List Gr) (v : Value) (w : World) (h : GrsAt w v l) (hl : l.length ≤ 1000) (hok : ∀ G ∈ l, OkG G) :
    Calls Tryz.prog 22 #[v] w fun e w' => ∃ v' qs, e = .returned v' ∧ QG w' w.heap.size v' l qs ∧ Below w.heap.size w w' := by
  obtain ⟨a, c, rfl, hll⟩ := h.form
  have HI : Hid (∀ i, i < l.length → _) := fun i hi => h.get (i := i) hi
  have HCP : Hid (∀ i, i < l.length → ∀ x1 x2 x3 x4 W, GrAt W x1 x2 x3 x4 (l.getD i default) → Calls Tryz.prog 46 #[.agg #[.string (l.getD i default).name, x1, .int .u8 (l.getD i default).result, x2, x3, x4]] W fun e w' => ∃ pv' vv' av' bv', e = .returned (.agg #[.string (l.getD i default).name, pv', .int .u8 (l.getD i default).result, vv', av', bv']) ∧ GN W w' pv' vv' av' bv' (l.getD i default) ∧ Below W.heap.size W w') := fun i hi x1 x2 x3 x4 W hW => copyG_new _ _ _ _ _ W hW (hok _ (getD_memG hi))
  have HTK : Hid (∀ i, i < l.length → l.take (i + 1) = l.take i ++ [l.getD i default]) := fun i hi => by
    rw [List.take_add_one, List.getElem?_eq_getElem hi, List.getD, List.getElem?_eq_getElem hi]; rfl
  have HTF : Hid (l.take l.length = l) := List.take_length
  have HLT : Hid (∀ i, i ≤ l.length → (l.take i).length = i) := fun i hi => by rw [List.length_take]; omega
  have H0 : Hid (QG w w.heap.size (.slice none 0 0) (l.take 0) []) := QG.nil w _
  obtain ⟨i0, hi0, hz0, hz1, hz2⟩ := info_parts infoGr
  clear h hok
  generalize l.length = n at *
  have hl' : (n : Int) ≤ 1000 := by omega
  go_enter Tryz.func22, Tryz.ntmps22
  go_wp2
  go_loopw [3, 4] (fun vo vi wr => ∃ (i : Nat) (qs : List GV) (oa : Option Addr) (oc : Nat), vi = .int .i64 i ∧ vo = .slice oa i oc ∧ i ≤ n ∧ Hid (Below w.heap.size w wr ∧ QG wr w.heap.size (.slice oa i oc) (l.take i) qs)) (fun _ vi _ => n - (intOf vi).toNat)
  case atStart => exact ⟨0, [], none, 0, rfl, rfl, by omega, Below.refl _ _, H0.out⟩
  case round =>
    obtain ⟨i, qs, oa, oc, rfl, rfl, hi, hr⟩ := hrel
    clear H0
    generalize wr = wo at *
    have hrl := hr.out.2.row
    rw [HLT.out i hi] at hrl
    by_cases hin : i < n
    · obtain ⟨g, o, x1, x2, x3, x4, rfl, hg, c0, c1, c2, c3, c4, c5, hG⟩ := HI.out i hin
      have hin' : (i : Int) < n := by omega
      have hcl : ∀ j, wo.cell? ⟨g, j, none⟩ = w.cell? ⟨g, j, none⟩ := fun j => hr.out.1.cell (p := ⟨g, j, none⟩) hg
      rw [← hcl] at c0 c1 c2 c3 c4 c5
      have HC1 : Hid _ := HCP.out i hin x1 x2 x3 x4 wo (hG.below hr.out.1)
      have HT1 : Hid _ := HTK.out i hin
      have HRR : Hid _ := hr.out
      have HRL : Hid (wo.ownsRow w.heap.size 28 6 (.slice oa i oc) i (grsCells (l.take i) qs)) := hrl
      have HLI : Hid ((l.take i).length = i) := HLT.out i hi
      obtain ⟨pa, pc, va, vc, aa, ac, ba, bc, rfl, rfl, rfl, rfl, _, _, _, _⟩ := hG.openF
      clear hr hrl HI HCP HTK hG hcl HTF HLT
      generalize l.getD i default = X at *
      obtain ⟨nm, ps, r, vs, ars, bs⟩ := X
      dsimp only at *
      generalize ps.length = pl at *
      generalize vs.length = vl at *
      generalize ars.length = al at *
      generalize bs.length = bl at *
      have HSZ : Hid (∀ (V : World) (o : Obj), (V.alloc o).heap.size = V.heap.size + 1) := fun V o => by simp
      have HSB : Hid (w.heap.size ≤ wo.heap.size) := HRR.out.1.size
      go_wp2_with (first | (go_at_call 46; go_loud (refine Calls.mono (by exact HC1.out) ?_; rintro e w2 ⟨y1, y2, y3, y4, rfl, ho2, hb2⟩; obtain ⟨za, zc, zb, zd, ze, zf, zg, zh, rfl, rfl, rfl, rfl, _, _, _, _⟩ := (ho2 w2 (fun _ _ _ => rfl)).openF; have HO2 : Hid (GN _ _ _ _ _ _ _) := ho2; have HB2 : Hid _ := hb2; clear ho2 hb2)) | (at_builtin; go_loud (refine wpList_append_own_at _ rfl _ _ 48 rfl w.heap.size 28 i0 (.agg #[.string ⟨#[]⟩, .slice none 0 0, .int .u8 0, .slice none 0 0, .slice none 0 0, .slice none 0 0]) 6 120 Tryz.underlying48 hi0 hz0 hz1 hz2 rfl (by decide) _ i (grsCells (l.take i) qs) rfl (owns_below (owns_below HRL.out HB2.out) (below_alloc (below_alloc (Below.refl _ _) _) _)) ⟨w2.heap.size + 1, 0, none⟩ 1 1 (grL ⟨nm, ps, r, vs, ars, bs⟩ (.slice za ps.length zc) (.slice zb vs.length zd) (.slice ze ars.length zf) (.slice zg bs.length zh)) rfl rfl ?c1 ?c2 ?c3 ?c4 ?c5 ?_)))
      case c1 => intro j u hj; rw [Addr.add_lit, Nat.zero_add]; have h9 := (Box.new (w2.alloc (.cells #[.string nm, .slice za ps.length zc, .int .u8 r, .slice zb vs.length zd, .slice ze ars.length zf, .slice zg bs.length zh] 28)) (grL ⟨nm, ps, r, vs, ars, bs⟩ (.slice za ps.length zc) (.slice zb vs.length zd) (.slice ze ars.length zf) (.slice zg bs.length zh)) 28).cell j u hj; rw [HSZ.out] at h9; exact h9
      case c2 => exact gr_cells_one _ rfl rfl rfl rfl
      case c3 => unfold maxLen; omega
      case c4 => omega
      case c5 => have h9 := HB2.out.size; have h8 := HSB.out; simp; omega
      intro v2 w3 ho hg2 _ hat
      obtain ⟨g2, cc2, rfl, _, _, _, _⟩ := own_form ho
      have HBA : Hid (Below wo.heap.size wo ((w2.alloc (.cells #[.string nm, .slice za ps.length zc, .int .u8 r, .slice zb vs.length zd, .slice ze ars.length zf, .slice zg bs.length zh] 28)).alloc (.cells #[.string nm, .slice za ps.length zc, .int .u8 r, .slice zb vs.length zd, .slice ze ars.length zf, .slice zg bs.length zh] 28))) := below_trans HB2.out (below_alloc (below_alloc (Below.refl _ _) _) _)
      have HN : Hid (Below w.heap.size w w3 ∧ QG w3 w.heap.size (.slice (some ⟨g2, 0, none⟩) (i + 1) cc2) (l.take (i + 1)) (qs ++ [(.slice za ps.length zc, .slice zb vs.length zd, .slice ze ars.length zf, .slice zg bs.length zh)])) := by
        refine ⟨below_grown (below_trans HRR.out.1 HBA.out) hg2 (fun q hq => (HRL.out.lt q hq).1), ?_⟩
        rw [HT1.out]
        refine QG.push HRR.out.2 HBA.out (fun W hW => HO2.out W fun k k1 k2 => (hW k k1 (by rw [HSZ.out, HSZ.out]; omega)).trans ((below_alloc (below_alloc (Below.refl w2.heap.size w2) (.cells #[.string nm, .slice za ps.length zc, .int .u8 r, .slice zb vs.length zd, .slice ze ars.length zf, .slice zg bs.length zh] 28)) (.cells #[.string nm, .slice za ps.length zc, .int .u8 r, .slice zb vs.length zd, .slice ze ars.length zf, .slice zg bs.length zh] 28)).block k k2)) (by rw [HLI.out]; exact ho) hg2 ?_
        rcases hat with e | e
        · exact .inl e
        · exact .inr (by rw [HSZ.out, HSZ.out]; exact e)
      clear ho hg2 hat
      go_wp2
      go_roundw
      case rel => exact ⟨i + 1, _, _, _, by first | rfl | (congr 1; omega), rfl, by omega, HN.out.1, HN.out.2⟩
      case measure => simp [intOf]; omega
    · obtain rfl : i = n := by omega
      rw [HTF.out] at hr
      have HRR : Hid _ := hr.out
      clear hr hrl HI HCP HTK
      go_wp2
      go_ret
      exact ⟨_, qs, rfl, HRR.out.2, HRR.out.1⟩
end Go.Proofs.YtabpnjakfoofpaaGreatDoor
/- Graphs that are alike are called the same. -/
namespace Go.Proofs.YtabpnjakfoofpaaGreatDoor
open Go.RowKit

theorem sameI_yes (l : List Int) (v1 v2 : Value) (w : World) (h1 : IntsAt w v1 l) (h2 : IntsAt w v2 l) : Calls Tryz.prog 7 #[v1, v2] w fun e w' => e = .returned (.bool true) ∧ ∃ k, w' = w.drewN k := by
  have h := sameI_any l l v1 v2 w h1 h2
  rw [decide_eq_true rfl] at h
  exact h
theorem row_form {w : World} {v : Value} {n : Nat} {cs : List Value} (h : RowAt w v n cs) : ∃ a c, v = .slice a n c ∧ n ≤ 140737488355328 := by
  obtain ⟨a, c, hv, hn, _⟩ := h
  exact ⟨a, c, hv, hn.2⟩
theorem neq_arr (a b : Int) (w : World) : (binOp .neq 79 (.agg #[.int .u8 a, .int .i64 b]) (.agg #[.int .u8 a, .int .i64 b])).run Tryz.prog w = .ok (.bool false) w := by
  have hS : Tryz.prog.underlying 79 = some (.struct (Tryz.prog.fieldsOf 79)) := by kernel_rfl
  have hp : Tryz.prog.stoodInHeld 79 = false := by kernel_rfl
  rw [run_neq_struct, show (10000 : Nat) = 9999 + 1 from rfl, run_equalIn_agg w 9999 79 _ _ hS hp]
  simp only [Program.fieldsOf, Tryz.underlying79]
  go_simp
set_option maxRecDepth 100000 in
set_option maxHeartbeats 1000000 in
theorem sameT_yes (l : List Int) (v1 v2 : Value) (w : World) (h1 : TysAt w v1 l) (h2 : TysAt w v2 l) : Calls Tryz.prog 34 #[v1, v2] w fun e w' => e = .returned (.bool true) ∧ ∃ k, w' = w.drewN k := by
  obtain ⟨a1, c1, rfl, _⟩ := row_form h1
  obtain ⟨a2, c2, rfl, _⟩ := row_form h2
  have H1 : Hid (∀ i, i < l.length → _) := fun i hi => h1.get (i := i) hi
  have H2 : Hid (∀ i, i < l.length → _) := fun i hi => h2.get (i := i) hi
  clear h1 h2
  generalize l.length = n at *
  go_enter Tryz.func34, Tryz.ntmps34
  go_wp2
  go_loopw [5] (fun vi wr => ∃ i : Nat, vi = .int .i64 i ∧ i ≤ n ∧ Hid (∃ k, wr = w.drewN k)) (fun vi _ => n - (intOf vi).toNat)
  case atStart => exact ⟨0, rfl, by omega, 0, rfl⟩
  case round =>
    obtain ⟨i, rfl, hi, hr⟩ := hrel
    obtain ⟨q, hq⟩ := hr.out
    have HQ : Hid (wr = w.drewN q) := hq
    clear hq hr
    by_cases hin : i < n
    · obtain ⟨g1, o1, rfl, _, k0⟩ := H1.out i hin
      obtain ⟨g2, o2, rfl, _, j0⟩ := H2.out i hin
      have k0' := k0
      rw [show w.cell? ⟨g1, o1 + i, none⟩ = wr.cell? ⟨g1, o1 + i, none⟩ from by rw [HQ.out]; rfl] at k0'
      have j0' := j0
      rw [show w.cell? ⟨g2, o2 + i, none⟩ = wr.cell? ⟨g2, o2 + i, none⟩ from by rw [HQ.out]; rfl] at j0'
      have hin' : (i : Int) < n := by omega
      clear H1 H2
      go_wp2
      go_quiet (fail)
      go_wp2
      go_roundw
      case rel => exact ⟨i + 1, by first | rfl | (congr 1; omega), by omega, _, by rw [HQ.out]; exact drewN_add _ _ _⟩
      case measure => simp [intOf]; omega
    · obtain rfl : i = n := by omega
      clear H1 H2
      go_wp2
      go_ret
      exact ⟨rfl, q, HQ.out⟩
set_option maxRecDepth 100000 in
set_option maxHeartbeats 1000000 in
theorem sameA_yes (l : List (Int × Int)) (v1 v2 : Value) (w : World) (h1 : ArrsAt w v1 l) (h2 : ArrsAt w v2 l) : Calls Tryz.prog 35 #[v1, v2] w fun e w' => e = .returned (.bool true) ∧ ∃ k, w' = w.drewN k := by
  obtain ⟨a1, c1, rfl, _⟩ := row_form h1
  obtain ⟨a2, c2, rfl, _⟩ := row_form h2
  have H1 : Hid (∀ i, i < l.length → _) := fun i hi => h1.get (i := i) hi
  have H2 : Hid (∀ i, i < l.length → _) := fun i hi => h2.get (i := i) hi
  clear h1 h2
  generalize l.length = n at *
  have hne := neq_arr
  go_enter Tryz.func35, Tryz.ntmps35
  go_wp2
  go_loopw [5] (fun vi wr => ∃ i : Nat, vi = .int .i64 i ∧ i ≤ n ∧ Hid (∃ k, wr = w.drewN k)) (fun vi _ => n - (intOf vi).toNat)
  case atStart => exact ⟨0, rfl, by omega, 0, rfl⟩
  case round =>
    obtain ⟨i, rfl, hi, hr⟩ := hrel
    obtain ⟨q, hq⟩ := hr.out
    have HQ : Hid (wr = w.drewN q) := hq
    clear hq hr
    by_cases hin : i < n
    · obtain ⟨g1, o1, rfl, _, k0, k1⟩ := H1.out i hin
      obtain ⟨g2, o2, rfl, _, j0, j1⟩ := H2.out i hin
      have k0' := k0
      rw [show w.cell? ⟨g1, o1 + i * 2, none⟩ = wr.cell? ⟨g1, o1 + i * 2, none⟩ from by rw [HQ.out]; rfl] at k0'
      have k1' := k1
      rw [show w.cell? ⟨g1, o1 + i * 2 + 1, none⟩ = wr.cell? ⟨g1, o1 + i * 2 + 1, none⟩ from by rw [HQ.out]; rfl] at k1'
      have j0' := j0
      rw [show w.cell? ⟨g2, o2 + i * 2, none⟩ = wr.cell? ⟨g2, o2 + i * 2, none⟩ from by rw [HQ.out]; rfl] at j0'
      have j1' := j1
      rw [show w.cell? ⟨g2, o2 + i * 2 + 1, none⟩ = wr.cell? ⟨g2, o2 + i * 2 + 1, none⟩ from by rw [HQ.out]; rfl] at j1'
      have hin' : (i : Int) < n := by omega
      clear H1 H2
      go_wp2
      go_quiet (fail)
      go_wp2
      go_roundw
      case rel => exact ⟨i + 1, by first | rfl | (congr 1; omega), by omega, _, by rw [HQ.out]; exact drewN_add _ _ _⟩
      case measure => simp [intOf]; omega
    · obtain rfl : i = n := by omega
      clear H1 H2
      go_wp2
      go_ret
      exact ⟨rfl, q, HQ.out⟩
end Go.Proofs.YtabpnjakfoofpaaGreatDoor
/- A region whose reads come first and that ends in a call and one step more. -/
namespace Go.Proofs.YtabpnjakfoofpaaGreatDoor
open Go.RowKit

theorem wp_region_last2 {P : Program} {id : Nat} {Q : Exit → Act → World → Prop} {a : Act} {w : World} {L : List Oper} (m : Nat) (o o1 : Oper) (ho : L.toArray[m]? = some o) (ho1 : L.toArray[m + 1]? = some o1) (hg : o.guard = none) (hg1 : o1.guard = none) (hm : P.follows .mixedOrders = true) (hB : Region.lexB .any (L.take m).toArray = true) (hml : decide (L.length = m + 2) = true) (hp : preB .any L.toArray m (Array.replicate L.length false) = true)
    (hr : Region.ready .any L.toArray (listed1 L.length m) = [m]) (hr1 : Region.ready .any L.toArray ((listed1 L.length m).setIfInBounds m true) = [m + 1]) (hr2 : Region.ready .any L.toArray (((listed1 L.length m).setIfInBounds m true).setIfInBounds (m + 1) true) = [])
    (h : wpQuiet P (L.take m).toArray (fun w' => ∃ n, w' = w.drewN n) (fun a' => ∀ w', (∃ n, w' = w.drewN n) → ∀ K : Act → World → Prop, (∀ a w, o1.wp P a w (Q .normal) Q → K a w) → o.wp P a' w' K Q) (L.take m) a) : (Code.region id L.toArray true).wp P Q a w := by
  have hml' : L.length = m + 2 := by simpa using hml
  refine wp_region_pre m hm hB (by simp; omega) hp ?_
  have e : L.length - m = 2 := by omega
  have hF : ∀ (a' : Act), (∀ w', (∃ n, w' = w.drewN n) → ∀ K : Act → World → Prop, (∀ a w, o1.wp P a w (Q .normal) Q → K a w) → o.wp P a' w' K Q) → ∀ w', (∃ n, w' = w.drewN n) → wpAny P .any L.toArray Q (L.length - m) (listed1 L.length m) a' w' := fun a' ha w' hw => by
    rw [e]
    refine ⟨fun h0 => (by rw [hr] at h0; cases h0), fun i hi => ?_⟩
    rw [hr] at hi
    have : i = m := by simpa using hi
    subst this
    unfold wpOp
    simp only [ho]
    rw [if_pos (by simp [Region.wanted, hg])]
    refine .inl (ha w' hw _ fun a w hq => ?_)
    refine ⟨fun h0 => (by rw [hr1] at h0; cases h0), fun j hj => ?_⟩
    rw [hr1] at hj
    have : j = i + 1 := by simpa using hj
    subst this
    unfold wpOp
    simp only [ho1]
    rw [if_pos (by simp [Region.wanted, hg1])]
    exact .inl (Oper.wp_mono (fun a w hq => ⟨hr2, hq⟩) hq)
  have mono : ∀ (l : List Oper) (a : Act) (Q1 Q2 : Act → Prop), (∀ a, Q1 a → Q2 a) → wpQuiet P (L.take m).toArray (fun w' => ∃ n, w' = w.drewN n) Q1 l a → wpQuiet P (L.take m).toArray (fun w' => ∃ n, w' = w.drewN n) Q2 l a := by
    intro l
    induction l with
    | nil => intro a Q1 Q2 h12 h; exact h12 _ h
    | cons o l ih =>
      intro a Q1 Q2 h12 h
      unfold wpQuiet at h ⊢
      split
      · rename_i hw
        rw [if_pos hw] at h
        exact Oper.quiet_mono (fun a h => ih a Q1 Q2 h12 h) h
      · rename_i hw
        rw [if_neg hw] at h
        exact ih _ Q1 Q2 h12 h
  exact mono _ _ _ _ hF h
end Go.Proofs.YtabpnjakfoofpaaGreatDoor
