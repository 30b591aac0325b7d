/- Copies in the place of calls: the walk. -/
import Derived.Test.YtajaijilfclhpaaGreatDoorNUncM
namespace Go.Proofs.YtajaijilfclhpaaGreatDoor
open Go.RowKit

theorem uncI_id {x : In} (h : (x.kind == 9) = false) : uncI x = x := by unfold uncI; rw [if_neg (by simpa using h)]
theorem map_uncI_id : ∀ {l : List In}, (l.any fun x => x.kind == 9) = false → l.map uncI = l
 | [], _ => rfl
 | x :: l, h => by
  rw [List.any_cons, Bool.or_eq_false_iff] at h
  rw [List.map_cons, uncI_id h.1, map_uncI_id h.2]
theorem mix_step {α : Type} {l : List α} {f : α → α} {i : Nat} {x : α} (h : l[i]? = some x) : ((l.take i).map f ++ l.drop i).set i (f x) = (l.take (i + 1)).map f ++ l.drop (i + 1) := by
 have hi := (List.getElem?_eq_some_iff.1 h).1
 have e : l[i] = x := (List.getElem?_eq_some_iff.1 h).2
 rw [List.set_append_right _ _ (by simp; omega)]
 have e2 : i - ((l.take i).map f).length = 0 := by simp; omega
 rw [e2, List.drop_eq_getElem_cons hi, List.set_cons_zero, List.take_succ_eq_append_getElem hi, List.map_append, e]
 simp
theorem mix_get {α : Type} {l : List α} {f : α → α} {i : Nat} {x : α} (h : l[i]? = some x) : ((l.take i).map f ++ l.drop i)[i]? = some x := by
 have hi := (List.getElem?_eq_some_iff.1 h).1
 rw [List.getElem?_append_right (by simp; omega)]
 have e2 : i - ((l.take i).map f).length = 0 := by simp; omega
 rw [e2, List.getElem?_drop]
 simpa using h
theorem mix_len {α : Type} (l : List α) (f : α → α) (i : Nat) : ((l.take i).map f ++ l.drop i).length = l.length := by simp; omega
theorem set_same {α : Type} {l : List α} {i : Nat} {x : α} (h : l[i]? = some x) : l.set i x = l := by
 refine List.ext_getElem? fun j => ?_
 rw [List.getElem?_set]
 by_cases e : i = j
 ·subst e; rw [if_pos rfl, if_pos (List.getElem?_eq_some_iff.1 h).1, h]
 ·rw [if_neg e]
theorem own_agr {w W : World} {base g n c : Nat} {e : TypeId} {sz : Nat} {cs : List Value} {S : Nat → Prop} (h : w.ownsRow base e sz (.slice (some ⟨g, 0, none⟩) n c) n cs) (hs : ¬ S g) (ha : Agr S w W) : W.ownsRow base e sz (.slice (some ⟨g, 0, none⟩) n c) n cs :=
 owns_same h fun k hk => by cases hk; exact ha.2 g (h.lt g rfl).2 hs
def SB (B k q : Nat) : Prop := q = B ∨ (k ≤ q ∧ q < k + 2)
theorem ins_new {w : World} {base g c : Nat} {xs : List In} {avs : List Value} {S : Nat → Prop} (h : w.ownsRow base 55 6 (.slice (some ⟨g, 0, none⟩) xs.length c) xs.length (insCells xs avs)) (hl : avs.length = xs.length) (hn : xs.length ≤ 1000000) (hc : xs.length ≤ c) (hg : ¬ S g) (hw : ∀ x ∈ xs, 0 ≤ x.bits ∧ x.bits < 18446744073709551616)
  (ha : ∀ (j : Nat) (x : In) (a : Value), xs[j]? = some x → avs[j]? = some a → IntsS (fun k => S k ∨ k = g) w a x.args) : InsS S w (.slice (some ⟨g, 0, none⟩) xs.length c) xs := fun W hW =>
 ⟨hw, avs, hl, row_of_own (own_agr h (S := S) hg hW) hn hc, fun i x a hx hv => ha i x a hx hv W (hW.mono fun _ => .inl)⟩
theorem uncI_bits (x : In) : (uncI x).bits = x.bits := by unfold uncI; split <;> rfl
set_option maxRecDepth 100000 in
set_option maxHeartbeats 8000000 in
theorem woc_any (G : Gr) (pv vv av bv : Value) (w : World) (hg : GrAt w pv vv av bv G) (hsz : G.blocks.length ≤ 100000 ∧ ∀ b ∈ G.blocks, b.ins.length ≤ 100000) :
  Calls Tryz.prog 54 #[.agg #[.string G.name, pv, .int .u8 G.result, vv, av, bv]] w fun e w' => ∃ bv', e = .returned (.agg #[.string G.name, pv, .int .u8 G.result, vv, av, bv']) ∧ GrAt w' pv vv av bv' (uncG G) ∧ Below w.heap.size w w' := by
 have hB := hg.bs
 have HGR : Hid (GrAt w pv vv av bv G) := hg
 obtain ⟨pa, pc, va, vc, aa, ac, ba0, bc0, rfl, rfl, rfl, hbv, _, _, _, _⟩ := hg.openF
 clear hbv
 obtain ⟨nm, ps, r, vs, ars, bs⟩ := G
 dsimp only at *
 obtain ⟨avs, hal, hrow, hkid⟩ := hB.row
 obtain ⟨ba, bc, rfl, hbl⟩ := hB.form
 have hnb : bs.length ≤ 300000 := by have h9 := hsz.1; omega
 have h1c : ∀ u ∈ blsCells bs avs, u.oneCell' = true := bl_one (slices_one fun i a ha => by
  have hi : i < bs.length := by have := (List.getElem?_eq_some_iff.1 ha).1; omega
  obtain ⟨x, c, e, _⟩ := (hkid i _ a (getD_somL hi) ha).form
  exact ⟨x, _, c, e⟩)
 have HCL : Hid (∀ W, Below w.heap.size w W → Calls Tryz.prog 110 #[.slice ba bs.length bc] W fun e w' => ∃ v', e = .returned v' ∧ w'.ownsRow W.heap.size 63 6 v' bs.length (blsCells bs avs) ∧ Below W.heap.size W w') := fun W hW => cloneB_any (hrow.below hW) (blsCells_len hal) (by omega) h1c
 have HKID : Hid (∀ (i : Nat) (x : Bl) (a : Value), bs[i]? = some x → avs[i]? = some a → InsAt w a x.ins) := hkid
 have HAL : Hid (avs.length = bs.length) := hal
 have HSZ : Hid (∀ b ∈ bs, b.ins.length ≤ 300000) := fun b hb => by
  have h9 := hsz.2 b hb
  omega
 obtain ⟨n, hnn⟩ : ∃ n, n = bs.length := ⟨_, rfl⟩
 have HNB : Hid (bs.length = n) := hnn.symm
 rw [← hnn] at HCL HAL hnb ⊢
 have hnb' : (n : Int) ≤ 300000 := by omega
 have HBX : Hid (Below w.heap.size w ((w.alloc (.cells #[.string nm, .slice pa ps.length pc, .int .u8 r, .slice va vs.length vc, .slice aa ars.length ac, .slice ba n bc] 28)).alloc (.cells #[.string ⟨#[]⟩, .slice none 0 0, .int .u8 0, .slice none 0 0, .slice none 0 0, .slice none 0 0] 28))) := below_alloc (below_alloc (Below.refl _ _) _) _
 have HC0 : Hid (∀ W, Agr (fun k => w.heap.size + 2 ≤ k) ((w.alloc (.cells #[.string nm, .slice pa ps.length pc, .int .u8 r, .slice va vs.length vc, .slice aa ars.length ac, .slice ba n bc] 28)).alloc (.cells #[.string ⟨#[]⟩, .slice none 0 0, .int .u8 0, .slice none 0 0, .slice none 0 0, .slice none 0 0] 28)) W → Box W w.heap.size [.string nm, .slice pa ps.length pc, .int .u8 r, .slice va vs.length vc, .slice aa ars.length ac, .slice ba n bc] ∧ Box W (w.heap.size + 1) [.string ⟨#[]⟩, .slice none 0 0, .int .u8 0, .slice none 0 0, .slice none 0 0, .slice none 0 0] ∧ W.heap[w.heap.size + 1]? = some (.cells #[.string ⟨#[]⟩, .slice none 0 0, .int .u8 0, .slice none 0 0, .slice none 0 0, .slice none 0 0] 28)) := fun W hW => by
  refine ⟨((Box.new w [.string nm, .slice pa ps.length pc, .int .u8 r, .slice va vs.length vc, .slice aa ars.length ac, .slice ba n bc] 28).below (below_alloc (Below.refl _ _) _)).same (hW.2 _ (by simp; omega) (by omega)), ?_⟩
  have h9 := Box.new (w.alloc (.cells #[.string nm, .slice pa ps.length pc, .int .u8 r, .slice va vs.length vc, .slice aa ars.length ac, .slice ba n bc] 28)) [.string ⟨#[]⟩, .slice none 0 0, .int .u8 0, .slice none 0 0, .slice none 0 0, .slice none 0 0] 28
  have e : (w.alloc (.cells #[.string nm, .slice pa ps.length pc, .int .u8 r, .slice va vs.length vc, .slice aa ars.length ac, .slice ba n bc] 28)).heap.size = w.heap.size + 1 := by simp
  rw [e] at h9
  refine ⟨h9.same (hW.2 _ (by simp) (by omega)), (hW.2 _ (by simp) (by omega)).trans ?_⟩
  rw [← e]; exact heap_alloc_new _ _
 clear hg hB hal hrow hkid h1c hsz hbl hnn
 generalize ps.length = pl at *
 generalize vs.length = vl at *
 generalize ars.length = al at *
 go_enter Tryz.func54, Tryz.ntmps54
 go_wp2_with (go_at_call 110; go_loud (refine Calls.mono (by exact HCL.out _ HBX.out) ?_; rintro e w2 ⟨v2, rfl, ho2, hb2⟩; have HO2 : Hid _ := ho2; have HB2 : Hid _ := hb2; obtain ⟨ba2, bc2, hv2, Bg, hBg1, hBg2⟩ : ∃ ba2 bc2, v2 = .slice ba2 n bc2 ∧ ∃ Bg, w.heap.size + 2 ≤ Bg ∧ (n = 0 ∨ (ba2 = some ⟨Bg, 0, none⟩ ∧ n ≤ bc2)) := own_blk (by simp) ho2; subst hv2; clear ho2 hb2 HCL))
 go_loopw [14] (fun vi wr => ∃ (i : Nat) (avs1 : List Value), vi = .int .i64 i ∧ i ≤ n ∧ Hid (Below w.heap.size w wr ∧ Agr (fun k => k = Bg) w2 wr ∧ wr.ownsRow (w.heap.size + 2) 63 6 (.slice ba2 n bc2) n (blsCells ((bs.take i).map uncB ++ bs.drop i) avs1) ∧ avs1.length = n ∧ (∀ (j : Nat) (b : Bl) (a : Value), ((bs.take i).map uncB ++ bs.drop i)[j]? = some b → avs1[j]? = some a → InsS (SB Bg w.heap.size) wr a b.ins) ∧ ∀ j, i ≤ j → avs1[j]? = avs[j]?)) (fun vi _ => n - (intOf vi).toNat)
 case atStart =>
  refine ⟨0, avs, rfl, by omega, below_trans HBX.out HB2.out, Agr.refl _ _, ?_, HAL.out, fun j b a hb ha => ?_, ?_⟩
  ·have h9 : w2.ownsRow (w.heap.size + 2) 63 6 (.slice ba2 n bc2) n (blsCells bs avs) := own_mono HO2.out (by simp)
   show World.ownsRow _ _ _ _ _ _ _
   rw [show (List.map uncB (List.take 0 bs) ++ List.drop 0 bs) = bs from by simp]
   exact h9
  ·simp at hb
   exact InsS.old (HKID.out j b a hb ha) (below_trans HBX.out HB2.out) (fun k hk => by unfold SB at hk; omega)
  ·exact fun _ _ => rfl
 case round =>
  obtain ⟨i, avs1, rfl, hi, hr⟩ := hrel
  clear HO2
  generalize wr = wo at *
  by_cases hin : i < n
  ·have hin' : (i : Int) < n := by omega
   have hil : i < bs.length := by rw [HNB.out]; exact hin
   rcases hBg2 with h0 | ⟨rfl, hbc⟩
   ·omega
   have hbi := getD_somL hil
   have hmix := mix_get (f := uncB) hbi
   have hai : avs1[i]? = some (avs1[i]'(by rw [hr.out.2.2.2.1]; exact hin)) := List.getElem?_eq_getElem _
   generalize avs1[i]'(by rw [hr.out.2.2.2.1]; exact hin) = iv at hai
   have hIS := hr.out.2.2.2.2.1 i _ iv hmix hai
   have hiw := HKID.out i _ iv hbi ((hr.out.2.2.2.2.2 i (Nat.le_refl _)).symm.trans hai)
   obtain ⟨avI, hil1, hrw, hkd⟩ := hiw.row
   have hwf := hiw.wf
   have hlm := HSZ.out (bs.getD i default) (List.mem_of_getElem? hbi)
   have hcell := fun q u (hq : (blCells (bs.getD i default) iv)[q]? = some u) => (hr.out.2.2.1.cellAt (i * 6 + q) (by have := (List.getElem?_eq_some_iff.1 hq).1; simp [blCells] at this; omega)).trans (blsCells_get hmix hai q u hq)
   have c0 := hcell 0 _ rfl
   have c1 := hcell 1 _ rfl
   have c2 := hcell 2 _ rfl
   have c3 := hcell 3 _ rfl
   have c4 := hcell 4 _ rfl
   have c5 := hcell 5 _ rfl
   rw [Nat.add_zero] at c0
   have hfz := hr.out.2.2.1.frozenAt (i * 6)
   have hBl := (hr.out.2.2.1.lt Bg rfl).2
   have hSt := mix_step (f := uncB) hbi
   obtain ⟨xa, xc, rfl, _⟩ := (hIS wo (Agr.refl _ _)).form
   have HIS : Hid _ := hIS
   have HHR : Hid _ := hr.out
   have HMI : Hid _ := And.intro hmix hai
   have HST : Hid _ := hSt
   clear hr hcell hmix hai hIS hSt hbi hil
   generalize bs.getD i default = B at *
   obtain ⟨xs, tm⟩ := B
   obtain ⟨tk, ta, t0, t1, ttr⟩ := tm
   dsimp only at *
   have HLO : Hid (Below w.heap.size w (wo.alloc (.cells #[.slice xa xs.length xc, .int .u8 tk, .int .i64 ta, .int .i64 t0, .int .i64 t1, .int .u8 ttr] 63))) := below_alloc HHR.out.1 _
   have HCF : Hid _ := anyN_any (w := wo.alloc (.cells #[.slice xa xs.length xc, .int .u8 tk, .int .i64 ta, .int .i64 t0, .int .i64 t1, .int .u8 ttr] 63)) (HIS.out _ (Agr.below (below_alloc (Below.refl _ _) _))) (by omega)
   have HKI : Hid ((∀ x ∈ xs, 0 ≤ x.bits ∧ x.bits < 18446744073709551616) ∧ ∀ (i : Nat) (x : In) (a : Value), xs[i]? = some x → avI[i]? = some a → IntsAt w a x.args) := ⟨hwf, hkd⟩
   have h1c : ∀ u ∈ insCells xs avI, u.oneCell' = true := in_one (slices_one fun j a ha => by
    have hj : j < xs.length := by have := (List.getElem?_eq_some_iff.1 ha).1; omega
    obtain ⟨x, c, e, _⟩ := (hkd j _ a (getD_somL hj) ha).form
    exact ⟨x, _, c, e⟩)
   have HCI : Hid (∀ W, Below w.heap.size w W → Calls Tryz.prog 112 #[.slice xa xs.length xc] W fun e w' => ∃ v', e = .returned v' ∧ w'.ownsRow W.heap.size 55 6 v' xs.length (insCells xs avI) ∧ Below W.heap.size W w') := fun W hW => cloneI_any (hrw.below hW) (insCells_len hil1) (by omega) h1c
   have HIL : Hid (avI.length = xs.length ∧ xs.length ≤ 300000) := ⟨hil1, hlm⟩
   have hxb : (xs.length : Int) ≤ 300000 := by omega
   clear hiw hwf hkd hrw h1c hil1 hlm
   cases hany : (xs.any fun x => x.kind == 9) with
   | false =>
    rw [hany] at HCF
    have HNX : Hid ((bs.take (i + 1)).map uncB ++ bs.drop (i + 1) = (bs.take i).map uncB ++ bs.drop i) := by
     show _ = _
     rw [← HST.out]
     have e1 : uncB ⟨xs, ⟨tk, ta, t0, t1, ttr⟩⟩ = ⟨xs, ⟨tk, ta, t0, t1, ttr⟩⟩ := by unfold uncB; dsimp only; rw [map_uncI_id hany]
     rw [e1]
     exact set_same HMI.out.1
    clear hany
    generalize xs.length = xn at *
    go_wp2_with (go_at_call 111; go_loud (refine Calls.mono (by exact HCF.out) ?_; rintro e w3 ⟨rfl, hb3⟩; have HB3 : Hid _ := hb3; clear hb3))
    go_roundw
    case rel =>
     have hbb : Below wo.heap.size wo w3 := below_trans (below_alloc (Below.refl _ _) _) HB3.out
     refine ⟨i + 1, avs1, by first | rfl | (congr 1; omega), by omega, below_trans HHR.out.1 hbb, HHR.out.2.1.trans (Agr.below hbb), ?_, HHR.out.2.2.2.1, fun j b a hb ha => ?_, fun j hj => HHR.out.2.2.2.2.2 j (by omega)⟩
     ·rw [HNX.out]; exact owns_below HHR.out.2.2.1 hbb
     ·rw [HNX.out] at hb; exact (HHR.out.2.2.2.2.1 j b a hb ha).on (Agr.below hbb)
    case measure => simp [intOf]; omega
   | true =>
    rw [hany] at HCF
    have hx0 : 0 < xs.length := by
     cases xs with
     | nil => simp at hany
     | cons x l => simp
    have HX0 : Hid (0 < xs.length) := hx0
    clear hany hx0
    obtain ⟨xn, hxn⟩ : ∃ xn, xn = xs.length := ⟨_, rfl⟩
    have HXN : Hid (xs.length = xn) := hxn.symm
    rw [← hxn] at HCF HCI HIL HX0 HLO c0 hxb
    clear hxn
    go_wp2_with (first
     | (go_at_call 111; go_loud (refine Calls.mono (by exact HCF.out) ?_; rintro e w3 ⟨rfl, hb3⟩; have f0 := (hb3.cell (p := ⟨wo.heap.size, 0, none⟩) (by simp)).trans ((Box.new wo [.slice xa xn xc, .int .u8 tk, .int .i64 ta, .int .i64 t0, .int .i64 t1, .int .u8 ttr] 63).cell 0 _ rfl); have HB3 : Hid _ := hb3; clear hb3))
     | (go_at_call 112; go_loud (refine Calls.mono (by exact HCI.out _ (below_trans HLO.out HB3.out)) ?_; rintro e w4 ⟨v4, rfl, ho4, hb4⟩; have HO4 : Hid _ := ho4; have HB4 : Hid _ := hb4; obtain ⟨ia2, ic2, hv4, Ig, hIg1, hIg2⟩ : ∃ ia2 ic2, v4 = .slice ia2 xn ic2 ∧ ∃ Ig, w3.heap.size ≤ Ig ∧ (xn = 0 ∨ (ia2 = some ⟨Ig, 0, none⟩ ∧ xn ≤ ic2)) := own_blk (Nat.le_refl _) ho4; subst hv4; clear ho4 hb4)))
    rcases hIg2 with h0 | ⟨rfl, hic⟩
    ·have := HX0.out; omega
    have hIB : Bg < Ig := by
     have h1 := HB3.out.size
     simp at h1
     omega
    have HIB : Hid (Bg < Ig ∧ w.heap.size + 2 ≤ Bg ∧ w3.heap.size ≤ Ig ∧ xn ≤ ic2) := ⟨hIB, hBg1, hIg1, hic⟩
    have HLW : Hid (Below w.heap.size w w4) := below_trans (below_trans HLO.out HB3.out) HB4.out
    clear hIB hIg1 hic
    go_loopw [28] (fun vk wq => ∃ (k : Nat) (avs2 : List Value), vk = .int .i64 k ∧ k ≤ xn ∧ Hid (Below w.heap.size w wq ∧ Agr (fun q => q = Ig) w4 wq ∧ wq.ownsRow w3.heap.size 55 6 (.slice (some ⟨Ig, 0, none⟩) xn ic2) xn (insCells ((xs.take k).map uncI ++ xs.drop k) avs2) ∧ avs2.length = xn ∧ (∀ (j : Nat) (x : In) (a : Value), ((xs.take k).map uncI ++ xs.drop k)[j]? = some x → avs2[j]? = some a → IntsS (fun q => SB Bg w.heap.size q ∨ q = Ig) wq a x.args) ∧ ∀ j, k ≤ j → avs2[j]? = avI[j]?)) (fun vk _ => xn - (intOf vk).toNat)
    case atStart =>
     refine ⟨0, avI, rfl, by omega, HLW.out, Agr.refl _ _, ?_, HIL.out.1, fun j x a hx ha => ?_, fun _ _ => rfl⟩
     ·rw [show (List.map uncI (List.take 0 xs) ++ List.drop 0 xs) = xs from by simp]
      exact HO4.out
     ·simp at hx
      exact IntsS.old (HKI.out.2 j x a hx ha) HLW.out (fun q hq => by have := HIB.out; have h3 := below_trans HLO.out HB3.out; have := h3.size; unfold SB at hq; omega)
    case round =>
     obtain ⟨k, avs2, rfl, hk, hq⟩ := hrel
     clear HO4
     by_cases hkn : k < xn
     ·have hkn' : (k : Int) < xn := by omega
      have hkl : k < xs.length := by rw [HXN.out]; exact hkn
      have hxk := getD_somL hkl
      have hmx := mix_get (f := uncI) hxk
      have hak : avs2[k]? = some (avs2[k]'(by rw [hq.out.2.2.2.1]; exact hkn)) := List.getElem?_eq_getElem _
      generalize avs2[k]'(by rw [hq.out.2.2.2.1]; exact hkn) = xv at hak
      have hxw := HKI.out.2 k _ xv hxk ((hq.out.2.2.2.2.2 k (Nat.le_refl _)).symm.trans hak)
      obtain ⟨xxa, xxc, rfl, _⟩ := hxw.form
      have hcq := fun q u (hu : (inCells (xs.getD k default) (.slice xxa (xs.getD k default).args.length xxc))[q]? = some u) => (hq.out.2.2.1.cellAt (k * 6 + q) (by have := (List.getElem?_eq_some_iff.1 hu).1; simp [inCells] at this; omega)).trans (insCells_get hmx hak q u hu)
      have d0 := hcq 0 _ rfl
      have d1 := hcq 1 _ rfl
      have d2 := hcq 2 _ rfl
      have d3 := hcq 3 _ rfl
      have d4 := hcq 4 _ rfl
      have d5 := hcq 5 _ rfl
      rw [Nat.add_zero] at d0
      have hfzI := hq.out.2.2.1.frozenAt
      have hIl := (hq.out.2.2.1.lt Ig rfl).2
      have hStI := mix_step (f := uncI) hxk
      have HQ : Hid _ := hq.out
      have HMX : Hid _ := And.intro hmx hak
      have HSI : Hid _ := hStI
      have HUE : Hid (uncI (xs.getD k default) = if (xs.getD k default).kind = 9 then ⟨3, (xs.getD k default).op, (xs.getD k default).dst, [(xs.getD k default).dst], (xs.getD k default).bits, 0⟩ else xs.getD k default) := rfl
      have HIC : Hid (∀ W, Calls Tryz.prog 108 #[.agg #[.int .u8 (xs.getD k default).kind, .int .u8 (xs.getD k default).op, .int .i64 (xs.getD k default).dst, .slice xxa (xs.getD k default).args.length xxc, .int .u64 (xs.getD k default).bits, .int .i64 (xs.getD k default).ref]] W fun e w' => e = .returned (.bool ((xs.getD k default).kind == 9)) ∧ Below W.heap.size W w') := fun W => isCall_any (xs.getD k default) (.slice xxa (xs.getD k default).args.length xxc) W
      clear hq hcq hmx hak hxw hStI hxk hkl
      generalize xs.getD k default = x at *
      obtain ⟨xk, xo, xd, xargs, xb, xr⟩ := x
      dsimp only at *
      generalize xargs.length = xal at *
      by_cases hk9 : xk = 9
      ·subst hk9
       rw [if_pos rfl] at HUE
       go_wp2_with (go_at_call 108; go_loud (refine Calls.mono (by exact HIC.out _) ?_; rintro e w5 ⟨rfl, hb5⟩; have hbx := (Box.new wr [.int .u8 9, .int .u8 xo, .int .i64 xd, .slice xxa xal xxc, .int .u64 xb, .int .i64 xr] 55).below hb5; have e1 := hbx.cell 1 _ rfl; have e2 := hbx.cell 2 _ rfl; have e4 := hbx.cell 4 _ rfl; have hbl := hbx.lt; have HB5 : Hid _ := below_trans (below_alloc (Below.refl wr.heap.size wr) (.cells #[.int .u8 9, .int .u8 xo, .int .i64 xd, .slice xxa xal xxc, .int .u64 xb, .int .i64 xr] 55)) hb5; have ho5 := owns_below HQ.out.2.2.1 HB5.out; have hI5 := (ho5.lt Ig rfl).2; have g0 := fun j => (ho5.frozenAt j); have m0 := (HB5.out.cell (p := ⟨Ig, k * 6, none⟩) hIl).trans d0; have m1 := (HB5.out.cell (p := ⟨Ig, k * 6 + 1, none⟩) hIl).trans d1; have m2 := (HB5.out.cell (p := ⟨Ig, k * 6 + 2, none⟩) hIl).trans d2; have m3 := (HB5.out.cell (p := ⟨Ig, k * 6 + 3, none⟩) hIl).trans d3; have m4 := (HB5.out.cell (p := ⟨Ig, k * 6 + 4, none⟩) hIl).trans d4; have m5 := (HB5.out.cell (p := ⟨Ig, k * 6 + 5, none⟩) hIl).trans d5; have HO5 : Hid _ := ho5; clear hb5 hbx ho5))
       go_roundw
       case rel =>
        have hIw : w.heap.size ≤ Ig := by have := HIB.out; omega
        have hb6 : Below w.heap.size w w5 := below_trans HQ.out.1 HB5.out
        have hB6 := ((((((hb6.setCell (p := ⟨Ig, k * 6, none⟩) hIw (.int .u8 3)).setCell (p := ⟨Ig, k * 6 + 1, none⟩) hIw (.int .u8 xo)).setCell (p := ⟨Ig, k * 6 + 2, none⟩) hIw (.int .i64 xd)).setCell (p := ⟨Ig, k * 6 + 3, none⟩) hIw (.slice (some ⟨w5.heap.size, 0, none⟩) 1 1)).setCell (p := ⟨Ig, k * 6 + 4, none⟩) hIw (.int .u64 xb)).setCell (p := ⟨Ig, k * 6 + 5, none⟩) hIw (.int .i64 0))
        have hO6 := own_six (i := k) HO5.out (.int .u8 3) (.int .u8 xo) (.int .i64 xd) (.slice (some ⟨w5.heap.size, 0, none⟩) 1 1) (.int .u64 xb) (.int .i64 0)
        have hA6 : ∀ S : Nat → Prop, S Ig → Agr S w5 ((((((w5.setCell ⟨Ig, k * 6, none⟩ (.int .u8 3)).setCell ⟨Ig, k * 6 + 1, none⟩ (.int .u8 xo)).setCell ⟨Ig, k * 6 + 2, none⟩ (.int .i64 xd)).setCell ⟨Ig, k * 6 + 3, none⟩ (.slice (some ⟨w5.heap.size, 0, none⟩) 1 1)).setCell ⟨Ig, k * 6 + 4, none⟩ (.int .u64 xb)).setCell ⟨Ig, k * 6 + 5, none⟩ (.int .i64 0)) := fun S hS => ((((((Agr.set hS _ _).trans (Agr.set hS _ _)).trans (Agr.set hS _ _)).trans (Agr.set hS _ _)).trans (Agr.set hS _ _)).trans (Agr.set hS _ _))
        have hsz6 : ((((((w5.setCell ⟨Ig, k * 6, none⟩ (.int .u8 3)).setCell ⟨Ig, k * 6 + 1, none⟩ (.int .u8 xo)).setCell ⟨Ig, k * 6 + 2, none⟩ (.int .i64 xd)).setCell ⟨Ig, k * 6 + 3, none⟩ (.slice (some ⟨w5.heap.size, 0, none⟩) 1 1)).setCell ⟨Ig, k * 6 + 4, none⟩ (.int .u64 xb)).setCell ⟨Ig, k * 6 + 5, none⟩ (.int .i64 0)).heap.size = w5.heap.size := by simp [World.setCell]
        have hcs := insCells_set (y := ⟨3, xo, xd, [xd], xb, 0⟩) (b := .slice (some ⟨w5.heap.size, 0, none⟩) 1 1) HMX.out.1 HMX.out.2
        rw [← HUE.out, HSI.out] at hcs
        generalize ((((((w5.setCell ⟨Ig, k * 6, none⟩ (.int .u8 3)).setCell ⟨Ig, k * 6 + 1, none⟩ (.int .u8 xo)).setCell ⟨Ig, k * 6 + 2, none⟩ (.int .i64 xd)).setCell ⟨Ig, k * 6 + 3, none⟩ (.slice (some ⟨w5.heap.size, 0, none⟩) 1 1)).setCell ⟨Ig, k * 6 + 4, none⟩ (.int .u64 xb)).setCell ⟨Ig, k * 6 + 5, none⟩ (.int .i64 0)) = w6 at *
        have hab : Below w6.heap.size w6 (w6.alloc (.cells #[.int .i64 xd] 3)) := below_alloc (Below.refl _ _) _
        refine ⟨k + 1, avs2.set k (.slice (some ⟨w5.heap.size, 0, none⟩) 1 1), by first | rfl | (congr 1; omega), by omega, below_alloc hB6 _, ((HQ.out.2.1.trans (Agr.below HB5.out)).trans (hA6 _ rfl)).trans (Agr.below hab), ?_, by simpa using HQ.out.2.2.2.1, fun j x a hx ha => ?_, fun j hj => ?_⟩
        ·rw [← hcs]
         refine owns_below ?_ hab
         rw [HUE.out]
         exact hO6
        ·rw [← HSI.out, List.getElem?_set] at hx
         rw [List.getElem?_set] at ha
         by_cases e : k = j
         ·subst e
          rw [if_pos rfl, if_pos (by rw [mix_len, HXN.out]; exact hkn)] at hx
          rw [if_pos rfl, if_pos (by rw [HQ.out.2.2.2.1]; exact hkn)] at ha
          cases hx; cases ha
          intro W hW
          rw [HUE.out]
          have hbx := Box.new w6 [.int .i64 xd] 3
          have hlt := HIB.out
          have hI6 := hI5
          have hbW := hbx.same (w' := W) (hW.2 w6.heap.size (by simp) (by rw [hsz6]; unfold SB; omega))
          rw [hsz6] at hbW
          exact ⟨_, _, rfl, ⟨Nat.le_refl _, by simp⟩, .inr ⟨w5.heap.size, 0, rfl, hbW.lt, fun j u hu => by rw [Nat.zero_add]; exact hbW.cell j u hu⟩⟩
         ·rw [if_neg e] at hx ha
          exact (HQ.out.2.2.2.2.1 j x a hx ha).on (((Agr.below HB5.out).trans (hA6 _ (.inr rfl))).trans (Agr.below hab))
        ·rw [List.getElem?_set, if_neg (by omega)]
         exact HQ.out.2.2.2.2.2 j (by omega)
       case measure => simp [intOf]; omega
      ·have hk9' : (xk == 9) = false := beq_false_of_ne hk9
       rw [hk9'] at HIC
       rw [if_neg hk9] at HUE
       have HNX : Hid ((xs.take (k + 1)).map uncI ++ xs.drop (k + 1) = (xs.take k).map uncI ++ xs.drop k) := by
        show _ = _
        rw [← HSI.out, HUE.out]
        exact set_same HMX.out.1
       clear hk9
       go_wp2_with (go_at_call 108; go_loud (refine Calls.mono (by exact HIC.out _) ?_; rintro e w5 ⟨rfl, hb5⟩; have HB5 : Hid _ := hb5; clear hb5))
       go_roundw
       case rel =>
        have hbb : Below wr.heap.size wr w5 := below_trans (below_alloc (Below.refl _ _) _) HB5.out
        refine ⟨k + 1, avs2, by first | rfl | (congr 1; omega), by omega, below_trans HQ.out.1 hbb, HQ.out.2.1.trans (Agr.below hbb), ?_, HQ.out.2.2.2.1, fun j x a hx ha => ?_, fun j hj => HQ.out.2.2.2.2.2 j (by omega)⟩
        ·rw [HNX.out]; exact owns_below HQ.out.2.2.1 hbb
        ·rw [HNX.out] at hx; exact (HQ.out.2.2.2.2.1 j x a hx ha).on (Agr.below hbb)
       case measure => simp [intOf]; omega
     ·obtain rfl : k = xn := by omega
      have hbw : Below wo.heap.size wo w4 := below_trans (below_trans (below_alloc (Below.refl _ _) _) HB3.out) HB4.out
      have hAw : Agr (fun q => q = Ig) wo wr := (Agr.below hbw).trans hq.out.2.1
      have hOB := own_agr HHR.out.2.2.1 (S := fun q => q = Ig) (by have := HIB.out; omega) hAw
      have n0 := (hOB.cellAt (i * 6) (by omega)).trans (by have := blsCells_get HMI.out.1 HMI.out.2 0 _ rfl; exact this)
      have nf := hOB.frozenAt (i * 6)
      have hBl2 := (hOB.lt Bg rfl).2
      have hfin : (xs.take k).map uncI ++ xs.drop k = xs.map uncI := by rw [← HXN.out, List.take_length, List.drop_length, List.append_nil]
      have hIN : InsS (SB Bg w.heap.size) wr (.slice (some ⟨Ig, 0, none⟩) k ic2) (xs.map uncI) := by
       have h9 := hq.out.2.2.1
       have h8 := hq.out.2.2.2.2.1
       rw [hfin] at h9 h8
       have hlx : (xs.map uncI).length = k := by rw [List.length_map]; exact HXN.out
       rw [← hlx] at h9 ⊢
       refine ins_new h9 (by rw [hq.out.2.2.2.1, hlx]) (by rw [hlx]; omega) (by rw [hlx]; exact HIB.out.2.2.2) (by have := HIB.out; have h3 := below_trans HLO.out HB3.out; have := h3.size; unfold SB; omega) (fun x hx => ?_) h8
       obtain ⟨x0, hx0, rfl⟩ := List.mem_map.1 hx
       rw [uncI_bits]
       exact HKI.out.1 x0 hx0
      have HREL : Hid (Below w.heap.size w (wr.setCell ⟨Bg, i * 6, none⟩ (.slice (some ⟨Ig, 0, none⟩) k ic2)) ∧ Agr (fun k => k = Bg) w2 (wr.setCell ⟨Bg, i * 6, none⟩ (.slice (some ⟨Ig, 0, none⟩) k ic2)) ∧ (wr.setCell ⟨Bg, i * 6, none⟩ (.slice (some ⟨Ig, 0, none⟩) k ic2)).ownsRow (w.heap.size + 2) 63 6 (.slice (some ⟨Bg, 0, none⟩) n bc2) n (blsCells ((bs.take (i + 1)).map uncB ++ bs.drop (i + 1)) (avs1.set i (.slice (some ⟨Ig, 0, none⟩) k ic2))) ∧ (avs1.set i (.slice (some ⟨Ig, 0, none⟩) k ic2)).length = n ∧ (∀ (j : Nat) (b : Bl) (a : Value), ((bs.take (i + 1)).map uncB ++ bs.drop (i + 1))[j]? = some b → (avs1.set i (.slice (some ⟨Ig, 0, none⟩) k ic2))[j]? = some a → InsS (SB Bg w.heap.size) (wr.setCell ⟨Bg, i * 6, none⟩ (.slice (some ⟨Ig, 0, none⟩) k ic2)) a b.ins) ∧ ∀ j, i + 1 ≤ j → (avs1.set i (.slice (some ⟨Ig, 0, none⟩) k ic2))[j]? = avs[j]?) := by
       have hset : Agr (fun k => k = Bg) wr (wr.setCell ⟨Bg, i * 6, none⟩ (.slice (some ⟨Ig, 0, none⟩) k ic2)) := Agr.set (S := fun k => k = Bg) rfl _ _
       have hAB : Agr (fun q => q = Bg) wo wr := ⟨hAw.1, fun q hq1 hq2 => hAw.2 q hq1 (by have := HIB.out.2.2.1; intro e; subst e; have h9 := (below_trans (below_alloc (Below.refl wo.heap.size wo) _) HB3.out).size; omega)⟩
       have hcs := blsCells_set (y := uncB ⟨xs, ⟨tk, ta, t0, t1, ttr⟩⟩) (b := .slice (some ⟨Ig, 0, none⟩) k ic2) HMI.out.1 HMI.out.2 rfl
       rw [HST.out] at hcs
       refine ⟨hq.out.1.setCell (p := ⟨Bg, i * 6, none⟩) (by have := HIB.out; show w.heap.size ≤ Bg; omega) _, (HHR.out.2.1.trans hAB).trans hset, ?_, by simpa using HHR.out.2.2.2.1, fun j b a hb ha => ?_, fun j hj => ?_⟩
       ·rw [← hcs]; exact (hOB.stored (i * 6) _).1
       ·rw [← HST.out, List.getElem?_set] at hb
        rw [List.getElem?_set] at ha
        by_cases e : i = j
        ·subst e
         rw [if_pos rfl, if_pos (by rw [mix_len, HNB.out]; exact hin)] at hb
         rw [if_pos rfl, if_pos (by rw [HHR.out.2.2.2.1]; exact hin)] at ha
         cases hb; cases ha
         exact hIN.on (hset.mono fun _ => .inl)
        ·rw [if_neg e] at hb ha
         exact (HHR.out.2.2.2.2.1 j b a hb ha).on ((hAB.trans hset).mono fun _ => .inl)
       ·rw [List.getElem?_set, if_neg (by omega)]
        exact HHR.out.2.2.2.2.2 j (by omega)
      clear hbw hAw hOB hfin hIN hq
      go_wp2
      go_roundw
      case rel => exact ⟨i + 1, _, by first | rfl | (congr 1; omega), by omega, HREL.out.1, HREL.out.2.1, HREL.out.2.2.1, HREL.out.2.2.2.1, HREL.out.2.2.2.2.1, HREL.out.2.2.2.2.2⟩
      case measure => simp [intOf]; omega
  ·obtain rfl : i = n := by omega
   have hfin : (bs.take i).map uncB ++ bs.drop i = bs.map uncB := by rw [← HNB.out, List.take_length, List.drop_length, List.append_nil]
   obtain ⟨hbx0, hbx1, hbh⟩ := HC0.out wo ((Agr.below HB2.out).trans (hr.out.2.1.mono fun q hq => by show w.heap.size + 2 ≤ q; omega))
   have e0 := hbx0.cell 0 _ rfl
   have e1 := hbx0.cell 1 _ rfl
   have e2 := hbx0.cell 2 _ rfl
   have e3 := hbx0.cell 3 _ rfl
   have e4 := hbx0.cell 4 _ rfl
   have e5 := hbx0.cell 5 _ rfl
   have ef := hbx0.fz 5
   have g0 := hbx1.cell 0 _ rfl
   have g1 := hbx1.cell 1 _ rfl
   have g2 := hbx1.cell 2 _ rfl
   have g3 := hbx1.cell 3 _ rfl
   have g4 := hbx1.cell 4 _ rfl
   have g5 := hbx1.cell 5 _ rfl
   have gf := hbx1.fz
   have HBH : Hid _ := hbh
   have HFN : Hid _ := hfin
   have HHR : Hid _ := hr.out
   clear hbh hfin hr hbx0 hbx1
   go_wp2
   have hp1 : Agr (SB Bg w.heap.size) wo _ := ((((((Agr.set (w := wo) (.inr ⟨Nat.le_refl _, by omega⟩ : SB Bg w.heap.size w.heap.size) 5 (.slice ba2 i bc2)).trans (Agr.set (.inr ⟨by omega, by omega⟩ : SB Bg w.heap.size (w.heap.size + 1)) 0 (.string nm))).trans (Agr.set (.inr ⟨by omega, by omega⟩ : SB Bg w.heap.size (w.heap.size + 1)) 1 (.slice pa pl pc))).trans (Agr.set (.inr ⟨by omega, by omega⟩ : SB Bg w.heap.size (w.heap.size + 1)) 2 (.int .u8 r))).trans (Agr.set (.inr ⟨by omega, by omega⟩ : SB Bg w.heap.size (w.heap.size + 1)) 3 (.slice va vl vc))).trans (Agr.set (.inr ⟨by omega, by omega⟩ : SB Bg w.heap.size (w.heap.size + 1)) 4 (.slice aa al ac))).trans (Agr.set (.inr ⟨by omega, by omega⟩ : SB Bg w.heap.size (w.heap.size + 1)) 5 (.slice ba2 i bc2))
   have hp2 : Agr (fun q => q = w.heap.size ∨ q = w.heap.size + 1) wo _ := ((((((Agr.set (w := wo) (S := fun q => q = w.heap.size ∨ q = w.heap.size + 1) (.inl rfl) 5 (.slice ba2 i bc2)).trans (Agr.set (.inr rfl) 0 (.string nm))).trans (Agr.set (.inr rfl) 1 (.slice pa pl pc))).trans (Agr.set (.inr rfl) 2 (.int .u8 r))).trans (Agr.set (.inr rfl) 3 (.slice va vl vc))).trans (Agr.set (.inr rfl) 4 (.slice aa al ac))).trans (Agr.set (.inr rfl) 5 (.slice ba2 i bc2))
   have hb9 : Below w.heap.size w _ := (((((((HHR.out.1.setCell (p := ⟨w.heap.size, 5, none⟩) (Nat.le_refl _) (.slice ba2 i bc2)).setCell (p := ⟨w.heap.size + 1, 0, none⟩) (by show _ ≤ w.heap.size + 1; omega) (.string nm)).setCell (p := ⟨w.heap.size + 1, 1, none⟩) (by show _ ≤ w.heap.size + 1; omega) (.slice pa pl pc)).setCell (p := ⟨w.heap.size + 1, 2, none⟩) (by show _ ≤ w.heap.size + 1; omega) (.int .u8 r)).setCell (p := ⟨w.heap.size + 1, 3, none⟩) (by show _ ≤ w.heap.size + 1; omega) (.slice va vl vc)).setCell (p := ⟨w.heap.size + 1, 4, none⟩) (by show _ ≤ w.heap.size + 1; omega) (.slice aa al ac)).setCell (p := ⟨w.heap.size + 1, 5, none⟩) (by show _ ≤ w.heap.size + 1; omega) (.slice ba2 i bc2))
   have hobj := hsc (i := 5) (hsc (i := 4) (hsc (i := 3) (hsc (i := 2) (hsc (i := 1) (hsc (i := 0) ((Below.heap_setCell wo ⟨w.heap.size, 5, none⟩ (.slice ba2 i bc2) (w.heap.size + 1) (by show w.heap.size + 1 ≠ w.heap.size; omega)).trans HBH.out) (.string nm)) (.slice pa pl pc)) (.int .u8 r)) (.slice va vl vc)) (.slice aa al ac)) (.slice ba2 i bc2)
   refine bodyPost_ret (results_cell_row rfl _ _ (w.heap.size + 1) 28 #[.string nm, .slice pa pl pc, .int .u8 r, .slice va vl vc, .slice aa al ac, .slice ba2 i bc2] _ _ rfl hobj Tryz.underlying28 rfl (by rfl)) rfl ⟨_, rfl, ⟨HGR.out.ps.below hb9, HGR.out.vs.below hb9, HGR.out.ars.below hb9, ?_⟩, hb9⟩
   have hlb : (bs.map uncB).length = i := by rw [List.length_map]; exact HNB.out
   have h9 := HHR.out.2.2.1
   have h8 := HHR.out.2.2.2.2.1
   rw [HFN.out] at h9 h8
   refine ⟨avs1, HHR.out.2.2.2.1.trans hlb.symm, ?_, fun j b a hb ha => h8 j b a hb ha _ hp1⟩
   show RowAt _ _ (bs.map uncB).length _
   rw [hlb]
   rcases hBg2 with rfl | ⟨rfl, hbc⟩
   ·refine ⟨_, _, rfl, ⟨Nat.zero_le _, by omega⟩, .inl rfl⟩

   ·exact row_of_own (own_agr h9 (by omega) hp2) (by omega) hbc
end Go.Proofs.YtajaijilfclhpaaGreatDoor
