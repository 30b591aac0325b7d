/- The walk through the last block of the path. -/
import Derived.Test.YtabpnjakfoofpaaGreatDoorGOrd2M
import Derived.Test.YtabpnjakfoofpaaGreatDoorGTrQM
import Derived.Test.YtabpnjakfoofpaaGreatDoorGAhd1M
namespace Go.Proofs.YtabpnjakfoofpaaGreatDoor
open Go.RowKit

def DoesWalk (w0 : World) (n : Nat) (gcs : List Value) (ts : List Tm) (f : Nat) : Prop :=
  ∀ (w : World) (pv lv : Value) (met : List Bool) (path left : List Int) (k deep : Nat), WS w0 n gcs w pv lv met (path ++ [(k : Int)]) left → k < n → met.getD k true = true → cntF met ≤ f → deep + f < 4096 → path.length + left.length + cntF met ≤ 100000 →
    Calls Tryz.prog 31 #[.int .i64 (deep : Int), ptr (w0.heap.size + 3), ptr w0.heap.size, ptr (w0.heap.size + 2), ptr (w0.heap.size + 5), ptr (w0.heap.size + 6), ptr (w0.heap.size + 4)] w fun e w' =>
      e = .returned (.bool true) ∧ ∃ pv' lv', WS w0 n gcs w' pv' lv' (dfs ts f k met left).1 path (dfs ts f k met left).2 ∧ WM w0.heap.size w pv lv w' pv' lv'
theorem tms_getD {bs : List Bl} {k : Nat} (h : k < bs.length) : (tms bs).getD k default = (bs.getD k default).tm := by
  simp [tms, List.getD, List.getElem?_eq_getElem h]
theorem own_last {w : World} {base g c : Nat} {l : List Int} {x : Int} {n : Nat} (hn : n = l.length + 1) (h : OwnI w base (.slice (some ⟨g, 0, none⟩) n c) (l ++ [x])) : w.cell? ⟨g, l.length, none⟩ = some (.int .i64 x) := by
  subst hn
  rw [(own_snoc h).cellAt l.length (by omega)]
  simp
theorem row_wm {B base : Nat} {w w' : World} {p l p' l' v : Value} {L : List Int} (h : OwnI w base v L) (hb : B + 6 < base) (ha : ∀ q, v.ownBlock = some q → p.ownBlock ≠ some q ∧ l.ownBlock ≠ some q) (hm : WM B w p l w' p' l') : OwnI w' base v L ∧ ∀ q, v.ownBlock = some q → p'.ownBlock ≠ some q ∧ l'.ownBlock ≠ some q := by
  refine ⟨owns_same h fun q hq => ?_, fun q hq => hm.off (h.lt q hq).2 (ha q hq).1 (ha q hq).2⟩
  have hl := h.lt q hq
  exact hm.block q hl.2 (by omega) (by omega) (by omega) (ha q hq).1 (ha q hq).2
theorem drop_fold {α : Type} {L : List Int} {i : Nat} (h : i < L.length) (s : α) (F : α → Int → α) : (L.drop i).foldl F s = (L.drop (i + 1)).foldl F (F s (L.getD i 0)) := by
  rw [List.drop_eq_getElem_cons h, List.foldl_cons]
  congr 2
  simp [List.getD, List.getElem?_eq_getElem h]
set_option maxRecDepth 100000 in
set_option maxHeartbeats 2000000 in
theorem walk_step {w0 : World} {gcs : List Value} {bv : Value} {bs : List Bl} (hB : BlsAt w0 bv bs) (h5 : gcs[5]? = some bv) (hn : bs.length ≤ 4000) {f : Nat} (ih : ∀ f', f = f' + 1 → DoesWalk w0 bs.length gcs (tms bs) f') : DoesWalk w0 bs.length gcs (tms bs) f := by
  intro w pv lv met path left k deep h hk hmk hcf hdf hsum
  rw [dfs_eq, tms_getD hk]
  obtain ⟨ba, bc, rfl, _⟩ := hB.form
  obtain ⟨g, o, iv, rfl, hg, c0, c1, c2, c3, c4, c5, _⟩ := hB.get hk
  have hcl : ∀ W, Below w0.heap.size w0 W → ∀ j, W.cell? ⟨g, j, none⟩ = w0.cell? ⟨g, j, none⟩ := fun W hW j => hW.cell (p := ⟨g, j, none⟩) hg
  rw [← hcl w h.bel] at c1 c2 c3 c4 c5
  have HN : Hid (∀ W, _) := fun W => named_any (bs.getD k default).tm W
  have g5 := h.bg.cell 5 _ h5
  have hlen := named_len (bs.getD k default).tm
  obtain ⟨n, hnn⟩ : ∃ n, n = bs.length := ⟨_, rfl⟩
  obtain ⟨ts, hts⟩ : ∃ ts, ts = tms bs := ⟨_, rfl⟩
  have htl : ts.length = n := by rw [hts, hnn]; simp [tms]
  rw [← hnn] at h hk hn g5 ih
  rw [← hts] at ih
  rw [← hnn, ← hts]
  have hmeet : Hid (∀ (W : World) (p' l' : Value) (m : List Bool) (l : List Int) (k' : Nat), WS w0 n gcs W p' l' m (path ++ [(k : Int)]) l → k' < n → Calls Tryz.prog 30 #[.int .i64 (k' : Int), ptr (w0.heap.size + 2), ptr (w0.heap.size + 3)] W fun e w' => e = .returned (.tuple #[]) ∧ ∃ pv', WS w0 n gcs w' pv' l' (m.set k' true) (path ++ [(k : Int)] ++ [(k' : Int)]) l ∧ WM w0.heap.size W p' l' w' pv' l') := fun W p' l' m l k' hw hk' => meet_any hw k' hk' (by simp; omega)
  have HN2 : Hid (∀ W, Calls Tryz.prog 25 #[.agg #[.int .u8 (bs.getD k default).tm.kind, .int .i64 (bs.getD k default).tm.arg, .int .i64 (bs.getD k default).tm.t0, .int .i64 (bs.getD k default).tm.t1, .int .u8 (bs.getD k default).tm.trap]] W fun e w' => ∃ v, e = .returned v ∧ OwnI w' W.heap.size v (namedT (bs.getD k default).tm) ∧ Below W.heap.size W w') := HN.out
  generalize namedT (bs.getD k default).tm = L at *
  generalize (bs.getD k default).tm.kind = t0 at *
  generalize (bs.getD k default).tm.arg = t1 at *
  generalize (bs.getD k default).tm.t0 = t2 at *
  generalize (bs.getD k default).tm.t1 = t3 at *
  generalize (bs.getD k default).tm.trap = t4 at *
  obtain ⟨g1, cc, rfl, hg1, hg1l, hcc, hcm⟩ := own_form (own_snoc h.prow)
  have hlast := own_last rfl h.prow
  have p3 := h.bp.cell 0 _ rfl
  have hkn : (k : Int) < n := by omega
  have HS : Hid _ := h
  have hlts := h.lts
  have HIH : Hid _ := ih
  have HCF : Hid (cntF met ≤ f) := hcf
  have HSUM : Hid (path.length + left.length + cntF met ≤ 100000) := hsum
  have HG1 : Hid (g1 < w.heap.size) := hg1l
  have HLV : Hid (∀ q, lv.ownBlock = some q → q < w.heap.size) := fun q hq => (h.lrow.lt q hq).2
  obtain ⟨R, hR⟩ : ∃ R, R = L.foldl (stepOf ts f) (met, left) := ⟨_, rfl⟩
  rw [← hR]
  have HR : Hid (L.foldl (stepOf ts f) (met, left) = R) := hR.symm
  have HTL : Hid (ts.length = n) := htl
  have hpl : path.length ≤ 100000 := by omega
  have HN4 : Hid (n ≤ 4000) := hn
  clear HN hB h5 hnn hts htl h hR hcl hmk hsum hcf ih hg1 hcc hcm c0 hg1l hn
  generalize hP : path.length = P at *
  have HP : Hid (path.length = P) := hP
  clear hP
  go_enter Tryz.func31, Tryz.ntmps31
  go_wp2_with (go_at_call 25; go_loud (refine Calls.mono (HN2.out _) ?_; rintro e w1 ⟨v, rfl, ho1, hb1⟩; obtain ⟨va, vc, rfl, _⟩ := (OwnI.at' ho1 (by omega)).form; have HO1 : Hid _ := ho1; have HB1 : Hid _ := hb1; clear ho1 hb1))
  have HAS : Hid (OwnI w1 w.heap.size (.slice va L.length vc) L ∧ Below w.heap.size w w1) := ⟨HO1.out, HB1.out⟩
  clear HO1 HB1 c1 c2 c3 c4 c5 HN2 g5 hlast p3
  go_loopw [26] (fun vi wr => ∃ (i : Nat) (p' l' : Value) (m : List Bool) (l : List Int), vi = .int .i64 i ∧ i ≤ L.length ∧ Hid (WS w0 n gcs wr p' l' m (path ++ [(k : Int)]) l ∧ (L.drop i).foldl (stepOf ts f) (m, l) = R ∧ cntF m ≤ f ∧ l.length + cntF m = left.length + cntF met ∧ WM w0.heap.size w (.slice (some ⟨g1, 0, none⟩) (P + 1) cc) lv wr p' l' ∧ OwnI wr w.heap.size (.slice va L.length vc) L ∧ ∀ q, (Value.slice va L.length vc).ownBlock = some q → p'.ownBlock ≠ some q ∧ l'.ownBlock ≠ some q)) (fun vi _ => L.length - (intOf vi).toNat)
  case atStart =>
    refine ⟨0, _, lv, met, left, rfl, by omega, HS.out.below HAS.out.2, by simpa using HR.out, HCF.out, rfl, WM.below HAS.out.2, HAS.out.1, fun q hq => ?_⟩
    have hq1 := (HAS.out.1.lt q hq).1
    have hq2 := HG1.out
    exact ⟨by simp [Value.ownBlock]; omega, fun hc => by have := HLV.out q hc; omega⟩
  case round =>
    obtain ⟨i, p', l', m, l, rfl, hi, hr⟩ := hrel
    clear HAS HS HR
    by_cases hin : i < L.length
    · obtain ⟨gv, ov, rfl, hgv, cv⟩ := (OwnI.at' hr.out.2.2.2.2.2.1 (by omega)).get hin
      have HD : Hid _ := drop_fold hin (m, l) (stepOf ts f)
      have hml := hr.out.1.mlen
      have b2 := hr.out.1.bm.cell 0 _ rfl
      unfold metV at b2
      generalize hto : L.getD i 0 = to at *
      have HPL : Hid (∀ W, Calls Tryz.prog 28 #[.int .i64 to, .int .i64 (n : Int)] W fun e w' => e = .returned (.bool (inB to n)) ∧ w' = W) := fun W => isPlace_any to n W
      have hin' : (i : Int) < L.length := by omega
      by_cases hb : inB to n = true
      · obtain ⟨kt, hkt⟩ : ∃ kt : Nat, to = (kt : Int) := Int.eq_ofNat_of_zero_le (inB_iff.1 hb).1
        subst hkt
        have hktn : kt < n := by have := (inB_iff.1 hb).2; omega
        have hktn' : (kt : Int) < n := by omega
        have m1 := hr.out.1.metAt hktn
        rw [hb] at HPL
        cases hmt : m.getD kt true with
        | true =>
          rw [hmt] at m1
          have hx0 : (L.drop (i + 1)).foldl (stepOf ts f) (m, l) = R := by rw [← hr.out.2.1, HD.out, stepOf_out (.inr (by rw [Int.toNat_natCast]; exact hmt))]
          have HX : Hid _ := hx0
          clear hx0 hmt hto
          go_wp2_with (go_at_call 28; refine Calls.mono (HPL.out _) ?_; rintro e wx ⟨rfl, hwx⟩; subst wx)
          go_roundw
          case rel => exact ⟨i + 1, p', l', m, l, by first | rfl | (congr 1; omega), by omega, hr.out.1, HX.out, hr.out.2.2⟩
          case measure => simp [intOf]; omega
        | false =>
          rw [hmt] at m1
          have hcs := cntF_set hmt
          obtain ⟨f', rfl⟩ : ∃ f', f = f' + 1 := ⟨f - 1, by have := hr.out.2.2.1; omega⟩
          have hst := stepOf_in (ts := ts) (f := f') (l := l) hmt
          have hal := step_all (ts := ts) (f := f' + 1) (m, l) (kt : Int) (by rw [HTL.out]; exact hml) hr.out.2.2.1
          rw [hst] at hal
          have hx0 : (L.drop (i + 1)).foldl (stepOf ts (f' + 1)) ((dfs ts f' kt (m.set kt true) l).1, (dfs ts f' kt (m.set kt true) l).2) = R := by rw [← hr.out.2.1, HD.out, hst]
          have hgs : (m.set kt true).getD kt true = true := by rw [getD_set (by omega)]; simp
          have HWK : Hid (∀ (W : World) (p2 : Value), WS w0 n gcs W p2 l' (m.set kt true) (path ++ [(k : Int)] ++ [(kt : Int)]) l → Calls Tryz.prog 31 #[.int .i64 ((deep : Int) + 1), ptr (w0.heap.size + 3), ptr w0.heap.size, ptr (w0.heap.size + 2), ptr (w0.heap.size + 5), ptr (w0.heap.size + 6), ptr (w0.heap.size + 4)] W fun e w' => e = .returned (.bool true) ∧ ∃ pv' lv', WS w0 n gcs w' pv' lv' (dfs ts f' kt (m.set kt true) l).1 (path ++ [(k : Int)]) (dfs ts f' kt (m.set kt true) l).2 ∧ WM w0.heap.size W p2 l' w' pv' lv') := fun W p2 hw => by
            have hq := HIH.out f' rfl W p2 l' (m.set kt true) (path ++ [(k : Int)]) l kt (deep + 1) hw hktn hgs (by have := hr.out.2.2.1; omega) (by omega) (by have := hr.out.2.2.2.1; have := HSUM.out; have := HP.out; simp; omega)
            rw [show ((deep + 1 : Nat) : Int) = (deep : Int) + 1 from by omega] at hq
            exact hq
          have HME : Hid _ := hmeet.out wr p' l' m l kt hr.out.1 hktn
          have b5 := hr.out.1.bf.cell 0 _ rfl
          unfold meetV at b5
          have HAL : Hid _ := hal
          have HX : Hid _ := hx0
          have hde : (((deep : Nat) : Int) == 4096) = false := beq_false_of_ne (by omega)
          have hdl : (deep : Int) < 4096 := by omega
          generalize dfs ts f' kt (m.set kt true) l = D at *
          clear hal hx0 hst hcs hgs hmt hto hml hb hdf
          go_wp2_with (first
            | (go_at_call 28; refine Calls.mono (HPL.out _) ?_; rintro e wx ⟨rfl, hwx⟩; subst wx)
            | (go_at_call 30; go_loud (refine Calls.mono (by exact HME.out) ?_; rintro e w2 ⟨rfl, p2, hS2, hM2⟩; have q6 := hS2.bk.cell 0 _ rfl; unfold walkV at q6; have HS2 : Hid _ := hS2; have HM2 : Hid _ := hM2; clear hS2 hM2))
            | (go_at_call 31; go_loud (refine Calls.mono (by exact HWK.out _ _ HS2.out) ?_; rintro e w3 ⟨rfl, p3, l3, hS3, hM3⟩; have HS3 : Hid _ := hS3; have HM3 : Hid _ := hM3; clear hS3 hM3)))
          go_roundw
          case rel =>
            have hwm := HM2.out.trans HM3.out
            have hrw := row_wm hr.out.2.2.2.2.2.1 hlts hr.out.2.2.2.2.2.2 hwm
            have ha := HAL.out
            exact ⟨i + 1, p3, l3, D.1, D.2, by first | rfl | (congr 1; omega), by omega, HS3.out, HX.out, by have := hr.out.2.2.1; omega, by have := hr.out.2.2.2.1; omega, hr.out.2.2.2.2.1.trans hwm, hrw.1, hrw.2⟩
          case measure => simp [intOf]; omega
      · have hbf : inB to n = false := by simpa using hb
        rw [hbf] at HPL
        have hx0 : (L.drop (i + 1)).foldl (stepOf ts f) (m, l) = R := by rw [← hr.out.2.1, HD.out, stepOf_out (.inl (by rw [hml]; exact hbf))]
        have HX : Hid _ := hx0
        clear hx0
        go_wp2_with (go_at_call 28; refine Calls.mono (HPL.out _) ?_; rintro e wx ⟨rfl, hwx⟩; subst wx)
        go_roundw
        case rel => exact ⟨i + 1, p', l', m, l, by first | rfl | (congr 1; omega), by omega, hr.out.1, HX.out, hr.out.2.2⟩
        case measure => simp [intOf]; omega
    · obtain rfl : i = L.length := by omega
      have hx0 : (m, l) = R := by have := hr.out.2.1; rw [List.drop_length] at this; exact this
      obtain ⟨g', c', rfl, _, _, hc1, _⟩ := own_form (own_snoc hr.out.1.prow)
      have hpop := WS.popP rfl hr.out.1
      have hsl := slice_cut (g := g') (m := path.length + 1) (c := c') (f := path.length) hc1 (by omega)
      have p3 := hr.out.1.bp.cell 0 _ rfl
      have p3f := hr.out.1.bp.fz 0
      have l4 := hr.out.1.bl.cell 0 _ rfl
      have l4f := hr.out.1.bl.fz 0
      have hlt := hr.out.1.lts
      obtain ⟨i0, hi0, hz0, hz1, hz2⟩ := info_parts infoI
      have HPO : Hid _ := hpop
      have HLL : Hid (l.length ≤ 100000) := by show _ ≤ _; have := hr.out.2.2.2.1; have := HSUM.out; omega
      have HWM : Hid _ := hr.out.2.2.2.2.1
      have HX : Hid _ := hx0
      clear hpop hx0 hr hmeet HIH
      generalize hP : path.length = P' at *
      have hpl' : (P' : Int) ≤ 100000 := by have := HP.out; omega
      clear HP
      go_wp2_with (at_builtin; go_loud (refine wpList_append_own_at _ rfl _ _ 22 rfl (w0.heap.size + 7) 3 i0 (.int .i64 0) 1 8 Tryz.underlying22 hi0 hz0 hz1 hz2 rfl (by decide) _ _ _ rfl (HPO.out.1.lrow.alloc _) ⟨wr.heap.size, 0, none⟩ 1 1 [intV k] rfl rfl ?c1 ?c2 ?c3 ?c4 ?c5 ?_))
      case c1 => have := cell_one_new (wr.setCell ⟨w0.heap.size + 3, 0, none⟩ (.slice (some ⟨g', 0, none⟩) P' c')) (intV k) 3; simpa [World.setCell] using this
      case c2 => intro u hu; simp at hu; subst hu; rfl
      case c3 => have := HLL.out; unfold maxLen; omega
      case c4 => have := HLL.out; omega
      case c5 => simp [World.setCell]; omega
      intro v2 w2 ho hg _ hat
      obtain ⟨g2, cc2, rfl, _, _, _, _⟩ := own_form ho
      obtain ⟨hS, hV, q3, q4⟩ := (HPO.out.1.below (below_alloc (Below.refl _ _) (.cells #[intV k] 3))).pushL ho hg (by simpa [World.setCell] using hat)
      have HS : Hid _ := hS
      have HV : Hid _ := (HWM.out.trans HPO.out.2).trans ((WM.below (below_alloc (Below.refl _ _) (.cells #[intV k] 3))).trans hV)
      clear hS hV ho hg hat
      go_wp2
      go_ret
      exact ⟨rfl, _, _, by rw [← HX.out]; exact HS.out, HV.out⟩
end Go.Proofs.YtabpnjakfoofpaaGreatDoor
