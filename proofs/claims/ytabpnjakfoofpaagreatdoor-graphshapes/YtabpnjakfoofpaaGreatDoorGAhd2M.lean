/- The walk through the last block of the path. -/
import Derived.Test.YtabpnjakfoofpaaGreatDoorGDfs2M
import Derived.Test.YtabpnjakfoofpaaGreatDoorGAhd1M
namespace Go.Proofs.YtabpnjakfoofpaaGreatDoor
open Go.RowKit

def DoesWalk (w0 : World) (n : Nat) (gcs : List Value) (ts : List Tm) (f : Nat) : Prop :=
  ∀ (w : World) (pv lv : Value) (met : List Bool) (path left : List Int) (k deep : Nat), WS w0 n gcs w pv lv met (path ++ [(k : Int)]) left → k < n → met.getD k true = true → cntF met ≤ f → deep + f < 4096 → path.length + left.length + cntF met ≤ 100000 →
    Calls Tryz.prog 31 #[.int .i64 (deep : Int), ptr (w0.heap.size + 3), ptr w0.heap.size, ptr (w0.heap.size + 2), ptr (w0.heap.size + 5), ptr (w0.heap.size + 6), ptr (w0.heap.size + 4)] w fun e w' =>
      e = .returned (.bool true) ∧ ∃ pv' lv', WS w0 n gcs w' pv' lv' (dfs ts f k met left).1 path (dfs ts f k met left).2 ∧ WM w0.heap.size w pv lv w' pv' lv'
theorem tms_getD {bs : List Bl} {k : Nat} (h : k < bs.length) : (tms bs).getD k default = (bs.getD k default).tm := by
  simp [tms, List.getD, List.getElem?_eq_getElem h]
theorem own_last {w : World} {base g c : Nat} {l : List Int} {x : Int} {n : Nat} (hn : n = l.length + 1) (h : OwnI w base (.slice (some ⟨g, 0, none⟩) n c) (l ++ [x])) : w.cell? ⟨g, l.length, none⟩ = some (.int .i64 x) := by
  subst hn
  rw [(own_snoc h).cellAt l.length (by omega)]
  simp
theorem row_wm {B base : Nat} {w w' : World} {p l p' l' v : Value} {L : List Int} (h : OwnI w base v L) (hb : B + 6 < base) (ha : ∀ q, v.ownBlock = some q → p.ownBlock ≠ some q ∧ l.ownBlock ≠ some q) (hm : WM B w p l w' p' l') : OwnI w' base v L ∧ ∀ q, v.ownBlock = some q → p'.ownBlock ≠ some q ∧ l'.ownBlock ≠ some q := by
  refine ⟨owns_same h fun q hq => ?_, fun q hq => hm.off (h.lt q hq).2 (ha q hq).1 (ha q hq).2⟩
  have hl := h.lt q hq
  exact hm.block q hl.2 (by omega) (by omega) (by omega) (ha q hq).1 (ha q hq).2
theorem drop_fold {α : Type} {L : List Int} {i : Nat} (h : i < L.length) (s : α) (F : α → Int → α) : (L.drop i).foldl F s = (L.drop (i + 1)).foldl F (F s (L.getD i 0)) := by
  rw [List.drop_eq_getElem_cons h, List.foldl_cons]
  congr 2
  simp [List.getD, List.getElem?_eq_getElem h]
set_option maxRecDepth 100000 in
set_option maxHeartbeats 2000000 in
theorem walk_step {w0 : World} {gcs : List Value} {bv : Value} {bs : List Bl} (hB : BlsAt w0 bv bs) (h5 : gcs[5]? = some bv) (hn : bs.length ≤ 4000) {f : Nat} (ih : ∀ f', f = f' + 1 → DoesWalk w0 bs.length gcs (tms bs) f') : DoesWalk w0 bs.length gcs (tms bs) f := by
  intro w pv lv met path left k deep h hk hmk hcf hdf hsum
  rw [dfs_eq, tms_getD hk]
  obtain ⟨ba, bc, rfl, _⟩ := hB.form
  obtain ⟨g, o, iv, rfl, hg, c0, c1, c2, c3, c4, c5, _⟩ := hB.get hk
  have hcl : ∀ W, Below w0.heap.size w0 W → ∀ j, W.cell? ⟨g, j, none⟩ = w0.cell? ⟨g, j, none⟩ := fun W hW j => hW.cell (p := ⟨g, j, none⟩) hg
  rw [← hcl w h.bel] at c1 c2 c3 c4 c5
  have HN : Hid (∀ W, _) := fun W => named_any (bs.getD k default).tm W
  have g5 := h.bg.cell 5 _ h5
  have hlen := named_len (bs.getD k default).tm
  obtain ⟨n, hnn⟩ : ∃ n, n = bs.length := ⟨_, rfl⟩
  obtain ⟨ts, hts⟩ : ∃ ts, ts = tms bs := ⟨_, rfl⟩
  have htl : ts.length = n := by rw [hts, hnn]; simp [tms]
  rw [← hnn] at h hk hn g5 ih
  rw [← hts] at ih
  rw [← hnn, ← hts]
  have hmeet : Hid (∀ (W : World) (p' l' : Value) (m : List Bool) (l : List Int) (k' : Nat), WS w0 n gcs W p' l' m (path ++ [(k : Int)]) l → k' < n → Calls Tryz.prog 30 #[.int .i64 (k' : Int), ptr (w0.heap.size + 2), ptr (w0.heap.size + 3)] W fun e w' => e = .returned (.tuple #[]) ∧ ∃ pv', WS w0 n gcs w' pv' l' (m.set k' true) (path ++ [(k : Int)] ++ [(k' : Int)]) l ∧ WM w0.heap.size W p' l' w' pv' l') := fun W p' l' m l k' hw hk' => meet_any hw k' hk' (by simp; omega)
  have HN2 : Hid (∀ W, Calls Tryz.prog 25 #[.agg #[.int .u8 (bs.getD k default).tm.kind, .int .i64 (bs.getD k default).tm.arg, .int .i64 (bs.getD k default).tm.t0, .int .i64 (bs.getD k default).tm.t1, .int .u8 (bs.getD k default).tm.trap]] W fun e w' => ∃ v, e = .returned v ∧ OwnI w' W.heap.size v (namedT (bs.getD k default).tm) ∧ Below W.heap.size W w') := HN.out
  generalize namedT (bs.getD k default).tm = L at *
  generalize (bs.getD k default).tm.kind = t0 at *
  generalize (bs.getD k default).tm.arg = t1 at *
  generalize (bs.getD k default).tm.t0 = t2 at *
  generalize (bs.getD k default).tm.t1 = t3 at *
  generalize (bs.getD k default).tm.trap = t4 at *
  obtain ⟨g1, cc, rfl, hg1, hg1l, hcc, hcm⟩ := own_form (own_snoc h.prow)
  have hlast := own_last rfl h.prow
  have p3 := h.bp.cell 0 _ rfl
  have hkn : (k : Int) < n := by omega
  have HS : Hid _ := h
  have hlts := h.lts
  have HIH : Hid _ := ih
  have HCF : Hid (cntF met ≤ f) := hcf
  have HSUM : Hid (path.length + left.length + cntF met ≤ 100000) := hsum
  have HG1 : Hid (g1 < w.heap.size) := hg1l
  have HLV : Hid (∀ q, lv.ownBlock = some q → q < w.heap.size) := fun q hq => (h.lrow.lt q hq).2
  obtain ⟨R, hR⟩ : ∃ R, R = L.foldl (stepOf ts f) (met, left) := ⟨_, rfl⟩
  rw [← hR]
  have HR : Hid (L.foldl (stepOf ts f) (met, left) = R) := hR.symm
  have HTL : Hid (ts.length = n) := htl
  have hpl : path.length ≤ 100000 := by omega
  have HN4 : Hid (n ≤ 4000) := hn
  clear HN hB h5 hnn hts htl h hR hcl hmk hsum hcf ih hg1 hcc hcm c0 hg1l hn
  generalize hP : path.length = P at *
  have HP : Hid (path.length = P) := hP
  clear hP
  go_enter Tryz.func31, Tryz.ntmps31
  go_wp2_with (go_at_call 25; go_loud (refine Calls.mono (HN2.out _) ?_; rintro e w1 ⟨v, rfl, ho1, hb1⟩; obtain ⟨va, vc, rfl, _⟩ := (OwnI.at' ho1 (by omega)).form; have HO1 : Hid _ := ho1; have HB1 : Hid _ := hb1; clear ho1 hb1))
  have HAS : Hid (OwnI w1 w.heap.size (.slice va L.length vc) L ∧ Below w.heap.size w w1) := ⟨HO1.out, HB1.out⟩
  clear HO1 HB1 c1 c2 c3 c4 c5 HN2 g5 hlast p3
  go_loopw [26] (fun vi wr => ∃ (i : Nat) (p' l' : Value) (m : List Bool) (l : List Int), vi = .int .i64 i ∧ i ≤ L.length ∧ Hid (WS w0 n gcs wr p' l' m (path ++ [(k : Int)]) l ∧ (L.drop i).foldl (stepOf ts f) (m, l) = R ∧ cntF m ≤ f ∧ l.length + cntF m = left.length + cntF met ∧ WM w0.heap.size w (.slice (some ⟨g1, 0, none⟩) (P + 1) cc) lv wr p' l' ∧ OwnI wr w.heap.size (.slice va L.length vc) L ∧ ∀ q, (Value.slice va L.length vc).ownBlock = some q → p'.ownBlock ≠ some q ∧ l'.ownBlock ≠ some q)) (fun vi _ => L.length - (intOf vi).toNat)
  case atStart =>
    refine ⟨0, _, lv, met, left, rfl, by omega, HS.out.below HAS.out.2, by simpa using HR.out, HCF.out, rfl, WM.below HAS.out.2, HAS.out.1, fun q hq => ?_⟩
    have hq1 := (HAS.out.1.lt q hq).1
    have hq2 := HG1.out
    exact ⟨by simp [Value.ownBlock]; omega, fun hc => by have := HLV.out q hc; omega⟩
  case round =>
    obtain ⟨i, p', l', m, l, rfl, hi, hr⟩ := hrel
    clear HAS HS HR
    by_cases hin : i < L.length
    · obtain ⟨gv, ov, rfl, hgv, cv⟩ := (OwnI.at' hr.out.2.2.2.2.2.1 (by omega)).get hin
      have HD : Hid _ := drop_fold hin (m, l) (stepOf ts f)
      have hml := hr.out.1.mlen
      have b2 := hr.out.1.bm.cell 0 _ rfl
      unfold metV at b2
      generalize hto : L.getD i 0 = to at *
      have HPL : Hid (∀ W, Calls Tryz.prog 28 #[.int .i64 to, .int .i64 (n : Int)] W fun e w' => e = .returned (.bool (inB to n)) ∧ w' = W) := fun W => isPlace_any to n W
      have hin' : (i : Int) < L.length := by omega
      by_cases hb : inB to n = true
      · obtain ⟨kt, hkt⟩ : ∃ kt : Nat, to = (kt : Int) := Int.eq_ofNat_of_zero_le (inB_iff.1 hb).1
        subst hkt
        have hktn : kt < n := by have := (inB_iff.1 hb).2; omega
        have hktn' : (kt : Int) < n := by omega
        have m1 := hr.out.1.metAt hktn
        rw [hb] at HPL
        cases hmt : m.getD kt true with
        | true =>
          rw [hmt] at m1
          have hx0 : (L.drop (i + 1)).foldl (stepOf ts f) (m, l) = R := by rw [← hr.out.2.1, HD.out, stepOf_out (.inr (by rw [Int.toNat_natCast]; exact hmt))]
          have HX : Hid _ := hx0
          clear hx0 hmt hto
          go_wp2_with (go_at_call 28; refine Calls.mono (HPL.out _) ?_; rintro e wx ⟨rfl, hwx⟩; subst wx)
          go_roundw
          case rel => exact ⟨i + 1, p', l', m, l, by first | rfl | (congr 1; omega), by omega, hr.out.1, HX.out, hr.out.2.2⟩
          case measure => simp [intOf]; omega
        | false =>
          rw [hmt] at m1
          have hcs := cntF_set hmt
          obtain ⟨f', rfl⟩ : ∃ f', f = f' + 1 := ⟨f - 1, by have := hr.out.2.2.1; omega⟩
          have hst := stepOf_in (ts := ts) (f := f') (l := l) hmt
          have hal := step_all (ts := ts) (f := f' + 1) (m, l) (kt : Int) (by rw [HTL.out]; exact hml) hr.out.2.2.1
          rw [hst] at hal
          have hx0 : (L.drop (i + 1)).foldl (stepOf ts (f' + 1)) ((dfs ts f' kt (m.set kt true) l).1, (dfs ts f' kt (m.set kt true) l).2) = R := by rw [← hr.out.2.1, HD.out, hst]
          have hgs : (m.set kt true).getD kt true = true := by rw [getD_set (by omega)]; simp
          have HWK : Hid (∀ (W : World) (p2 : Value), WS w0 n gcs W p2 l' (m.set kt true) (path ++ [(k : Int)] ++ [(kt : Int)]) l → Calls Tryz.prog 31 #[.int .i64 ((deep : Int) + 1), ptr (w0.heap.size + 3), ptr w0.heap.size, ptr (w0.heap.size + 2), ptr (w0.heap.size + 5), ptr (w0.heap.size + 6), ptr (w0.heap.size + 4)] W fun e w' => e = .returned (.bool true) ∧ ∃ pv' lv', WS w0 n gcs w' pv' lv' (dfs ts f' kt (m.set kt true) l).1 (path ++ [(k : Int)]) (dfs ts f' kt (m.set kt true) l).2 ∧ WM w0.heap.size W p2 l' w' pv' lv') := fun W p2 hw => by
            have hq := HIH.out f' rfl W p2 l' (m.set kt true) (path ++ [(k : Int)]) l kt (deep + 1) hw hktn hgs (by have := hr.out.2.2.1; omega) (by omega) (by have := hr.out.2.2.2.1; have := HSUM.out; have := HP.out; simp; omega)
            rw [show ((deep + 1 : Nat) : Int) = (deep : Int) + 1 from by omega] at hq
            exact hq
          have HME : Hid _ := hmeet.out wr p' l' m l kt hr.out.1 hktn
          have b5 := hr.out.1.bf.cell 0 _ rfl
          unfold meetV at b5
          have HAL : Hid _ := hal
          have HX : Hid _ := hx0
          have hde : (((deep : Nat) : Int) == 4096) = false := beq_false_of_ne (by omega)
          have hdl : (deep : Int) < 4096 := by omega
          generalize dfs ts f' kt (m.set kt true) l = D at *
          clear hal hx0 hst hcs hgs hmt hto hml hb hdf
          go_wp2_with (first
            | (go_at_call 28; refine Calls.mono (HPL.out _) ?_; rintro e wx ⟨rfl, hwx⟩; subst wx)
            | (go_at_call 30; go_loud (refine Calls.mono (by exact HME.out) ?_; rintro e w2 ⟨rfl, p2, hS2, hM2⟩; have q6 := hS2.bk.cell 0 _ rfl; unfold walkV at q6; have HS2 : Hid _ := hS2; have HM2 : Hid _ := hM2; clear hS2 hM2))
            | (go_at_call 31; go_loud (refine Calls.mono (by exact HWK.out _ _ HS2.out) ?_; rintro e w3 ⟨rfl, p3, l3, hS3, hM3⟩; have HS3 : Hid _ := hS3; have HM3 : Hid _ := hM3; clear hS3 hM3)))
          go_roundw
          case rel =>
            have hwm := HM2.out.trans HM3.out
            have hrw := row_wm hr.out.2.2.2.2.2.1 hlts hr.out.2.2.2.2.2.2 hwm
            have ha := HAL.out
            exact ⟨i + 1, p3, l3, D.1, D.2, by first | rfl | (congr 1; omega), by omega, HS3.out, HX.out, by have := hr.out.2.2.1; omega, by have := hr.out.2.2.2.1; omega, hr.out.2.2.2.2.1.trans hwm, hrw.1, hrw.2⟩
          case measure => simp [intOf]; omega
      · have hbf : inB to n = false := by simpa using hb
        rw [hbf] at HPL
        have hx0 : (L.drop (i + 1)).foldl (stepOf ts f) (m, l) = R := by rw [← hr.out.2.1, HD.out, stepOf_out (.inl (by rw [hml]; exact hbf))]
        have HX : Hid _ := hx0
        clear hx0
        go_wp2_with (go_at_call 28; refine Calls.mono (HPL.out _) ?_; rintro e wx ⟨rfl, hwx⟩; subst wx)
        go_roundw
        case rel => exact ⟨i + 1, p', l', m, l, by first | rfl | (congr 1; omega), by omega, hr.out.1, HX.out, hr.out.2.2⟩
        case measure => simp [intOf]; omega
    · obtain rfl : i = L.length := by omega
      have hx0 : (m, l) = R := by have := hr.out.2.1; rw [List.drop_length] at this; exact this
      obtain ⟨g', c', rfl, _, _, hc1, _⟩ := own_form (own_snoc hr.out.1.prow)
      have hpop := WS.popP rfl hr.out.1
      have hsl := slice_cut (g := g') (m := path.length + 1) (c := c') (f := path.length) hc1 (by omega)
      have p3 := hr.out.1.bp.cell 0 _ rfl
      have p3f := hr.out.1.bp.fz 0
      have l4 := hr.out.1.bl.cell 0 _ rfl
      have l4f := hr.out.1.bl.fz 0
      have hlt := hr.out.1.lts
      obtain ⟨i0, hi0, hz0, hz1, hz2⟩ := info_parts infoI
      have HPO : Hid _ := hpop
      have HLL : Hid (l.length ≤ 100000) := by show _ ≤ _; have := hr.out.2.2.2.1; have := HSUM.out; omega
      have HWM : Hid _ := hr.out.2.2.2.2.1
      have HX : Hid _ := hx0
      clear hpop hx0 hr hmeet HIH
      generalize hP : path.length = P' at *
      have hpl' : (P' : Int) ≤ 100000 := by have := HP.out; omega
      clear HP
      go_wp2_with (at_builtin; go_loud (refine wpList_append_own_at _ rfl _ _ 22 rfl (w0.heap.size + 7) 3 i0 (.int .i64 0) 1 8 Tryz.underlying22 hi0 hz0 hz1 hz2 rfl (by decide) _ _ _ rfl (HPO.out.1.lrow.alloc _) ⟨wr.heap.size, 0, none⟩ 1 1 [intV k] rfl rfl ?c1 ?c2 ?c3 ?c4 ?c5 ?_))
      case c1 => have := cell_one_new (wr.setCell ⟨w0.heap.size + 3, 0, none⟩ (.slice (some ⟨g', 0, none⟩) P' c')) (intV k) 3; simpa [World.setCell] using this
      case c2 => intro u hu; simp at hu; subst hu; rfl
      case c3 => have := HLL.out; unfold maxLen; omega
      case c4 => have := HLL.out; omega
      case c5 => simp [World.setCell]; omega
      intro v2 w2 ho hg _ hat
      obtain ⟨g2, cc2, rfl, _, _, _, _⟩ := own_form ho
      obtain ⟨hS, hV, q3, q4⟩ := (HPO.out.1.below (below_alloc (Below.refl _ _) (.cells #[intV k] 3))).pushL ho hg (by simpa [World.setCell] using hat)
      have HS : Hid _ := hS
      have HV : Hid _ := (HWM.out.trans HPO.out.2).trans ((WM.below (below_alloc (Below.refl _ _) (.cells #[intV k] 3))).trans hV)
      clear hS hV ho hg hat
      go_wp2
      go_ret
      exact ⟨rfl, _, _, by rw [← HX.out]; exact HS.out, HV.out⟩
end Go.Proofs.YtabpnjakfoofpaaGreatDoor
/- For each block those with an edge to it. -/
namespace Go.Proofs.YtabpnjakfoofpaaGreatDoor
open Go.RowKit

theorem drop_ahead {ts : List Tm} {i : Nat} (h : i < ts.length) (rows : List (List Int)) : aheadF (ts.drop i) i rows = aheadF (ts.drop (i + 1)) (i + 1) ((nextT (ts.getD i default)).foldl (putA (i : Int)) rows) := by
  have e : ts.getD i default = ts[i] := by simp [List.getD, List.getElem?_eq_getElem h]
  rw [e, List.drop_eq_getElem_cons h]
  rfl
theorem rows_own_frame {w w' : World} {base2 G : Nat} {nv kv : Value} {L : List Int} (h : OwnI w base2 nv L) (hG : G < base2) (hk : ∀ q, nv.ownBlock = some q → kv.ownBlock ≠ some q)
    (hb : ∀ k, k < w.heap.size → k ≠ G → kv.ownBlock ≠ some k → w'.heap[k]? = w.heap[k]?) : OwnI w' base2 nv L :=
  owns_same h fun q hq => hb q (h.lt q hq).2 (by have := (h.lt q hq).1; omega) (hk q hq)
set_option maxRecDepth 100000 in
set_option maxHeartbeats 2000000 in
theorem ahead_any (G : Gr) (pv vv av bv : Value) (w : World) (h : GrAt w pv vv av bv G) (hn : G.blocks.length ≤ 100000) :
    Calls Tryz.prog 11 #[.agg #[.string G.name, pv, .int .u8 G.result, vv, av, bv]] w fun e w' => ∃ kvs, e = .returned (.slice (some ⟨w.heap.size + 1, 0, none⟩) G.blocks.length G.blocks.length) ∧ RowsIn w' w.heap.size (w.heap.size + 1) G.blocks.length kvs (aheadT (tms G.blocks)) ∧ Below w.heap.size w w' := by
  obtain ⟨nm, ps, r, vs, ars, bs⟩ := G
  have hB := h.bs
  dsimp only at hB hn ⊢
  clear h
  obtain ⟨a, c, rfl, _⟩ := hB.form
  have HI : Hid (∀ i, i < bs.length → _) := fun i hi => hB.get hi
  have HT : Hid (∀ i, i < bs.length → (tms bs).getD i default = (bs.getD i default).tm) := fun i hi => tms_getD hi
  obtain ⟨n, hnn⟩ : ∃ n, n = bs.length := ⟨_, rfl⟩
  have htl : (tms bs).length = n := by simp [tms, hnn]
  rw [← hnn] at HI hn HT
  rw [← hnn]
  have hmk := run_make_row' (P := Tryz.prog) 42 22 (.slice none 0 0) 24 Tryz.underlying42 infoS rfl .i64 .i64 n (by omega) (by omega)
  obtain ⟨ts, hts⟩ : ∃ ts, ts = tms bs := ⟨_, rfl⟩
  rw [← hts] at htl HT
  rw [← hts]
  obtain ⟨R, hR⟩ : ∃ R, R = aheadT ts := ⟨_, rfl⟩
  rw [← hR]
  have HR : Hid (aheadF (ts.drop 0) 0 (List.replicate n []) = R) := by show _ = _; rw [hR, List.drop_zero, aheadT, htl]
  have HTL : Hid (ts.length = n) := htl
  have HRN : Hid (RowsIn ((w.alloc (.cells #[.string nm, pv, .int .u8 r, vv, av, .slice a n c] 28)).alloc (.cells (madeCells #[.slice none 0 0] n) 22)) w.heap.size (w.heap.size + 1) n (List.replicate n (.slice none 0 0)) (List.replicate n [])) := by
    have := rows_new (w.alloc (.cells #[.string nm, pv, .int .u8 r, vv, av, .slice a n c] 28)) w.heap.size n (below_alloc (Below.refl _ _) _).size (by omega)
    rwa [show (w.alloc (.cells #[.string nm, pv, .int .u8 r, vv, av, .slice a n c] 28)).heap.size = w.heap.size + 1 by simp] at this
  obtain ⟨i0, hi0, hz0, hz1, hz2⟩ := info_parts infoI
  clear hnn htl hts hR hB
  go_enter Tryz.func11, Tryz.ntmps11
  go_wp2
  go_loopw [15] (fun vi wr => ∃ (i : Nat) (kvs : List Value) (rows : List (List Int)), vi = .int .i64 i ∧ i ≤ n ∧ Hid (Below w.heap.size w wr ∧ RowsIn wr w.heap.size (w.heap.size + 1) n kvs rows ∧ aheadF (ts.drop i) i rows = R ∧ lensA rows ≤ 2 * i)) (fun vi _ => n - (intOf vi).toNat)
  case atStart => exact ⟨0, _, _, rfl, by omega, below_alloc (below_alloc (Below.refl _ _) _) _, HRN.out, HR.out, by rw [lens_rep]; omega⟩
  case round =>
    obtain ⟨i, kvs, rows, rfl, hi, hr⟩ := hrel
    clear HRN HR hmk
    generalize wr = wo at *
    by_cases hin : i < n
    · obtain ⟨g, o, iv, rfl, hg, c0, c1, c2, c3, c4, c5, hins⟩ := HI.out i hin
      obtain ⟨ia, ic, rfl, _⟩ := hins.form
      clear hins
      generalize hil : (bs.getD i default).ins.length = il at *
      have hin' : (i : Int) < n := by omega
      have hcl : ∀ j, wo.cell? ⟨g, j, none⟩ = w.cell? ⟨g, j, none⟩ := fun j => hr.out.1.cell (p := ⟨g, j, none⟩) hg
      rw [← hcl] at c0 c1 c2 c3 c4 c5
      have HNX : Hid (∀ W, Calls Tryz.prog 8 #[.agg #[.slice ia il ic, .int .u8 (bs.getD i default).tm.kind, .int .i64 (bs.getD i default).tm.arg, .int .i64 (bs.getD i default).tm.t0, .int .i64 (bs.getD i default).tm.t1, .int .u8 (bs.getD i default).tm.trap]] W fun e w' => ∃ v, e = .returned v ∧ OwnI w' W.heap.size v (nextT (bs.getD i default).tm) ∧ Below W.heap.size W w') := fun W => next_any (.slice ia il ic) (bs.getD i default).tm W
      have hlen := next_len (bs.getD i default).tm
      have HDA : Hid _ := drop_ahead (ts := ts) (i := i) (by rw [HTL.out]; exact hin) rows
      rw [HT.out i hin] at HDA
      generalize nextT (bs.getD i default).tm = L at *
      generalize (bs.getD i default).tm.kind = t0 at *
      generalize (bs.getD i default).tm.arg = t1 at *
      generalize (bs.getD i default).tm.t0 = t2 at *
      generalize (bs.getD i default).tm.t1 = t3 at *
      generalize (bs.getD i default).tm.trap = t4 at *
      obtain ⟨R2, hR2⟩ : ∃ R2, R2 = L.foldl (putA (i : Int)) rows := ⟨_, rfl⟩
      rw [← hR2] at HDA
      have HR2 : Hid (L.foldl (putA (i : Int)) rows = R2) := hR2.symm
      have HA0 : Hid (Below wo.heap.size wo (wo.alloc (.cells #[.slice ia il ic, .int .u8 t0, .int .i64 t1, .int .i64 t2, .int .i64 t3, .int .u8 t4] 40))) := below_alloc (Below.refl _ _) _
      clear hR2 hcl HI hil
      go_wp2_with (go_at_call 8; go_loud (refine Calls.mono (by exact HNX.out _) ?_; rintro e w1 ⟨v, rfl, ho1, hb1⟩; obtain ⟨va, vc, rfl, _⟩ := (OwnI.at' ho1 (by omega)).form; have HO1 : Hid (OwnI w1 wo.heap.size (.slice va L.length vc) L) := own_mono ho1 HA0.out.size; have HB1 : Hid (Below wo.heap.size wo w1) := below_trans HA0.out hb1; clear ho1 hb1))
      go_loopw [23] (fun vk wq => ∃ (k : Nat) (kvs : List Value) (rows : List (List Int)), vk = .int .i64 k ∧ k ≤ L.length ∧ Hid (Below w.heap.size w wq ∧ RowsIn wq w.heap.size (w.heap.size + 1) n kvs rows ∧ (L.drop k).foldl (putA (i : Int)) rows = R2 ∧ lensA rows ≤ 2 * i + k ∧ OwnI wq wo.heap.size (.slice va L.length vc) L ∧ ∀ q, (Value.slice va L.length vc).ownBlock = some q → ∀ kv ∈ kvs, kv.ownBlock ≠ some q)) (fun vk _ => L.length - (intOf vk).toNat)
      case atStart =>
        refine ⟨0, kvs, rows, rfl, by omega, below_trans hr.out.1 HB1.out, hr.out.2.1.below HB1.out, HR2.out, hr.out.2.2.2, HO1.out, ?_⟩
        intro q hq kv hkv hc
        obtain ⟨j, hj, he⟩ := List.mem_iff_getElem.1 hkv
        have hjr : j < rows.length := by rw [hr.out.2.1.rlen, ← hr.out.2.1.klen]; exact hj
        have h1 := (hr.out.2.1.kid j _ kv (List.getElem?_eq_getElem hjr) (by rw [List.getElem?_eq_getElem hj, he])).1
        have := (h1.lt q hc).2
        have := (HO1.out.lt q hq).1
        omega
      case round =>
        obtain ⟨k, kvs2, rows2, rfl, hk, hq⟩ := hrel
        clear HB1 HO1 HR2
        have HWR : Hid (w.heap.size + 1 < wo.heap.size) := hr.out.2.1.ltG.2
        by_cases hkn : k < L.length
        · obtain ⟨gv, ov, rfl, hgv, cv⟩ := (OwnI.at' hq.out.2.2.2.2.1 (by omega)).get hkn
          have HD : Hid _ := drop_fold hkn rows2 (putA (i : Int))
          have hkn' : (k : Int) < L.length := by omega
          generalize hto : L.getD k 0 = to at *
          have HPL : Hid (∀ W, Calls Tryz.prog 28 #[.int .i64 to, .int .i64 (n : Int)] W fun e w' => e = .returned (.bool (inB to n)) ∧ w' = W) := fun W => isPlace_any to n W
          have hrl := hq.out.2.1.rlen
          have hkl := hq.out.2.1.klen
          by_cases hb : inB to n = true
          · obtain ⟨t, ht⟩ : ∃ t : Nat, to = (t : Int) := Int.eq_ofNat_of_zero_le (inB_iff.1 hb).1
            subst ht
            have htn : t < n := by have := (inB_iff.1 hb).2; omega
            have htn' : (t : Int) < n := by omega
            have er : rows2[t]? = some (rows2[t]'(by omega)) := List.getElem?_eq_getElem _
            have ek : kvs2[t]? = some (kvs2[t]'(by omega)) := List.getElem?_eq_getElem _
            have hrm : rows2[t]'(by omega) ∈ rows2 := List.getElem_mem _
            have hkm : kvs2[t]'(by omega) ∈ kvs2 := List.getElem_mem _
            generalize rows2[t]'(by omega) = rw at er hrm
            generalize kvs2[t]'(by omega) = kv at ek hkm
            obtain ⟨ka, kc, rfl, _⟩ := (OwnI.at' (hq.out.2.1.kid t rw kv er ek).1 (by have := lens_mem hrm; have := hq.out.2.2.2.1; omega)).form
            have hrw : rw.length ≤ 300000 := by have := lens_mem hrm; have := hq.out.2.2.2.1; omega
            have cG := hq.out.2.1.cellG ek
            have fG := hq.out.2.1.fzG t
            rw [hb] at HPL
            have hx0 : (L.drop (k + 1)).foldl (putA (i : Int)) (rows2.modify t (· ++ [(i : Int)])) = R2 := by
              rw [← hq.out.2.2.1, HD.out]
              congr 1
              unfold putA
              rw [hrl, if_pos hb, Int.toNat_natCast]
            have hl0 : lensA (rows2.modify t (· ++ [(i : Int)])) ≤ 2 * i + (k + 1) := by
              rw [lens_modify _ _ _ (by omega)]
              have := hq.out.2.2.2.1
              omega
            have HX : Hid _ := hx0
            have HL0 : Hid _ := hl0
            have HER : Hid _ := er
            have HEK : Hid _ := ek
            have HKM : Hid _ := hkm
            have hwr : w.heap.size + 1 < wr.heap.size := hq.out.2.1.ltG.2
            have HA1 : Hid (Below wr.heap.size wr (wr.alloc (.cells #[.int .i64 (i : Int)] 3))) := below_alloc (Below.refl _ _) _
            have hok0 := (hq.out.2.1.kid t rw _ er ek).1
            generalize hrl0 : rw.length = rl at *
            have HOK : Hid (wr.ownsRow w.heap.size 3 1 (.slice ka rl kc) rl (rw.map intV)) := by
              have h9 : wr.ownsRow w.heap.size 3 1 (.slice ka rl kc) rw.length (rw.map intV) := hok0
              rw [hrl0] at h9
              exact h9
            clear hok0
            have HRL : Hid (rw.length = rl) := hrl0
            clear hrl0
            clear hx0 hl0 er ek hkm hrm hrl hkl hto HD
            go_wp2_with (first
              | (go_at_call 28; refine Calls.mono (HPL.out _) ?_; rintro e wx ⟨rfl, hwx⟩; subst wx)
              | (at_builtin; go_loud (refine wpList_append_own_at _ rfl _ _ 22 rfl w.heap.size 3 i0 (.int .i64 0) 1 8 Tryz.underlying22 hi0 hz0 hz1 hz2 rfl (by decide) _ rl (rw.map intV) rfl (HOK.out.alloc _) ⟨wr.heap.size, 0, none⟩ 1 1 [intV i] rfl rfl ?c1 ?c2 ?c3 ?c4 ?c5 ?_)))
            case c1 => exact cell_one_new wr (intV i) 3
            case c2 => intro u hu; simp at hu; subst hu; rfl
            case c3 => unfold maxLen; omega
            case c4 => omega
            case c5 => simp; omega
            intro v2 w2 ho hg2 _ hat
            obtain ⟨g2, cc2, rfl, _, _, _, _⟩ := own_form ho
            obtain ⟨hP, q3, q4, hF, hZ⟩ := (hq.out.2.1.below HA1.out).push HER.out HEK.out (by rw [HRL.out]; exact ho) hg2 (by simpa using hat)
            have HFR : Hid (Below w.heap.size w (w2.setCell ⟨w.heap.size + 1, t, none⟩ (.slice (some ⟨g2, 0, none⟩) (rl + 1) cc2)) ∧ OwnI (w2.setCell ⟨w.heap.size + 1, t, none⟩ (.slice (some ⟨g2, 0, none⟩) (rl + 1) cc2)) wo.heap.size (.slice (some ⟨gv, ov, none⟩) L.length vc) L) := by
              refine ⟨?_, ?_⟩
              · refine below_set ?_ (by omega) _ _
                exact below_grown (below_trans hq.out.1 HA1.out) hg2 (fun q hqq => (HOK.out.lt q hqq).1)
              · refine rows_own_frame (w := wr.alloc (.cells #[.int .i64 (i : Int)] 3)) (kv := .slice ka rl kc) (owns_below hq.out.2.2.2.2.1 HA1.out) HWR.out (fun q hqq => hq.out.2.2.2.2.2 q hqq _ HKM.out) hF
            have HNK : Hid (∀ q, (Value.slice (some ⟨gv, ov, none⟩) L.length vc).ownBlock = some q → ∀ kv ∈ kvs2.set t (.slice (some ⟨g2, 0, none⟩) (rl + 1) cc2), kv.ownBlock ≠ some q) := by
              intro q hqq kv hkv
              rcases List.mem_or_eq_of_mem_set hkv with hkv | rfl
              · exact hq.out.2.2.2.2.2 q hqq kv hkv
              · rcases hat with e | e
                · rw [e]; exact hq.out.2.2.2.2.2 q hqq _ HKM.out
                · rw [e]
                  intro hc
                  cases hc
                  have := (hq.out.2.2.2.2.1.lt _ hqq).2
                  omega
            have HP : Hid _ := hP
            clear hP hF hZ ho hg2 hat
            go_wp2
            go_roundw
            case rel => exact ⟨k + 1, _, _, by first | rfl | (congr 1; omega), by omega, HFR.out.1, HP.out, HX.out, HL0.out, HFR.out.2, HNK.out⟩
            case measure => simp [intOf]; omega
          · have hbf : inB to n = false := by simpa using hb
            rw [hbf] at HPL
            have hx0 : (L.drop (k + 1)).foldl (putA (i : Int)) rows2 = R2 := by
              rw [← hq.out.2.2.1, HD.out]
              congr 1
              unfold putA
              rw [hrl, if_neg (by rw [hbf]; simp)]
            have HX : Hid _ := hx0
            clear hx0 HD hto
            go_wp2_with (go_at_call 28; refine Calls.mono (HPL.out _) ?_; rintro e wx ⟨rfl, hwx⟩; subst wx)
            go_roundw
            case rel => exact ⟨k + 1, kvs2, rows2, by first | rfl | (congr 1; omega), by omega, hq.out.1, hq.out.2.1, HX.out, by have := hq.out.2.2.2.1; omega, hq.out.2.2.2.2⟩
            case measure => simp [intOf]; omega
        · obtain rfl : k = L.length := by omega
          have hx0 : rows2 = R2 := by have := hq.out.2.2.1; rw [List.drop_length] at this; exact this
          have HX : Hid _ := hx0
          clear hx0
          go_wp2
          go_roundw
          case rel => exact ⟨i + 1, kvs2, rows2, by first | rfl | (congr 1; omega), by omega, hq.out.1, hq.out.2.1, by rw [HX.out, ← HDA.out]; exact hr.out.2.2.1, by have := hq.out.2.2.2.1; omega⟩
          case measure => simp [intOf]; omega
    · obtain rfl : i = n := by omega
      have hfin : rows = R := by have := hr.out.2.2.1; rw [← HTL.out, List.drop_length] at this; exact this
      have HFI : Hid _ := hfin
      clear HI hfin
      go_wp2
      go_ret
      exact ⟨kvs, rfl, by rw [← HFI.out]; exact hr.out.2.1, hr.out.1⟩
end Go.Proofs.YtabpnjakfoofpaaGreatDoor
