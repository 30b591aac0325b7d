/- The walk through the last block of the path. -/
import Derived.Test.YtobnpllppohofaaGreatDoorGOrd2M
import Derived.Test.YtobnpllppohofaaGreatDoorGTrQM
import Derived.BigQuiet
namespace Go.Proofs.YtobnpllppohofaaGreatDoor
open Go.RowKit

def DoesWalk (w0 : World) (n : Nat) (gcs : List Value) (ts : List Tm) (f : Nat) : Prop :=
 ∀ (w : World) (pv lv : Value) (met : List Bool) (path left : List Int) (k deep : Nat), WS w0 n gcs w pv lv met (path ++ [(k : Int)]) left → k < n → met.getD k true = true → cntF met ≤ f → deep + f < 4096 → path.length + left.length + cntF met ≤ 100000 →
  Calls Tryz.prog 35 #[.int .i64 (deep : Int), ptr (w0.heap.size + 3), ptr w0.heap.size, ptr (w0.heap.size + 2), ptr (w0.heap.size + 5), ptr (w0.heap.size + 6), ptr (w0.heap.size + 4)] w fun e w' =>
   e = .returned (.bool true) ∧ ∃ pv' lv', WS w0 n gcs w' pv' lv' (dfs ts f k met left).1 path (dfs ts f k met left).2 ∧ WM w0.heap.size w pv lv w' pv' lv'
theorem tms_getD {bs : List Bl} {k : Nat} (h : k < bs.length) : (tms bs).getD k default = (bs.getD k default).tm := by
 simp [tms, List.getD, List.getElem?_eq_getElem h]
theorem own_last {w : World} {base g c : Nat} {l : List Int} {x : Int} {n : Nat} (hn : n = l.length + 1) (h : OwnI w base (.slice (some ⟨g, 0, none⟩) n c) (l ++ [x])) : w.cell? ⟨g, l.length, none⟩ = some (.int .i64 x) := by
 subst hn
 rw [(own_snoc h).cellAt l.length (by omega)]
 simp
theorem row_wm {B base : Nat} {w w' : World} {p l p' l' v : Value} {L : List Int} (h : OwnI w base v L) (hb : B + 6 < base) (ha : ∀ q, v.ownBlock = some q → p.ownBlock ≠ some q ∧ l.ownBlock ≠ some q) (hm : WM B w p l w' p' l') : OwnI w' base v L ∧ ∀ q, v.ownBlock = some q → p'.ownBlock ≠ some q ∧ l'.ownBlock ≠ some q := by
 refine ⟨owns_same h fun q hq => ?_, fun q hq => hm.off (h.lt q hq).2 (ha q hq).1 (ha q hq).2⟩
 have hl := h.lt q hq
 exact hm.block q hl.2 (by omega) (by omega) (by omega) (ha q hq).1 (ha q hq).2
theorem drop_fold {α : Type} {L : List Int} {i : Nat} (h : i < L.length) (s : α) (F : α → Int → α) : (L.drop i).foldl F s = (L.drop (i + 1)).foldl F (F s (L.getD i 0)) := by
 rw [List.drop_eq_getElem_cons h, List.foldl_cons]
 congr 2
 simp [List.getD, List.getElem?_eq_getElem h]
set_option maxRecDepth 100000 in
set_option maxHeartbeats 2000000 in
theorem walk_step {w0 : World} {gcs : List Value} {bv : Value} {bs : List Bl} (hB : BlsAt w0 bv bs) (h5 : gcs[5]? = some bv) (hn : bs.length ≤ 4000) {f : Nat} (ih : ∀ f', f = f' + 1 → DoesWalk w0 bs.length gcs (tms bs) f') : DoesWalk w0 bs.length gcs (tms bs) f := by
 intro w pv lv met path left k deep h hk hmk hcf hdf hsum
 rw [dfs_eq, tms_getD hk]
 obtain ⟨ba, bc, rfl, _⟩ := hB.form
 obtain ⟨g, o, iv, rfl, hg, c0, c1, c2, c3, c4, c5, _⟩ := hB.get hk
 have hcl : ∀ W, Below w0.heap.size w0 W → ∀ j, W.cell? ⟨g, j, none⟩ = w0.cell? ⟨g, j, none⟩ := fun W hW j => hW.cell (p := ⟨g, j, none⟩) hg
 rw [← hcl w h.bel] at c1 c2 c3 c4 c5
 have HN : Hid (∀ W, _) := fun W => named_any (bs.getD k default).tm W
 have g5 := h.bg.cell 5 _ h5
 have hlen := named_len (bs.getD k default).tm
 obtain ⟨n, hnn⟩ : ∃ n, n = bs.length := ⟨_, rfl⟩
 obtain ⟨ts, hts⟩ : ∃ ts, ts = tms bs := ⟨_, rfl⟩
 have htl : ts.length = n := by rw [hts, hnn]; simp [tms]
 rw [← hnn] at h hk hn g5 ih
 rw [← hts] at ih
 rw [← hnn, ← hts]
 have hmeet : Hid (∀ (W : World) (p' l' : Value) (m : List Bool) (l : List Int) (k' : Nat), WS w0 n gcs W p' l' m (path ++ [(k : Int)]) l → k' < n → Calls Tryz.prog 34 #[.int .i64 (k' : Int), ptr (w0.heap.size + 2), ptr (w0.heap.size + 3)] W fun e w' => e = .returned (.tuple #[]) ∧ ∃ pv', WS w0 n gcs w' pv' l' (m.set k' true) (path ++ [(k : Int)] ++ [(k' : Int)]) l ∧ WM w0.heap.size W p' l' w' pv' l') := fun W p' l' m l k' hw hk' => meet_any hw k' hk' (by simp; omega)
 have HN2 : Hid (∀ W, Calls Tryz.prog 36 #[.agg #[.int .u8 (bs.getD k default).tm.kind, .int .i64 (bs.getD k default).tm.arg, .int .i64 (bs.getD k default).tm.t0, .int .i64 (bs.getD k default).tm.t1, .int .u8 (bs.getD k default).tm.trap]] W fun e w' => ∃ v, e = .returned v ∧ OwnI w' W.heap.size v (namedT (bs.getD k default).tm) ∧ Below W.heap.size W w') := HN.out
 generalize namedT (bs.getD k default).tm = L at *
 generalize (bs.getD k default).tm.kind = t0 at *
 generalize (bs.getD k default).tm.arg = t1 at *
 generalize (bs.getD k default).tm.t0 = t2 at *
 generalize (bs.getD k default).tm.t1 = t3 at *
 generalize (bs.getD k default).tm.trap = t4 at *
 obtain ⟨g1, cc, rfl, hg1, hg1l, hcc, hcm⟩ := own_form (own_snoc h.prow)
 have hlast := own_last rfl h.prow
 have p3 := h.bp.cell 0 _ rfl
 have hkn : (k : Int) < n := by omega
 have HS : Hid _ := h
 have hlts := h.lts
 have HIH : Hid _ := ih
 have HCF : Hid (cntF met ≤ f) := hcf
 have HSUM : Hid (path.length + left.length + cntF met ≤ 100000) := hsum
 have HG1 : Hid (g1 < w.heap.size) := hg1l
 have HLV : Hid (∀ q, lv.ownBlock = some q → q < w.heap.size) := fun q hq => (h.lrow.lt q hq).2
 obtain ⟨R, hR⟩ : ∃ R, R = L.foldl (stepOf ts f) (met, left) := ⟨_, rfl⟩
 rw [← hR]
 have HR : Hid (L.foldl (stepOf ts f) (met, left) = R) := hR.symm
 have HTL : Hid (ts.length = n) := htl
 have hpl : path.length ≤ 100000 := by omega
 have HN4 : Hid (n ≤ 4000) := hn
 clear HN hB h5 hnn hts htl h hR hcl hmk hsum hcf ih hg1 hcc hcm c0 hg1l hn
 generalize hP : path.length = P at *
 have HP : Hid (path.length = P) := hP
 clear hP
 go_enter Tryz.func35, Tryz.ntmps35
 go_wp2_with (go_at_call 36; go_loud (refine Calls.mono (HN2.out _) ?_; rintro e w1 ⟨v, rfl, ho1, hb1⟩; obtain ⟨va, vc, rfl, _⟩ := (OwnI.at' ho1 (by omega)).form; have HO1 : Hid _ := ho1; have HB1 : Hid _ := hb1; clear ho1 hb1))
 have HAS : Hid (OwnI w1 w.heap.size (.slice va L.length vc) L ∧ Below w.heap.size w w1) := ⟨HO1.out, HB1.out⟩
 clear HO1 HB1 c1 c2 c3 c4 c5 HN2 g5 hlast p3
 go_loopw [26] (fun vi wr => ∃ (i : Nat) (p' l' : Value) (m : List Bool) (l : List Int), vi = .int .i64 i ∧ i ≤ L.length ∧ Hid (WS w0 n gcs wr p' l' m (path ++ [(k : Int)]) l ∧ (L.drop i).foldl (stepOf ts f) (m, l) = R ∧ cntF m ≤ f ∧ l.length + cntF m = left.length + cntF met ∧ WM w0.heap.size w (.slice (some ⟨g1, 0, none⟩) (P + 1) cc) lv wr p' l' ∧ OwnI wr w.heap.size (.slice va L.length vc) L ∧ ∀ q, (Value.slice va L.length vc).ownBlock = some q → p'.ownBlock ≠ some q ∧ l'.ownBlock ≠ some q)) (fun vi _ => L.length - (intOf vi).toNat)
 case atStart =>
  refine ⟨0, _, lv, met, left, rfl, by omega, HS.out.below HAS.out.2, by simpa using HR.out, HCF.out, rfl, WM.below HAS.out.2, HAS.out.1, fun q hq => ?_⟩
  have hq1 := (HAS.out.1.lt q hq).1
  have hq2 := HG1.out
  exact ⟨by simp [Value.ownBlock]; omega, fun hc => by have := HLV.out q hc; omega⟩
 case round =>
  obtain ⟨i, p', l', m, l, rfl, hi, hr⟩ := hrel
  clear HAS HS HR
  by_cases hin : i < L.length
  ·obtain ⟨gv, ov, rfl, hgv, cv⟩ := (OwnI.at' hr.out.2.2.2.2.2.1 (by omega)).get hin
   have HD : Hid _ := drop_fold hin (m, l) (stepOf ts f)
   have hml := hr.out.1.mlen
   have b2 := hr.out.1.bm.cell 0 _ rfl
   unfold metV at b2
   generalize hto : L.getD i 0 = to at *
   have HPL : Hid (∀ W, Calls Tryz.prog 37 #[.int .i64 to, .int .i64 (n : Int)] W fun e w' => e = .returned (.bool (inB to n)) ∧ w' = W) := fun W => isPlace_any to n W
   have hin' : (i : Int) < L.length := by omega
   by_cases hb : inB to n = true
   ·obtain ⟨kt, hkt⟩ : ∃ kt : Nat, to = (kt : Int) := Int.eq_ofNat_of_zero_le (inB_iff.1 hb).1
    subst hkt
    have hktn : kt < n := by have := (inB_iff.1 hb).2; omega
    have hktn' : (kt : Int) < n := by omega
    have m1 := hr.out.1.metAt hktn
    rw [hb] at HPL
    cases hmt : m.getD kt true with
    | true =>
     rw [hmt] at m1
     have hx0 : (L.drop (i + 1)).foldl (stepOf ts f) (m, l) = R := by rw [← hr.out.2.1, HD.out, stepOf_out (.inr (by rw [Int.toNat_natCast]; exact hmt))]
     have HX : Hid _ := hx0
     clear hx0 hmt hto
     go_wp2_with (go_at_call 37; refine Calls.mono (HPL.out _) ?_; rintro e wx ⟨rfl, hwx⟩; subst wx)
     go_roundw
     case rel => exact ⟨i + 1, p', l', m, l, by first | rfl | (congr 1; omega), by omega, hr.out.1, HX.out, hr.out.2.2⟩
     case measure => simp [intOf]; omega
    | false =>
     rw [hmt] at m1
     have hcs := cntF_set hmt
     obtain ⟨f', rfl⟩ : ∃ f', f = f' + 1 := ⟨f - 1, by have := hr.out.2.2.1; omega⟩
     have hst := stepOf_in (ts := ts) (f := f') (l := l) hmt
     have hal := step_all (ts := ts) (f := f' + 1) (m, l) (kt : Int) (by rw [HTL.out]; exact hml) hr.out.2.2.1
     rw [hst] at hal
     have hx0 : (L.drop (i + 1)).foldl (stepOf ts (f' + 1)) ((dfs ts f' kt (m.set kt true) l).1, (dfs ts f' kt (m.set kt true) l).2) = R := by rw [← hr.out.2.1, HD.out, hst]
     have hgs : (m.set kt true).getD kt true = true := by rw [getD_set (by omega)]; simp
     have HWK : Hid (∀ (W : World) (p2 : Value), WS w0 n gcs W p2 l' (m.set kt true) (path ++ [(k : Int)] ++ [(kt : Int)]) l → Calls Tryz.prog 35 #[.int .i64 ((deep : Int) + 1), ptr (w0.heap.size + 3), ptr w0.heap.size, ptr (w0.heap.size + 2), ptr (w0.heap.size + 5), ptr (w0.heap.size + 6), ptr (w0.heap.size + 4)] W fun e w' => e = .returned (.bool true) ∧ ∃ pv' lv', WS w0 n gcs w' pv' lv' (dfs ts f' kt (m.set kt true) l).1 (path ++ [(k : Int)]) (dfs ts f' kt (m.set kt true) l).2 ∧ WM w0.heap.size W p2 l' w' pv' lv') := fun W p2 hw => by
      have hq := HIH.out f' rfl W p2 l' (m.set kt true) (path ++ [(k : Int)]) l kt (deep + 1) hw hktn hgs (by have := hr.out.2.2.1; omega) (by omega) (by have := hr.out.2.2.2.1; have := HSUM.out; have := HP.out; simp; omega)
      rw [show ((deep + 1 : Nat) : Int) = (deep : Int) + 1 from by omega] at hq
      exact hq
     have HME : Hid _ := hmeet.out wr p' l' m l kt hr.out.1 hktn
     have b5 := hr.out.1.bf.cell 0 _ rfl
     unfold meetV at b5
     have HAL : Hid _ := hal
     have HX : Hid _ := hx0
     have hde : (((deep : Nat) : Int) == 4096) = false := beq_false_of_ne (by omega)
     have hdl : (deep : Int) < 4096 := by omega
     generalize dfs ts f' kt (m.set kt true) l = D at *
     clear hal hx0 hst hcs hgs hmt hto hml hb hdf
     go_wp2_with (first
      | (go_at_call 37; refine Calls.mono (HPL.out _) ?_; rintro e wx ⟨rfl, hwx⟩; subst wx)
      | (go_at_call 34; go_loud (refine Calls.mono (by exact HME.out) ?_; rintro e w2 ⟨rfl, p2, hS2, hM2⟩; have q6 := hS2.bk.cell 0 _ rfl; unfold walkV at q6; have HS2 : Hid _ := hS2; have HM2 : Hid _ := hM2; clear hS2 hM2))
      | (go_at_call 35; go_loud (refine Calls.mono (by exact HWK.out _ _ HS2.out) ?_; rintro e w3 ⟨rfl, p3, l3, hS3, hM3⟩; have HS3 : Hid _ := hS3; have HM3 : Hid _ := hM3; clear hS3 hM3)))
     go_roundw
     case rel =>
      have hwm := HM2.out.trans HM3.out
      have hrw := row_wm hr.out.2.2.2.2.2.1 hlts hr.out.2.2.2.2.2.2 hwm
      have ha := HAL.out
      exact ⟨i + 1, p3, l3, D.1, D.2, by first | rfl | (congr 1; omega), by omega, HS3.out, HX.out, by have := hr.out.2.2.1; omega, by have := hr.out.2.2.2.1; omega, hr.out.2.2.2.2.1.trans hwm, hrw.1, hrw.2⟩
     case measure => simp [intOf]; omega
   ·have hbf : inB to n = false := by simpa using hb
    rw [hbf] at HPL
    have hx0 : (L.drop (i + 1)).foldl (stepOf ts f) (m, l) = R := by rw [← hr.out.2.1, HD.out, stepOf_out (.inl (by rw [hml]; exact hbf))]
    have HX : Hid _ := hx0
    clear hx0
    go_wp2_with (go_at_call 37; refine Calls.mono (HPL.out _) ?_; rintro e wx ⟨rfl, hwx⟩; subst wx)
    go_roundw
    case rel => exact ⟨i + 1, p', l', m, l, by first | rfl | (congr 1; omega), by omega, hr.out.1, HX.out, hr.out.2.2⟩
    case measure => simp [intOf]; omega
  ·obtain rfl : i = L.length := by omega
   have hx0 : (m, l) = R := by have := hr.out.2.1; rw [List.drop_length] at this; exact this
   obtain ⟨g', c', rfl, _, _, hc1, _⟩ := own_form (own_snoc hr.out.1.prow)
   have hpop := WS.popP rfl hr.out.1
   have hsl := slice_cut (g := g') (m := path.length + 1) (c := c') (f := path.length) hc1 (by omega)
   have p3 := hr.out.1.bp.cell 0 _ rfl
   have p3f := hr.out.1.bp.fz 0
   have l4 := hr.out.1.bl.cell 0 _ rfl
   have l4f := hr.out.1.bl.fz 0
   have hlt := hr.out.1.lts
   obtain ⟨i0, hi0, hz0, hz1, hz2⟩ := info_parts infoI
   have HPO : Hid _ := hpop
   have HLL : Hid (l.length ≤ 100000) := by show _ ≤ _; have := hr.out.2.2.2.1; have := HSUM.out; omega
   have HWM : Hid _ := hr.out.2.2.2.2.1
   have HX : Hid _ := hx0
   clear hpop hx0 hr hmeet HIH
   generalize hP : path.length = P' at *
   have hpl' : (P' : Int) ≤ 100000 := by have := HP.out; omega
   clear HP
   go_wp2_with (at_builtin; go_loud (refine wpList_append_own_at _ rfl _ _ 22 rfl (w0.heap.size + 7) 3 i0 (.int .i64 0) 1 8 Tryz.underlying22 hi0 hz0 hz1 hz2 rfl (by decide) _ _ _ rfl (HPO.out.1.lrow.alloc _) ⟨wr.heap.size, 0, none⟩ 1 1 [intV k] rfl rfl ?c1 ?c2 ?c3 ?c4 ?c5 ?_))
   case c1 => have := cell_one_new (wr.setCell ⟨w0.heap.size + 3, 0, none⟩ (.slice (some ⟨g', 0, none⟩) P' c')) (intV k) 3; simpa [World.setCell] using this
   case c2 => intro u hu; simp at hu; subst hu; rfl
   case c3 => have := HLL.out; unfold maxLen; omega
   case c4 => have := HLL.out; omega
   case c5 => simp [World.setCell]; omega
   intro v2 w2 ho hg _ hat
   obtain ⟨g2, cc2, rfl, _, _, _, _⟩ := own_form ho
   obtain ⟨hS, hV, q3, q4⟩ := (HPO.out.1.below (below_alloc (Below.refl _ _) (.cells #[intV k] 3))).pushL ho hg (by simpa [World.setCell] using hat)
   have HS : Hid _ := hS
   have HV : Hid _ := (HWM.out.trans HPO.out.2).trans ((WM.below (below_alloc (Below.refl _ _) (.cells #[intV k] 3))).trans hV)
   clear hS hV ho hg hat
   go_wp2
   go_ret
   exact ⟨rfl, _, _, by rw [← HX.out]; exact HS.out, HV.out⟩
end Go.Proofs.YtobnpllppohofaaGreatDoor
/- Small facts of the walk, elsewhere. -/
namespace Go.Proofs.YtobnpllppohofaaGreatDoor
end Go.Proofs.YtobnpllppohofaaGreatDoor
/- Rows of rows, and rows compared. -/
namespace Go.Proofs.YtobnpllppohofaaGreatDoor
open Go.RowKit

theorem getD_of {α : Type} {l : List α} {i : Nat} (h : i < l.length) (d : α) : l.getD i d = l[i] := by
 unfold List.getD
 rw [List.getElem?_eq_getElem h]
 rfl
structure NetAt (w : World) (v : Value) (nx : List (List Int)) : Prop where
 row : ∃ kvs : List Value, kvs.length = nx.length ∧ RowAt w v nx.length kvs ∧ ∀ (i : Nat) (r : List Int) (kv : Value), nx[i]? = some r → kvs[i]? = some kv → IntsAt w kv r
theorem NetAt.below {w w' : World} {v : Value} {nx : List (List Int)} (h : NetAt w v nx) (hb : Below w.heap.size w w') : NetAt w' v nx := by
 obtain ⟨kvs, h1, h2, h3⟩ := h.row
 exact ⟨kvs, h1, h2.below hb, fun i r kv e1 e2 => (h3 i r kv e1 e2).below hb⟩
theorem NetAt.form {w : World} {v : Value} {nx : List (List Int)} (h : NetAt w v nx) : ∃ a c, v = .slice a nx.length c ∧ nx.length ≤ 140737488355328 := by
 obtain ⟨_, _, ⟨a, c, hv, hn, _⟩, _⟩ := h.row
 exact ⟨a, c, hv, hn.2⟩
theorem NetAt.get {w : World} {a : Option Addr} {n c : Nat} {nx : List (List Int)} (h : NetAt w (.slice a n c) nx) {i : Nat} (hi : i < nx.length) : ∃ g o ra rc, a = some ⟨g, o, none⟩ ∧ g < w.heap.size ∧ w.cell? ⟨g, o + i, none⟩ = some (.slice ra (nx.getD i []).length rc) ∧ IntsAt w (.slice ra (nx.getD i []).length rc) (nx.getD i []) := by
 obtain ⟨kvs, hl, ⟨a', c', hv, _, hc⟩, hk⟩ := h.row
 cases hv
 rcases hc with h0 | ⟨g, o, ha, hg, hc⟩
 ·omega
 ·have e : nx[i]? = some (nx.getD i []) := by simp [List.getD, List.getElem?_eq_getElem hi]
  have e2 : kvs[i]? = some (kvs[i]'(by omega)) := List.getElem?_eq_getElem _
  have hI := hk i _ _ e e2
  obtain ⟨ra, rc, he, _⟩ := hI.form
  have h2 := hc i _ e2
  rw [he] at h2 hI
  exact ⟨g, o, ra, rc, ha, hg, h2, hI⟩
theorem RowsIn.at' {w : World} {base G n : Nat} {kvs : List Value} {rows : List (List Int)} (h : RowsIn w base G n kvs rows) (hn : n ≤ 140737488355328) (hl : ∀ r ∈ rows, r.length ≤ 140737488355328) : NetAt w (.slice (some ⟨G, 0, none⟩) n n) rows := by
 refine ⟨kvs, by rw [h.klen, h.rlen], ⟨_, _, by rw [h.rlen], ⟨by rw [h.rlen]; omega, by rw [h.rlen]; exact hn⟩, .inr ⟨G, 0, rfl, h.ltG.2, fun j u hj => ?_⟩⟩, fun i r kv e1 e2 => (h.kid i r kv e1 e2).1.at' (hl r (List.mem_of_getElem? e1))⟩
 rw [Nat.zero_add]
 exact h.cellG hj
theorem drewN_add (w : World) (a b : Nat) : (w.drewN a).drewN b = w.drewN (a + b) := by simp [World.drewN, Nat.add_assoc]
theorem below_of_drew {w w' : World} (h : ∃ k, w' = w.drewN k) : Below w.heap.size w w' := by
 obtain ⟨k, rfl⟩ := h
 exact below_drewN (Below.refl _ _) k
theorem take_nextR {α : Type} {xs ys : List α} {i : Nat} {x : α} (h : xs.take i = ys.take i) (h1 : xs[i]? = some x) (h2 : ys[i]? = some x) : xs.take (i + 1) = ys.take (i + 1) := by
 rw [List.take_add_one, List.take_add_one, h, h1, h2]
set_option maxRecDepth 100000 in
set_option maxHeartbeats 1000000 in
theorem sameI_any (xs ys : List Int) (v1 v2 : Value) (w : World) (h1 : IntsAt w v1 xs) (h2 : IntsAt w v2 ys) : Calls Tryz.prog 10 #[v1, v2] w fun e w' => e = .returned (.bool (decide (xs = ys))) ∧ ∃ k, w' = w.drewN k := by
 obtain ⟨a1, c1, rfl, hb1⟩ := h1.form
 obtain ⟨a2, c2, rfl, hb2⟩ := h2.form
 by_cases hl : xs.length = ys.length
 ·have HI : Hid (∀ i, i < xs.length → ∃ g1 o1 g2 o2 x y, a1 = some ⟨g1, o1, none⟩ ∧ a2 = some ⟨g2, o2, none⟩ ∧ xs[i]? = some x ∧ ys[i]? = some y ∧ w.cell? ⟨g1, o1 + i, none⟩ = some (.int .i64 x) ∧ w.cell? ⟨g2, o2 + i, none⟩ = some (.int .i64 y)) := fun i hi => by
   obtain ⟨g1, o1, e1, l1, k1⟩ := h1.get hi
   obtain ⟨g2, o2, e2, l2, k2⟩ := h2.get (i := i) (by omega)
   exact ⟨g1, o1, g2, o2, _, _, e1, e2, getD_some hi, getD_some (by omega), k1, k2⟩
  have HD : Hid (∀ (i : Nat) (x y : Int), xs[i]? = some x → ys[i]? = some y → x ≠ y → decide (xs = ys) = false) := fun i x y e1 e2 hn => decide_eq_false (fun he => by rw [he, e2] at e1; cases e1; exact hn rfl)
  have HE : Hid (xs.take xs.length = ys.take xs.length → decide (xs = ys) = true) := fun he => decide_eq_true (by rw [List.take_length, hl, List.take_length] at he; exact he)
  have hl' : (ys.length : Int) = (xs.length : Int) := by omega
  generalize hN : xs.length = n at *
  obtain ⟨R, hR⟩ : ∃ R, R = decide (xs = ys) := ⟨_, rfl⟩
  rw [← hR]
  have HR : Hid _ := hR
  clear h1 h2 hR hN hb2
  rw [← hl]
  go_enter Tryz.func10, Tryz.ntmps10
  go_wp2
  go_loopw [5] (fun vi wr => ∃ i : Nat, vi = .int .i64 i ∧ i ≤ n ∧ Hid (xs.take i = ys.take i ∧ ∃ k, wr = w.drewN k)) (fun vi _ => n - (intOf vi).toNat)
  case atStart => exact ⟨0, rfl, by omega, rfl, 0, rfl⟩
  case round =>
   obtain ⟨i, rfl, hi, hr⟩ := hrel
   obtain ⟨q, hq⟩ := hr.out.2
   have HQ : Hid (wr = w.drewN q) := hq
   clear hq
   by_cases hin : i < n
   ·obtain ⟨g1, o1, g2, o2, x, y, rfl, rfl, e1, e2, k1, k2⟩ := HI.out i hin
    have k1' : wr.cell? ⟨g1, o1 + i, none⟩ = some (.int .i64 x) := by rw [HQ.out]; exact k1
    have k2' : wr.cell? ⟨g2, o2 + i, none⟩ = some (.int .i64 y) := by rw [HQ.out]; exact k2
    have hin' : (i : Int) < n := by omega
    have E1 : Hid _ := e1
    have E2 : Hid _ := e2
    clear HI e1 e2
    by_cases hxy : x = y
    ·subst hxy
     have HT : Hid _ := take_next hr.out.1 E1.out E2.out
     clear E1 E2 hr
     go_wp2
     go_quiet (fail)
     go_wp2
     go_roundw
     case rel => exact ⟨i + 1, by first | rfl | (congr 1; omega), by omega, HT.out, by first | exact ⟨_, HQ.out⟩ | exact ⟨_, by rw [HQ.out]; exact drewN_add _ _ _⟩⟩
     case measure => simp [intOf]; omega
    ·have HX : Hid (R = false) := HR.out.trans (HD.out i x y E1.out E2.out hxy)
     clear E1 E2 hr
     go_wp2
     go_quiet (fail)
     go_wp2
     go_ret
     exact ⟨ret_bool HX.out.symm, by first | exact ⟨_, HQ.out⟩ | exact ⟨_, by rw [HQ.out]; exact drewN_add _ _ _⟩⟩
   ·obtain rfl : i = n := by omega
    have HX : Hid (R = true) := HR.out.trans (HE.out hr.out.1)
    clear HI hr
    go_wp2
    go_ret
    exact ⟨ret_bool HX.out.symm, by first | exact ⟨_, HQ.out⟩ | exact ⟨_, by rw [HQ.out]; exact drewN_add _ _ _⟩⟩
 ·have hne : decide (xs = ys) = false := decide_eq_false (fun he => hl (by rw [he]))
  rw [hne]
  have hl' : ¬ (xs.length : Int) = (ys.length : Int) := by omega
  clear h1 h2 hl hne
  go_enter Tryz.func10, Tryz.ntmps10
  go_wp2
  go_ret
  exact ⟨rfl, 0, rfl⟩
theorem getR_some {l : List (List Int)} {i : Nat} (h : i < l.length) : l[i]? = some (l.getD i []) := by rw [List.getElem?_eq_getElem h, getD_of h]
theorem IntsAt.drew {w : World} {v : Value} {l : List Int} (h : IntsAt w v l) (k : Nat) : IntsAt (w.drewN k) v l := h.below (below_drewN (Below.refl _ _) k)
set_option maxRecDepth 100000 in
set_option maxHeartbeats 1000000 in
theorem sameR_any (xs ys : List (List Int)) (v1 v2 : Value) (w : World) (h1 : NetAt w v1 xs) (h2 : NetAt w v2 ys) : Calls Tryz.prog 21 #[v1, v2] w fun e w' => e = .returned (.bool (decide (xs = ys))) ∧ ∃ k, w' = w.drewN k := by
 obtain ⟨a1, c1, rfl, hb1⟩ := h1.form
 obtain ⟨a2, c2, rfl, hb2⟩ := h2.form
 by_cases hl : xs.length = ys.length
 ·have HI : Hid (∀ i, i < xs.length → ∃ g1 o1 g2 o2 x y q1 q2, a1 = some ⟨g1, o1, none⟩ ∧ a2 = some ⟨g2, o2, none⟩ ∧ xs[i]? = some x ∧ ys[i]? = some y ∧ w.cell? ⟨g1, o1 + i, none⟩ = some q1 ∧ w.cell? ⟨g2, o2 + i, none⟩ = some q2 ∧ IntsAt w q1 x ∧ IntsAt w q2 y) := fun i hi => by
   obtain ⟨g1, o1, r1, s1, e1, l1, k1, i1⟩ := h1.get hi
   obtain ⟨g2, o2, r2, s2, e2, l2, k2, i2⟩ := h2.get (i := i) (by omega)
   exact ⟨g1, o1, g2, o2, _, _, _, _, e1, e2, getR_some hi, getR_some (by omega), k1, k2, i1, i2⟩
  have HD : Hid (∀ (i : Nat) (x y : List Int), xs[i]? = some x → ys[i]? = some y → x ≠ y → decide (xs = ys) = false) := fun i x y e1 e2 hn => decide_eq_false (fun he => by rw [he, e2] at e1; cases e1; exact hn rfl)
  have HE : Hid (xs.take xs.length = ys.take xs.length → decide (xs = ys) = true) := fun he => decide_eq_true (by rw [List.take_length, hl, List.take_length] at he; exact he)
  have hl' : (ys.length : Int) = (xs.length : Int) := by omega
  generalize hN : xs.length = n at *
  obtain ⟨R, hR⟩ : ∃ R, R = decide (xs = ys) := ⟨_, rfl⟩
  rw [← hR]
  have HR : Hid _ := hR
  clear h1 h2 hR hN hb2
  rw [← hl]
  go_enter Tryz.func21, Tryz.ntmps21
  go_wp2
  go_loopw [5] (fun vi wr => ∃ i : Nat, vi = .int .i64 i ∧ i ≤ n ∧ Hid (xs.take i = ys.take i ∧ ∃ k, wr = w.drewN k)) (fun vi _ => n - (intOf vi).toNat)
  case atStart => exact ⟨0, rfl, by omega, rfl, 0, rfl⟩
  case round =>
   obtain ⟨i, rfl, hi, hr⟩ := hrel
   obtain ⟨q, hq⟩ := hr.out.2
   have HQ : Hid (wr = w.drewN q) := hq
   clear hq
   by_cases hin : i < n
   ·obtain ⟨g1, o1, g2, o2, x, y, q1, q2, rfl, rfl, e1, e2, k1, k2, i1, i2⟩ := HI.out i hin
    have k1' : wr.cell? ⟨g1, o1 + i, none⟩ = some q1 := by rw [HQ.out]; exact k1
    have k2' : wr.cell? ⟨g2, o2 + i, none⟩ = some q2 := by rw [HQ.out]; exact k2
    have hin' : (i : Int) < n := by omega
    have E1 : Hid _ := e1
    have E2 : Hid _ := e2
    have HC : Hid (∀ k, Calls Tryz.prog 10 #[q1, q2] (wr.drewN k) fun e w' => e = .returned (.bool (decide (x = y))) ∧ ∃ d, w' = (wr.drewN k).drewN d) := fun k => sameI_any _ _ _ _ _ (by rw [HQ.out]; exact (i1.drew q).drew k) (by rw [HQ.out]; exact (i2.drew q).drew k)
    clear HI e1 e2 i1 i2 k1 k2
    by_cases hxy : x = y
    ·subst hxy
     rw [decide_eq_true rfl] at HC
     have HT : Hid _ := take_nextR hr.out.1 E1.out E2.out
     clear E1 E2 hr
     go_wp2
     go_quiet ((go_at_call 10; exact Calls.quiet_of (HC.out _)))
     go_wp2
     go_roundw
     case rel => exact ⟨i + 1, by first | rfl | (congr 1; omega), by omega, HT.out, by first | exact ⟨_, HQ.out⟩ | exact ⟨_, by rw [HQ.out]; exact drewN_add _ _ _⟩⟩
     case measure => simp [intOf]; omega
    ·have HX : Hid (R = false) := HR.out.trans (HD.out i x y E1.out E2.out hxy)
     rw [decide_eq_false hxy] at HC
     clear E1 E2 hr
     go_wp2
     go_quiet ((go_at_call 10; exact Calls.quiet_of (HC.out _)))
     go_wp2
     go_ret
     exact ⟨ret_bool HX.out.symm, by first | exact ⟨_, HQ.out⟩ | exact ⟨_, by rw [HQ.out]; exact drewN_add _ _ _⟩⟩
   ·obtain rfl : i = n := by omega
    have HX : Hid (R = true) := HR.out.trans (HE.out hr.out.1)
    clear HI hr
    go_wp2
    go_ret
    exact ⟨ret_bool HX.out.symm, by first | exact ⟨_, HQ.out⟩ | exact ⟨_, by rw [HQ.out]; exact drewN_add _ _ _⟩⟩
 ·have hne : decide (xs = ys) = false := decide_eq_false (fun he => hl (by rw [he]))
  rw [hne]
  have hl' : ¬ (xs.length : Int) = (ys.length : Int) := by omega
  clear h1 h2 hl hne
  go_enter Tryz.func21, Tryz.ntmps21
  go_wp2
  go_ret
  exact ⟨rfl, 0, rfl⟩
end Go.Proofs.YtobnpllppohofaaGreatDoor
