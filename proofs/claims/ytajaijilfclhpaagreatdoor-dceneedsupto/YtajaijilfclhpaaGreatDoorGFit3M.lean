/- The document's side: for each block those with an edge to it. -/
import Derived.Test.YtajaijilfclhpaaGreatDoorGFit4M
import Derived.Test.YtajaijilfclhpaaGreatDoorGStepM
import Derived.Test.YtajaijilfclhpaaGreatDoorGScalRM
import Derived.Lib.QuietBelow
namespace Go.Proofs.YtajaijilfclhpaaGreatDoor
open Go.RowKit

theorem RowsIn.mono {w : World} {base base' G n : Nat} {kvs : List Value} {rows : List (List Int)} (h : RowsIn w base G n kvs rows) (hb : base' ≤ base) : RowsIn w base' G n kvs rows :=
 ⟨h.klen, h.rlen, own_mono h.own hb, fun i r kv h1 h2 => ⟨own_mono (h.kid i r kv h1 h2).1 hb, (h.kid i r kv h1 h2).2⟩, h.apart⟩
set_option maxRecDepth 100000 in
set_option maxHeartbeats 2000000 in
theorem rahead_any (G : Gr) (pv vv av bv : Value) (w : World) (h : GrAt w pv vv av bv G) (hn : G.blocks.length ≤ 100000) :
  Calls Tryz.prog 123 #[.agg #[.string G.name, pv, .int .u8 G.result, vv, av, bv]] w fun e w' => ∃ kvs, e = .returned (.slice (some ⟨w.heap.size + 1, 0, none⟩) G.blocks.length G.blocks.length) ∧ RowsIn w' w.heap.size (w.heap.size + 1) G.blocks.length kvs (aheadT (tms G.blocks)) ∧ Below w.heap.size w w' := by
 obtain ⟨nm, ps, r, vs, ars, bs⟩ := G
 have hB := h.bs
 obtain ⟨pa, pc, va0, vc0, aa, ac, ba0, bc0, rfl, rfl, rfl, hbv, _, _, _, _⟩ := h.openF
 clear hbv
 dsimp only at hB hn ⊢
 clear h
 obtain ⟨a, c, rfl, _⟩ := hB.form
 have HI : Hid (∀ i, i < bs.length → _) := fun i hi => hB.get hi
 have HT : Hid (∀ i, i < bs.length → (tms bs).getD i default = (bs.getD i default).tm) := fun i hi => tms_getD hi
 obtain ⟨n, hnn⟩ : ∃ n, n = bs.length := ⟨_, rfl⟩
 have htl : (tms bs).length = n := by simp [tms, hnn]
 rw [← hnn] at HI hn HT
 rw [← hnn]
 have hmk := run_make_row' (P := Tryz.prog) 76 22 (.slice none 0 0) 24 Tryz.underlying76 infoS rfl .i64 .i64 n (by omega) (by omega)
 obtain ⟨ts, hts⟩ : ∃ ts, ts = tms bs := ⟨_, rfl⟩
 rw [← hts] at htl HT
 rw [← hts]
 obtain ⟨R, hR⟩ : ∃ R, R = aheadT ts := ⟨_, rfl⟩
 rw [← hR]
 have HR : Hid (aheadF (ts.drop 0) 0 (List.replicate n []) = R) := by show _ = _; rw [hR, List.drop_zero, aheadT, htl]
 have HTL : Hid (ts.length = n) := htl
 generalize ps.length = pl at *
 generalize vs.length = m at *
 generalize ars.length = al at *
 have HRN : Hid (RowsIn ((w.alloc (.cells #[.string nm, .slice pa pl pc, .int .u8 r, .slice va0 m vc0, .slice aa al ac, .slice a n c] 28)).alloc (.cells (madeCells #[.slice none 0 0] n) 22)) (w.heap.size + 1) (w.heap.size + 1) n (List.replicate n (.slice none 0 0)) (List.replicate n [])) := by
  have hsz : (w.alloc (.cells #[.string nm, .slice pa pl pc, .int .u8 r, .slice va0 m vc0, .slice aa al ac, .slice a n c] 28)).heap.size = w.heap.size + 1 := by simp
  have := rows_new (w.alloc (.cells #[.string nm, .slice pa pl pc, .int .u8 r, .slice va0 m vc0, .slice aa al ac, .slice a n c] 28)) (w.heap.size + 1) n (by rw [hsz]; exact Nat.le_refl _) (by omega)
  rwa [hsz] at this
 have H0 : Hid (Box ((w.alloc (.cells #[.string nm, .slice pa pl pc, .int .u8 r, .slice va0 m vc0, .slice aa al ac, .slice a n c] 28)).alloc (.cells (madeCells #[.slice none 0 0] n) 22)) w.heap.size [.string nm, .slice pa pl pc, .int .u8 r, .slice va0 m vc0, .slice aa al ac, .slice a n c]) := (Box.new w [.string nm, .slice pa pl pc, .int .u8 r, .slice va0 m vc0, .slice aa al ac, .slice a n c] 28).below (below_alloc (Below.refl _ _) _)
 obtain ⟨i0, hi0, hz0, hz1, hz2⟩ := info_parts infoI
 clear hnn htl hts hR hB
 go_enter Tryz.func123, Tryz.ntmps123
 go_wp2
 go_loopw [4] (fun vi wr => ∃ (i : Nat) (kvs : List Value) (rows : List (List Int)), vi = .int .i64 i ∧ i ≤ n ∧ Hid (Below w.heap.size w wr ∧ RowsIn wr (w.heap.size + 1) (w.heap.size + 1) n kvs rows ∧ aheadF (ts.drop i) i rows = R ∧ lensA rows ≤ 2 * i ∧ Box wr w.heap.size [.string nm, .slice pa pl pc, .int .u8 r, .slice va0 m vc0, .slice aa al ac, .slice a n c])) (fun vi _ => n - (intOf vi).toNat)
 case atStart => exact ⟨0, _, _, rfl, by omega, below_alloc (below_alloc (Below.refl _ _) _) _, HRN.out, HR.out, by rw [lens_rep]; omega, H0.out⟩
 case round =>
  obtain ⟨i, kvs, rows, rfl, hi, hr⟩ := hrel
  clear HRN HR hmk H0
  generalize wr = wo at *
  obtain ⟨e0, e1, e2, e3, e4, e5⟩ := box6 hr.out.2.2.2.2
  by_cases hin : i < n
  ·obtain ⟨g, o, iv, rfl, hg, c0, c1, c2, c3, c4, c5, hins⟩ := HI.out i hin
   obtain ⟨ia, ic, rfl, _⟩ := hins.form
   clear hins
   generalize hil : (bs.getD i default).ins.length = il at *
   have hin' : (i : Int) < n := by omega
   have hcl : ∀ j, wo.cell? ⟨g, j, none⟩ = w.cell? ⟨g, j, none⟩ := fun j => hr.out.1.cell (p := ⟨g, j, none⟩) hg
   rw [← hcl] at c0 c1 c2 c3 c4 c5
   have HNX : Hid (∀ W, Calls Tryz.prog 168 #[.agg #[.slice ia il ic, .int .u8 (bs.getD i default).tm.kind, .int .i64 (bs.getD i default).tm.arg, .int .i64 (bs.getD i default).tm.t0, .int .i64 (bs.getD i default).tm.t1, .int .u8 (bs.getD i default).tm.trap]] W fun e w' => ∃ v, e = .returned v ∧ OwnI w' W.heap.size v (nextT (bs.getD i default).tm) ∧ Below W.heap.size W w') := fun W => rnext_any (.slice ia il ic) (bs.getD i default).tm W
   have hlen := next_len (bs.getD i default).tm
   have HDA : Hid _ := drop_ahead (ts := ts) (i := i) (by rw [HTL.out]; exact hin) rows
   rw [HT.out i hin] at HDA
   generalize nextT (bs.getD i default).tm = L at *
   generalize (bs.getD i default).tm.kind = t0 at *
   generalize (bs.getD i default).tm.arg = t1 at *
   generalize (bs.getD i default).tm.t0 = t2 at *
   generalize (bs.getD i default).tm.t1 = t3 at *
   generalize (bs.getD i default).tm.trap = t4 at *
   obtain ⟨R2, hR2⟩ : ∃ R2, R2 = L.foldl (putA (i : Int)) rows := ⟨_, rfl⟩
   rw [← hR2] at HDA
   have HR2 : Hid (L.foldl (putA (i : Int)) rows = R2) := hR2.symm
   clear hR2 hcl HI hil
   go_wp2_with (go_at_call 168; go_loud (refine Calls.mono (by exact HNX.out _) ?_; rintro e w1 ⟨v, rfl, ho1, hb1⟩; obtain ⟨va, vc, rfl, _⟩ := (OwnI.at' ho1 (by omega)).form; have HO1 : Hid (OwnI w1 wo.heap.size (.slice va L.length vc) L) := ho1; have HB1 : Hid (Below wo.heap.size wo w1) := hb1; clear ho1 hb1))
   go_loopw [6] (fun vk wq => ∃ (k : Nat) (kvs : List Value) (rows : List (List Int)), vk = .int .i64 k ∧ k ≤ L.length ∧ Hid (Below w.heap.size w wq ∧ RowsIn wq (w.heap.size + 1) (w.heap.size + 1) n kvs rows ∧ (L.drop k).foldl (putA (i : Int)) rows = R2 ∧ lensA rows ≤ 2 * i + k ∧ OwnI wq wo.heap.size (.slice va L.length vc) L ∧ (∀ q, (Value.slice va L.length vc).ownBlock = some q → ∀ kv ∈ kvs, kv.ownBlock ≠ some q) ∧ Box wq w.heap.size [.string nm, .slice pa pl pc, .int .u8 r, .slice va0 m vc0, .slice aa al ac, .slice (some ⟨g, o, none⟩) n c])) (fun vk _ => L.length - (intOf vk).toNat)
   case atStart =>
    refine ⟨0, kvs, rows, rfl, by omega, below_trans hr.out.1 HB1.out, hr.out.2.1.below HB1.out, HR2.out, hr.out.2.2.2.1, HO1.out, ?_, hr.out.2.2.2.2.below HB1.out⟩
    intro q hq kv hkv hc
    obtain ⟨j, hj, he⟩ := List.mem_iff_getElem.1 hkv
    have hjr : j < rows.length := by rw [hr.out.2.1.rlen, ← hr.out.2.1.klen]; exact hj
    have h1 := (hr.out.2.1.kid j _ kv (List.getElem?_eq_getElem hjr) (by rw [List.getElem?_eq_getElem hj, he])).1
    have := (h1.lt q hc).2
    have := (HO1.out.lt q hq).1
    omega
   case round =>
    obtain ⟨k, kvs2, rows2, rfl, hk, hq⟩ := hrel
    clear HB1 HO1 HR2 e0 e1 e2 e3 e4 e5 c0 c1 c2 c3 c4 c5
    have HWR : Hid (w.heap.size + 1 < wo.heap.size) := hr.out.2.1.ltG.2
    by_cases hkn : k < L.length
    ·obtain ⟨gv, ov, rfl, hgv, cv⟩ := (OwnI.at' hq.out.2.2.2.2.1 (by omega)).get hkn
     have HD : Hid _ := drop_fold hkn rows2 (putA (i : Int))
     have hkn' : (k : Int) < L.length := by omega
     generalize hto : L.getD k 0 = to at *
     have HPL : Hid (∀ W, Calls Tryz.prog 118 #[.int .i64 to, .int .i64 (n : Int)] W fun e w' => e = .returned (.bool (inB to n)) ∧ w' = W) := fun W => rin_any to n W
     have hrl := hq.out.2.1.rlen
     have hkl := hq.out.2.1.klen
     by_cases hb : inB to n = true
     ·obtain ⟨t, ht⟩ : ∃ t : Nat, to = (t : Int) := Int.eq_ofNat_of_zero_le (inB_iff.1 hb).1
      subst ht
      have htn : t < n := by have := (inB_iff.1 hb).2; omega
      have htn' : (t : Int) < n := by omega
      have er : rows2[t]? = some (rows2[t]'(by omega)) := List.getElem?_eq_getElem _
      have ek : kvs2[t]? = some (kvs2[t]'(by omega)) := List.getElem?_eq_getElem _
      have hrm : rows2[t]'(by omega) ∈ rows2 := List.getElem_mem _
      have hkm : kvs2[t]'(by omega) ∈ kvs2 := List.getElem_mem _
      generalize rows2[t]'(by omega) = rw at er hrm
      generalize kvs2[t]'(by omega) = kv at ek hkm
      obtain ⟨ka, kc, rfl, _⟩ := (OwnI.at' (hq.out.2.1.kid t rw kv er ek).1 (by have := lens_mem hrm; have := hq.out.2.2.2.1; omega)).form
      have hrw : rw.length ≤ 300000 := by have := lens_mem hrm; have := hq.out.2.2.2.1; omega
      have cG := hq.out.2.1.cellG ek
      have fG := hq.out.2.1.fzG t
      rw [hb] at HPL
      have hx0 : (L.drop (k + 1)).foldl (putA (i : Int)) (rows2.modify t (· ++ [(i : Int)])) = R2 := by
       rw [← hq.out.2.2.1, HD.out]
       congr 1
       unfold putA
       rw [hrl, if_pos hb, Int.toNat_natCast]
      have hl0 : lensA (rows2.modify t (· ++ [(i : Int)])) ≤ 2 * i + (k + 1) := by
       rw [lens_modify _ _ _ (by omega)]
       have := hq.out.2.2.2.1
       omega
      have HX : Hid _ := hx0
      have HL0 : Hid _ := hl0
      have HER : Hid _ := er
      have HEK : Hid _ := ek
      have HKM : Hid _ := hkm
      have hwr : w.heap.size + 1 < wr.heap.size := hq.out.2.1.ltG.2
      have HA1 : Hid (Below wr.heap.size wr ((wr.alloc (.cells #[.int .i64 (i : Int)] 3)).drew)) := below_drew (below_alloc (Below.refl _ _) _)
      have hok0 := (hq.out.2.1.kid t rw _ er ek).1
      generalize hrl0 : rw.length = rl at *
      have HOK : Hid (wr.ownsRow (w.heap.size + 1) 3 1 (.slice ka rl kc) rl (rw.map intV)) := by
       have h9 : wr.ownsRow (w.heap.size + 1) 3 1 (.slice ka rl kc) rw.length (rw.map intV) := hok0
       rw [hrl0] at h9
       exact h9
      clear hok0
      have HRL : Hid (rw.length = rl) := hrl0
      clear hrl0
      have HCV : Hid (∀ w2 : World, ((wr.alloc (.cells #[.int .i64 (i : Int)] 3)).drew).grownBy w2 (Value.slice ka rl kc).ownBlock → w2.cell? ⟨gv, ov + k, none⟩ = some (.int .i64 (t : Int))) := fun w2 hg2 => by
       have e1 : w2.heap[gv]? = ((wr.alloc (.cells #[.int .i64 (i : Int)] 3)).drew).heap[gv]? := hg2.block gv (Nat.lt_of_lt_of_le hgv HA1.out.size) (fun e => hq.out.2.2.2.2.2.1 gv rfl _ HKM.out e.symm)
       exact (World.cell?_of_block (w := (wr.alloc (.cells #[.int .i64 (i : Int)] 3)).drew) (a := ⟨gv, ov + k, none⟩) e1).trans ((HA1.out.cell (p := ⟨gv, ov + k, none⟩) hgv).trans cv)
      clear hx0 hl0 er ek hkm hrm hrl hkl hto HD
      go_wp2_with (go_at_call 118; refine Calls.mono (HPL.out _) ?_; rintro e wx ⟨rfl, hwx⟩; subst wx)
      go_region_law (refine step_append_own rfl (.tmp 48) (.tmp 50) 22 rfl (w.heap.size + 1) 3 i0 (.int .i64 0) 1 8 Tryz.underlying22 hi0 hz0 hz1 hz2 rfl (by decide) (.slice ka rl kc) rl (rw.map intV) ?e1 ?e2 ⟨wr.heap.size, 0, none⟩ 1 1 [intV i] ?e3 rfl ?e4 ?e5 ?e6 ?e7 ?e8 ?_; (case e1 => simp [Act.eval]); (case e2 => exact HOK.out.alloc _); (case e3 => simp [Act.eval]); (case e4 => exact cell_one_new wr _ _); (case e5 => intro u hu; simp at hu; subst hu; rfl); (case e6 => unfold maxLen; omega); (case e7 => omega); (case e8 => simp; omega); intro v2 w2 ho hg2 hat; obtain ⟨g2, cc2, rfl, _, _, _, _⟩ := own_form ho; have q5 := HCV.out w2 hg2; obtain ⟨hP, q3, q4, hF, hZ⟩ := (hq.out.2.1.below HA1.out).push HER.out HEK.out (by rw [HRL.out]; exact ho) hg2 (by simpa using hat); have HP : Hid _ := hP; have HF : Hid _ := hF; have HG2 : Hid _ := hg2; have HAT : Hid _ := hat; clear hP hF hZ ho hg2 hat)
      all_goals (try go_wp2)
      all_goals
       have HFR : Hid (Below w.heap.size w (w2.setCell ⟨w.heap.size + 1, t, none⟩ (.slice (some ⟨g2, 0, none⟩) (rl + 1) cc2)) ∧ OwnI (w2.setCell ⟨w.heap.size + 1, t, none⟩ (.slice (some ⟨g2, 0, none⟩) (rl + 1) cc2)) wo.heap.size (.slice (some ⟨gv, ov, none⟩) L.length vc) L ∧ Box (w2.setCell ⟨w.heap.size + 1, t, none⟩ (.slice (some ⟨g2, 0, none⟩) (rl + 1) cc2)) w.heap.size [.string nm, .slice pa pl pc, .int .u8 r, .slice va0 m vc0, .slice aa al ac, .slice (some ⟨g, o, none⟩) n c]) := by
        refine ⟨?_, ?_, ?_⟩
        ·refine below_set ?_ (by omega) _ _
         exact below_grown (below_trans hq.out.1 HA1.out) HG2.out (fun q hqq => Nat.le_trans (Nat.le_succ _) (HOK.out.lt q hqq).1)
        ·refine rows_own_frame (w := (wr.alloc (.cells #[.int .i64 (i : Int)] 3)).drew) (kv := .slice ka rl kc) (owns_below hq.out.2.2.2.2.1 HA1.out) HWR.out (fun q hqq => hq.out.2.2.2.2.2.1 q hqq _ HKM.out) HF.out
        ·refine (hq.out.2.2.2.2.2.2.below HA1.out).same (HF.out w.heap.size (hq.out.2.2.2.2.2.2.below HA1.out).lt (by omega) (fun e => ?_))
         have := (HOK.out.lt _ e).1
         omega
       have HNK : Hid (∀ q, (Value.slice (some ⟨gv, ov, none⟩) L.length vc).ownBlock = some q → ∀ kv ∈ kvs2.set t (.slice (some ⟨g2, 0, none⟩) (rl + 1) cc2), kv.ownBlock ≠ some q) := by
        intro q hqq kv hkv
        rcases List.mem_or_eq_of_mem_set hkv with hkv | rfl
        ·exact hq.out.2.2.2.2.2.1 q hqq kv hkv
        ·rcases HAT.out with e | e
         ·rw [e]; exact hq.out.2.2.2.2.2.1 q hqq _ HKM.out
         ·rw [e]
          intro hc
          cases hc
          have := (hq.out.2.2.2.2.1.lt _ hqq).2
          have h7 := HA1.out.size
          omega
      all_goals (go_roundw; (case rel => exact ⟨k + 1, _, _, by first | rfl | (congr 1; omega), by omega, HFR.out.1, HP.out, HX.out, HL0.out, HFR.out.2.1, HNK.out, HFR.out.2.2⟩); (case measure => simp [intOf]; omega))
     ·have hbf : inB to n = false := by simpa using hb
      rw [hbf] at HPL
      have hx0 : (L.drop (k + 1)).foldl (putA (i : Int)) rows2 = R2 := by
       rw [← hq.out.2.2.1, HD.out]
       congr 1
       unfold putA
       rw [hrl, if_neg (by rw [hbf]; simp)]
      have HX : Hid _ := hx0
      clear hx0 HD hto
      go_wp2_with (go_at_call 118; refine Calls.mono (HPL.out _) ?_; rintro e wx ⟨rfl, hwx⟩; subst wx)
      go_roundw
      case rel => exact ⟨k + 1, kvs2, rows2, by first | rfl | (congr 1; omega), by omega, hq.out.1, hq.out.2.1, HX.out, by have := hq.out.2.2.2.1; omega, hq.out.2.2.2.2⟩
      case measure => simp [intOf]; omega
    ·obtain rfl : k = L.length := by omega
     have hx0 : rows2 = R2 := by have := hq.out.2.2.1; rw [List.drop_length] at this; exact this
     have HX : Hid _ := hx0
     clear hx0
     go_wp2
     go_roundw
     case rel => exact ⟨i + 1, kvs2, rows2, by first | rfl | (congr 1; omega), by omega, hq.out.1, hq.out.2.1, by rw [HX.out, ← HDA.out]; exact hr.out.2.2.1, by have := hq.out.2.2.2.1; omega, hq.out.2.2.2.2.2.2⟩
     case measure => simp [intOf]; omega
  ·obtain rfl : i = n := by omega
   have hfin : rows = R := by have := hr.out.2.2.1; rw [← HTL.out, List.drop_length] at this; exact this
   have HFI : Hid _ := hfin
   clear HI hfin
   go_wp2
   go_ret
   exact ⟨kvs, rfl, by rw [← HFI.out]; exact hr.out.2.1.mono (Nat.le_succ _), hr.out.1⟩
end Go.Proofs.YtajaijilfclhpaaGreatDoor
/- Types of loads, stores and clears. -/
namespace Go.Proofs.YtajaijilfclhpaaGreatDoor
open Go.RowKit Go.Sort

def arrOkB (vars : List Int) (t : Int) (x : In) : Bool :=
 if x.kind = 6 then isOfB vars (x.args.getD 0 0) 4 && isOfB vars x.dst t
 else if x.kind = 7 then isOfB vars (x.args.getD 0 0) 4 && isOfB vars (x.args.getD 1 0) t
 else true
set_option maxRecDepth 100000 in
set_option maxHeartbeats 2000000 in
theorem fitsArr_any (G : Gr) (pv vv av bv : Value) (x : In) (xv : Value) (t : Int) (w : World) (h : GrAt w pv vv av bv G) (hA : IntsAt w xv x.args) (h6 : x.kind = 6 → x.args.length = 1) (h7 : x.kind = 7 → x.args.length = 2) :
  Calls Tryz.prog 203 #[.agg #[.string G.name, pv, .int .u8 G.result, vv, av, bv], inV x xv, .int .u8 t] w fun e w' => e = .returned (.bool (arrOkB G.vars t x)) ∧ Below w.heap.size w w' := by
 have HOF : Hid (∀ v t W, Below w.heap.size w W → Calls Tryz.prog 191 #[.agg #[.string G.name, pv, .int .u8 G.result, vv, av, bv], .int .i64 v, .int .u8 t] W fun e w' => e = .returned (.bool (isOfB G.vars v t)) ∧ Below W.heap.size W w') := fun v t W hb => isOf_any G pv vv av bv v t W (h.below hb)
 obtain ⟨pa, pc, va, vc, aa, ac, ba, bc, rfl, rfl, rfl, rfl, _, _, _, _⟩ := h.openF
 obtain ⟨xa, xc, rfl, hxl⟩ := hA.form
 obtain ⟨kind, op, dst, args, bits, ref⟩ := x
 dsimp only at *
 unfold arrOkB
 dsimp only
 clear h
 generalize G.name = nm at *
 generalize G.params.length = pl at *
 generalize G.vars.length = vl at *
 generalize G.arrs.length = al at *
 generalize G.blocks.length = bl at *
 generalize G.result = r at *
 by_cases k6 : kind = 6
 ·subst k6
  simp only [if_true]
  obtain ⟨ga, oa, rfl, hga, ca⟩ := hA.get (i := 0) (by have := h6 rfl; omega)
  rw [Nat.add_zero] at ca
  have hl0 : (0 : Int) < args.length := by have := h6 rfl; omega
  have HO1 : Hid _ := HOF.out (args.getD 0 0) 4
  have HO2 : Hid _ := HOF.out dst t
  generalize args.getD 0 0 = v0 at *
  have hm := h6 rfl
  rw [hm]
  clear hm hl0
  have HB0 : Hid (Below w.heap.size w ((w.alloc (.cells #[.string nm, .slice pa pl pc, .int .u8 r, .slice va vl vc, .slice aa al ac, .slice ba bl bc] 28)).alloc (.cells #[.int .u8 6, .int .u8 op, .int .i64 dst, .slice (some ⟨ga, oa, none⟩) 1 xc, .int .u64 bits, .int .i64 ref] 55)) ∧ Duo w.heap.size [.string nm, .slice pa pl pc, .int .u8 r, .slice va vl vc, .slice aa al ac, .slice ba bl bc] [.int .u8 6, .int .u8 op, .int .i64 dst, .slice (some ⟨ga, oa, none⟩) 1 xc, .int .u64 bits, .int .i64 ref] ((w.alloc (.cells #[.string nm, .slice pa pl pc, .int .u8 r, .slice va vl vc, .slice aa al ac, .slice ba bl bc] 28)).alloc (.cells #[.int .u8 6, .int .u8 op, .int .i64 dst, .slice (some ⟨ga, oa, none⟩) 1 xc, .int .u64 bits, .int .i64 ref] 55))) := ⟨below_alloc (below_alloc (Below.refl _ _) _) _, Duo.new w [.string nm, .slice pa pl pc, .int .u8 r, .slice va vl vc, .slice aa al ac, .slice ba bl bc] [.int .u8 6, .int .u8 op, .int .i64 dst, .slice (some ⟨ga, oa, none⟩) 1 xc, .int .u64 bits, .int .i64 ref] 28 55⟩
  generalize isOfB G.vars v0 4 = b1 at *
  generalize isOfB G.vars dst t = b2 at *
  clear h6 h7 hA HOF hxl
  cases b1 with
  | false =>
   go_enter Tryz.func203, Tryz.ntmps203
   go_wp2
   obtain ⟨W, hW⟩ : ∃ W, W = ((w.alloc (.cells #[.string nm, .slice pa pl pc, .int .u8 r, .slice va vl vc, .slice aa al ac, .slice ba bl bc] 28)).alloc (.cells #[.int .u8 6, .int .u8 op, .int .i64 dst, .slice (some ⟨ga, oa, none⟩) 1 xc, .int .u64 bits, .int .i64 ref] 55)) := ⟨_, rfl⟩
   rw [← hW] at HB0 ⊢
   clear hW
   obtain ⟨e0, e1, e2, e3, e4, e5⟩ := box6 HB0.out.2.g
   obtain ⟨x0, x1, x2, x3, x4, x5⟩ := box6 HB0.out.2.t
   have ke0 := cell_regrown e0
   have ke1 := cell_regrown e1
   have ke2 := cell_regrown e2
   have ke3 := cell_regrown e3
   have ke4 := cell_regrown e4
   have ke5 := cell_regrown e5
   have kx0 := cell_regrown x0
   have kx1 := cell_regrown x1
   have kx2 := cell_regrown x2
   have kx3 := cell_regrown x3
   have kx4 := cell_regrown x4
   have kx5 := cell_regrown x5
   have kca := cell_regrown ((HB0.out.1.cell (p := ⟨ga, oa, none⟩) hga).trans ca)
   have C1 : ∀ d os, _ := fun d os => Calls.regrown_of (HO1.out _ (below_trans HB0.out.1 (below_regrown W d os)))
   have C2 : ∀ d os, _ := fun d os => Calls.regrown_of (HO2.out _ (below_trans HB0.out.1 (below_regrown W d os)))
   have D1 : Hid _ := C1
   have D2 : Hid _ := C2
   clear C1 C2 e0 e1 e2 e3 e4 e5 x0 x1 x2 x3 x4 x5 ca
   refine wp_region_quiet_below (by kernel_rfl) (by kernel_rfl) ?_
   repeat (go_big_quiet_step ((with_reducible exact D1.out _ _)))
   refine wpQuiet_nil ?_
   intro _ hw'
   obtain ⟨⟨dq, osq⟩, hw''⟩ := hw'
   subst hw''
   go_wp2
   go_ret
   exact ⟨ret_bool (by simp), below_trans HB0.out.1 (below_regrown W dq osq)⟩
  | true =>
   go_enter Tryz.func203, Tryz.ntmps203
   go_wp2
   obtain ⟨W, hW⟩ : ∃ W, W = ((w.alloc (.cells #[.string nm, .slice pa pl pc, .int .u8 r, .slice va vl vc, .slice aa al ac, .slice ba bl bc] 28)).alloc (.cells #[.int .u8 6, .int .u8 op, .int .i64 dst, .slice (some ⟨ga, oa, none⟩) 1 xc, .int .u64 bits, .int .i64 ref] 55)) := ⟨_, rfl⟩
   rw [← hW] at HB0 ⊢
   clear hW
   obtain ⟨e0, e1, e2, e3, e4, e5⟩ := box6 HB0.out.2.g
   obtain ⟨x0, x1, x2, x3, x4, x5⟩ := box6 HB0.out.2.t
   have ke0 := cell_regrown e0
   have ke1 := cell_regrown e1
   have ke2 := cell_regrown e2
   have ke3 := cell_regrown e3
   have ke4 := cell_regrown e4
   have ke5 := cell_regrown e5
   have kx0 := cell_regrown x0
   have kx1 := cell_regrown x1
   have kx2 := cell_regrown x2
   have kx3 := cell_regrown x3
   have kx4 := cell_regrown x4
   have kx5 := cell_regrown x5
   have kca := cell_regrown ((HB0.out.1.cell (p := ⟨ga, oa, none⟩) hga).trans ca)
   have C1 : ∀ d os, _ := fun d os => Calls.regrown_of (HO1.out _ (below_trans HB0.out.1 (below_regrown W d os)))
   have C2 : ∀ d os, _ := fun d os => Calls.regrown_of (HO2.out _ (below_trans HB0.out.1 (below_regrown W d os)))
   have D1 : Hid _ := C1
   have D2 : Hid _ := C2
   clear C1 C2 e0 e1 e2 e3 e4 e5 x0 x1 x2 x3 x4 x5 ca
   refine wp_region_quiet_below (by kernel_rfl) (by kernel_rfl) ?_
   repeat (go_big_quiet_step ((first | with_reducible exact D1.out _ _ | with_reducible exact D2.out _ _)))
   refine wpQuiet_nil ?_
   intro _ hw'
   obtain ⟨⟨dq, osq⟩, hw''⟩ := hw'
   subst hw''
   go_wp2
   go_ret
   exact ⟨ret_bool (by simp), below_trans HB0.out.1 (below_regrown W dq osq)⟩
 by_cases k7 : kind = 7
 ·subst k7
  simp only [if_true, show ¬ ((7 : Int) = 6) by omega, if_false]
  obtain ⟨ga, oa, rfl, hga, ca⟩ := hA.get (i := 0) (by have := h7 rfl; omega)
  obtain ⟨ga2, oa2, he2, _, cb⟩ := hA.get (i := 1) (by have := h7 rfl; omega)
  cases he2
  rw [Nat.add_zero] at ca
  have hl0 : (0 : Int) < args.length := by have := h7 rfl; omega
  have hl1 : (1 : Int) < args.length := by have := h7 rfl; omega
  have HO1 : Hid _ := HOF.out (args.getD 0 0) 4
  have HO2 : Hid _ := HOF.out (args.getD 1 0) t
  generalize args.getD 0 0 = v0 at *
  generalize args.getD 1 0 = v1 at *
  have hm := h7 rfl
  rw [hm]
  clear hm hl0 hl1
  have HB0 : Hid (Below w.heap.size w ((w.alloc (.cells #[.string nm, .slice pa pl pc, .int .u8 r, .slice va vl vc, .slice aa al ac, .slice ba bl bc] 28)).alloc (.cells #[.int .u8 7, .int .u8 op, .int .i64 dst, .slice (some ⟨ga, oa, none⟩) 2 xc, .int .u64 bits, .int .i64 ref] 55)) ∧ Duo w.heap.size [.string nm, .slice pa pl pc, .int .u8 r, .slice va vl vc, .slice aa al ac, .slice ba bl bc] [.int .u8 7, .int .u8 op, .int .i64 dst, .slice (some ⟨ga, oa, none⟩) 2 xc, .int .u64 bits, .int .i64 ref] ((w.alloc (.cells #[.string nm, .slice pa pl pc, .int .u8 r, .slice va vl vc, .slice aa al ac, .slice ba bl bc] 28)).alloc (.cells #[.int .u8 7, .int .u8 op, .int .i64 dst, .slice (some ⟨ga, oa, none⟩) 2 xc, .int .u64 bits, .int .i64 ref] 55))) := ⟨below_alloc (below_alloc (Below.refl _ _) _) _, Duo.new w [.string nm, .slice pa pl pc, .int .u8 r, .slice va vl vc, .slice aa al ac, .slice ba bl bc] [.int .u8 7, .int .u8 op, .int .i64 dst, .slice (some ⟨ga, oa, none⟩) 2 xc, .int .u64 bits, .int .i64 ref] 28 55⟩
  generalize isOfB G.vars v0 4 = b1 at *
  generalize isOfB G.vars v1 t = b2 at *
  clear h6 h7 hA HOF hxl
  cases b1 with
  | false =>
   go_enter Tryz.func203, Tryz.ntmps203
   go_wp2
   obtain ⟨W, hW⟩ : ∃ W, W = ((w.alloc (.cells #[.string nm, .slice pa pl pc, .int .u8 r, .slice va vl vc, .slice aa al ac, .slice ba bl bc] 28)).alloc (.cells #[.int .u8 7, .int .u8 op, .int .i64 dst, .slice (some ⟨ga, oa, none⟩) 2 xc, .int .u64 bits, .int .i64 ref] 55)) := ⟨_, rfl⟩
   rw [← hW] at HB0 ⊢
   clear hW
   obtain ⟨e0, e1, e2, e3, e4, e5⟩ := box6 HB0.out.2.g
   obtain ⟨x0, x1, x2, x3, x4, x5⟩ := box6 HB0.out.2.t
   have ke0 := cell_regrown e0
   have ke1 := cell_regrown e1
   have ke2 := cell_regrown e2
   have ke3 := cell_regrown e3
   have ke4 := cell_regrown e4
   have ke5 := cell_regrown e5
   have kx0 := cell_regrown x0
   have kx1 := cell_regrown x1
   have kx2 := cell_regrown x2
   have kx3 := cell_regrown x3
   have kx4 := cell_regrown x4
   have kx5 := cell_regrown x5
   have kca := cell_regrown ((HB0.out.1.cell (p := ⟨ga, oa, none⟩) hga).trans ca)
   have kcb := cell_regrown ((HB0.out.1.cell (p := ⟨ga, oa + 1, none⟩) hga).trans cb)
   have C1 : ∀ d os, _ := fun d os => Calls.regrown_of (HO1.out _ (below_trans HB0.out.1 (below_regrown W d os)))
   have C2 : ∀ d os, _ := fun d os => Calls.regrown_of (HO2.out _ (below_trans HB0.out.1 (below_regrown W d os)))
   have D1 : Hid _ := C1
   have D2 : Hid _ := C2
   clear C1 C2 e0 e1 e2 e3 e4 e5 x0 x1 x2 x3 x4 x5 ca cb
   refine wp_region_quiet_below (by kernel_rfl) (by kernel_rfl) ?_
   repeat (go_big_quiet_step ((with_reducible exact D1.out _ _)))
   refine wpQuiet_nil ?_
   intro _ hw'
   obtain ⟨⟨dq, osq⟩, hw''⟩ := hw'
   subst hw''
   go_wp2
   go_ret
   exact ⟨ret_bool (by simp), below_trans HB0.out.1 (below_regrown W dq osq)⟩
  | true =>
   go_enter Tryz.func203, Tryz.ntmps203
   go_wp2
   obtain ⟨W, hW⟩ : ∃ W, W = ((w.alloc (.cells #[.string nm, .slice pa pl pc, .int .u8 r, .slice va vl vc, .slice aa al ac, .slice ba bl bc] 28)).alloc (.cells #[.int .u8 7, .int .u8 op, .int .i64 dst, .slice (some ⟨ga, oa, none⟩) 2 xc, .int .u64 bits, .int .i64 ref] 55)) := ⟨_, rfl⟩
   rw [← hW] at HB0 ⊢
   clear hW
   obtain ⟨e0, e1, e2, e3, e4, e5⟩ := box6 HB0.out.2.g
   obtain ⟨x0, x1, x2, x3, x4, x5⟩ := box6 HB0.out.2.t
   have ke0 := cell_regrown e0
   have ke1 := cell_regrown e1
   have ke2 := cell_regrown e2
   have ke3 := cell_regrown e3
   have ke4 := cell_regrown e4
   have ke5 := cell_regrown e5
   have kx0 := cell_regrown x0
   have kx1 := cell_regrown x1
   have kx2 := cell_regrown x2
   have kx3 := cell_regrown x3
   have kx4 := cell_regrown x4
   have kx5 := cell_regrown x5
   have kca := cell_regrown ((HB0.out.1.cell (p := ⟨ga, oa, none⟩) hga).trans ca)
   have kcb := cell_regrown ((HB0.out.1.cell (p := ⟨ga, oa + 1, none⟩) hga).trans cb)
   have C1 : ∀ d os, _ := fun d os => Calls.regrown_of (HO1.out _ (below_trans HB0.out.1 (below_regrown W d os)))
   have C2 : ∀ d os, _ := fun d os => Calls.regrown_of (HO2.out _ (below_trans HB0.out.1 (below_regrown W d os)))
   have D1 : Hid _ := C1
   have D2 : Hid _ := C2
   clear C1 C2 e0 e1 e2 e3 e4 e5 x0 x1 x2 x3 x4 x5 ca cb
   refine wp_region_quiet_below (by kernel_rfl) (by kernel_rfl) ?_
   repeat (go_big_quiet_step ((first | with_reducible exact D1.out _ _ | with_reducible exact D2.out _ _)))
   refine wpQuiet_nil ?_
   intro _ hw'
   obtain ⟨⟨dq, osq⟩, hw''⟩ := hw'
   subst hw''
   go_wp2
   go_ret
   exact ⟨ret_bool (by simp), below_trans HB0.out.1 (below_regrown W dq osq)⟩
 simp only [k6, k7, if_false]
 have p6 : (kind == 6) = false := beq_false_of_ne k6
 have p7 : (kind == 7) = false := beq_false_of_ne k7
 clear h6 h7 hA HOF hxl
 go_enter Tryz.func203, Tryz.ntmps203
 go_wp2
 go_ret
 exact ⟨rfl, below_alloc (below_alloc (Below.refl _ _) _) _⟩
end Go.Proofs.YtajaijilfclhpaaGreatDoor
