/- Phis stand where they may. -/
import Derived.Test.YtajaijilfclhpaaGreatDoorGRight1M
import Derived.Test.YtajaijilfclhpaaGreatDoorGStepM
import Derived.BigQuiet
namespace Go.Proofs.YtajaijilfclhpaaGreatDoor
open Go.RowKit Go.Sort

def phiF (i : Int) (na : Nat) : List In → Bool → List Int → Option (List Int)
 | [], _, st => some st
 | x :: xs, hd, st =>
  if x.kind = 1 then (if hd = true ∧ x.args.length = na ∧ st.getD x.dst.toNat 0 ≠ i then phiF i na xs hd (st.set x.dst.toNat i) else none)
  else phiF i na xs false st
def phisF (rows : List (List Int)) : List Bl → Nat → List Int → Bool
 | [], _, _ => true
 | b :: bs, i, st => match phiF (i : Int) (rows.getD i []).length b.ins (decide (0 < i)) st with
  | none => false
  | some st' => phisF rows bs (i + 1) st'
def phisB (G : Gr) : Bool := phisF (aheadT (tms G.blocks)) G.blocks 0 (List.replicate G.vars.length 0)
theorem phisF_drop {rows : List (List Int)} {bs : List Bl} {i : Nat} {st : List Int} (h : i < bs.length) : phisF rows (bs.drop i) i st = match phiF (i : Int) (rows.getD i []).length (bs.getD i default).ins (decide (0 < i)) st with
  | none => false
  | some st' => phisF rows (bs.drop (i + 1)) (i + 1) st' := by
 have e : bs.getD i default = bs[i] := by simp [List.getD, List.getElem?_eq_getElem h]
 rw [e, List.drop_eq_getElem_cons h]
 rfl
theorem phiF_drop {i : Int} {na : Nat} {L : List In} {k : Nat} {hd : Bool} {st : List Int} (h : k < L.length) : phiF i na (L.drop k) hd st =
  if (L.getD k default).kind = 1 then (if hd = true ∧ (L.getD k default).args.length = na ∧ st.getD (L.getD k default).dst.toNat 0 ≠ i then phiF i na (L.drop (k + 1)) hd (st.set (L.getD k default).dst.toNat i) else none)
  else phiF i na (L.drop (k + 1)) false st := by
 have e : L.getD k default = L[k] := by simp [List.getD, List.getElem?_eq_getElem h]
 rw [e, List.drop_eq_getElem_cons h]
 rfl
theorem phiF_len {i : Int} {na : Nat} : ∀ {L : List In} {hd : Bool} {st st' : List Int}, phiF i na L hd st = some st' → st'.length = st.length
 | [], _, st, st', h => by cases h; rfl
 | x :: xs, hd, st, st', h => by
  unfold phiF at h
  split at h
  ·split at h
   ·have := phiF_len h; simpa using this
   ·cases h
  ·exact phiF_len h
theorem own_ints_new (w : World) (n : Nat) (hn : n ≤ 140737488355328) : OwnI (w.alloc (.cells (madeCells #[.int .i64 0] n) 3)) w.heap.size (.slice (some ⟨w.heap.size, 0, none⟩) n n) (List.replicate n 0) := by
 have r1 := World.ownsRow_lit (base := w.heap.size) (e := 3) (size := 1) w (madeCells #[.int .i64 0] n) n (Nat.le_refl _) (by unfold maxLen; omega) (by simp [size_madeCells])
 rw [toList_madeCells_one] at r1
 show World.ownsRow _ _ _ _ _ _ _
 simpa using r1
theorem own_cell {w : World} {base M m : Nat} {st : List Int} (h : OwnI w base (.slice (some ⟨M, 0, none⟩) m m) st) (hm : st.length = m) {d : Nat} (hd : d < m) : w.cell? ⟨M, d, none⟩ = some (.int .i64 (st.getD d 0)) := by
 subst hm
 have h2 : w.ownsRow base 3 1 (.slice (some ⟨M, 0, none⟩) st.length st.length) st.length (st.map intV) := h
 rw [h2.cellAt d (by omega)]
 simp [List.getD, List.getElem?_eq_getElem hd]
theorem own_fz {w : World} {base M m : Nat} {st : List Int} (h : OwnI w base (.slice (some ⟨M, 0, none⟩) m m) st) (hm : st.length = m) (d : Nat) : w.frozen? ⟨M, d, none⟩ = false := by
 subst hm
 have h2 : w.ownsRow base 3 1 (.slice (some ⟨M, 0, none⟩) st.length st.length) st.length (st.map intV) := h
 exact h2.frozenAt d
theorem own_store {w : World} {base M m : Nat} {st : List Int} (h : OwnI w base (.slice (some ⟨M, 0, none⟩) m m) st) (hm : st.length = m) (d : Nat) (x : Int) : OwnI (w.setCell ⟨M, d, none⟩ (.int .i64 x)) base (.slice (some ⟨M, 0, none⟩) m m) (st.set d x) := by
 subst hm
 have h2 : w.ownsRow base 3 1 (.slice (some ⟨M, 0, none⟩) st.length st.length) st.length (st.map intV) := h
 have h3 := (World.ownsRow.stored h2 d (.int .i64 x)).1
 show World.ownsRow _ _ _ _ _ _ _
 rw [List.length_set, List.map_set]
 exact h3
theorem ahead_len_le {ts : List Tm} {j : Nat} (_ : j < ts.length) : ((aheadT ts).getD j []).length ≤ 2 * ts.length := by
 have h1 := lens_ahead ts
 have h2 := edgesF_le ts.length ts
 by_cases hj : j < (aheadT ts).length
 ·have : (aheadT ts).getD j [] ∈ aheadT ts := by rw [List.getD, List.getElem?_eq_getElem hj]; exact List.getElem_mem hj
  have := lens_mem this
  omega
 ·rw [List.getD, List.getElem?_eq_none (by omega)]; simp
theorem below_trans' {w w1 w2 : World} (h1 : Below w.heap.size w w1) (h2 : Below w1.heap.size w1 w2) : Below w.heap.size w w2 := below_trans h1 h2
set_option maxRecDepth 100000 in
set_option maxHeartbeats 4000000 in
theorem phis_any (G : Gr) (pv vv av bv : Value) (w : World) (h : GrAt w pv vv av bv G) (hn : G.blocks.length ≤ 100000) (hm : G.vars.length ≤ 1048576) (hdst : ∀ b ∈ G.blocks, ∀ x ∈ b.ins, x.kind = 1 → inB x.dst G.vars.length = true) :
  Calls Tryz.prog 155 #[.agg #[.string G.name, pv, .int .u8 G.result, vv, av, bv]] w fun e w' => e = .returned (.bool (phisB G)) ∧ Below w.heap.size w w' := by
 have HAH : Hid (∀ W, Below w.heap.size w W → Calls Tryz.prog 182 #[.agg #[.string G.name, pv, .int .u8 G.result, vv, av, bv]] W fun e w' => ∃ kvs, e = .returned (.slice (some ⟨W.heap.size + 1, 0, none⟩) G.blocks.length G.blocks.length) ∧ RowsIn w' W.heap.size (W.heap.size + 1) G.blocks.length kvs (aheadT (tms G.blocks)) ∧ Below W.heap.size W w') := fun W hb => ahead_any G pv vv av bv W (h.below hb) hn
 obtain ⟨pa, pc, va, vc, aa, ac, ba, bc, rfl, rfl, rfl, rfl, _, _, _, _⟩ := h.openF
 have HB : Hid (∀ i, i < G.blocks.length → _) := fun i hi => h.bs.get (i := i) hi
 have HDS : Hid (∀ i, i < G.blocks.length → ∀ x ∈ (G.blocks.getD i default).ins, x.kind = 1 → inB x.dst G.vars.length = true) := fun i hi x hx => hdst _ (by rw [List.getD, List.getElem?_eq_getElem hi]; exact List.getElem_mem hi) x hx
 have HAL : Hid (∀ i, i < G.blocks.length → ((aheadT (tms G.blocks)).getD i []).length ≤ 200000) := fun i hi => by
  have := ahead_len_le (ts := tms G.blocks) (j := i) (by simpa [tms] using hi)
  have e : (tms G.blocks).length = G.blocks.length := by simp [tms]
  rw [e] at this
  omega
 obtain ⟨R, hR⟩ : ∃ R, R = phisB G := ⟨_, rfl⟩
 rw [← hR]
 unfold phisB at hR
 have HR : Hid (phisF (aheadT (tms G.blocks)) (G.blocks.drop 0) 0 (List.replicate G.vars.length 0) = R) := hR.symm
 have hmk := run_make_row' (P := Tryz.prog) 22 3 (.int .i64 0) 8 Tryz.underlying22 infoI rfl .i64 .i64 G.vars.length (by omega) (by omega)
 have HDR : Hid (∀ i st, i < G.blocks.length → _) := fun i st hi => phisF_drop (rows := aheadT (tms G.blocks)) (bs := G.blocks) (st := st) hi
 have HZ : Hid (∀ st, phisF (aheadT (tms G.blocks)) (G.blocks.drop G.blocks.length) G.blocks.length st = true) := fun st => by rw [List.drop_length]; rfl
 clear h hR hdst hn
 generalize aheadT (tms G.blocks) = rows at *
 generalize G.blocks.length = n at *
 generalize G.name = nm at *
 generalize G.params.length = pl at *
 generalize G.vars.length = m at *
 generalize G.arrs.length = al at *
 generalize G.result = r at *
 have H0 : Hid (Below w.heap.size w (w.alloc (.cells #[.string nm, .slice pa pl pc, .int .u8 r, .slice va m vc, .slice aa al ac, .slice ba n bc] 28)) ∧ Box (w.alloc (.cells #[.string nm, .slice pa pl pc, .int .u8 r, .slice va m vc, .slice aa al ac, .slice ba n bc] 28)) w.heap.size [.string nm, .slice pa pl pc, .int .u8 r, .slice va m vc, .slice aa al ac, .slice ba n bc]) := ⟨below_alloc (Below.refl _ _) _, Box.new w [.string nm, .slice pa pl pc, .int .u8 r, .slice va m vc, .slice aa al ac, .slice ba n bc] 28⟩
 have HM : Hid (m ≤ 1048576) := hm
 clear hm
 go_enter Tryz.func155, Tryz.ntmps155
 have HSZ : Hid (∀ o : Obj, (w.alloc o).heap.size = w.heap.size + 1) := fun o => by simp
 go_wp2_with (go_at_call 182; go_loud (refine Calls.mono (by exact HAH.out _ H0.out.1) ?_; rintro e w1 ⟨kvs, rfl, hrows, hb1⟩; rw [HSZ.out] at hrows; have HRO : Hid _ := hrows; have HW1 : Hid (Below w.heap.size w w1) := below_trans H0.out.1 hb1; have HBX : Hid (Box w1 w.heap.size [.string nm, .slice pa pl pc, .int .u8 r, .slice va m vc, .slice aa al ac, .slice ba n bc]) := H0.out.2.below hb1; obtain ⟨e0, e1, e2, e3, e4, e5⟩ := box6 HBX.out; have hwl := HBX.out.lt; have HON : Hid (OwnI (w1.alloc (.cells (madeCells #[.int .i64 0] m) 3)) w1.heap.size (.slice (some ⟨w1.heap.size, 0, none⟩) m m) (List.replicate m 0)) := own_ints_new w1 m (by have := HM.out; omega); clear hrows hb1))
 go_loopw [19] (fun vi wq => ∃ (i : Nat) (st : List Int), vi = .int .i64 i ∧ i ≤ n ∧ Hid (Below w1.heap.size w1 wq ∧ OwnI wq w1.heap.size (.slice (some ⟨w1.heap.size, 0, none⟩) m m) st ∧ st.length = m ∧ phisF rows (G.blocks.drop i) i st = R)) (fun vi _ => n - (intOf vi).toNat)
 case atStart => exact ⟨0, _, rfl, by omega, below_alloc (Below.refl _ _) _, HON.out, by simp, HR.out⟩
 case round =>
  obtain ⟨i, st, rfl, hi, hr⟩ := hrel
  clear HR HON H0 hmk HAH e0 e1 e2 e3 e4 e5
  by_cases hin : i < n
  ·obtain ⟨g, o, iv, rfl, hg, c0, c1, c2, c3, c4, c5, hins⟩ := HB.out i hin
   obtain ⟨ia, ic, rfl, _⟩ := hins.form
   have hin' : (i : Int) < n := by omega
   have HWW : Hid (Below w.heap.size w wr) := below_trans' HW1.out hr.out.1
   have hcl : ∀ j, wr.cell? ⟨g, j, none⟩ = w.cell? ⟨g, j, none⟩ := fun j => HWW.out.cell (p := ⟨g, j, none⟩) hg
   rw [← hcl] at c0 c1 c2 c3 c4 c5
   have HPR : Hid _ := HDR.out i st hin
   rw [hr.out.2.2.2] at HPR
   have hal := HAL.out i hin
   have er : rows[i]? = some (rows.getD i []) := by rw [List.getD, List.getElem?_eq_getElem (by rw [HRO.out.rlen]; exact hin)]; rfl
   obtain ⟨kv, ek⟩ : ∃ kv, kvs[i]? = some kv := ⟨_, List.getElem?_eq_getElem (by rw [HRO.out.klen]; exact hin)⟩
   obtain ⟨ka, kc, rfl, _⟩ := (OwnI.at' (HRO.out.kid i _ kv er ek).1 (by omega)).form
   have cR := HRO.out.cellG ek
   have hgR := HRO.out.ltG.2
   have hds := HDS.out i hin
   generalize (rows.getD i []).length = na at *
   generalize (G.blocks.getD i default).ins = L at *
   have HI : Hid (∀ k, k < L.length → _) := fun k hk => hins.get (i := k) hk
   generalize (G.blocks.getD i default).tm.kind = t0 at *
   generalize (G.blocks.getD i default).tm.arg = t1 at *
   generalize (G.blocks.getD i default).tm.t0 = t2 at *
   generalize (G.blocks.getD i default).tm.t1 = t3 at *
   generalize (G.blocks.getD i default).tm.trap = t4 at *
   obtain ⟨R2, hR2⟩ : ∃ R2, R2 = phiF (i : Int) na L (decide (0 < i)) st := ⟨_, rfl⟩
   rw [← hR2] at HPR
   have HR2 : Hid (phiF (i : Int) na (L.drop 0) (decide (0 < i)) st = R2) := hR2.symm
   have HB1 : Hid (Below wr.heap.size wr (wr.alloc (.cells #[.slice ia L.length ic, .int .u8 t0, .int .i64 t1, .int .i64 t2, .int .i64 t3, .int .u8 t4] 63))) := below_alloc (Below.refl _ _) _
   have HDST : Hid _ := hds
   have HDEC : Hid (decide ((i : Int) > 0) = decide (0 < i)) := by show _ = _; congr 1; exact propext (by omega)
   clear hcl HB hds hR2 hins er HDR HZ HAL
   generalize wr = wo at *
   go_wp2
   go_loopw [29, 7] (fun vk vh wq => ∃ (k : Nat) (hd : Bool) (st : List Int), vk = .int .i64 k ∧ vh = .bool hd ∧ k ≤ L.length ∧ Hid (Below w1.heap.size w1 wq ∧ OwnI wq w1.heap.size (.slice (some ⟨w1.heap.size, 0, none⟩) m m) st ∧ st.length = m ∧ phiF (i : Int) na (L.drop k) hd st = R2)) (fun vk _ _ => L.length - (intOf vk).toNat)
   case atStart => exact ⟨0, decide (0 < i), st, rfl, by rw [← HDEC.out], by omega, below_trans' hr.out.1 HB1.out, owns_below hr.out.2.1 HB1.out, hr.out.2.2.1, HR2.out⟩
   case round =>
    obtain ⟨k, hd, st2, rfl, rfl, hk, hq⟩ := hrel
    clear HB1 HR2 HDEC c0 c1 c2 c3 c4 c5
    have hw1 := hq.out.1.size
    by_cases hkn : k < L.length
    ·obtain ⟨gi, oi, xv, rfl, hgi, d0, d1, d2, d3, d4, d5, hxa⟩ := HI.out k hkn
     obtain ⟨xa, xc, rfl, hxl⟩ := hxa.form
     have hkn' : (k : Int) < L.length := by omega
     have hcl : ∀ j, wr.cell? ⟨gi, j, none⟩ = w.cell? ⟨gi, j, none⟩ := fun j => (below_trans' HW1.out hq.out.1).cell (p := ⟨gi, j, none⟩) hgi
     rw [← hcl] at d0 d1 d2 d3 d4 d5
     have hcr : wr.cell? ⟨w.heap.size + 1 + 1, i, none⟩ = w1.cell? ⟨w.heap.size + 1 + 1, i, none⟩ := hq.out.1.cell (p := ⟨w.heap.size + 1 + 1, i, none⟩) hgR
     rw [cR] at hcr
     have HPD : Hid _ := phiF_drop (i := (i : Int)) (na := na) (L := L) (k := k) (hd := hd) (st := st2) hkn
     rw [hq.out.2.2.2] at HPD
     have hdst := HDST.out (L.getD k default) (by rw [List.getD, List.getElem?_eq_getElem hkn]; exact List.getElem_mem hkn)
     generalize (L.getD k default).args.length = xn at *
     generalize (L.getD k default).kind = x0 at *
     generalize (L.getD k default).op = x1 at *
     generalize (L.getD k default).dst = x2 at *
     generalize (L.getD k default).bits = x4 at *
     generalize (L.getD k default).ref = x5 at *
     have HB2 : Hid (Below wr.heap.size wr (wr.alloc (.cells #[.int .u8 x0, .int .u8 x1, .int .i64 x2, .slice xa xn xc, .int .u64 x4, .int .i64 x5] 55))) := below_alloc (Below.refl _ _) _
     have HF : Hid (∀ W, Below wr.heap.size wr W → Below w1.heap.size w1 W ∧ OwnI W w1.heap.size (.slice (some ⟨w1.heap.size, 0, none⟩) m m) st2) := fun W hb => ⟨below_trans' hq.out.1 hb, owns_below hq.out.2.1 hb⟩
     have hMl : w1.heap.size < wr.heap.size := (hq.out.2.1.lt w1.heap.size rfl).2
     have hgw : w.heap.size + 1 + 1 < wr.heap.size := Nat.lt_trans hgR hMl
     clear hcl HI
     by_cases hx : x0 = 1
     ·subst hx
      rw [if_pos rfl] at HPD
      have hdst := hdst rfl
      obtain ⟨d, rfl⟩ : ∃ d : Nat, x2 = (d : Int) := Int.eq_ofNat_of_zero_le (inB_iff.1 hdst).1
      have hdm : (d : Int) < m := (inB_iff.1 hdst).2
      have hdn : d < m := by omega
      rw [Int.toNat_natCast] at HPD
      have cS := own_cell hq.out.2.1 hq.out.2.2.1 hdn
      have fS : wr.frozen? ⟨w1.heap.size, d, none⟩ = false := own_fz hq.out.2.1 hq.out.2.2.1 d
      have HST : Hid (∀ W, Below wr.heap.size wr W → OwnI (W.setCell ⟨w1.heap.size, d, none⟩ (.int .i64 (i : Int))) w1.heap.size (.slice (some ⟨w1.heap.size, 0, none⟩) m m) (st2.set d (i : Int)) ∧ Below w1.heap.size w1 (W.setCell ⟨w1.heap.size, d, none⟩ (.int .i64 (i : Int)))) := fun W hb => ⟨own_store (HF.out W hb).2 hq.out.2.2.1 d _, below_set (HF.out W hb).1 (Nat.le_refl _) _ _⟩
      have HLN : Hid (st2.length = m) := hq.out.2.2.1
      generalize hsv : st2.getD d 0 = sv at *
      clear hsv hdst
      cases hd with
      | false =>
       have HD : Hid (R = false) := by have h9 := HPD.out; rw [if_neg (by simp)] at h9; have h8 := HPR.out; rw [h9] at h8; exact h8
       clear HPD HPR
       go_wp2
       go_quiet (fail)
       go_wp2
       go_ret
       exact ⟨ret_bool HD.out.symm, below_trans' HW1.out (HF.out _ (by repeat (first | exact HB2.out | refine below_drewN ?_ _ | refine below_drew ?_))).1⟩
      | true =>
       by_cases hl : xn = na
       ·subst hl
        by_cases hs : sv = (i : Int)
        ·subst hs
         have HD : Hid (R = false) := by have h9 := HPD.out; rw [if_neg (by simp)] at h9; have h8 := HPR.out; rw [h9] at h8; exact h8
         clear HPD HPR
         go_wp2
         go_quiet (fail)
         go_wp2
         go_ret
         exact ⟨ret_bool HD.out.symm, below_trans' HW1.out (HF.out _ (by repeat (first | exact HB2.out | refine below_drewN ?_ _ | refine below_drew ?_))).1⟩
        ·have hsf : (sv == (i : Int)) = false := beq_false_of_ne hs
         have HD : Hid (R2 = phiF (i : Int) xn (L.drop (k + 1)) true (st2.set d (i : Int))) := by have h9 := HPD.out; rw [if_pos ⟨rfl, rfl, hs⟩] at h9; exact h9
         clear HPD HPR
         go_wp2
         go_quiet (fail)
         go_wp2
         go_roundw
         case rel =>
          refine ⟨k + 1, true, st2.set d (i : Int), by first | rfl | (congr 1; omega), rfl, by omega, ?_⟩
          exact ⟨(HST.out _ (by repeat (first | exact HB2.out | refine below_drewN ?_ _ | refine below_drew ?_))).2, (HST.out _ (by repeat (first | exact HB2.out | refine below_drewN ?_ _ | refine below_drew ?_))).1, by rw [List.length_set]; exact HLN.out, HD.out.symm⟩
         case measure => simp [intOf]; omega
       ·have hlf : ((xn : Int) == (na : Int)) = false := beq_false_of_ne (by omega)
        have hlf2 : (xn == na) = false := beq_false_of_ne hl
        have hlf3 : decide (xn = na) = false := decide_eq_false hl
        have hlf4 : ¬ ((xn : Int) = (na : Int)) := by omega
        have hlf5 : ((xn : Int) != (na : Int)) = true := bne_iff_ne.2 hlf4
        have hlf6 : decide ((xn : Int) = (na : Int)) = false := decide_eq_false hlf4
        have HD : Hid (R = false) := by have h9 := HPD.out; rw [if_neg (by simp [hl])] at h9; have h8 := HPR.out; rw [h9] at h8; exact h8
        clear HPD HPR
        go_wp2
        go_quiet (fail)
        go_wp2
        go_ret
        exact ⟨ret_bool HD.out.symm, below_trans' HW1.out (HF.out _ (by repeat (first | exact HB2.out | refine below_drewN ?_ _ | refine below_drew ?_))).1⟩
     ·rw [if_neg hx] at HPD
      have HLN : Hid (st2.length = m) := hq.out.2.2.1
      clear hdst
      go_wp2
      go_roundw
      case rel => exact ⟨k + 1, false, st2, by first | rfl | (congr 1; omega), rfl, by omega, (HF.out _ HB2.out).1, (HF.out _ HB2.out).2, HLN.out, HPD.out.symm⟩
      case measure => simp [intOf]; omega
    ·obtain rfl : k = L.length := by omega
     have hd2 : some st2 = R2 := by have h9 := hq.out.2.2.2; rw [List.drop_length] at h9; exact h9
     have HD : Hid (R = phisF rows (G.blocks.drop (i + 1)) (i + 1) st2) := by have h9 := HPR.out; rw [← hd2] at h9; exact h9
     clear hd2 HI HPR
     go_wp2
     go_roundw
     case rel => exact ⟨i + 1, st2, by first | rfl | (congr 1; omega), by omega, hq.out.1, hq.out.2.1, hq.out.2.2.1, HD.out.symm⟩
     case measure => simp [intOf]; omega
  ·obtain rfl : i = n := by omega
   have hd : R = true := by have h9 := hr.out.2.2.2; rw [HZ.out] at h9; exact h9.symm
   have HD : Hid _ := hd
   clear hd HB HDR HZ
   go_wp2
   go_ret
   exact ⟨ret_bool HD.out.symm, below_trans' HW1.out hr.out.1⟩
end Go.Proofs.YtajaijilfclhpaaGreatDoor
