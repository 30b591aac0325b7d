/- The document's side: do phis stand as they must? -/
import Derived.Test.YtajaijilfclhpaaGreatDoorGFit3M
import Derived.Test.YtajaijilfclhpaaGreatDoorGRight2
import Derived.Test.YtajaijilfclhpaaGreatDoorGFit4M
import Derived.Test.YtajaijilfclhpaaGreatDoorGChk3M
namespace Go.Proofs.YtajaijilfclhpaaGreatDoor
open Go.RowKit Go.Sort

def phiR (i : Nat) (na : Nat) : List In → Nat → List Int → Bool
 | [], _, _ => true
 | x :: xs, k, st =>
  if x.kind = 1 then (decide (i ≠ 0) && (decide (st.length = k) && (decide (x.args.length = na) && decide (plcF x.dst st 0 < 0)))) && phiR i na xs (k + 1) (st ++ [x.dst])
  else phiR i na xs (k + 1) st
def phisRF (rows : List (List Int)) : List Bl → Nat → Bool
 | [], _ => true
 | b :: bs, i => phiR i (rows.getD i []).length b.ins 0 [] && phisRF rows bs (i + 1)
def phisR (G : Gr) : Bool := phisRF (aheadT (tms G.blocks)) G.blocks 0
theorem phisRF_drop {rows : List (List Int)} {bs : List Bl} {i : Nat} (h : i < bs.length) : phisRF rows (bs.drop i) i = (phiR i (rows.getD i []).length (bs.getD i default).ins 0 [] && phisRF rows (bs.drop (i + 1)) (i + 1)) := by
 have e : bs.getD i default = bs[i] := by simp [List.getD, List.getElem?_eq_getElem h]
 rw [e, List.drop_eq_getElem_cons h]
 rfl
theorem phiR_drop {i na : Nat} {L : List In} {k : Nat} {st : List Int} (h : k < L.length) : phiR i na (L.drop k) k st =
  if (L.getD k default).kind = 1 then (decide (i ≠ 0) && (decide (st.length = k) && (decide ((L.getD k default).args.length = na) && decide (plcF (L.getD k default).dst st 0 < 0)))) && phiR i na (L.drop (k + 1)) (k + 1) (st ++ [(L.getD k default).dst])
  else phiR i na (L.drop (k + 1)) (k + 1) st := by
 have e : L.getD k default = L[k] := by simp [List.getD, List.getElem?_eq_getElem h]
 rw [e, List.drop_eq_getElem_cons h]
 rfl
theorem nodup_bound : ∀ (m : Nat) (l : List Int), l.Nodup → (∀ x ∈ l, 0 ≤ x ∧ x < (m : Int)) → l.length ≤ m
 | 0, l, _, h => by
  match l, h with
  | [], _ => simp
  | x :: l, h => have := h x (by simp); omega
 | m + 1, l, hn, h => by
  have h1 := nodup_bound m (l.erase (m : Int)) (hn.erase _) (fun x hx => by
   have h2 := (hn.mem_erase_iff).1 hx
   have h3 := h x h2.2
   have h4 := h2.1
   omega)
  have h5 := List.length_erase (a := (m : Int)) (l := l)
  rw [h5] at h1
  split at h1 <;> omega
theorem plcF_ge {x : Int} : ∀ (l : List Int) (i : Nat), x ∈ l → 0 ≤ plcF x l i
 | y :: l, i, h => by
  unfold plcF
  split
  ·omega
  ·rename_i hne
   rcases List.mem_cons.1 h with e | h
   ·exact absurd e.symm hne
   ·exact plcF_ge l (i + 1) h
 | [], _, h => by cases h
theorem plcF_not {x : Int} : ∀ (l : List Int) (i : Nat), x ∉ l → plcF x l i = -1
 | y :: l, i, h => by
  unfold plcF
  rw [if_neg (fun e => h (by simp [e]))]
  exact plcF_not l (i + 1) (fun hm => h (by simp [hm]))
 | [], _, _ => rfl
theorem plcF_iff {x : Int} {l : List Int} : plcF x l 0 < 0 ↔ x ∉ l := by
 constructor
 ·intro h hm
  have := plcF_ge l 0 hm
  omega
 ·intro h
  rw [plcF_not l 0 h]
  omega
theorem nodup_snoc {l : List Int} {x : Int} (h : l.Nodup) (hx : x ∉ l) : (l ++ [x]).Nodup := by
 rw [List.nodup_append]
 refine ⟨h, by simp, ?_⟩
 intro a ha b hb
 simp at hb
 subst hb
 intro e
 exact hx (e ▸ ha)
set_option maxRecDepth 100000 in
set_option maxHeartbeats 4000000 in
theorem rphis_any (G : Gr) (pv vv av bv : Value) (w : World) (h : GrAt w pv vv av bv G) (hn : G.blocks.length ≤ 100000) (hm : G.vars.length ≤ 1048576) (hdst : ∀ b ∈ G.blocks, ∀ x ∈ b.ins, x.kind = 1 → inB x.dst G.vars.length = true) :
  Calls Tryz.prog 62 #[.agg #[.string G.name, pv, .int .u8 G.result, vv, av, bv]] w fun e w' => e = .returned (.bool (phisR G)) ∧ Below w.heap.size w w' := by
 have HAH : Hid (∀ W, Below w.heap.size w W → Calls Tryz.prog 123 #[.agg #[.string G.name, pv, .int .u8 G.result, vv, av, bv]] W fun e w' => ∃ kvs, e = .returned (.slice (some ⟨W.heap.size + 1, 0, none⟩) G.blocks.length G.blocks.length) ∧ RowsIn w' W.heap.size (W.heap.size + 1) G.blocks.length kvs (aheadT (tms G.blocks)) ∧ Below W.heap.size W w') := fun W hb => rahead_any G pv vv av bv W (h.below hb) hn
 obtain ⟨pa, pc, va, vc, aa, ac, ba, bc, rfl, rfl, rfl, rfl, _, _, _, _⟩ := h.openF
 have HB : Hid (∀ i, i < G.blocks.length → _) := fun i hi => h.bs.get (i := i) hi
 have HDS : Hid (∀ i, i < G.blocks.length → ∀ x ∈ (G.blocks.getD i default).ins, x.kind = 1 → inB x.dst G.vars.length = true) := fun i hi x hx => hdst _ (by rw [List.getD, List.getElem?_eq_getElem hi]; exact List.getElem_mem hi) x hx
 have HAL : Hid (∀ i, i < G.blocks.length → ((aheadT (tms G.blocks)).getD i []).length ≤ 200000) := fun i hi => by
  have := ahead_len_le (ts := tms G.blocks) (j := i) (by simpa [tms] using hi)
  have e : (tms G.blocks).length = G.blocks.length := by simp [tms]
  rw [e] at this
  omega
 obtain ⟨R, hR⟩ : ∃ R, R = phisR G := ⟨_, rfl⟩
 rw [← hR]
 unfold phisR at hR
 have HR : Hid (phisRF (aheadT (tms G.blocks)) (G.blocks.drop 0) 0 = R) := hR.symm
 have HDR : Hid (∀ i, i < G.blocks.length → _) := fun i hi => phisRF_drop (rows := aheadT (tms G.blocks)) (bs := G.blocks) hi
 have HZ : Hid (phisRF (aheadT (tms G.blocks)) (G.blocks.drop G.blocks.length) G.blocks.length = true) := by show _ = _; rw [List.drop_length]; rfl
 clear h hR hdst hn
 obtain ⟨i0, hi0, hz0, hz1, hz2⟩ := info_parts infoI
 generalize aheadT (tms G.blocks) = rows at *
 generalize G.blocks.length = n at *
 generalize G.name = nm at *
 generalize G.params.length = pl at *
 generalize G.vars.length = m at *
 generalize G.arrs.length = al at *
 generalize G.result = r at *
 have H0 : Hid (Below w.heap.size w (w.alloc (.cells #[.string nm, .slice pa pl pc, .int .u8 r, .slice va m vc, .slice aa al ac, .slice ba n bc] 28)) ∧ Box (w.alloc (.cells #[.string nm, .slice pa pl pc, .int .u8 r, .slice va m vc, .slice aa al ac, .slice ba n bc] 28)) w.heap.size [.string nm, .slice pa pl pc, .int .u8 r, .slice va m vc, .slice aa al ac, .slice ba n bc]) := ⟨below_alloc (Below.refl _ _) _, Box.new w [.string nm, .slice pa pl pc, .int .u8 r, .slice va m vc, .slice aa al ac, .slice ba n bc] 28⟩
 have HM : Hid (m ≤ 1048576) := hm
 clear hm
 go_enter Tryz.func62, Tryz.ntmps62
 have HSZ : Hid (∀ o : Obj, (w.alloc o).heap.size = w.heap.size + 1) := fun o => by simp
 go_wp2_with (go_at_call 123; go_loud (refine Calls.mono (by exact HAH.out _ H0.out.1) ?_; rintro e w1 ⟨kvs, rfl, hrows, hb1⟩; rw [HSZ.out] at hrows; have HRO : Hid _ := hrows; have HW1 : Hid (Below w.heap.size w w1) := below_trans H0.out.1 hb1; have HBX : Hid (Box w1 w.heap.size [.string nm, .slice pa pl pc, .int .u8 r, .slice va m vc, .slice aa al ac, .slice ba n bc]) := H0.out.2.below hb1; clear hrows hb1))
 go_loopw [4] (fun vi wq => ∃ (i : Nat), vi = .int .i64 i ∧ i ≤ n ∧ Hid (Below w1.heap.size w1 wq ∧ phisRF rows (G.blocks.drop i) i = R)) (fun vi _ => n - (intOf vi).toNat)
 case atStart => exact ⟨0, rfl, by omega, Below.refl _ _, HR.out⟩
 case round =>
  obtain ⟨i, rfl, hi, hr⟩ := hrel
  clear HR H0 HAH
  obtain ⟨e0, e1, e2, e3, e4, e5⟩ := box6 (HBX.out.below hr.out.1)
  have hwl := (HBX.out.below hr.out.1).lt
  by_cases hin : i < n
  ·obtain ⟨g, o, iv, rfl, hg, c0, c1, c2, c3, c4, c5, hins⟩ := HB.out i hin
   obtain ⟨ia, ic, rfl, _⟩ := hins.form
   have hin' : (i : Int) < n := by omega
   have HWW : Hid (Below w.heap.size w wr) := below_trans' HW1.out hr.out.1
   have hcl : ∀ j, wr.cell? ⟨g, j, none⟩ = w.cell? ⟨g, j, none⟩ := fun j => HWW.out.cell (p := ⟨g, j, none⟩) hg
   rw [← hcl] at c0 c1 c2 c3 c4 c5
   have HPR : Hid _ := HDR.out i hin
   rw [hr.out.2] at HPR
   have hal := HAL.out i hin
   have er : rows[i]? = some (rows.getD i []) := by rw [List.getD, List.getElem?_eq_getElem (by rw [HRO.out.rlen]; exact hin)]; rfl
   obtain ⟨kv, ek⟩ : ∃ kv, kvs[i]? = some kv := ⟨_, List.getElem?_eq_getElem (by rw [HRO.out.klen]; exact hin)⟩
   obtain ⟨ka, kc, rfl, _⟩ := (OwnI.at' (HRO.out.kid i _ kv er ek).1 (by omega)).form
   have cR := HRO.out.cellG ek
   have hgR := HRO.out.ltG.2
   have hds := HDS.out i hin
   generalize (rows.getD i []).length = na at *
   generalize (G.blocks.getD i default).ins = L at *
   have HI : Hid (∀ k, k < L.length → _) := fun k hk => hins.get (i := k) hk
   generalize (G.blocks.getD i default).tm.kind = t0 at *
   generalize (G.blocks.getD i default).tm.arg = t1 at *
   generalize (G.blocks.getD i default).tm.t0 = t2 at *
   generalize (G.blocks.getD i default).tm.t1 = t3 at *
   generalize (G.blocks.getD i default).tm.trap = t4 at *
   obtain ⟨R2, hR2⟩ : ∃ R2, R2 = phiR i na L 0 [] := ⟨_, rfl⟩
   rw [← hR2] at HPR
   have HR2 : Hid (phiR i na (L.drop 0) 0 [] = R2) := hR2.symm
   have HB1 : Hid (Below wr.heap.size wr (wr.alloc (.cells #[.slice ia L.length ic, .int .u8 t0, .int .i64 t1, .int .i64 t2, .int .i64 t3, .int .u8 t4] 63)) ∧ Box (wr.alloc (.cells #[.slice ia L.length ic, .int .u8 t0, .int .i64 t1, .int .i64 t2, .int .i64 t3, .int .u8 t4] 63)) wr.heap.size [.slice ia L.length ic, .int .u8 t0, .int .i64 t1, .int .i64 t2, .int .i64 t3, .int .u8 t4]) := ⟨below_alloc (Below.refl _ _) _, Box.new wr [.slice ia L.length ic, .int .u8 t0, .int .i64 t1, .int .i64 t2, .int .i64 t3, .int .u8 t4] 63⟩
   have HDST : Hid _ := hds
   clear hcl HB hds hR2 hins er HDR HZ HAL
   generalize wr = wo at *
   obtain ⟨wb, hwb⟩ : ∃ wb, wb = wo.alloc (.cells #[.slice ia L.length ic, .int .u8 t0, .int .i64 t1, .int .i64 t2, .int .i64 t3, .int .u8 t4] 63) := ⟨_, rfl⟩
   have HWB : Hid _ := hwb
   clear hwb
   go_wp2
   rw [← HWB.out] at HB1 ⊢
   clear HWB
   clear e0 e1 e2 e3 e4 e5 c0 c1 c2 c3 c4 c5
   go_loopw [7, 6] (fun vk vs wq => ∃ (k : Nat) (st : List Int) (sa : Option Addr) (sc : Nat), vk = .int .i64 k ∧ vs = .slice sa st.length sc ∧ k ≤ L.length ∧ Hid (Below wb.heap.size wb wq ∧ OwnI wq wb.heap.size (.slice sa st.length sc) st ∧ (st.Nodup ∧ ∀ x ∈ st, 0 ≤ x ∧ x < (m : Int)) ∧ phiR i na (L.drop k) k st = R2)) (fun vk _ _ => L.length - (intOf vk).toNat)
   case atStart => exact ⟨0, [], none, 0, rfl, rfl, by omega, Below.refl _ _, World.ownsRow_nil _ _ _ _, ⟨List.nodup_nil, by simp⟩, HR2.out⟩
   case round =>
    obtain ⟨k, st, sa, sc, rfl, rfl, hk, hq⟩ := hrel
    clear HR2
    have hsl : st.length ≤ m := nodup_bound m st hq.out.2.2.1.1 hq.out.2.2.1.2
    have hsm : st.length ≤ 1048576 := Nat.le_trans hsl HM.out
    obtain ⟨b0, b1, b2, b3, b4, b5⟩ := box6 (HB1.out.2.below hq.out.1)
    have hwb := (HB1.out.2.below hq.out.1).lt
    have HWQ : Hid (Below w1.heap.size w1 wr) := below_trans' hr.out.1 (below_trans' HB1.out.1 hq.out.1)
    obtain ⟨e0, e1, e2, e3, e4, e5⟩ := box6 (HBX.out.below HWQ.out)
    by_cases hkn : k < L.length
    ·obtain ⟨gi, oi, xv, rfl, hgi, d0, d1, d2, d3, d4, d5, hxa⟩ := HI.out k hkn
     obtain ⟨xa, xc, rfl, hxl⟩ := hxa.form
     have hkn' : (k : Int) < L.length := by omega
     have hcl : ∀ j, wr.cell? ⟨gi, j, none⟩ = w.cell? ⟨gi, j, none⟩ := fun j => (below_trans' HW1.out HWQ.out).cell (p := ⟨gi, j, none⟩) hgi
     rw [← hcl] at d0 d1 d2 d3 d4 d5
     have hcr : wr.cell? ⟨w.heap.size + 1 + 1, i, none⟩ = w1.cell? ⟨w.heap.size + 1 + 1, i, none⟩ := HWQ.out.cell (p := ⟨w.heap.size + 1 + 1, i, none⟩) hgR
     rw [cR] at hcr
     have HPD : Hid _ := phiR_drop (i := i) (na := na) (L := L) (k := k) (st := st) hkn
     rw [hq.out.2.2.2] at HPD
     have hdst := HDST.out (L.getD k default) (by rw [List.getD, List.getElem?_eq_getElem hkn]; exact List.getElem_mem hkn)
     generalize (L.getD k default).args.length = xn at *
     generalize (L.getD k default).kind = x0 at *
     generalize (L.getD k default).dst = x2 at *
     have HPC0 : ∀ W, Below w.heap.size w W → Below wr.heap.size wr W → Calls Tryz.prog 116 #[.slice sa st.length sc, .int .i64 x2] W fun e w' => e = .returned (.int .i64 (plcF x2 st 0)) ∧ w' = W := fun W _ hb => rplace_any st x2 _ W ((OwnI.at' hq.out.2.1 (by omega)).below hb)
     have HOK : Hid (wr.ownsRow wb.heap.size 3 1 (.slice sa st.length sc) st.length (st.map intV)) := hq.out.2.1
     have HQ1 : Hid (Below wb.heap.size wb wr) := hq.out.1
     have HQ3 : Hid (st.Nodup ∧ ∀ x ∈ st, 0 ≤ x ∧ x < (m : Int)) := hq.out.2.2.1
     have HPX : Hid (plcF x2 st 0 < 0 → x2 ∉ st) := fun hh => plcF_iff.1 hh
     have HPQ := HPD.out
     have HLE : Hid ((st ++ [x2]).length = st.length + 1) := by show _ = _; simp
     clear hcl HI hxa hq HPD hsl
     generalize hstl : st.length = sl at *
     generalize plcF x2 st 0 = q at *
     have HSTL : Hid _ := hstl
     have HPC : Hid _ := HPC0
     have HPD : Hid _ := HPQ
     clear hstl HPC0 HPQ
     by_cases hx : x0 = 1
     ·subst hx
      have hdst := hdst rfl
      have HIX : Hid (0 ≤ x2 ∧ x2 < (m : Int)) := inB_iff.1 hdst
      clear hdst
      rw [if_pos rfl] at HPD
      by_cases ok0 : i = 0
      ·subst ok0
       have HD : Hid (R = false) := by
        show R = false
        have h9 := HPD.out
        rw [decide_eq_false (by simp)] at h9
        have h8 := HPR.out
        rw [h9] at h8
        simpa using h8
       clear HPD HPR
       go_wp2
       go_quiet (fail)
       go_wp2
       go_ret
       exact ⟨ret_bool HD.out.symm, below_trans' HW1.out (by repeat (first | exact HWQ.out | refine below_drewN ?_ _ | refine below_drew ?_))⟩
      have f0 : ((i : Int) == 0) = false := beq_false_of_ne (by omega)
      by_cases ok1 : sl = k
      rotate_left
      ·have f1 : ((sl : Int) != (k : Int)) = true := bne_iff_ne.2 (by omega)
       have HD : Hid (R = false) := by
        show R = false
        have h9 := HPD.out
        rw [decide_eq_false ok1] at h9
        have h8 := HPR.out
        rw [h9] at h8
        simpa using h8
       clear HPD HPR ok1 ok0
       go_wp2
       go_quiet (fail)
       go_wp2
       go_ret
       exact ⟨ret_bool HD.out.symm, below_trans' HW1.out (by repeat (first | exact HWQ.out | refine below_drewN ?_ _ | refine below_drew ?_))⟩
      subst ok1
      have f1 : ((sl : Int) != (sl : Int)) = false := by simp
      by_cases ok2 : xn = na
      rotate_left
      ·have f2 : ((xn : Int) != (na : Int)) = true := bne_iff_ne.2 (by omega)
       have HD : Hid (R = false) := by
        show R = false
        have h9 := HPD.out
        rw [decide_eq_false ok2] at h9
        have h8 := HPR.out
        rw [h9] at h8
        simpa using h8
       clear HPD HPR ok2 ok0
       go_wp2
       go_quiet (fail)
       go_wp2
       go_ret
       exact ⟨ret_bool HD.out.symm, below_trans' HW1.out (by repeat (first | exact HWQ.out | refine below_drewN ?_ _ | refine below_drew ?_))⟩
      subst ok2
      have f2 : ((xn : Int) != (xn : Int)) = false := by simp
      have HRB : Hid (Below w.heap.size w wr) := below_trans' HW1.out HWQ.out
      have HRC : Hid (Below wr.heap.size wr wr) := Below.refl _ _
      by_cases ok3 : q < 0
      rotate_left
      ·have f3 : 0 ≤ q := by omega
       have HD : Hid (R = false) := by
        show R = false
        have h9 := HPD.out
        rw [decide_eq_false ok3] at h9
        have h8 := HPR.out
        rw [h9] at h8
        simpa using h8
       clear HPD HPR ok3 ok0
       go_wp2
       go_quiet ((go_at_call 116; exact Calls.quiet_of_same (HPC.out _ (by repeat (first | exact HRB.out | refine below_drewN ?_ _ | refine below_drew ?_)) (by repeat (first | exact HRC.out | refine below_drewN ?_ _ | refine below_drew ?_)))))
       go_wp2
       go_ret
       exact ⟨ret_bool HD.out.symm, below_trans' HW1.out (by repeat (first | exact HWQ.out | refine below_drewN ?_ _ | refine below_drew ?_))⟩
      have HNM : Hid (x2 ∉ st) := HPX.out ok3
      have f3 : decide (0 ≤ q) = false := decide_eq_false (by omega)
      have HD : Hid (R2 = phiR i xn (L.drop (sl + 1)) (sl + 1) (st ++ [x2])) := by
       show _ = _
       have h9 := HPD.out
       rw [h9, decide_eq_true ok3]
       simp [ok0]
      clear HPD HPX ok0
      go_wp2
      go_quiet ((go_at_call 116; exact Calls.quiet_of_same (HPC.out _ (by repeat (first | exact HRB.out | refine below_drewN ?_ _ | refine below_drew ?_)) (by repeat (first | exact HRC.out | refine below_drewN ?_ _ | refine below_drew ?_)))))
      go_wp2_with (at_builtin; go_loud (refine wpList_append_own_at _ rfl _ _ 22 rfl wb.heap.size 3 i0 (.int .i64 0) 1 8 Tryz.underlying22 hi0 hz0 hz1 hz2 rfl (by decide) _ sl (st.map intV) rfl (HOK.out.alloc _) ⟨wr.heap.size, 0, none⟩ 1 1 [intV x2] rfl rfl ?c1 ?c2 ?c3 ?c4 ?c5 ?_))
      case c1 => exact cell_one_new wr (intV x2) 3
      case c2 => intro u hu; simp at hu; subst hu; rfl
      case c3 => unfold maxLen; omega
      case c4 => omega
      case c5 => have := HQ1.out.size; simp; omega
      intro v2 w2 ho hg2 _ hat
      obtain ⟨g2, cc2, rfl, _, _, _, _⟩ := own_form ho
      have HF : Hid (Below wb.heap.size wb w2) := below_grown (below_trans' HQ1.out (by repeat (first | exact Below.refl _ _ | refine below_alloc ?_ _ | refine below_drewN ?_ _ | refine below_drew ?_))) hg2 (fun q hq => (HOK.out.lt q hq).1)
      have HO : Hid (OwnI w2 wb.heap.size (.slice (some ⟨g2, 0, none⟩) (st ++ [x2]).length cc2) (st ++ [x2])) := by
       show World.ownsRow _ _ _ _ _ _ _
       rw [List.map_append, HLE.out]
       exact ho
      have HN2 : Hid ((st ++ [x2]).Nodup ∧ ∀ x ∈ st ++ [x2], 0 ≤ x ∧ x < (m : Int)) := ⟨nodup_snoc HQ3.out.1 HNM.out, fun x hx => by
       rcases List.mem_append.1 hx with hx | hx
       ·exact HQ3.out.2 x hx
       ·simp at hx; subst hx; exact HIX.out⟩
      clear ho hg2 hat
      go_wp2
      go_roundw
      case rel => exact ⟨sl + 1, st ++ [x2], some ⟨g2, 0, none⟩, cc2, by first | rfl | (congr 1; omega), by rw [HLE.out], by omega, HF.out, HO.out, HN2.out, HD.out.symm⟩
      case measure => simp [intOf]; omega
     ·have f0 : (x0 != 1) = true := bne_iff_ne.2 hx
      rw [if_neg hx] at HPD
      have HO : Hid (OwnI wr wb.heap.size (.slice sa st.length sc) st) := by
       show World.ownsRow _ _ _ _ _ _ _
       rw [HSTL.out]
       exact HOK.out
      clear hx
      go_wp2
      go_roundw
      case rel => exact ⟨k + 1, st, sa, sc, by first | rfl | (congr 1; omega), by rw [HSTL.out], by omega, HQ1.out, HO.out, HQ3.out, HPD.out.symm⟩
      case measure => simp [intOf]; omega
    ·obtain rfl : k = L.length := by omega
     have hd : R2 = true := by have h9 := hq.out.2.2.2; rw [List.drop_length] at h9; exact h9.symm
     have HD : Hid (phisRF rows (G.blocks.drop (i + 1)) (i + 1) = R) := by
      show _ = R
      have h8 := HPR.out
      rw [hd, Bool.true_and] at h8
      exact h8.symm
     clear hd HI
     go_wp2
     go_roundw
     case rel => exact ⟨i + 1, by first | rfl | (congr 1; omega), by omega, HWQ.out, HD.out⟩
     case measure => simp [intOf]; omega
  ·obtain rfl : i = n := by omega
   have hd : true = R := by have h9 := hr.out.2; rw [HZ.out] at h9; exact h9
   have HD : Hid _ := hd
   clear hd HB HDR HZ HAL HDS
   go_wp2
   go_ret
   exact ⟨ret_bool HD.out, below_trans' HW1.out hr.out.1⟩
end Go.Proofs.YtajaijilfclhpaaGreatDoor
/- The document's side: a graph's head. -/
namespace Go.Proofs.YtajaijilfclhpaaGreatDoor
open Go.RowKit

def arrR (a : Int × Int) : Bool := scB a.1 && (decide (1 ≤ a.2) && decide (a.2 ≤ 256))
def parR (ps : List Int) (j : Nat) : Bool := decide (plcF (ps.getD j 0) (ps.take j) 0 < 0)
def headR (G : Gr) : Bool := decide (1 ≤ G.blocks.length) && (decide (G.blocks.length ≤ 1048576) && (decide (G.vars.length ≤ 1048576) && (decide (G.arrs.length ≤ 1048576) && (decide (G.params.length ≤ 8) && (scB G.result && (G.params.all (inB · G.vars.length) && (G.vars.all scB && (G.arrs.all arrR && (List.range G.params.length).all (parR G.params)))))))))
set_option maxRecDepth 100000 in
set_option maxHeartbeats 2000000 in
theorem rhead_any (G : Gr) (pv vv av bv : Value) (w : World) (h : GrAt w pv vv av bv G) :
  Calls Tryz.prog 59 #[.agg #[.string G.name, pv, .int .u8 G.result, vv, av, bv]] w fun e w' => e = .returned (.bool (headR G)) ∧ Below w.heap.size w w' := by
 have HVR : Hid (∀ W, Below w.heap.size w W → Calls Tryz.prog 115 #[.agg #[.string G.name, pv, .int .u8 G.result, vv, av, bv], pv] W fun e w' => e = .returned (.bool (G.params.all (inB · G.vars.length))) ∧ Below W.heap.size W w') := fun W hb => rvars_any G pv vv av bv G.params pv W (h.below hb) (h.ps.below hb)
 obtain ⟨pa, pc, va, vc, aa, ac, ba, bc, rfl, rfl, rfl, rfl, hpl, hvl, hal, hbl⟩ := h.openF
 have hcap := h.ps.cap
 have HPS : Hid (∀ i, i < G.params.length → _) := fun i hi => h.ps.get (i := i) hi
 have HV : Hid (∀ i, i < G.vars.length → _) := fun i hi => h.vs.get (i := i) hi
 have HA : Hid (∀ i, i < G.arrs.length → _) := fun i hi => h.ars.get (i := i) hi
 have HSC : Hid (∀ t W, _) := fun t W => rscalar_any t W
 have HPC : Hid (∀ (i : Nat) (g o : Nat) (x : Int) (W : World), i < G.params.length → g < W.heap.size → (∀ j, j < G.params.length → W.cell? ⟨g, o + j, none⟩ = some (.int .i64 (G.params.getD j 0))) → Calls Tryz.prog 116 #[.slice (some ⟨g, o, none⟩) i pc, .int .i64 x] W fun e w' => e = .returned (.int .i64 (plcF x (G.params.take i) 0)) ∧ w' = W) := fun i g o x W hi hg hc => by
  have hl : (G.params.take i).length = i := by simp; omega
  refine rplace_any (G.params.take i) x _ W ?_
  refine ⟨some ⟨g, o, none⟩, pc, by rw [hl], ⟨by omega, by omega⟩, .inr ⟨g, o, rfl, hg, fun j u hj => ?_⟩⟩
  have hji : j < i := by have := (List.getElem?_eq_some_iff.1 hj).1; simp at this; omega
  rw [hc j (by omega)]
  rw [List.getElem?_map, List.getElem?_take, if_pos hji, List.getElem?_eq_getElem (by omega)] at hj
  simp at hj
  rw [← hj]
  simp [List.getD, List.getElem?_eq_getElem (show j < G.params.length by omega)]
 have hu : headR G = _ := rfl
 unfold headR at hu
 obtain ⟨R, hR⟩ : ∃ R, R = headR G := ⟨_, rfl⟩
 rw [← hR]
 unfold headR at hR
 have HVD : Hid (∀ i, i < G.vars.length → (G.vars.drop i).all scB = (scB (G.vars.getD i 0) && (G.vars.drop (i + 1)).all scB)) := fun i hi => all_drop (d := 0) hi
 have HVZ : Hid ((G.vars.drop G.vars.length).all scB = true) := by show _ = _; rw [List.drop_length]; rfl
 have HAD : Hid (∀ i, i < G.arrs.length → (G.arrs.drop i).all arrR = (arrR (G.arrs.getD i default) && (G.arrs.drop (i + 1)).all arrR)) := fun i hi => all_drop (d := default) hi
 have HAZ : Hid ((G.arrs.drop G.arrs.length).all arrR = true) := by show _ = _; rw [List.drop_length]; rfl
 have HPD : Hid (∀ i, i < G.params.length → ((List.range G.params.length).drop i).all (parR G.params) = (parR G.params i && ((List.range G.params.length).drop (i + 1)).all (parR G.params))) := fun i hi => by
  rw [all_drop (d := 0) (by simpa using hi)]
  congr 2
  simp [List.getD, hi]
 have HPZ : Hid (((List.range G.params.length).drop G.params.length).all (parR G.params) = true) := by show _ = _; rw [List.drop_eq_nil_of_le (by simp)]; rfl
 clear h hu
 have hrv : G.vars.all scB = (G.vars.drop 0).all scB := rfl
 rw [hrv] at hR
 generalize G.params.all (inB · G.vars.length) = pb at *
 generalize G.blocks.length = n at *
 generalize G.name = nm at *
 generalize hplg : G.params.length = pl at *
 generalize G.vars.length = m at *
 generalize G.arrs.length = al at *
 generalize G.result = r at *
 clear hplg hrv
 have H0 : Hid (Below w.heap.size w (w.alloc (.cells #[.string nm, .slice pa pl pc, .int .u8 r, .slice va m vc, .slice aa al ac, .slice ba n bc] 28)) ∧ Box (w.alloc (.cells #[.string nm, .slice pa pl pc, .int .u8 r, .slice va m vc, .slice aa al ac, .slice ba n bc] 28)) w.heap.size [.string nm, .slice pa pl pc, .int .u8 r, .slice va m vc, .slice aa al ac, .slice ba n bc]) := ⟨below_alloc (Below.refl _ _) _, Box.new w [.string nm, .slice pa pl pc, .int .u8 r, .slice va m vc, .slice aa al ac, .slice ba n bc] 28⟩
 by_cases h1 : 1 ≤ n
 rotate_left
 ·have h1n : (n : Int) < 1 := by omega
  have HR : Hid (R = false) := by show _ = _; rw [hR, decide_eq_false h1]; simp
  clear hR HVR HPS HV HA HPC HVD HVZ HAD HAZ HPD HPZ HSC
  go_enter Tryz.func59, Tryz.ntmps59
  go_wp2
  go_ret
  exact ⟨ret_bool HR.out.symm, H0.out.1⟩
 have h1p : (1 : Int) ≤ n := by omega
 rw [decide_eq_true h1, Bool.true_and] at hR
 by_cases h2 : n ≤ 1048576
 rotate_left
 ·have h2n : (1048576 : Int) < n := by omega
  have HR : Hid (R = false) := by show _ = _; rw [hR, decide_eq_false h2]; simp
  clear hR HVR HPS HV HA HPC HVD HVZ HAD HAZ HPD HPZ HSC
  go_enter Tryz.func59, Tryz.ntmps59
  go_wp2
  go_ret
  exact ⟨ret_bool HR.out.symm, H0.out.1⟩
 have h2p : (n : Int) ≤ 1048576 := by omega
 rw [decide_eq_true h2, Bool.true_and] at hR
 by_cases h3 : m ≤ 1048576
 rotate_left
 ·have h3n : (1048576 : Int) < m := by omega
  have HR : Hid (R = false) := by show _ = _; rw [hR, decide_eq_false h3]; simp
  clear hR HVR HPS HV HA HPC HVD HVZ HAD HAZ HPD HPZ HSC
  go_enter Tryz.func59, Tryz.ntmps59
  go_wp2
  go_ret
  exact ⟨ret_bool HR.out.symm, H0.out.1⟩
 have h3p : (m : Int) ≤ 1048576 := by omega
 rw [decide_eq_true h3, Bool.true_and] at hR
 by_cases h4 : al ≤ 1048576
 rotate_left
 ·have h4n : (1048576 : Int) < al := by omega
  have HR : Hid (R = false) := by show _ = _; rw [hR, decide_eq_false h4]; simp
  clear hR HVR HPS HV HA HPC HVD HVZ HAD HAZ HPD HPZ HSC
  go_enter Tryz.func59, Tryz.ntmps59
  go_wp2
  go_ret
  exact ⟨ret_bool HR.out.symm, H0.out.1⟩
 have h4p : (al : Int) ≤ 1048576 := by omega
 rw [decide_eq_true h4, Bool.true_and] at hR
 by_cases h5 : pl ≤ 8
 rotate_left
 ·have h5n : (8 : Int) < pl := by omega
  have HR : Hid (R = false) := by show _ = _; rw [hR, decide_eq_false h5]; simp
  clear hR HVR HPS HV HA HPC HVD HVZ HAD HAZ HPD HPZ HSC
  go_enter Tryz.func59, Tryz.ntmps59
  go_wp2
  go_ret
  exact ⟨ret_bool HR.out.symm, H0.out.1⟩
 have h5p : (pl : Int) ≤ 8 := by omega
 rw [decide_eq_true h5, Bool.true_and] at hR
 have HSI := HSC.out r
 generalize scB r = sr at *
 have HSJ : Hid _ := HSI
 clear HSI
 cases sr with
 | false =>
  have HR : Hid (R = false) := by show _ = _; rw [hR]; simp
  clear hR HVR HPS HV HA HPC HVD HVZ HAD HAZ HPD HPZ HSC
  go_enter Tryz.func59, Tryz.ntmps59
  go_wp2_with (go_at_call 114; refine Calls.mono (HSJ.out _) ?_; rintro e wx ⟨rfl, hwx⟩; subst wx)
  go_ret
  exact ⟨ret_bool HR.out.symm, H0.out.1⟩
 | true =>
  rw [Bool.true_and] at hR
  cases pb with
  | false =>
   have HR : Hid (R = false) := by show _ = _; rw [hR]; simp
   clear hR HPS HV HA HPC HVD HVZ HAD HAZ HPD HPZ HSC
   go_enter Tryz.func59, Tryz.ntmps59
   go_wp2_with (first | (go_at_call 114; refine Calls.mono (HSJ.out _) ?_; rintro e wx ⟨rfl, hwx⟩; subst wx) | (go_at_call 115; go_loud (refine Calls.mono (by exact HVR.out _ H0.out.1) ?_; rintro e w1 ⟨rfl, hb⟩; have H1 : Hid (Below w.heap.size w w1 ∧ Box w1 w.heap.size [.string nm, .slice pa pl pc, .int .u8 r, .slice va m vc, .slice aa al ac, .slice ba n bc]) := ⟨below_trans H0.out.1 hb, H0.out.2.below hb⟩; obtain ⟨f0, f1, f2, f3, f4, f5⟩ := box6 H1.out.2; have hwl := H1.out.2.lt; clear hb)))
   go_ret
   exact ⟨ret_bool HR.out.symm, H1.out.1⟩
  | true =>
   rw [Bool.true_and] at hR
   have HR : Hid (R = ((G.vars.drop 0).all scB && (G.arrs.all arrR && (List.range pl).all (parR G.params)))) := hR
   clear hR
   go_enter Tryz.func59, Tryz.ntmps59
   go_wp2_with (first | (go_at_call 114; refine Calls.mono (HSJ.out _) ?_; rintro e wx ⟨rfl, hwx⟩; subst wx) | (go_at_call 115; go_loud (refine Calls.mono (by exact HVR.out _ H0.out.1) ?_; rintro e w1 ⟨rfl, hb⟩; have H1 : Hid (Below w.heap.size w w1 ∧ Box w1 w.heap.size [.string nm, .slice pa pl pc, .int .u8 r, .slice va m vc, .slice aa al ac, .slice ba n bc]) := ⟨below_trans H0.out.1 hb, H0.out.2.below hb⟩; obtain ⟨f0, f1, f2, f3, f4, f5⟩ := box6 H1.out.2; have hwl := H1.out.2.lt; clear hb)))
   clear HSJ HVR
   go_loopw [3] (fun vi wr => ∃ i : Nat, vi = .int .i64 i ∧ i ≤ m ∧ Hid (R = ((G.vars.drop i).all scB && (G.arrs.all arrR && (List.range pl).all (parR G.params))) ∧ Below w.heap.size w wr ∧ Box wr w.heap.size [.string nm, .slice pa pl pc, .int .u8 r, .slice va m vc, .slice aa al ac, .slice ba n bc])) (fun vi _ => m - (intOf vi).toNat)
   case atStart => exact ⟨0, rfl, by omega, HR.out, H1.out.1, H1.out.2⟩
   case round =>
    obtain ⟨i, rfl, hi, hr⟩ := hrel
    clear HR H0 H1 f0 f1 f2 f3 f4 f5 hwl
    obtain ⟨e0, e1, e2, e3, e4, e5⟩ := box6 hr.out.2.2
    have hwl := hr.out.2.2.lt
    by_cases hin : i < m
    ·obtain ⟨g, o, rfl, hg, cv⟩ := HV.out i hin
     have hin' : (i : Int) < m := by omega
     have cv' := (hr.out.2.1.cell (p := ⟨g, o + i, none⟩) hg).trans cv
     have hd : R = (scB (G.vars.getD i 0) && (G.vars.drop (i + 1)).all scB && (G.arrs.all arrR && (List.range pl).all (parR G.params))) := by rw [hr.out.1, HVD.out i hin]
     have HTI := HSC.out (G.vars.getD i 0)
     generalize G.vars.getD i 0 = tv at *
     clear cv
     generalize scB tv = tb at *
     have HTJ : Hid _ := HTI
     clear HTI
     cases tb with
     | true =>
      have HD : Hid (R = ((G.vars.drop (i + 1)).all scB && (G.arrs.all arrR && (List.range pl).all (parR G.params)))) := by show _ = _; rw [hd, Bool.true_and]
      clear hd
      go_wp2_with (go_at_call 114; refine Calls.mono (HTJ.out _) ?_; rintro e wx ⟨rfl, hwx⟩; subst wx)
      go_roundw
      case rel => exact ⟨i + 1, by first | rfl | (congr 1; omega), by omega, HD.out, hr.out.2⟩
      case measure => simp [intOf]; omega
     | false =>
      have HD : Hid (R = false) := by show _ = _; rw [hd]; rfl
      clear hd
      go_wp2_with (go_at_call 114; refine Calls.mono (HTJ.out _) ?_; rintro e wx ⟨rfl, hwx⟩; subst wx)
      go_ret
      exact ⟨ret_bool HD.out.symm, hr.out.2.1⟩
    ·obtain rfl : i = m := by omega
     have hd : R = ((G.arrs.drop 0).all arrR && (List.range pl).all (parR G.params)) := by rw [hr.out.1, HVZ.out]; rfl
     have HD : Hid _ := hd
     have HRB : Hid _ := hr.out.2
     clear hd hr HV HVD HVZ
     go_wp2
     go_loopw [4] (fun vi wr => ∃ j : Nat, vi = .int .i64 j ∧ j ≤ al ∧ Hid (R = ((G.arrs.drop j).all arrR && (List.range pl).all (parR G.params)) ∧ Below w.heap.size w wr ∧ Box wr w.heap.size [.string nm, .slice pa pl pc, .int .u8 r, .slice va i vc, .slice aa al ac, .slice ba n bc])) (fun vi _ => al - (intOf vi).toNat)
     case atStart => exact ⟨0, rfl, by omega, HD.out, HRB.out.1, HRB.out.2⟩
     case round =>
      clear e0 e1 e2 e3 e4 e5 hwl HD HRB
      obtain ⟨i2, rfl, hi2, hr⟩ := hrel
      obtain ⟨e0, e1, e2, e3, e4, e5⟩ := box6 hr.out.2.2
      have hwl := hr.out.2.2.lt
      by_cases hin : i2 < al
      ·obtain ⟨g, o, rfl, hg, cv, cw⟩ := HA.out i2 hin
       have hin' : (i2 : Int) < al := by omega
       have cv' := (hr.out.2.1.cell (p := ⟨g, o + i2 * 2, none⟩) hg).trans cv
       have cw' := (hr.out.2.1.cell (p := ⟨g, o + i2 * 2 + 1, none⟩) hg).trans cw
       have hd : R = (arrR (G.arrs.getD i2 default) && (G.arrs.drop (i2 + 1)).all arrR && (List.range pl).all (parR G.params)) := by rw [hr.out.1, HAD.out i2 hin]
       generalize G.arrs.getD i2 default = a at *
       obtain ⟨at', az⟩ := a
       dsimp only at cv' cw'
       have HTI := HSC.out at'
       unfold arrR at hd
       dsimp only at hd
       clear cv cw
       generalize scB at' = tb at *
       have HTJ : Hid _ := HTI
       clear HTI
       cases tb with
       | false =>
        have HD : Hid (R = false) := by show _ = _; rw [hd]; rfl
        clear hd
        go_wp2_with (go_at_call 114; refine Calls.mono (HTJ.out _) ?_; rintro e wx ⟨rfl, hwx⟩; subst wx)
        go_ret
        exact ⟨ret_bool HD.out.symm, hr.out.2.1⟩
       | true =>
        by_cases z1 : 1 ≤ az
        ·by_cases z2 : az ≤ 256
         ·have HD : Hid (R = ((G.arrs.drop (i2 + 1)).all arrR && (List.range pl).all (parR G.params))) := by show _ = _; rw [hd, decide_eq_true z1, decide_eq_true z2]; rfl
          clear hd
          go_wp2_with (go_at_call 114; refine Calls.mono (HTJ.out _) ?_; rintro e wx ⟨rfl, hwx⟩; subst wx)
          go_roundw
          case rel => exact ⟨i2 + 1, by first | rfl | (congr 1; omega), by omega, HD.out, hr.out.2⟩
          case measure => simp [intOf]; omega
         ·have HD : Hid (R = false) := by show _ = _; rw [hd, decide_eq_false z2]; simp
          have z2' : 256 < az := by omega
          clear hd z2
          go_wp2_with (go_at_call 114; refine Calls.mono (HTJ.out _) ?_; rintro e wx ⟨rfl, hwx⟩; subst wx)
          go_ret
          exact ⟨ret_bool HD.out.symm, hr.out.2.1⟩
        ·have HD : Hid (R = false) := by show _ = _; rw [hd, decide_eq_false z1]; simp
         have z1' : az < 1 := by omega
         clear hd z1
         go_wp2_with (go_at_call 114; refine Calls.mono (HTJ.out _) ?_; rintro e wx ⟨rfl, hwx⟩; subst wx)
         go_ret
         exact ⟨ret_bool HD.out.symm, hr.out.2.1⟩
      ·obtain rfl : i2 = al := by omega
       have hd : R = ((List.range pl).drop 0).all (parR G.params) := by rw [hr.out.1, HAZ.out]; rfl
       have HD : Hid _ := hd
       have HRB : Hid _ := hr.out.2
       clear hd hr HA HAD HAZ HSC
       go_wp2
       go_loopw [5] (fun vi wr => ∃ j : Nat, vi = .int .i64 j ∧ j ≤ pl ∧ Hid (R = ((List.range pl).drop j).all (parR G.params) ∧ Below w.heap.size w wr ∧ Box wr w.heap.size [.string nm, .slice pa pl pc, .int .u8 r, .slice va i vc, .slice aa i2 ac, .slice ba n bc])) (fun vi _ => pl - (intOf vi).toNat)
       case atStart => exact ⟨0, rfl, by omega, HD.out, HRB.out.1, HRB.out.2⟩
       case round =>
        clear e0 e1 e2 e3 e4 e5 hwl HD HRB
        obtain ⟨i3, rfl, hi3, hr⟩ := hrel
        obtain ⟨e0, e1, e2, e3, e4, e5⟩ := box6 hr.out.2.2
        have hwl := hr.out.2.2.lt
        by_cases hin : i3 < pl
        ·obtain ⟨g, o, rfl, hg, cv⟩ := HPS.out i3 hin
         have hall : ∀ j, j < pl → w.cell? ⟨g, o + j, none⟩ = some (.int .i64 (G.params.getD j 0)) := fun j hj => by
          obtain ⟨g', o', he, _, hc⟩ := HPS.out j hj
          cases he
          exact hc
         have hin' : (i3 : Int) < pl := by omega
         have cv' := (hr.out.2.1.cell (p := ⟨g, o + i3, none⟩) hg).trans cv
         have hd : R = (parR G.params i3 && ((List.range pl).drop (i3 + 1)).all (parR G.params)) := by rw [hr.out.1, HPD.out i3 hin]
         unfold parR at hd
         have hsl := slice_low (g := g) (o := o) hcap (Nat.le_of_lt hin)
         have HPJ : Hid (∀ W, Below w.heap.size w W → Calls Tryz.prog 116 #[.slice (some ⟨g, o, none⟩) i3 pc, .int .i64 (G.params.getD i3 0)] W fun e w' => e = .returned (.int .i64 (plcF (G.params.getD i3 0) (G.params.take i3) 0)) ∧ w' = W) := fun W hb => HPC.out i3 g o _ W hin (Nat.lt_of_lt_of_le hg hb.size) (fun j hj => (hb.cell (p := ⟨g, o + j, none⟩) hg).trans (hall j hj))
         generalize plcF (G.params.getD i3 0) (G.params.take i3) 0 = q at *
         generalize G.params.getD i3 0 = x at *
         have HRB : Hid _ := hr.out.2.1
         clear HPS HPC hall cv
         by_cases hq : q < 0
         ·have HD : Hid (R = ((List.range pl).drop (i3 + 1)).all (fun j => decide (plcF (G.params.getD j 0) (G.params.take j) 0 < 0))) := by show _ = _; rw [hd, decide_eq_true hq]; rfl
          clear hd
          go_wp2
          go_quiet ((go_at_call 116; exact Calls.quiet_of_same (HPJ.out _ (by repeat (first | exact HRB.out | refine below_drewN ?_ _ | refine below_drew ?_)))))
          go_wp2
          go_roundw
          case rel => exact ⟨i3 + 1, by first | rfl | (congr 1; omega), by omega, HD.out, by repeat (first | exact hr.out.2.1 | refine below_drewN ?_ _ | refine below_drew ?_), hr.out.2.2.same (by rfl)⟩
          case measure => simp [intOf]; omega
         ·have HD : Hid (R = false) := by show _ = _; rw [hd, decide_eq_false hq]; rfl
          have hq' : 0 ≤ q := by omega
          clear hd hq
          go_wp2
          go_quiet ((go_at_call 116; exact Calls.quiet_of_same (HPJ.out _ (by repeat (first | exact HRB.out | refine below_drewN ?_ _ | refine below_drew ?_)))))
          go_wp2
          go_ret
          exact ⟨ret_bool HD.out.symm, by repeat (first | exact hr.out.2.1 | refine below_drewN ?_ _ | refine below_drew ?_)⟩
        ·obtain rfl : i3 = pl := by omega
         have hd : R = true := by rw [hr.out.1, HPZ.out]
         have HD : Hid _ := hd
         clear hd HPS HPC
         go_wp2
         go_ret
         exact ⟨ret_bool HD.out.symm, hr.out.2.1⟩
end Go.Proofs.YtajaijilfclhpaaGreatDoor
