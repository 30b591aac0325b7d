/- The document's side: may an instruction stand, calls but for what they call? All kinds. -/
import Derived.Test.YtobnpllppohofaaGreatDoorGRAlnB
import Derived.Test.YtobnpllppohofaaGreatDoorGRAlnC
import Derived.Test.YtobnpllppohofaaGreatDoorGRAlnD
import Derived.Test.YtobnpllppohofaaGreatDoorGRAhd
import Derived.Test.YtobnpllppohofaaGreatDoorGRight3M
namespace Go.Proofs.YtobnpllppohofaaGreatDoor
open Go.RowKit Go.Sort

set_option maxRecDepth 100000 in
theorem ralone_any (G : Gr) (pv vv av bv : Value) (x : In) (xv : Value) (w : World) (h : GrAt w pv vv av bv G) (hA : IntsAt w xv x.args) (hbits : 0 ≤ x.bits ∧ x.bits < 18446744073709551616) :
  Calls Tryz.prog 87 #[.agg #[.string G.name, pv, .int .u8 G.result, vv, av, bv], inV x xv] w fun e w' => e = .returned (.bool (aloneR G x)) ∧ Below w.heap.size w w' := by
 obtain ⟨k, op, dst, args, bits, ref⟩ := x
 dsimp only at hA hbits
 by_cases h1 : 1 ≤ k
 rotate_left
 ·obtain ⟨pa, pc, va, vc, aa, ac, ba, bc, rfl, rfl, rfl, rfl, _, _, _, _⟩ := h.openF
  obtain ⟨xa, xc, rfl, hxl⟩ := hA.form
  have h1' : k < 1 := by omega
  have HR : Hid (aloneR G ⟨k, op, dst, args, bits, ref⟩ = false) := by show _ = _; unfold aloneR; rw [decide_eq_false h1]; rfl
  clear h hA h1
  generalize aloneR G ⟨k, op, dst, args, bits, ref⟩ = R at *
  go_enter Tryz.func87, Tryz.ntmps87
  go_wp2
  go_ret
  exact ⟨ret_bool HR.out.symm, below_alloc (below_alloc (Below.refl _ _) _) _⟩
 by_cases h10 : k ≤ 10
 rotate_left
 ·obtain ⟨pa, pc, va, vc, aa, ac, ba, bc, rfl, rfl, rfl, rfl, _, _, _, _⟩ := h.openF
  obtain ⟨xa, xc, rfl, hxl⟩ := hA.form
  have h10' : 10 < k := by omega
  have HR : Hid (aloneR G ⟨k, op, dst, args, bits, ref⟩ = false) := by show _ = _; unfold aloneR; rw [decide_eq_false h10]; simp
  clear h hA h10
  generalize aloneR G ⟨k, op, dst, args, bits, ref⟩ = R at *
  go_enter Tryz.func87, Tryz.ntmps87
  go_wp2
  go_ret
  exact ⟨ret_bool HR.out.symm, below_alloc (below_alloc (Below.refl _ _) _) _⟩
 have hk : k = 1 ∨ k = 2 ∨ k = 3 ∨ k = 4 ∨ k = 5 ∨ k = 6 ∨ k = 7 ∨ k = 8 ∨ k = 9 ∨ k = 10 := by omega
 rcases hk with rfl | rfl | rfl | rfl | rfl | rfl | rfl | rfl | rfl | rfl
 ·exact alone_1 G pv vv av bv op dst args bits ref xv w h hA hbits
 ·exact alone_2 G pv vv av bv op dst args bits ref xv w h hA hbits
 ·exact alone_3 G pv vv av bv op dst args bits ref xv w h hA hbits
 ·exact alone_4 G pv vv av bv op dst args bits ref xv w h hA hbits
 ·exact alone_5 G pv vv av bv op dst args bits ref xv w h hA hbits
 ·exact alone_6 G pv vv av bv op dst args bits ref xv w h hA hbits
 ·exact alone_7 G pv vv av bv op dst args bits ref xv w h hA hbits
 ·exact alone_8 G pv vv av bv op dst args bits ref xv w h hA hbits
 ·exact alone_9 G pv vv av bv op dst args bits ref xv w h hA hbits
 ·exact alone_10 G pv vv av bv op dst args bits ref xv w h hA hbits
end Go.Proofs.YtobnpllppohofaaGreatDoor
/- The document's side: do phis stand as they must? -/
namespace Go.Proofs.YtobnpllppohofaaGreatDoor
open Go.RowKit Go.Sort

def phiR (i : Nat) (na : Nat) : List In → Nat → List Int → Bool
 | [], _, _ => true
 | x :: xs, k, st =>
  if x.kind = 1 then (decide (i ≠ 0) && (decide (st.length = k) && (decide (x.args.length = na) && decide (plcF x.dst st 0 < 0)))) && phiR i na xs (k + 1) (st ++ [x.dst])
  else phiR i na xs (k + 1) st
def phisRF (rows : List (List Int)) : List Bl → Nat → Bool
 | [], _ => true
 | b :: bs, i => phiR i (rows.getD i []).length b.ins 0 [] && phisRF rows bs (i + 1)
def phisR (G : Gr) : Bool := phisRF (aheadT (tms G.blocks)) G.blocks 0
theorem phisRF_drop {rows : List (List Int)} {bs : List Bl} {i : Nat} (h : i < bs.length) : phisRF rows (bs.drop i) i = (phiR i (rows.getD i []).length (bs.getD i default).ins 0 [] && phisRF rows (bs.drop (i + 1)) (i + 1)) := by
 have e : bs.getD i default = bs[i] := by simp [List.getD, List.getElem?_eq_getElem h]
 rw [e, List.drop_eq_getElem_cons h]
 rfl
theorem phiR_drop {i na : Nat} {L : List In} {k : Nat} {st : List Int} (h : k < L.length) : phiR i na (L.drop k) k st =
  if (L.getD k default).kind = 1 then (decide (i ≠ 0) && (decide (st.length = k) && (decide ((L.getD k default).args.length = na) && decide (plcF (L.getD k default).dst st 0 < 0)))) && phiR i na (L.drop (k + 1)) (k + 1) (st ++ [(L.getD k default).dst])
  else phiR i na (L.drop (k + 1)) (k + 1) st := by
 have e : L.getD k default = L[k] := by simp [List.getD, List.getElem?_eq_getElem h]
 rw [e, List.drop_eq_getElem_cons h]
 rfl
theorem nodup_bound : ∀ (m : Nat) (l : List Int), l.Nodup → (∀ x ∈ l, 0 ≤ x ∧ x < (m : Int)) → l.length ≤ m
 | 0, l, _, h => by
  match l, h with
  | [], _ => simp
  | x :: l, h => have := h x (by simp); omega
 | m + 1, l, hn, h => by
  have h1 := nodup_bound m (l.erase (m : Int)) (hn.erase _) (fun x hx => by
   have h2 := (hn.mem_erase_iff).1 hx
   have h3 := h x h2.2
   have h4 := h2.1
   omega)
  have h5 := List.length_erase (a := (m : Int)) (l := l)
  rw [h5] at h1
  split at h1 <;> omega
theorem plcF_ge {x : Int} : ∀ (l : List Int) (i : Nat), x ∈ l → 0 ≤ plcF x l i
 | y :: l, i, h => by
  unfold plcF
  split
  ·omega
  ·rename_i hne
   rcases List.mem_cons.1 h with e | h
   ·exact absurd e.symm hne
   ·exact plcF_ge l (i + 1) h
 | [], _, h => by cases h
theorem plcF_not {x : Int} : ∀ (l : List Int) (i : Nat), x ∉ l → plcF x l i = -1
 | y :: l, i, h => by
  unfold plcF
  rw [if_neg (fun e => h (by simp [e]))]
  exact plcF_not l (i + 1) (fun hm => h (by simp [hm]))
 | [], _, _ => rfl
theorem plcF_iff {x : Int} {l : List Int} : plcF x l 0 < 0 ↔ x ∉ l := by
 constructor
 ·intro h hm
  have := plcF_ge l 0 hm
  omega
 ·intro h
  rw [plcF_not l 0 h]
  omega
theorem nodup_snoc {l : List Int} {x : Int} (h : l.Nodup) (hx : x ∉ l) : (l ++ [x]).Nodup := by
 rw [List.nodup_append]
 refine ⟨h, by simp, ?_⟩
 intro a ha b hb
 simp at hb
 subst hb
 intro e
 exact hx (e ▸ ha)
set_option maxRecDepth 100000 in
set_option maxHeartbeats 4000000 in
theorem rphis_any (G : Gr) (pv vv av bv : Value) (w : World) (h : GrAt w pv vv av bv G) (hn : G.blocks.length ≤ 100000) (hm : G.vars.length ≤ 1048576) (hdst : ∀ b ∈ G.blocks, ∀ x ∈ b.ins, x.kind = 1 → inB x.dst G.vars.length = true) :
  Calls Tryz.prog 88 #[.agg #[.string G.name, pv, .int .u8 G.result, vv, av, bv]] w fun e w' => e = .returned (.bool (phisR G)) ∧ Below w.heap.size w w' := by
 have HAH : Hid (∀ W, Below w.heap.size w W → Calls Tryz.prog 22 #[.agg #[.string G.name, pv, .int .u8 G.result, vv, av, bv]] W fun e w' => ∃ kvs, e = .returned (.slice (some ⟨W.heap.size + 1, 0, none⟩) G.blocks.length G.blocks.length) ∧ RowsIn w' W.heap.size (W.heap.size + 1) G.blocks.length kvs (aheadT (tms G.blocks)) ∧ Below W.heap.size W w') := fun W hb => rahead_any G pv vv av bv W (h.below hb) hn
 obtain ⟨pa, pc, va, vc, aa, ac, ba, bc, rfl, rfl, rfl, rfl, _, _, _, _⟩ := h.openF
 have HB : Hid (∀ i, i < G.blocks.length → _) := fun i hi => h.bs.get (i := i) hi
 have HDS : Hid (∀ i, i < G.blocks.length → ∀ x ∈ (G.blocks.getD i default).ins, x.kind = 1 → inB x.dst G.vars.length = true) := fun i hi x hx => hdst _ (by rw [List.getD, List.getElem?_eq_getElem hi]; exact List.getElem_mem hi) x hx
 have HAL : Hid (∀ i, i < G.blocks.length → ((aheadT (tms G.blocks)).getD i []).length ≤ 200000) := fun i hi => by
  have := ahead_len_le (ts := tms G.blocks) (j := i) (by simpa [tms] using hi)
  have e : (tms G.blocks).length = G.blocks.length := by simp [tms]
  rw [e] at this
  omega
 obtain ⟨R, hR⟩ : ∃ R, R = phisR G := ⟨_, rfl⟩
 rw [← hR]
 unfold phisR at hR
 have HR : Hid (phisRF (aheadT (tms G.blocks)) (G.blocks.drop 0) 0 = R) := hR.symm
 have HDR : Hid (∀ i, i < G.blocks.length → _) := fun i hi => phisRF_drop (rows := aheadT (tms G.blocks)) (bs := G.blocks) hi
 have HZ : Hid (phisRF (aheadT (tms G.blocks)) (G.blocks.drop G.blocks.length) G.blocks.length = true) := by show _ = _; rw [List.drop_length]; rfl
 clear h hR hdst hn
 obtain ⟨i0, hi0, hz0, hz1, hz2⟩ := info_parts infoI
 generalize aheadT (tms G.blocks) = rows at *
 generalize G.blocks.length = n at *
 generalize G.name = nm at *
 generalize G.params.length = pl at *
 generalize G.vars.length = m at *
 generalize G.arrs.length = al at *
 generalize G.result = r at *
 have H0 : Hid (Below w.heap.size w (w.alloc (.cells #[.string nm, .slice pa pl pc, .int .u8 r, .slice va m vc, .slice aa al ac, .slice ba n bc] 28)) ∧ Box (w.alloc (.cells #[.string nm, .slice pa pl pc, .int .u8 r, .slice va m vc, .slice aa al ac, .slice ba n bc] 28)) w.heap.size [.string nm, .slice pa pl pc, .int .u8 r, .slice va m vc, .slice aa al ac, .slice ba n bc]) := ⟨below_alloc (Below.refl _ _) _, Box.new w [.string nm, .slice pa pl pc, .int .u8 r, .slice va m vc, .slice aa al ac, .slice ba n bc] 28⟩
 have HM : Hid (m ≤ 1048576) := hm
 clear hm
 go_enter Tryz.func88, Tryz.ntmps88
 have HSZ : Hid (∀ o : Obj, (w.alloc o).heap.size = w.heap.size + 1) := fun o => by simp
 go_wp2_with (go_at_call 22; go_loud (refine Calls.mono (by exact HAH.out _ H0.out.1) ?_; rintro e w1 ⟨kvs, rfl, hrows, hb1⟩; rw [HSZ.out] at hrows; have HRO : Hid _ := hrows; have HW1 : Hid (Below w.heap.size w w1) := below_trans H0.out.1 hb1; have HBX : Hid (Box w1 w.heap.size [.string nm, .slice pa pl pc, .int .u8 r, .slice va m vc, .slice aa al ac, .slice ba n bc]) := H0.out.2.below hb1; clear hrows hb1))
 go_loopw [4] (fun vi wq => ∃ (i : Nat), vi = .int .i64 i ∧ i ≤ n ∧ Hid (Below w1.heap.size w1 wq ∧ phisRF rows (G.blocks.drop i) i = R)) (fun vi _ => n - (intOf vi).toNat)
 case atStart => exact ⟨0, rfl, by omega, Below.refl _ _, HR.out⟩
 case round =>
  obtain ⟨i, rfl, hi, hr⟩ := hrel
  clear HR H0 HAH
  obtain ⟨e0, e1, e2, e3, e4, e5⟩ := box6 (HBX.out.below hr.out.1)
  have hwl := (HBX.out.below hr.out.1).lt
  by_cases hin : i < n
  ·obtain ⟨g, o, iv, rfl, hg, c0, c1, c2, c3, c4, c5, hins⟩ := HB.out i hin
   obtain ⟨ia, ic, rfl, _⟩ := hins.form
   have hin' : (i : Int) < n := by omega
   have HWW : Hid (Below w.heap.size w wr) := below_trans' HW1.out hr.out.1
   have hcl : ∀ j, wr.cell? ⟨g, j, none⟩ = w.cell? ⟨g, j, none⟩ := fun j => HWW.out.cell (p := ⟨g, j, none⟩) hg
   rw [← hcl] at c0 c1 c2 c3 c4 c5
   have HPR : Hid _ := HDR.out i hin
   rw [hr.out.2] at HPR
   have hal := HAL.out i hin
   have er : rows[i]? = some (rows.getD i []) := by rw [List.getD, List.getElem?_eq_getElem (by rw [HRO.out.rlen]; exact hin)]; rfl
   obtain ⟨kv, ek⟩ : ∃ kv, kvs[i]? = some kv := ⟨_, List.getElem?_eq_getElem (by rw [HRO.out.klen]; exact hin)⟩
   obtain ⟨ka, kc, rfl, _⟩ := (OwnI.at' (HRO.out.kid i _ kv er ek).1 (by omega)).form
   have cR := HRO.out.cellG ek
   have hgR := HRO.out.ltG.2
   have hds := HDS.out i hin
   generalize (rows.getD i []).length = na at *
   generalize (G.blocks.getD i default).ins = L at *
   have HI : Hid (∀ k, k < L.length → _) := fun k hk => hins.get (i := k) hk
   generalize (G.blocks.getD i default).tm.kind = t0 at *
   generalize (G.blocks.getD i default).tm.arg = t1 at *
   generalize (G.blocks.getD i default).tm.t0 = t2 at *
   generalize (G.blocks.getD i default).tm.t1 = t3 at *
   generalize (G.blocks.getD i default).tm.trap = t4 at *
   obtain ⟨R2, hR2⟩ : ∃ R2, R2 = phiR i na L 0 [] := ⟨_, rfl⟩
   rw [← hR2] at HPR
   have HR2 : Hid (phiR i na (L.drop 0) 0 [] = R2) := hR2.symm
   have HB1 : Hid (Below wr.heap.size wr (wr.alloc (.cells #[.slice ia L.length ic, .int .u8 t0, .int .i64 t1, .int .i64 t2, .int .i64 t3, .int .u8 t4] 49)) ∧ Box (wr.alloc (.cells #[.slice ia L.length ic, .int .u8 t0, .int .i64 t1, .int .i64 t2, .int .i64 t3, .int .u8 t4] 49)) wr.heap.size [.slice ia L.length ic, .int .u8 t0, .int .i64 t1, .int .i64 t2, .int .i64 t3, .int .u8 t4]) := ⟨below_alloc (Below.refl _ _) _, Box.new wr [.slice ia L.length ic, .int .u8 t0, .int .i64 t1, .int .i64 t2, .int .i64 t3, .int .u8 t4] 49⟩
   have HDST : Hid _ := hds
   clear hcl HB hds hR2 hins er HDR HZ HAL
   generalize wr = wo at *
   obtain ⟨wb, hwb⟩ : ∃ wb, wb = wo.alloc (.cells #[.slice ia L.length ic, .int .u8 t0, .int .i64 t1, .int .i64 t2, .int .i64 t3, .int .u8 t4] 49) := ⟨_, rfl⟩
   have HWB : Hid _ := hwb
   clear hwb
   go_wp2
   rw [← HWB.out] at HB1 ⊢
   clear HWB
   clear e0 e1 e2 e3 e4 e5 c0 c1 c2 c3 c4 c5
   go_loopw [7, 6] (fun vk vs wq => ∃ (k : Nat) (st : List Int) (sa : Option Addr) (sc : Nat), vk = .int .i64 k ∧ vs = .slice sa st.length sc ∧ k ≤ L.length ∧ Hid (Below wb.heap.size wb wq ∧ OwnI wq wb.heap.size (.slice sa st.length sc) st ∧ (st.Nodup ∧ ∀ x ∈ st, 0 ≤ x ∧ x < (m : Int)) ∧ phiR i na (L.drop k) k st = R2)) (fun vk _ _ => L.length - (intOf vk).toNat)
   case atStart => exact ⟨0, [], none, 0, rfl, rfl, by omega, Below.refl _ _, World.ownsRow_nil _ _ _ _, ⟨List.nodup_nil, by simp⟩, HR2.out⟩
   case round =>
    obtain ⟨k, st, sa, sc, rfl, rfl, hk, hq⟩ := hrel
    clear HR2
    have hsl : st.length ≤ m := nodup_bound m st hq.out.2.2.1.1 hq.out.2.2.1.2
    have hsm : st.length ≤ 1048576 := Nat.le_trans hsl HM.out
    obtain ⟨b0, b1, b2, b3, b4, b5⟩ := box6 (HB1.out.2.below hq.out.1)
    have hwb := (HB1.out.2.below hq.out.1).lt
    have HWQ : Hid (Below w1.heap.size w1 wr) := below_trans' hr.out.1 (below_trans' HB1.out.1 hq.out.1)
    obtain ⟨e0, e1, e2, e3, e4, e5⟩ := box6 (HBX.out.below HWQ.out)
    by_cases hkn : k < L.length
    ·obtain ⟨gi, oi, xv, rfl, hgi, d0, d1, d2, d3, d4, d5, hxa⟩ := HI.out k hkn
     obtain ⟨xa, xc, rfl, hxl⟩ := hxa.form
     have hkn' : (k : Int) < L.length := by omega
     have hcl : ∀ j, wr.cell? ⟨gi, j, none⟩ = w.cell? ⟨gi, j, none⟩ := fun j => (below_trans' HW1.out HWQ.out).cell (p := ⟨gi, j, none⟩) hgi
     rw [← hcl] at d0 d1 d2 d3 d4 d5
     have hcr : wr.cell? ⟨w.heap.size + 1 + 1, i, none⟩ = w1.cell? ⟨w.heap.size + 1 + 1, i, none⟩ := HWQ.out.cell (p := ⟨w.heap.size + 1 + 1, i, none⟩) hgR
     rw [cR] at hcr
     have HPD : Hid _ := phiR_drop (i := i) (na := na) (L := L) (k := k) (st := st) hkn
     rw [hq.out.2.2.2] at HPD
     have hdst := HDST.out (L.getD k default) (by rw [List.getD, List.getElem?_eq_getElem hkn]; exact List.getElem_mem hkn)
     generalize (L.getD k default).args.length = xn at *
     generalize (L.getD k default).kind = x0 at *
     generalize (L.getD k default).dst = x2 at *
     have HPC0 : ∀ W, Below w.heap.size w W → Below wr.heap.size wr W → Calls Tryz.prog 55 #[.slice sa st.length sc, .int .i64 x2] W fun e w' => e = .returned (.int .i64 (plcF x2 st 0)) ∧ w' = W := fun W _ hb => rplace_any st x2 _ W ((OwnI.at' hq.out.2.1 (by omega)).below hb)
     have HOK : Hid (wr.ownsRow wb.heap.size 3 1 (.slice sa st.length sc) st.length (st.map intV)) := hq.out.2.1
     have HQ1 : Hid (Below wb.heap.size wb wr) := hq.out.1
     have HQ3 : Hid (st.Nodup ∧ ∀ x ∈ st, 0 ≤ x ∧ x < (m : Int)) := hq.out.2.2.1
     have HPX : Hid (plcF x2 st 0 < 0 → x2 ∉ st) := fun hh => plcF_iff.1 hh
     have HPQ := HPD.out
     have HLE : Hid ((st ++ [x2]).length = st.length + 1) := by show _ = _; simp
     clear hcl HI hxa hq HPD hsl
     generalize hstl : st.length = sl at *
     generalize plcF x2 st 0 = q at *
     have HSTL : Hid _ := hstl
     have HPC : Hid _ := HPC0
     have HPD : Hid _ := HPQ
     clear hstl HPC0 HPQ
     by_cases hx : x0 = 1
     ·subst hx
      have hdst := hdst rfl
      have HIX : Hid (0 ≤ x2 ∧ x2 < (m : Int)) := inB_iff.1 hdst
      clear hdst
      rw [if_pos rfl] at HPD
      by_cases ok0 : i = 0
      ·subst ok0
       have HD : Hid (R = false) := by
        show R = false
        have h9 := HPD.out
        rw [decide_eq_false (by simp)] at h9
        have h8 := HPR.out
        rw [h9] at h8
        simpa using h8
       clear HPD HPR
       go_wp2
       go_quiet (fail)
       go_wp2
       go_ret
       exact ⟨ret_bool HD.out.symm, below_trans' HW1.out (by repeat (first | exact HWQ.out | refine below_drewN ?_ _ | refine below_drew ?_))⟩
      have f0 : ((i : Int) == 0) = false := beq_false_of_ne (by omega)
      by_cases ok1 : sl = k
      rotate_left
      ·have f1 : ((sl : Int) != (k : Int)) = true := bne_iff_ne.2 (by omega)
       have HD : Hid (R = false) := by
        show R = false
        have h9 := HPD.out
        rw [decide_eq_false ok1] at h9
        have h8 := HPR.out
        rw [h9] at h8
        simpa using h8
       clear HPD HPR ok1 ok0
       go_wp2
       go_quiet (fail)
       go_wp2
       go_ret
       exact ⟨ret_bool HD.out.symm, below_trans' HW1.out (by repeat (first | exact HWQ.out | refine below_drewN ?_ _ | refine below_drew ?_))⟩
      subst ok1
      have f1 : ((sl : Int) != (sl : Int)) = false := by simp
      by_cases ok2 : xn = na
      rotate_left
      ·have f2 : ((xn : Int) != (na : Int)) = true := bne_iff_ne.2 (by omega)
       have HD : Hid (R = false) := by
        show R = false
        have h9 := HPD.out
        rw [decide_eq_false ok2] at h9
        have h8 := HPR.out
        rw [h9] at h8
        simpa using h8
       clear HPD HPR ok2 ok0
       go_wp2
       go_quiet (fail)
       go_wp2
       go_ret
       exact ⟨ret_bool HD.out.symm, below_trans' HW1.out (by repeat (first | exact HWQ.out | refine below_drewN ?_ _ | refine below_drew ?_))⟩
      subst ok2
      have f2 : ((xn : Int) != (xn : Int)) = false := by simp
      have HRB : Hid (Below w.heap.size w wr) := below_trans' HW1.out HWQ.out
      have HRC : Hid (Below wr.heap.size wr wr) := Below.refl _ _
      by_cases ok3 : q < 0
      rotate_left
      ·have f3 : 0 ≤ q := by omega
       have HD : Hid (R = false) := by
        show R = false
        have h9 := HPD.out
        rw [decide_eq_false ok3] at h9
        have h8 := HPR.out
        rw [h9] at h8
        simpa using h8
       clear HPD HPR ok3 ok0
       go_wp2
       go_quiet ((go_at_call 55; exact Calls.quiet_of_same (HPC.out _ (by repeat (first | exact HRB.out | refine below_drewN ?_ _ | refine below_drew ?_)) (by repeat (first | exact HRC.out | refine below_drewN ?_ _ | refine below_drew ?_)))))
       go_wp2
       go_ret
       exact ⟨ret_bool HD.out.symm, below_trans' HW1.out (by repeat (first | exact HWQ.out | refine below_drewN ?_ _ | refine below_drew ?_))⟩
      have HNM : Hid (x2 ∉ st) := HPX.out ok3
      have f3 : decide (0 ≤ q) = false := decide_eq_false (by omega)
      have HD : Hid (R2 = phiR i xn (L.drop (sl + 1)) (sl + 1) (st ++ [x2])) := by
       show _ = _
       have h9 := HPD.out
       rw [h9, decide_eq_true ok3]
       simp [ok0]
      clear HPD HPX ok0
      go_wp2
      go_quiet ((go_at_call 55; exact Calls.quiet_of_same (HPC.out _ (by repeat (first | exact HRB.out | refine below_drewN ?_ _ | refine below_drew ?_)) (by repeat (first | exact HRC.out | refine below_drewN ?_ _ | refine below_drew ?_)))))
      go_wp2_with (at_builtin; go_loud (refine wpList_append_own_at _ rfl _ _ 22 rfl wb.heap.size 3 i0 (.int .i64 0) 1 8 Tryz.underlying22 hi0 hz0 hz1 hz2 rfl (by decide) _ sl (st.map intV) rfl (HOK.out.alloc _) ⟨wr.heap.size, 0, none⟩ 1 1 [intV x2] rfl rfl ?c1 ?c2 ?c3 ?c4 ?c5 ?_))
      case c1 => exact cell_one_new wr (intV x2) 3
      case c2 => intro u hu; simp at hu; subst hu; rfl
      case c3 => unfold maxLen; omega
      case c4 => omega
      case c5 => have := HQ1.out.size; simp; omega
      intro v2 w2 ho hg2 _ hat
      obtain ⟨g2, cc2, rfl, _, _, _, _⟩ := own_form ho
      have HF : Hid (Below wb.heap.size wb w2) := below_grown (below_trans' HQ1.out (by repeat (first | exact Below.refl _ _ | refine below_alloc ?_ _ | refine below_drewN ?_ _ | refine below_drew ?_))) hg2 (fun q hq => (HOK.out.lt q hq).1)
      have HO : Hid (OwnI w2 wb.heap.size (.slice (some ⟨g2, 0, none⟩) (st ++ [x2]).length cc2) (st ++ [x2])) := by
       show World.ownsRow _ _ _ _ _ _ _
       rw [List.map_append, HLE.out]
       exact ho
      have HN2 : Hid ((st ++ [x2]).Nodup ∧ ∀ x ∈ st ++ [x2], 0 ≤ x ∧ x < (m : Int)) := ⟨nodup_snoc HQ3.out.1 HNM.out, fun x hx => by
       rcases List.mem_append.1 hx with hx | hx
       ·exact HQ3.out.2 x hx
       ·simp at hx; subst hx; exact HIX.out⟩
      clear ho hg2 hat
      go_wp2
      go_roundw
      case rel => exact ⟨sl + 1, st ++ [x2], some ⟨g2, 0, none⟩, cc2, by first | rfl | (congr 1; omega), by rw [HLE.out], by omega, HF.out, HO.out, HN2.out, HD.out.symm⟩
      case measure => simp [intOf]; omega
     ·have f0 : (x0 != 1) = true := bne_iff_ne.2 hx
      rw [if_neg hx] at HPD
      have HO : Hid (OwnI wr wb.heap.size (.slice sa st.length sc) st) := by
       show World.ownsRow _ _ _ _ _ _ _
       rw [HSTL.out]
       exact HOK.out
      clear hx
      go_wp2
      go_roundw
      case rel => exact ⟨k + 1, st, sa, sc, by first | rfl | (congr 1; omega), by rw [HSTL.out], by omega, HQ1.out, HO.out, HQ3.out, HPD.out.symm⟩
      case measure => simp [intOf]; omega
    ·obtain rfl : k = L.length := by omega
     have hd : R2 = true := by have h9 := hq.out.2.2.2; rw [List.drop_length] at h9; exact h9.symm
     have HD : Hid (phisRF rows (G.blocks.drop (i + 1)) (i + 1) = R) := by
      show _ = R
      have h8 := HPR.out
      rw [hd, Bool.true_and] at h8
      exact h8.symm
     clear hd HI
     go_wp2
     go_roundw
     case rel => exact ⟨i + 1, by first | rfl | (congr 1; omega), by omega, HWQ.out, HD.out⟩
     case measure => simp [intOf]; omega
  ·obtain rfl : i = n := by omega
   have hd : true = R := by have h9 := hr.out.2; rw [HZ.out] at h9; exact h9
   have HD : Hid _ := hd
   clear hd HB HDR HZ HAL HDS
   go_wp2
   go_ret
   exact ⟨ret_bool HD.out, below_trans' HW1.out hr.out.1⟩
end Go.Proofs.YtobnpllppohofaaGreatDoor
