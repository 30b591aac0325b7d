/- The law's own: what follows. -/
import Derived.Test.YtcggbedjhglmmaaGreatDoorGAhd1M
import Derived.Test.YtcggbedjhglmmaaGreatDoorLRbM
namespace Go.Proofs.YtcggbedjhglmmaaGreatDoor
open Go.RowKit

def pairB (v i : Int) (p : Int × Int) : Bool := p.1 == v && p.2 == i
def insPF (v i : Int) (row : List Int) (x : In) : Bool := x.kind == 1 && (x.args.zip row).any (pairB v i)
def nxF (bs : List Bl) (ah rows : List (List Int)) (v i : Int) (t : Int) : Bool := memB (rows.getD t.toNat []) v || (bs.getD t.toNat default).ins.any (insPF v i (ah.getD t.toNat []))
theorem any_dropA {α : Type} {L : List α} {d : α} {p : α → Bool} {i : Nat} (h : i < L.length) : (L.drop i).any p = (p (L.getD i d) || (L.drop (i + 1)).any p) := by
  have e : L.getD i d = L[i] := by simp [List.getD, List.getElem?_eq_getElem h]
  rw [e, List.drop_eq_getElem_cons h]
  rfl
theorem getD_memF {l : List Int} {j : Nat} (h : j < l.length) : l.getD j 0 ∈ l := by
  rw [List.getD, List.getElem?_eq_getElem h]
  exact List.getElem_mem h
theorem insPF_iff {v i : Int} {row : List Int} {x : In} : insPF v i row x = true ↔ x.kind = 1 ∧ ∃ k : Nat, row[k]? = some i ∧ x.args[k]? = some v := by
  unfold insPF
  rw [Bool.and_eq_true, List.any_eq_true]
  constructor
  · rintro ⟨h1, ⟨a, b⟩, hm, hp⟩
    refine ⟨by simpa using h1, ?_⟩
    obtain ⟨k, hk, he⟩ := List.mem_iff_getElem.1 hm
    have hl : k < x.args.length ∧ k < row.length := by rw [List.length_zip] at hk; omega
    rw [List.getElem_zip] at he
    unfold pairB at hp
    simp only [Bool.and_eq_true, beq_iff_eq] at hp
    have h1 := (Prod.mk.inj he).1
    have h2 := (Prod.mk.inj he).2
    exact ⟨k, by rw [List.getElem?_eq_getElem hl.2, h2, hp.2], by rw [List.getElem?_eq_getElem hl.1, h1, hp.1]⟩
  · rintro ⟨h1, k, h2, h3⟩
    refine ⟨by simpa using h1, (v, i), ?_, by unfold pairB; simp⟩
    obtain ⟨l2, e2⟩ := List.getElem?_eq_some_iff.1 h2
    obtain ⟨l3, e3⟩ := List.getElem?_eq_some_iff.1 h3
    refine List.mem_iff_getElem.2 ⟨k, by rw [List.length_zip]; omega, ?_⟩
    rw [List.getElem_zip, e2, e3]
theorem foL_is {bs : List Bl} {ah rows : List (List Int)} {v : Int} {i : Nat} : (nextT (bs.getD i default).tm).any (nxF bs ah rows v i) = decL (∃ j ∈ nxB bs i, v ∈ rows.getD j [] ∨ phiAsk bs ah i j v) := by
  rw [Bool.eq_iff_iff, decL_iff, List.any_eq_true]
  have key : ∀ t : Int, nxF bs ah rows v i t = true ↔ v ∈ rows.getD t.toNat [] ∨ phiAsk bs ah i t.toNat v := fun t => by
    unfold nxF
    rw [Bool.or_eq_true, List.any_eq_true]
    unfold memB phiAsk blk
    rw [decide_eq_true_eq]
    refine or_congr Iff.rfl ?_
    constructor
    · rintro ⟨x, m, hx⟩
      obtain ⟨h1, k, h2, h3⟩ := insPF_iff.1 hx
      exact ⟨k, h2, x, m, h1, h3⟩
    · rintro ⟨k, h2, x, m, h1, h3⟩
      exact ⟨x, m, insPF_iff.2 ⟨h1, k, h2, h3⟩⟩
  constructor
  · rintro ⟨t, m, h⟩
    exact ⟨t.toNat, List.mem_map.2 ⟨t, m, rfl⟩, (key t).1 h⟩
  · rintro ⟨j, m, h⟩
    obtain ⟨t, mt, rfl⟩ := List.mem_map.1 m
    exact ⟨t, mt, (key t).2 h⟩
set_option maxRecDepth 100000 in
set_option maxHeartbeats 8000000 in
theorem follows_any (G : Gr) (pv vv av bv ahv inv : Value) (ah rows : List (List Int)) (i : Nat) (v : Int) (w : World) (h : GrAt w pv vv av bv G) (ha : NetAt w ahv ah) (hr : NetAt w inv rows) (hal : ah.length = G.blocks.length) (hrl : rows.length = G.blocks.length) (hi : i < G.blocks.length) (hnx : ∀ t ∈ nextT (G.blocks.getD i default).tm, 0 ≤ t ∧ t < (G.blocks.length : Int)) :
    Calls Tryz.prog 15 #[.agg #[.string G.name, pv, .int .u8 G.result, vv, av, bv], ahv, inv, .int .i64 (i : Int), .int .i64 v] w fun e w' => e = .returned (.bool (decL (∃ j ∈ nxB G.blocks i, v ∈ rows.getD j [] ∨ phiAsk G.blocks ah i j v))) ∧ Below w.heap.size w w' := by
  obtain ⟨R, hR⟩ : ∃ R, R = decL (∃ j ∈ nxB G.blocks i, v ∈ rows.getD j [] ∨ phiAsk G.blocks ah i j v) := ⟨_, rfl⟩
  rw [← hR]
  rw [← foL_is] at hR
  obtain ⟨pa, pc, va, vc, aa, ac, ba, bc, rfl, rfl, rfl, rfl, _, _, _, hbl⟩ := h.openF
  obtain ⟨g, o, iv, rfl, hg, c0, c1, c2, c3, c4, c5, hins⟩ := h.bs.get (i := i) hi
  obtain ⟨ia, ic, rfl, _⟩ := hins.form
  obtain ⟨na, nc, rfl, _⟩ := ha.form
  obtain ⟨ma, mc, rfl, _⟩ := hr.form
  have HB : Hid (∀ j, j < G.blocks.length → _) := fun j hj => h.bs.get (i := j) hj
  have HA : Hid (∀ j, j < G.blocks.length → _) := fun j hj => ha.get (i := j) (by omega)
  have HRO : Hid (∀ j, j < G.blocks.length → _) := fun j hj => hr.get (i := j) (by omega)
  have HAM : Hid (∀ l a W, IntsAt W a l → Calls Tryz.prog 14 #[a, .int .i64 v] W fun e w' => e = .returned (.bool (memB l v)) ∧ w' = W) := fun l a W hW => amongL_any l v a W hW
  have HNA : Hid (∀ W, Calls Tryz.prog 28 #[.agg (blArr (.slice ia (G.blocks.getD i default).ins.length ic) (G.blocks.getD i default).tm)] W fun e w' => ∃ v, e = .returned v ∧ OwnI w' W.heap.size v (nextT (G.blocks.getD i default).tm) ∧ Below W.heap.size W w') := fun W => next_any _ _ W
  have HNX : Hid ((nextT (G.blocks.getD i default).tm).length ≤ 2 ∧ ∀ k, k < (nextT (G.blocks.getD i default).tm).length → ∃ t : Nat, (nextT (G.blocks.getD i default).tm).getD k 0 = (t : Int) ∧ t < G.blocks.length) := by
    refine ⟨next_len _, fun k hk => ?_⟩
    have hm := hnx ((nextT (G.blocks.getD i default).tm).getD k 0) (getD_memF hk)
    obtain ⟨t, ht⟩ := Int.eq_ofNat_of_zero_le hm.1
    exact ⟨t, ht, by rw [ht] at hm; omega⟩
  rw [hal, hrl]
  clear h ha hr hal hrl hnx hins hbl
  obtain ⟨nm, ps, r, vs, ars, bs⟩ := G
  dsimp only at *
  generalize hT : bs.getD i default = T at *
  clear hT
  generalize ps.length = pl at *
  generalize vs.length = m at *
  generalize ars.length = al at *
  generalize bs.length = n at *
  obtain ⟨L0, tk, ta, t0, t1, tt⟩ := T
  dsimp only at *
  generalize hns : nextT ⟨tk, ta, t0, t1, tt⟩ = ns at *
  clear hns
  have HR : Hid ((ns.drop 0).any (nxF bs ah rows v i) = R) := hR.symm
  clear hR
  have hin' : (i : Int) < n := by omega
  have HCW : Hid (∀ W, Below w.heap.size w W → W.cell? ⟨g, o + i * 6, none⟩ = w.cell? ⟨g, o + i * 6, none⟩) := fun W hb => hb.cell (p := ⟨g, _, none⟩) hg
  have H0 : Hid (Below w.heap.size w (w.alloc (.cells #[.string nm, .slice pa pl pc, .int .u8 r, .slice va m vc, .slice aa al ac, .slice (some ⟨g, o, none⟩) n bc] 28)) ∧ Box (w.alloc (.cells #[.string nm, .slice pa pl pc, .int .u8 r, .slice va m vc, .slice aa al ac, .slice (some ⟨g, o, none⟩) n bc] 28)) w.heap.size [.string nm, .slice pa pl pc, .int .u8 r, .slice va m vc, .slice aa al ac, .slice (some ⟨g, o, none⟩) n bc]) := ⟨below_alloc (Below.refl _ _) _, Box.new w [.string nm, .slice pa pl pc, .int .u8 r, .slice va m vc, .slice aa al ac, .slice (some ⟨g, o, none⟩) n bc] 28⟩
  have kk : ∀ j, (w.alloc (.cells #[.string nm, .slice pa pl pc, .int .u8 r, .slice va m vc, .slice aa al ac, .slice (some ⟨g, o, none⟩) n bc] 28)).cell? ⟨g, j, none⟩ = w.cell? ⟨g, j, none⟩ := fun j => H0.out.1.cell (p := ⟨g, j, none⟩) hg
  rw [← kk] at c0 c1 c2 c3 c4 c5
  clear kk
  go_enter Tryz.func15, Tryz.ntmps15
  go_wp2_with (go_at_call 28; go_loud (refine Calls.mono (by exact HNA.out _) ?_; rintro e w2 ⟨nv, rfl, hn2, hb2⟩; obtain ⟨sa, sc, rfl, _⟩ := (OwnI.at' hn2 (by have := HNX.out.1; omega)).form; have HIN : Hid (IntsAt w2 (.slice sa ns.length sc) ns) := OwnI.at' hn2 (by have := HNX.out.1; omega); have H2 : Hid (Below w.heap.size w w2 ∧ Box w2 w.heap.size [.string nm, .slice pa pl pc, .int .u8 r, .slice va m vc, .slice aa al ac, .slice (some ⟨g, o, none⟩) n bc]) := ⟨below_trans H0.out.1 hb2, H0.out.2.below hb2⟩; clear hn2 hb2))
  clear c0 c1 c2 c3 c4 c5 HNA H0
  have hnl := HNX.out.1
  have HXT : Hid (∀ k, k < ns.length → ∃ t : Nat, ns.getD k 0 = (t : Int) ∧ t < n) := HNX.out.2
  clear HNX
  go_loopw [12] (fun vk wr => ∃ k : Nat, vk = .int .i64 k ∧ k ≤ ns.length ∧ Hid ((ns.drop k).any (nxF bs ah rows v i) = R ∧ Below w2.heap.size w2 wr)) (fun vk _ => ns.length - (intOf vk).toNat)
  case atStart => exact ⟨0, rfl, by omega, HR.out, Below.refl _ _⟩
  case round =>
    obtain ⟨k, rfl, hk, hr⟩ := hrel
    clear HR
    generalize wr = wo at *
    have HWO : Hid (Below w.heap.size w wo) := below_trans H2.out.1 hr.out.2
    obtain ⟨e0, e1, e2, e3, e4, e5⟩ := box6 (H2.out.2.below hr.out.2)
    have hwl := (H2.out.2.below hr.out.2).lt
    have hin2 : IntsAt wo (.slice sa ns.length sc) ns := IntsAt.below HIN.out hr.out.2
    by_cases hkl : k < ns.length
    · obtain ⟨tn, htn, htl⟩ := HXT.out k hkl
      obtain ⟨gs, os, rfl, hgs, cs⟩ := hin2.get (i := k) hkl
      rw [htn] at cs
      have hkl' : (k : Int) < ns.length := by omega
      have htl' : (tn : Int) < n := by omega
      have htl2 : ¬ (n : Int) ≤ tn := by omega
      have hd := any_dropA (d := (0 : Int)) (p := nxF bs ah rows v i) hkl
      rw [hr.out.1, htn] at hd
      unfold nxF at hd
      rw [Int.toNat_natCast] at hd
      obtain ⟨gr, or, ra, rc, rfl, hgr, cr, hrow⟩ := HRO.out tn htl
      obtain ⟨gn, on, qa, qc, rfl, hgn, cn, hahr⟩ := HA.out tn htl
      obtain ⟨g', o', jv, hgo, hg2, d0, d1, d2, d3, d4, d5, hji⟩ := HB.out tn htl
      injection hgo with hgo
      injection hgo with q1 q2
      subst q1 q2
      obtain ⟨ja, jc, rfl, hjl⟩ := hji.form
      have cr' : wo.cell? ⟨gr, or + tn, none⟩ = _ := (HWO.out.cell (p := ⟨gr, or + tn, none⟩) hgr).trans cr
      have HCN : Hid (∀ W, Below w.heap.size w W → W.cell? ⟨gn, on + tn, none⟩ = some (.slice qa (ah.getD tn []).length qc)) := fun W hb => (hb.cell (p := ⟨gn, on + tn, none⟩) hgn).trans cn
      have HCD : Hid (∀ W, Below w.heap.size w W → W.cell? ⟨g, o + tn * 6, none⟩ = some (.slice ja (bs.getD tn default).ins.length jc)) := fun W hb => (hb.cell (p := ⟨g, o + tn * 6, none⟩) hg).trans d0
      have HAQ : Hid _ := HAM.out _ _ wo (hrow.below HWO.out)
      have HJI : Hid (∀ j, j < (bs.getD tn default).ins.length → _) := fun j hj => hji.get (i := j) hj
      have HQI : Hid (∀ j, j < (ah.getD tn []).length → _) := fun j hj => hahr.get (i := j) hj
      have HRR : Hid _ := hr.out.2
      clear HRO HA HB d0 d1 d2 d3 d4 d5 hji cr cn hrow hahr hr htn hin2
      generalize memB (rows.getD tn []) v = M at *
      generalize (rows.getD tn []).length = rl at *
      generalize hrow2 : ah.getD tn [] = row at *
      clear hrow2
      generalize hLL : (bs.getD tn default).ins = L at *
      clear hLL
      cases M with
      | true =>
        have HX : Hid (true = R) := by show _ = _; rw [hd]; rfl
        clear hd
        go_wp2_with (go_at_call 14; go_loud (refine Calls.mono (by exact HAQ.out) ?_; rintro e wh ⟨rfl, hwh⟩; subst wh))
        go_ret
        exact ⟨ret_bool HX.out, HWO.out⟩
      | false =>
        have HX : Hid (((L.drop 0).any (insPF v i row) || (ns.drop (k + 1)).any (nxF bs ah rows v i)) = R) := by show _ = _; rw [hd, List.drop_zero]; rfl
        clear hd
        go_wp2_with (go_at_call 14; go_loud (refine Calls.mono (by exact HAQ.out) ?_; rintro e wh ⟨rfl, hwh⟩; subst wh))
        clear e0 e1 e2 e3 e4 e5 cs cr'
        go_loopw [14] (fun vj wr => ∃ j : Nat, vj = .int .i64 j ∧ j ≤ L.length ∧ Hid (((L.drop j).any (insPF v i row) || (ns.drop (k + 1)).any (nxF bs ah rows v i)) = R ∧ Below w2.heap.size w2 wr)) (fun vj _ => L.length - (intOf vj).toNat)
        case atStart => exact ⟨0, rfl, by omega, HX.out, HRR.out⟩
        case round =>
          obtain ⟨j, rfl, hj, hq⟩ := hrel
          clear HX HRR HWO HAQ
          generalize wr = wp at *
          have HWP : Hid (Below w.heap.size w wp) := below_trans H2.out.1 hq.out.2
          obtain ⟨e0, e1, e2, e3, e4, e5⟩ := box6 (H2.out.2.below hq.out.2)
          have hwl3 := (H2.out.2.below hq.out.2).lt
          have cD := HCD.out _ HWP.out
          by_cases hjn : j < L.length
          · have hjn' : (j : Int) < L.length := by omega
            obtain ⟨gi, oi, xv, rfl, hgi, d0, d1, d2, d3, d4, d5, hxa⟩ := HJI.out j hjn
            obtain ⟨xa, xc, rfl, hxl⟩ := hxa.form
            have hcl : ∀ q, wp.cell? ⟨gi, q, none⟩ = w.cell? ⟨gi, q, none⟩ := fun q => HWP.out.cell (p := ⟨gi, q, none⟩) hgi
            rw [← hcl] at d0 d1 d2 d3 d4 d5
            have hd := any_dropA (d := (default : In)) (p := insPF v i row) hjn
            have hqq := hq.out.1
            rw [hd] at hqq
            have HQ2 : Hid _ := hq.out.2
            have HXA : Hid (∀ q, q < (L.getD j default).args.length → _) := fun q hq => hxa.get (i := q) hq
            have HBN : Hid (∀ o', Below wp.heap.size wp (wp.alloc o') ∧ Below w2.heap.size w2 (wp.alloc o')) := fun o' => ⟨below_alloc (Below.refl _ _) _, below_alloc hq.out.2 _⟩
            clear hcl hxa hq hd HJI
            generalize L.getD j default = X at *
            obtain ⟨xk, xo, xd, xs, xb, xr⟩ := X
            dsimp only at *
            rw [show insPF v i row ⟨xk, xo, xd, xs, xb, xr⟩ = (xk == 1 && (xs.zip row).any (pairB v i)) from rfl] at hqq
            have HB9 : Hid (Box (wp.alloc (.cells #[.int .u8 xk, .int .u8 xo, .int .i64 xd, .slice xa xs.length xc, .int .u64 xb, .int .i64 xr] 54)) wp.heap.size [.int .u8 xk, .int .u8 xo, .int .i64 xd, .slice xa xs.length xc, .int .u64 xb, .int .i64 xr]) := Box.new wp [.int .u8 xk, .int .u8 xo, .int .i64 xd, .slice xa xs.length xc, .int .u64 xb, .int .i64 xr] 54
            have HW9 : Hid (Below w2.heap.size w2 (wp.alloc (.cells #[.int .u8 xk, .int .u8 xo, .int .i64 xd, .slice xa xs.length xc, .int .u64 xb, .int .i64 xr] 54))) := (HBN.out _).2
            have hLen : (xs.length : Int) ≤ 140737488355328 := by omega
            by_cases hx : xk = 1
            · subst hx
              have HX : Hid ((((xs.zip row).drop 0).any (pairB v i) || ((L.drop (j + 1)).any (insPF v i row) || (ns.drop (k + 1)).any (nxF bs ah rows v i))) = R) := by show _ = _; rw [List.drop_zero, ← hqq]; simp [Bool.or_assoc]
              clear hqq
              go_wp2
              clear e0 e1 e2 e3 e4 e5 cD d0 d1 d2 d3 d4 d5
              go_loopw [16] (fun vn wr => ∃ q : Nat, vn = .int .i64 q ∧ q ≤ xs.length ∧ Hid (((((xs.zip row).drop q).any (pairB v i) || ((L.drop (j + 1)).any (insPF v i row) || (ns.drop (k + 1)).any (nxF bs ah rows v i))) = R) ∧ Below w2.heap.size w2 wr ∧ Box wr wp.heap.size [.int .u8 1, .int .u8 xo, .int .i64 xd, .slice xa xs.length xc, .int .u64 xb, .int .i64 xr])) (fun vn _ => xs.length - (intOf vn).toNat)
              case atStart => exact ⟨0, rfl, by omega, HX.out, HW9.out, HB9.out⟩
              case round =>
                obtain ⟨q, rfl, hq, hz⟩ := hrel
                clear HX HW9 HB9 HBN HQ2 HWP hwl3
                generalize wr = wz at *
                have HWZ : Hid (Below w.heap.size w wz) := below_trans H2.out.1 hz.out.2.1
                obtain ⟨z0, z1, z2, z3, z4, z5⟩ := box6 hz.out.2.2
                have hzl := hz.out.2.2.lt
                have cN := HCN.out _ HWZ.out
                by_cases hq1 : q < xs.length
                · have hq1' : (q : Int) < xs.length := by omega
                  by_cases hq2 : q < row.length
                  · have hq2' : (q : Int) < row.length := by omega
                    obtain ⟨gx, ox, rfl, hgx, cx⟩ := HXA.out q hq1
                    obtain ⟨gq, oq, rfl, hgq, cq⟩ := HQI.out q hq2
                    have cx' : wz.cell? ⟨gx, ox + q, none⟩ = _ := (HWZ.out.cell (p := ⟨gx, ox + q, none⟩) hgx).trans cx
                    have cq' : wz.cell? ⟨gq, oq + q, none⟩ = _ := (HWZ.out.cell (p := ⟨gq, oq + q, none⟩) hgq).trans cq
                    have hzz := hz.out.1
                    rw [any_dropA (d := (0, 0)) (by rw [List.length_zip]; omega), show (xs.zip row).getD q (0, 0) = (xs.getD q 0, row.getD q 0) from by
                      rw [List.getD, List.getElem?_eq_getElem (by rw [List.length_zip]; omega), List.getD, List.getElem?_eq_getElem hq1, List.getD, List.getElem?_eq_getElem hq2, List.getElem_zip]; rfl] at hzz
                    rw [show pairB v i (xs.getD q 0, row.getD q 0) = (xs.getD q 0 == v && row.getD q 0 == (i : Int)) from rfl] at hzz
                    have HZ : Hid _ := hz.out.2
                    clear hz HXA HQI cx cq
                    generalize xs.getD q 0 = y1 at *
                    generalize row.getD q 0 = y2 at *
                    by_cases h1 : y1 = v
                    · subst h1
                      by_cases h2 : y2 = (i : Int)
                      · subst h2
                        have HF : Hid (true = R) := by show _ = _; simpa using hzz
                        clear hzz
                        go_wp2
                        go_ret
                        exact ⟨ret_bool HF.out, HWZ.out⟩
                      · have h2f : (y2 == (i : Int)) = false := beq_false_of_ne h2
                        have HF : Hid ((((xs.zip row).drop (q + 1)).any (pairB y1 i) || ((L.drop (j + 1)).any (insPF y1 i row) || (ns.drop (k + 1)).any (nxF bs ah rows y1 i))) = R) := by show _ = _; rw [h2f] at hzz; simpa using hzz
                        clear hzz
                        go_wp2
                        go_roundw
                        case rel => exact ⟨q + 1, by first | rfl | (congr 1; omega), by omega, HF.out, HZ.out⟩
                        case measure => simp [intOf]; omega
                    · have h1f : (y1 == v) = false := beq_false_of_ne h1
                      have HF : Hid ((((xs.zip row).drop (q + 1)).any (pairB v i) || ((L.drop (j + 1)).any (insPF v i row) || (ns.drop (k + 1)).any (nxF bs ah rows v i))) = R) := by show _ = _; rw [h1f] at hzz; simpa using hzz
                      clear hzz
                      go_wp2
                      go_roundw
                      case rel => exact ⟨q + 1, by first | rfl | (congr 1; omega), by omega, HF.out, HZ.out⟩
                      case measure => simp [intOf]; omega
                  · have hq2' : ¬ (q : Int) < row.length := by omega
                    have HF : Hid (((L.drop (j + 1)).any (insPF v i row) || (ns.drop (k + 1)).any (nxF bs ah rows v i)) = R) := by
                      show _ = _
                      have h9 := hz.out.1
                      rw [List.drop_eq_nil_of_le (by rw [List.length_zip]; omega)] at h9
                      simpa using h9
                    have HZ : Hid _ := hz.out.2.1
                    clear hz HXA HQI
                    go_wp2
                    go_roundw
                    case rel => exact ⟨j + 1, by first | rfl | (congr 1; omega), by omega, HF.out, HZ.out⟩
                    case measure => simp [intOf]; omega
                · have hq1' : ¬ (q : Int) < xs.length := by omega
                  have HF : Hid (((L.drop (j + 1)).any (insPF v i row) || (ns.drop (k + 1)).any (nxF bs ah rows v i)) = R) := by
                    show _ = _
                    have h9 := hz.out.1
                    rw [List.drop_eq_nil_of_le (by rw [List.length_zip]; omega)] at h9
                    simpa using h9
                  have HZ : Hid _ := hz.out.2.1
                  clear hz HXA HQI
                  go_wp2
                  go_roundw
                  case rel => exact ⟨j + 1, by first | rfl | (congr 1; omega), by omega, HF.out, HZ.out⟩
                  case measure => simp [intOf]; omega
            · have hxf : (xk == 1) = false := beq_false_of_ne hx
              have HX : Hid (((L.drop (j + 1)).any (insPF v i row) || (ns.drop (k + 1)).any (nxF bs ah rows v i)) = R) := by show _ = _; rw [hxf] at hqq; simpa using hqq
              clear hqq
              go_wp2
              clear e0 e1 e2 e3 e4 e5 cD d0 d1 d2 d3 d4 d5
              go_loopw [16] (fun vn wr => vn = .int .i64 0 ∧ Hid (Below w2.heap.size w2 wr ∧ Box wr wp.heap.size [.int .u8 xk, .int .u8 xo, .int .i64 xd, .slice xa xs.length xc, .int .u64 xb, .int .i64 xr])) (fun _ _ => 0)
              case atStart => exact ⟨rfl, HW9.out, HB9.out⟩
              case round =>
                obtain ⟨rfl, hz⟩ := hrel
                clear HW9 HB9 HBN HQ2 HWP hwl3
                generalize wr = wz at *
                have HWZ : Hid (Below w.heap.size w wz) := below_trans H2.out.1 hz.out.1
                obtain ⟨z0, z1, z2, z3, z4, z5⟩ := box6 hz.out.2
                have hzl := hz.out.2.lt
                have cN := HCN.out _ HWZ.out
                have HZ : Hid _ := hz.out.1
                clear hz HXA HQI
                by_cases hq1 : 0 < xs.length
                · have hq1' : (0 : Int) < xs.length := by omega
                  by_cases hq2 : 0 < row.length
                  · have hq2' : (0 : Int) < row.length := by omega
                    go_wp2
                    go_roundw
                    case rel => exact ⟨j + 1, by first | rfl | (congr 1; omega), by omega, HX.out, HZ.out⟩
                    case measure => simp [intOf]; omega
                  · have hq2' : ¬ (0 : Int) < row.length := by omega
                    go_wp2
                    go_roundw
                    case rel => exact ⟨j + 1, by first | rfl | (congr 1; omega), by omega, HX.out, HZ.out⟩
                    case measure => simp [intOf]; omega
                · have hq1' : ¬ (0 : Int) < xs.length := by omega
                  go_wp2
                  go_roundw
                  case rel => exact ⟨j + 1, by first | rfl | (congr 1; omega), by omega, HX.out, HZ.out⟩
                  case measure => simp [intOf]; omega
          · obtain rfl : j = L.length := by omega
            have HF : Hid ((ns.drop (k + 1)).any (nxF bs ah rows v i) = R) := by show _ = _; have h9 := hq.out.1; rw [List.drop_length] at h9; simpa using h9
            have HZ : Hid _ := hq.out.2
            clear hq HJI
            go_wp2
            go_roundw
            case rel => exact ⟨k + 1, by first | rfl | (congr 1; omega), by omega, HF.out, HZ.out⟩
            case measure => simp [intOf]; omega
    · obtain rfl : k = ns.length := by omega
      have HX : Hid (false = R) := by show _ = _; have h9 := hr.out.1; rw [List.drop_length] at h9; exact h9
      clear hr HRO HA HB
      go_wp2
      go_ret
      exact ⟨ret_bool HX.out, HWO.out⟩
end Go.Proofs.YtcggbedjhglmmaaGreatDoor
