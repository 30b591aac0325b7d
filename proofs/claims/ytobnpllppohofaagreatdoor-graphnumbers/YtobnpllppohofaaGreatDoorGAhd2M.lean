/- All ends are right; all instructions may stand. -/
import Derived.Test.YtobnpllppohofaaGreatDoorGTypeM
import Derived.Test.YtobnpllppohofaaGreatDoorGOrd2M
import Derived.Test.YtobnpllppohofaaGreatDoorLSameM
namespace Go.Proofs.YtobnpllppohofaaGreatDoor
open Go.RowKit Go.Sort

set_option maxRecDepth 100000 in
set_option maxHeartbeats 1000000 in
theorem ends_any (G : Gr) (pv vv av bv : Value) (w : World) (h : GrAt w pv vv av bv G) :
  Calls Tryz.prog 43 #[.agg #[.string G.name, pv, .int .u8 G.result, vv, av, bv]] w fun e w' => e = .returned (.bool (G.blocks.all fun b => endB G b.tm)) ∧ Below w.heap.size w w' := by
 have HE : Hid (∀ t W, Below w.heap.size w W → Calls Tryz.prog 66 #[.agg #[.string G.name, pv, .int .u8 G.result, vv, av, bv], tmV t] W fun e w' => e = .returned (.bool (endB G t)) ∧ Below W.heap.size W w') := fun t W hb => end_any G pv vv av bv t W (h.below hb)
 obtain ⟨pa, pc, va, vc, aa, ac, ba, bc, rfl, rfl, rfl, rfl, _, _, _, hbl⟩ := h.openF
 have HB : Hid (∀ i, i < G.blocks.length → _) := fun i hi => h.bs.get (i := i) hi
 have HN : Hid (∀ i, i < G.blocks.length → (G.blocks.drop i).all (fun b => endB G b.tm) = (endB G (G.blocks.getD i default).tm && (G.blocks.drop (i + 1)).all (fun b => endB G b.tm))) := fun i hi => all_drop (p := fun b => endB G b.tm) hi
 have HZ : Hid ((G.blocks.drop G.blocks.length).all (fun b => endB G b.tm) = true) := by show _ = _; rw [List.drop_length]; rfl
 obtain ⟨R, hR⟩ : ∃ R, R = G.blocks.all fun b => endB G b.tm := ⟨_, rfl⟩
 rw [← hR]
 have HR : Hid (R = (G.blocks.drop 0).all fun b => endB G b.tm) := hR
 clear h hR
 generalize hn : G.blocks.length = n at *
 clear hn
 generalize G.name = nm at *
 generalize G.params.length = pl at *
 generalize G.vars.length = vl at *
 generalize G.arrs.length = al at *
 have H0 : Hid (Below w.heap.size w (w.alloc (.cells #[.string nm, .slice pa pl pc, .int .u8 G.result, .slice va vl vc, .slice aa al ac, .slice ba n bc] 28)) ∧ Box (w.alloc (.cells #[.string nm, .slice pa pl pc, .int .u8 G.result, .slice va vl vc, .slice aa al ac, .slice ba n bc] 28)) w.heap.size [.string nm, .slice pa pl pc, .int .u8 G.result, .slice va vl vc, .slice aa al ac, .slice ba n bc]) := ⟨below_alloc (Below.refl _ _) _, Box.new w [.string nm, .slice pa pl pc, .int .u8 G.result, .slice va vl vc, .slice aa al ac, .slice ba n bc] 28⟩
 go_enter Tryz.func43, Tryz.ntmps43
 go_wp2
 go_loopw [8] (fun vi wr => ∃ i : Nat, vi = .int .i64 i ∧ i ≤ n ∧ Hid (R = ((G.blocks.drop i).all fun b => endB G b.tm) ∧ Below w.heap.size w wr ∧ Box wr w.heap.size [.string nm, .slice pa pl pc, .int .u8 G.result, .slice va vl vc, .slice aa al ac, .slice ba n bc])) (fun vi _ => n - (intOf vi).toNat)
 case atStart => exact ⟨0, rfl, by omega, HR.out, H0.out.1, H0.out.2⟩
 case round =>
  obtain ⟨i, rfl, hi, hr⟩ := hrel
  clear HR H0
  obtain ⟨e0, e1, e2, e3, e4, e5⟩ := box6 hr.out.2.2
  have hwl := hr.out.2.2.lt
  by_cases hin : i < n
  ·obtain ⟨g, o, iv, rfl, hg, c0, c1, c2, c3, c4, c5, hins⟩ := HB.out i hin
   obtain ⟨ia, ic, rfl, _⟩ := hins.form
   clear hins
   have hin' : (i : Int) < n := by omega
   have hcl : ∀ j, wr.cell? ⟨g, j, none⟩ = w.cell? ⟨g, j, none⟩ := fun j => hr.out.2.1.cell (p := ⟨g, j, none⟩) hg
   rw [← hcl] at c0 c1 c2 c3 c4 c5
   have hd := hr.out.1
   rw [HN.out i hin] at hd
   have HEI := fun W (hb : Below w.heap.size w W) => HE.out (G.blocks.getD i default).tm W hb
   generalize (G.blocks.getD i default).ins.length = il at *
   unfold tmV at HEI
   generalize htl : (G.blocks.drop (i + 1)).all (fun b => endB G b.tm) = tl at *
   have HTL : Hid _ := htl
   clear htl
   generalize endB G (G.blocks.getD i default).tm = eb at *
   generalize (G.blocks.getD i default).tm.kind = t0 at *
   generalize (G.blocks.getD i default).tm.arg = t1 at *
   generalize (G.blocks.getD i default).tm.t0 = t2 at *
   generalize (G.blocks.getD i default).tm.t1 = t3 at *
   generalize (G.blocks.getD i default).tm.trap = t4 at *
   have HB1 : Hid (Below w.heap.size w (wr.alloc (.cells #[.slice ia il ic, .int .u8 t0, .int .i64 t1, .int .i64 t2, .int .i64 t3, .int .u8 t4] 49))) := below_alloc hr.out.2.1 _
   have HD : Hid (R = (eb && tl)) := hd
   have HEJ : Hid _ := HEI
   clear hcl HB HE HN HZ hd HEI
   cases eb with
   | true =>
    go_wp2_with (go_at_call 66; go_loud (refine Calls.mono (by exact HEJ.out _ HB1.out) ?_; rintro e w1 ⟨rfl, hb1⟩; have HW1 : Hid _ := hb1; clear hb1))
    go_roundw
    case rel => exact ⟨i + 1, by first | rfl | (congr 1; omega), by omega, by rw [HTL.out, HD.out]; rfl, below_trans HB1.out HW1.out, (hr.out.2.2.below (below_alloc (Below.refl _ _) _)).below HW1.out⟩
    case measure => simp [intOf]; omega
   | false =>
    go_wp2_with (go_at_call 66; go_loud (refine Calls.mono (by exact HEJ.out _ HB1.out) ?_; rintro e w1 ⟨rfl, hb1⟩; have HW1 : Hid _ := hb1; clear hb1))
    go_ret
    exact ⟨ret_bool (by rw [HD.out]; rfl), below_trans HB1.out HW1.out⟩
  ·obtain rfl : i = n := by omega
   have hd : R = true := hr.out.1.trans HZ.out
   have HD : Hid _ := hd
   clear hd HB HE HN HZ
   go_wp2
   go_ret
   exact ⟨ret_bool HD.out.symm, hr.out.2.1⟩
set_option maxRecDepth 100000 in
set_option maxHeartbeats 2000000 in
theorem ins_any (p : List Gr) (ppv : Value) (G : Gr) (pv vv av bv : Value) (w : World) (hp : GrsAt w ppv p) (h : GrAt w pv vv av bv G) (hP : PartsAt w) :
  Calls Tryz.prog 44 #[ppv, .agg #[.string G.name, pv, .int .u8 G.result, vv, av, bv]] w fun e w' => e = .returned (.bool (G.blocks.all fun b => b.ins.all (standsB p G))) ∧ Below w.heap.size w w' := by
 have HE : Hid (∀ x xv W, Below w.heap.size w W → IntsAt w xv x.args → (0 ≤ x.bits ∧ x.bits < 18446744073709551616) → Calls Tryz.prog 39 #[ppv, .agg #[.string G.name, pv, .int .u8 G.result, vv, av, bv], inV x xv] W fun e w' => e = .returned (.tuple #[.int .u8 (typeI p G x), .bool (standsB p G x)]) ∧ Below W.heap.size W w') := fun x xv W hb hA hbits => type_any p ppv G pv vv av bv x xv W (hp.below hb) (h.below hb) (hA.below hb) hbits (hP.below hb)
 obtain ⟨pa, pc, va, vc, aa, ac, ba, bc, rfl, rfl, rfl, rfl, _, _, _, hbl⟩ := h.openF
 obtain ⟨qa, qc, rfl, _⟩ := hp.form
 have HB : Hid (∀ i, i < G.blocks.length → _) := fun i hi => h.bs.get (i := i) hi
 have HN : Hid (∀ i, i < G.blocks.length → (G.blocks.drop i).all (fun b => b.ins.all (standsB p G)) = ((G.blocks.getD i default).ins.all (standsB p G) && (G.blocks.drop (i + 1)).all (fun b => b.ins.all (standsB p G)))) := fun i hi => all_drop (p := fun b => b.ins.all (standsB p G)) hi
 have HZ : Hid ((G.blocks.drop G.blocks.length).all (fun b => b.ins.all (standsB p G)) = true) := by show _ = _; rw [List.drop_length]; rfl
 obtain ⟨R, hR⟩ : ∃ R, R = G.blocks.all fun b => b.ins.all (standsB p G) := ⟨_, rfl⟩
 rw [← hR]
 have HR : Hid (R = (G.blocks.drop 0).all fun b => b.ins.all (standsB p G)) := hR
 clear h hR hp hP
 generalize G.blocks.length = n at *
 generalize G.name = nm at *
 generalize G.params.length = pl at *
 generalize G.vars.length = vl at *
 generalize G.arrs.length = al at *
 generalize p.length = pn at *
 have H0 : Hid (Below w.heap.size w (w.alloc (.cells #[.string nm, .slice pa pl pc, .int .u8 G.result, .slice va vl vc, .slice aa al ac, .slice ba n bc] 28)) ∧ Box (w.alloc (.cells #[.string nm, .slice pa pl pc, .int .u8 G.result, .slice va vl vc, .slice aa al ac, .slice ba n bc] 28)) w.heap.size [.string nm, .slice pa pl pc, .int .u8 G.result, .slice va vl vc, .slice aa al ac, .slice ba n bc]) := ⟨below_alloc (Below.refl _ _) _, Box.new w [.string nm, .slice pa pl pc, .int .u8 G.result, .slice va vl vc, .slice aa al ac, .slice ba n bc] 28⟩
 go_enter Tryz.func44, Tryz.ntmps44
 go_wp2
 go_loopw [14] (fun vi wr => ∃ i : Nat, vi = .int .i64 i ∧ i ≤ n ∧ Hid (R = ((G.blocks.drop i).all fun b => b.ins.all (standsB p G)) ∧ Below w.heap.size w wr ∧ Box wr w.heap.size [.string nm, .slice pa pl pc, .int .u8 G.result, .slice va vl vc, .slice aa al ac, .slice ba n bc])) (fun vi _ => n - (intOf vi).toNat)
 case atStart => exact ⟨0, rfl, by omega, HR.out, H0.out.1, H0.out.2⟩
 case round =>
  obtain ⟨i, rfl, hi, hr⟩ := hrel
  clear HR H0
  obtain ⟨e0, e1, e2, e3, e4, e5⟩ := box6 hr.out.2.2
  have hwl := hr.out.2.2.lt
  by_cases hin : i < n
  ·obtain ⟨g, o, iv, rfl, hg, c0, c1, c2, c3, c4, c5, hins⟩ := HB.out i hin
   obtain ⟨ia, ic, rfl, _⟩ := hins.form
   have hin' : (i : Int) < n := by omega
   have hcl : ∀ j, wr.cell? ⟨g, j, none⟩ = w.cell? ⟨g, j, none⟩ := fun j => hr.out.2.1.cell (p := ⟨g, j, none⟩) hg
   rw [← hcl] at c0 c1 c2 c3 c4 c5
   have hd := hr.out.1
   rw [HN.out i hin] at hd
   generalize htl : (G.blocks.drop (i + 1)).all (fun b => b.ins.all (standsB p G)) = tl at *
   have HTL : Hid _ := htl
   generalize (G.blocks.getD i default).ins = L at *
   have HI : Hid (∀ k, k < L.length → _) := fun k hk => hins.get (i := k) hk
   have HWF : Hid (∀ x ∈ L, 0 ≤ x.bits ∧ x.bits < 18446744073709551616) := hins.wf
   generalize (G.blocks.getD i default).tm.kind = t0 at *
   generalize (G.blocks.getD i default).tm.arg = t1 at *
   generalize (G.blocks.getD i default).tm.t0 = t2 at *
   generalize (G.blocks.getD i default).tm.t1 = t3 at *
   generalize (G.blocks.getD i default).tm.trap = t4 at *
   have HB1 : Hid (R = ((L.drop 0).all (standsB p G) && tl) ∧ Below w.heap.size w (wr.alloc (.cells #[.slice ia L.length ic, .int .u8 t0, .int .i64 t1, .int .i64 t2, .int .i64 t3, .int .u8 t4] 49)) ∧ Box (wr.alloc (.cells #[.slice ia L.length ic, .int .u8 t0, .int .i64 t1, .int .i64 t2, .int .i64 t3, .int .u8 t4] 49)) w.heap.size [.string nm, .slice pa pl pc, .int .u8 G.result, .slice va vl vc, .slice aa al ac, .slice (some ⟨g, o, none⟩) n bc]) := ⟨hd, below_alloc hr.out.2.1 _, hr.out.2.2.below (below_alloc (Below.refl _ _) _)⟩
   clear hcl HB HN HZ hd htl hins
   generalize wr = wo at *
   go_wp2
   go_loopw [21] (fun vk wr => ∃ k : Nat, vk = .int .i64 k ∧ k ≤ L.length ∧ Hid (R = ((L.drop k).all (standsB p G) && tl) ∧ Below w.heap.size w wr ∧ Box wr w.heap.size [.string nm, .slice pa pl pc, .int .u8 G.result, .slice va vl vc, .slice aa al ac, .slice (some ⟨g, o, none⟩) n bc])) (fun vk _ => L.length - (intOf vk).toNat)
   case atStart => exact ⟨0, rfl, by omega, HB1.out⟩
   case round =>
    obtain ⟨k, rfl, hk, hq⟩ := hrel
    clear HB1 e0 e1 e2 e3 e4 e5
    obtain ⟨e0, e1, e2, e3, e4, e5⟩ := box6 hq.out.2.2
    have hwl2 := hq.out.2.2.lt
    by_cases hkn : k < L.length
    ·obtain ⟨gi, oi, xv, rfl, hgi, d0, d1, d2, d3, d4, d5, hxa⟩ := HI.out k hkn
     obtain ⟨xa, xc, rfl, _⟩ := hxa.form
     have hkn' : (k : Int) < L.length := by omega
     have hcl : ∀ j, wr.cell? ⟨gi, j, none⟩ = w.cell? ⟨gi, j, none⟩ := fun j => hq.out.2.1.cell (p := ⟨gi, j, none⟩) hgi
     rw [← hcl] at d0 d1 d2 d3 d4 d5
     have hd := hq.out.1
     rw [all_drop (d := default) hkn] at hd
     have hwf := HWF.out (L.getD k default) (by rw [List.getD, List.getElem?_eq_getElem hkn]; exact List.getElem_mem hkn)
     have HEI := fun W (hb : Below w.heap.size w W) => HE.out (L.getD k default) (.slice xa (L.getD k default).args.length xc) W hb hxa hwf
     unfold inV at HEI
     generalize hsb : standsB p G (L.getD k default) = sb at *
     generalize typeI p G (L.getD k default) = ty at *
     generalize (L.getD k default).args.length = xn at *
     generalize (L.getD k default).kind = x0 at *
     generalize (L.getD k default).op = x1 at *
     generalize (L.getD k default).dst = x2 at *
     generalize (L.getD k default).bits = x4 at *
     generalize (L.getD k default).ref = x5 at *
     have HB2 : Hid (Below w.heap.size w (wr.alloc (.cells #[.int .u8 x0, .int .u8 x1, .int .i64 x2, .slice xa xn xc, .int .u64 x4, .int .i64 x5] 41))) := below_alloc hq.out.2.1 _
     have HD : Hid (R = (sb && (L.drop (k + 1)).all (standsB p G) && tl)) := hd
     have HEJ : Hid _ := HEI
     clear hcl hd HEI hsb hwf HI HE
     cases sb with
     | true =>
      go_wp2_with (go_at_call 39; go_loud (refine Calls.mono (by exact HEJ.out _ HB2.out) ?_; rintro e w1 ⟨rfl, hb1⟩; have HW1 : Hid _ := hb1; clear hb1))
      go_roundw
      case rel => exact ⟨k + 1, by first | rfl | (congr 1; omega), by omega, by rw [HD.out]; simp, below_trans HB2.out HW1.out, (hq.out.2.2.below (below_alloc (Below.refl _ _) _)).below HW1.out⟩
      case measure => simp [intOf]; omega
     | false =>
      go_wp2_with (go_at_call 39; go_loud (refine Calls.mono (by exact HEJ.out _ HB2.out) ?_; rintro e w1 ⟨rfl, hb1⟩; have HW1 : Hid _ := hb1; clear hb1))
      go_ret
      exact ⟨ret_bool (by rw [HD.out]; simp), below_trans HB2.out HW1.out⟩
    ·obtain rfl : k = L.length := by omega
     have hd : R = tl := by rw [hq.out.1, List.drop_length]; simp
     have HD : Hid _ := hd
     clear hd HI HE
     go_wp2
     go_roundw
     case rel => exact ⟨i + 1, by first | rfl | (congr 1; omega), by omega, by rw [HTL.out]; exact HD.out, hq.out.2⟩
     case measure => simp [intOf]; omega
  ·obtain rfl : i = n := by omega
   have hd : R = true := hr.out.1.trans HZ.out
   have HD : Hid _ := hd
   clear hd HB HE HN HZ
   go_wp2
   go_ret
   exact ⟨ret_bool HD.out.symm, hr.out.2.1⟩
end Go.Proofs.YtobnpllppohofaaGreatDoor
/- For each block those with an edge to it. -/
namespace Go.Proofs.YtobnpllppohofaaGreatDoor
open Go.RowKit

theorem drop_ahead {ts : List Tm} {i : Nat} (h : i < ts.length) (rows : List (List Int)) : aheadF (ts.drop i) i rows = aheadF (ts.drop (i + 1)) (i + 1) ((nextT (ts.getD i default)).foldl (putA (i : Int)) rows) := by
 have e : ts.getD i default = ts[i] := by simp [List.getD, List.getElem?_eq_getElem h]
 rw [e, List.drop_eq_getElem_cons h]
 rfl
theorem rows_own_frame {w w' : World} {base2 G : Nat} {nv kv : Value} {L : List Int} (h : OwnI w base2 nv L) (hG : G < base2) (hk : ∀ q, nv.ownBlock = some q → kv.ownBlock ≠ some q)
  (hb : ∀ k, k < w.heap.size → k ≠ G → kv.ownBlock ≠ some k → w'.heap[k]? = w.heap[k]?) : OwnI w' base2 nv L :=
 owns_same h fun q hq => hb q (h.lt q hq).2 (by have := (h.lt q hq).1; omega) (hk q hq)
set_option maxRecDepth 100000 in
set_option maxHeartbeats 2000000 in
theorem ahead_any (G : Gr) (pv vv av bv : Value) (w : World) (h : GrAt w pv vv av bv G) (hn : G.blocks.length ≤ 100000) :
  Calls Tryz.prog 13 #[.agg #[.string G.name, pv, .int .u8 G.result, vv, av, bv]] w fun e w' => ∃ kvs, e = .returned (.slice (some ⟨w.heap.size + 1, 0, none⟩) G.blocks.length G.blocks.length) ∧ RowsIn w' w.heap.size (w.heap.size + 1) G.blocks.length kvs (aheadT (tms G.blocks)) ∧ Below w.heap.size w w' := by
 obtain ⟨nm, ps, r, vs, ars, bs⟩ := G
 have hB := h.bs
 dsimp only at hB hn ⊢
 clear h
 obtain ⟨a, c, rfl, _⟩ := hB.form
 have HI : Hid (∀ i, i < bs.length → _) := fun i hi => hB.get hi
 have HT : Hid (∀ i, i < bs.length → (tms bs).getD i default = (bs.getD i default).tm) := fun i hi => tms_getD hi
 obtain ⟨n, hnn⟩ : ∃ n, n = bs.length := ⟨_, rfl⟩
 have htl : (tms bs).length = n := by simp [tms, hnn]
 rw [← hnn] at HI hn HT
 rw [← hnn]
 have hmk := run_make_row' (P := Tryz.prog) 56 22 (.slice none 0 0) 24 Tryz.underlying56 infoS rfl .i64 .i64 n (by omega) (by omega)
 obtain ⟨ts, hts⟩ : ∃ ts, ts = tms bs := ⟨_, rfl⟩
 rw [← hts] at htl HT
 rw [← hts]
 obtain ⟨R, hR⟩ : ∃ R, R = aheadT ts := ⟨_, rfl⟩
 rw [← hR]
 have HR : Hid (aheadF (ts.drop 0) 0 (List.replicate n []) = R) := by show _ = _; rw [hR, List.drop_zero, aheadT, htl]
 have HTL : Hid (ts.length = n) := htl
 have HRN : Hid (RowsIn ((w.alloc (.cells #[.string nm, pv, .int .u8 r, vv, av, .slice a n c] 28)).alloc (.cells (madeCells #[.slice none 0 0] n) 22)) w.heap.size (w.heap.size + 1) n (List.replicate n (.slice none 0 0)) (List.replicate n [])) := by
  have := rows_new (w.alloc (.cells #[.string nm, pv, .int .u8 r, vv, av, .slice a n c] 28)) w.heap.size n (below_alloc (Below.refl _ _) _).size (by omega)
  rwa [show (w.alloc (.cells #[.string nm, pv, .int .u8 r, vv, av, .slice a n c] 28)).heap.size = w.heap.size + 1 by simp] at this
 obtain ⟨i0, hi0, hz0, hz1, hz2⟩ := info_parts infoI
 clear hnn htl hts hR hB
 go_enter Tryz.func13, Tryz.ntmps13
 go_wp2
 go_loopw [15] (fun vi wr => ∃ (i : Nat) (kvs : List Value) (rows : List (List Int)), vi = .int .i64 i ∧ i ≤ n ∧ Hid (Below w.heap.size w wr ∧ RowsIn wr w.heap.size (w.heap.size + 1) n kvs rows ∧ aheadF (ts.drop i) i rows = R ∧ lensA rows ≤ 2 * i)) (fun vi _ => n - (intOf vi).toNat)
 case atStart => exact ⟨0, _, _, rfl, by omega, below_alloc (below_alloc (Below.refl _ _) _) _, HRN.out, HR.out, by rw [lens_rep]; omega⟩
 case round =>
  obtain ⟨i, kvs, rows, rfl, hi, hr⟩ := hrel
  clear HRN HR hmk
  generalize wr = wo at *
  by_cases hin : i < n
  ·obtain ⟨g, o, iv, rfl, hg, c0, c1, c2, c3, c4, c5, hins⟩ := HI.out i hin
   obtain ⟨ia, ic, rfl, _⟩ := hins.form
   clear hins
   generalize hil : (bs.getD i default).ins.length = il at *
   have hin' : (i : Int) < n := by omega
   have hcl : ∀ j, wo.cell? ⟨g, j, none⟩ = w.cell? ⟨g, j, none⟩ := fun j => hr.out.1.cell (p := ⟨g, j, none⟩) hg
   rw [← hcl] at c0 c1 c2 c3 c4 c5
   have HNX : Hid (∀ W, Calls Tryz.prog 19 #[.agg #[.slice ia il ic, .int .u8 (bs.getD i default).tm.kind, .int .i64 (bs.getD i default).tm.arg, .int .i64 (bs.getD i default).tm.t0, .int .i64 (bs.getD i default).tm.t1, .int .u8 (bs.getD i default).tm.trap]] W fun e w' => ∃ v, e = .returned v ∧ OwnI w' W.heap.size v (nextT (bs.getD i default).tm) ∧ Below W.heap.size W w') := fun W => next_any (.slice ia il ic) (bs.getD i default).tm W
   have hlen := next_len (bs.getD i default).tm
   have HDA : Hid _ := drop_ahead (ts := ts) (i := i) (by rw [HTL.out]; exact hin) rows
   rw [HT.out i hin] at HDA
   generalize nextT (bs.getD i default).tm = L at *
   generalize (bs.getD i default).tm.kind = t0 at *
   generalize (bs.getD i default).tm.arg = t1 at *
   generalize (bs.getD i default).tm.t0 = t2 at *
   generalize (bs.getD i default).tm.t1 = t3 at *
   generalize (bs.getD i default).tm.trap = t4 at *
   obtain ⟨R2, hR2⟩ : ∃ R2, R2 = L.foldl (putA (i : Int)) rows := ⟨_, rfl⟩
   rw [← hR2] at HDA
   have HR2 : Hid (L.foldl (putA (i : Int)) rows = R2) := hR2.symm
   have HA0 : Hid (Below wo.heap.size wo (wo.alloc (.cells #[.slice ia il ic, .int .u8 t0, .int .i64 t1, .int .i64 t2, .int .i64 t3, .int .u8 t4] 49))) := below_alloc (Below.refl _ _) _
   clear hR2 hcl HI hil
   go_wp2_with (go_at_call 19; go_loud (refine Calls.mono (by exact HNX.out _) ?_; rintro e w1 ⟨v, rfl, ho1, hb1⟩; obtain ⟨va, vc, rfl, _⟩ := (OwnI.at' ho1 (by omega)).form; have HO1 : Hid (OwnI w1 wo.heap.size (.slice va L.length vc) L) := own_mono ho1 HA0.out.size; have HB1 : Hid (Below wo.heap.size wo w1) := below_trans HA0.out hb1; clear ho1 hb1))
   go_loopw [23] (fun vk wq => ∃ (k : Nat) (kvs : List Value) (rows : List (List Int)), vk = .int .i64 k ∧ k ≤ L.length ∧ Hid (Below w.heap.size w wq ∧ RowsIn wq w.heap.size (w.heap.size + 1) n kvs rows ∧ (L.drop k).foldl (putA (i : Int)) rows = R2 ∧ lensA rows ≤ 2 * i + k ∧ OwnI wq wo.heap.size (.slice va L.length vc) L ∧ ∀ q, (Value.slice va L.length vc).ownBlock = some q → ∀ kv ∈ kvs, kv.ownBlock ≠ some q)) (fun vk _ => L.length - (intOf vk).toNat)
   case atStart =>
    refine ⟨0, kvs, rows, rfl, by omega, below_trans hr.out.1 HB1.out, hr.out.2.1.below HB1.out, HR2.out, hr.out.2.2.2, HO1.out, ?_⟩
    intro q hq kv hkv hc
    obtain ⟨j, hj, he⟩ := List.mem_iff_getElem.1 hkv
    have hjr : j < rows.length := by rw [hr.out.2.1.rlen, ← hr.out.2.1.klen]; exact hj
    have h1 := (hr.out.2.1.kid j _ kv (List.getElem?_eq_getElem hjr) (by rw [List.getElem?_eq_getElem hj, he])).1
    have := (h1.lt q hc).2
    have := (HO1.out.lt q hq).1
    omega
   case round =>
    obtain ⟨k, kvs2, rows2, rfl, hk, hq⟩ := hrel
    clear HB1 HO1 HR2
    have HWR : Hid (w.heap.size + 1 < wo.heap.size) := hr.out.2.1.ltG.2
    by_cases hkn : k < L.length
    ·obtain ⟨gv, ov, rfl, hgv, cv⟩ := (OwnI.at' hq.out.2.2.2.2.1 (by omega)).get hkn
     have HD : Hid _ := drop_fold hkn rows2 (putA (i : Int))
     have hkn' : (k : Int) < L.length := by omega
     generalize hto : L.getD k 0 = to at *
     have HPL : Hid (∀ W, Calls Tryz.prog 37 #[.int .i64 to, .int .i64 (n : Int)] W fun e w' => e = .returned (.bool (inB to n)) ∧ w' = W) := fun W => isPlace_any to n W
     have hrl := hq.out.2.1.rlen
     have hkl := hq.out.2.1.klen
     by_cases hb : inB to n = true
     ·obtain ⟨t, ht⟩ : ∃ t : Nat, to = (t : Int) := Int.eq_ofNat_of_zero_le (inB_iff.1 hb).1
      subst ht
      have htn : t < n := by have := (inB_iff.1 hb).2; omega
      have htn' : (t : Int) < n := by omega
      have er : rows2[t]? = some (rows2[t]'(by omega)) := List.getElem?_eq_getElem _
      have ek : kvs2[t]? = some (kvs2[t]'(by omega)) := List.getElem?_eq_getElem _
      have hrm : rows2[t]'(by omega) ∈ rows2 := List.getElem_mem _
      have hkm : kvs2[t]'(by omega) ∈ kvs2 := List.getElem_mem _
      generalize rows2[t]'(by omega) = rw at er hrm
      generalize kvs2[t]'(by omega) = kv at ek hkm
      obtain ⟨ka, kc, rfl, _⟩ := (OwnI.at' (hq.out.2.1.kid t rw kv er ek).1 (by have := lens_mem hrm; have := hq.out.2.2.2.1; omega)).form
      have hrw : rw.length ≤ 300000 := by have := lens_mem hrm; have := hq.out.2.2.2.1; omega
      have cG := hq.out.2.1.cellG ek
      have fG := hq.out.2.1.fzG t
      rw [hb] at HPL
      have hx0 : (L.drop (k + 1)).foldl (putA (i : Int)) (rows2.modify t (· ++ [(i : Int)])) = R2 := by
       rw [← hq.out.2.2.1, HD.out]
       congr 1
       unfold putA
       rw [hrl, if_pos hb, Int.toNat_natCast]
      have hl0 : lensA (rows2.modify t (· ++ [(i : Int)])) ≤ 2 * i + (k + 1) := by
       rw [lens_modify _ _ _ (by omega)]
       have := hq.out.2.2.2.1
       omega
      have HX : Hid _ := hx0
      have HL0 : Hid _ := hl0
      have HER : Hid _ := er
      have HEK : Hid _ := ek
      have HKM : Hid _ := hkm
      have hwr : w.heap.size + 1 < wr.heap.size := hq.out.2.1.ltG.2
      have HA1 : Hid (Below wr.heap.size wr (wr.alloc (.cells #[.int .i64 (i : Int)] 3))) := below_alloc (Below.refl _ _) _
      have hok0 := (hq.out.2.1.kid t rw _ er ek).1
      generalize hrl0 : rw.length = rl at *
      have HOK : Hid (wr.ownsRow w.heap.size 3 1 (.slice ka rl kc) rl (rw.map intV)) := by
       have h9 : wr.ownsRow w.heap.size 3 1 (.slice ka rl kc) rw.length (rw.map intV) := hok0
       rw [hrl0] at h9
       exact h9
      clear hok0
      have HRL : Hid (rw.length = rl) := hrl0
      clear hrl0
      clear hx0 hl0 er ek hkm hrm hrl hkl hto HD
      go_wp2_with (first
       | (go_at_call 37; refine Calls.mono (HPL.out _) ?_; rintro e wx ⟨rfl, hwx⟩; subst wx)
       | (at_builtin; go_loud (refine wpList_append_own_at _ rfl _ _ 22 rfl w.heap.size 3 i0 (.int .i64 0) 1 8 Tryz.underlying22 hi0 hz0 hz1 hz2 rfl (by decide) _ rl (rw.map intV) rfl (HOK.out.alloc _) ⟨wr.heap.size, 0, none⟩ 1 1 [intV i] rfl rfl ?c1 ?c2 ?c3 ?c4 ?c5 ?_)))
      case c1 => exact cell_one_new wr (intV i) 3
      case c2 => intro u hu; simp at hu; subst hu; rfl
      case c3 => unfold maxLen; omega
      case c4 => omega
      case c5 => simp; omega
      intro v2 w2 ho hg2 _ hat
      obtain ⟨g2, cc2, rfl, _, _, _, _⟩ := own_form ho
      obtain ⟨hP, q3, q4, hF, hZ⟩ := (hq.out.2.1.below HA1.out).push HER.out HEK.out (by rw [HRL.out]; exact ho) hg2 (by simpa using hat)
      have HFR : Hid (Below w.heap.size w (w2.setCell ⟨w.heap.size + 1, t, none⟩ (.slice (some ⟨g2, 0, none⟩) (rl + 1) cc2)) ∧ OwnI (w2.setCell ⟨w.heap.size + 1, t, none⟩ (.slice (some ⟨g2, 0, none⟩) (rl + 1) cc2)) wo.heap.size (.slice (some ⟨gv, ov, none⟩) L.length vc) L) := by
       refine ⟨?_, ?_⟩
       ·refine below_set ?_ (by omega) _ _
        exact below_grown (below_trans hq.out.1 HA1.out) hg2 (fun q hqq => (HOK.out.lt q hqq).1)
       ·refine rows_own_frame (w := wr.alloc (.cells #[.int .i64 (i : Int)] 3)) (kv := .slice ka rl kc) (owns_below hq.out.2.2.2.2.1 HA1.out) HWR.out (fun q hqq => hq.out.2.2.2.2.2 q hqq _ HKM.out) hF
      have HNK : Hid (∀ q, (Value.slice (some ⟨gv, ov, none⟩) L.length vc).ownBlock = some q → ∀ kv ∈ kvs2.set t (.slice (some ⟨g2, 0, none⟩) (rl + 1) cc2), kv.ownBlock ≠ some q) := by
       intro q hqq kv hkv
       rcases List.mem_or_eq_of_mem_set hkv with hkv | rfl
       ·exact hq.out.2.2.2.2.2 q hqq kv hkv
       ·rcases hat with e | e
        ·rw [e]; exact hq.out.2.2.2.2.2 q hqq _ HKM.out
        ·rw [e]
         intro hc
         cases hc
         have := (hq.out.2.2.2.2.1.lt _ hqq).2
         omega
      have HP : Hid _ := hP
      clear hP hF hZ ho hg2 hat
      go_wp2
      go_roundw
      case rel => exact ⟨k + 1, _, _, by first | rfl | (congr 1; omega), by omega, HFR.out.1, HP.out, HX.out, HL0.out, HFR.out.2, HNK.out⟩
      case measure => simp [intOf]; omega
     ·have hbf : inB to n = false := by simpa using hb
      rw [hbf] at HPL
      have hx0 : (L.drop (k + 1)).foldl (putA (i : Int)) rows2 = R2 := by
       rw [← hq.out.2.2.1, HD.out]
       congr 1
       unfold putA
       rw [hrl, if_neg (by rw [hbf]; simp)]
      have HX : Hid _ := hx0
      clear hx0 HD hto
      go_wp2_with (go_at_call 37; refine Calls.mono (HPL.out _) ?_; rintro e wx ⟨rfl, hwx⟩; subst wx)
      go_roundw
      case rel => exact ⟨k + 1, kvs2, rows2, by first | rfl | (congr 1; omega), by omega, hq.out.1, hq.out.2.1, HX.out, by have := hq.out.2.2.2.1; omega, hq.out.2.2.2.2⟩
      case measure => simp [intOf]; omega
    ·obtain rfl : k = L.length := by omega
     have hx0 : rows2 = R2 := by have := hq.out.2.2.1; rw [List.drop_length] at this; exact this
     have HX : Hid _ := hx0
     clear hx0
     go_wp2
     go_roundw
     case rel => exact ⟨i + 1, kvs2, rows2, by first | rfl | (congr 1; omega), by omega, hq.out.1, hq.out.2.1, by rw [HX.out, ← HDA.out]; exact hr.out.2.2.1, by have := hq.out.2.2.2.1; omega⟩
     case measure => simp [intOf]; omega
  ·obtain rfl : i = n := by omega
   have hfin : rows = R := by have := hr.out.2.2.1; rw [← HTL.out, List.drop_length] at this; exact this
   have HFI : Hid _ := hfin
   clear HI hfin
   go_wp2
   go_ret
   exact ⟨kvs, rfl, by rw [← HFI.out]; exact hr.out.2.1, hr.out.1⟩
end Go.Proofs.YtobnpllppohofaaGreatDoor
