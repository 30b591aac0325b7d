/- All ends are right; all instructions may stand. -/
import Derived.Test.YtabpnjakfoofpaaGreatDoorGType
namespace Go.Proofs.YtabpnjakfoofpaaGreatDoor
open Go.RowKit Go.Sort

theorem bl_some {bs : List Bl} {i : Nat} (h : i < bs.length) : bs[i]? = some (bs.getD i default) := by simp [List.getD, List.getElem?_eq_getElem h]
set_option maxRecDepth 100000 in
set_option maxHeartbeats 1000000 in
theorem ends_any (G : Gr) (pv vv av bv : Value) (w : World) (h : GrAt w pv vv av bv G) :
    Calls Tryz.prog 62 #[.agg #[.string G.name, pv, .int .u8 G.result, vv, av, bv]] w fun e w' => e = .returned (.bool (G.blocks.all fun b => endB G b.tm)) ∧ Below w.heap.size w w' := by
  have HE : Hid (∀ t W, Below w.heap.size w W → Calls Tryz.prog 92 #[.agg #[.string G.name, pv, .int .u8 G.result, vv, av, bv], tmV t] W fun e w' => e = .returned (.bool (endB G t)) ∧ Below W.heap.size W w') := fun t W hb => end_any G pv vv av bv t W (h.below hb)
  obtain ⟨pa, pc, va, vc, aa, ac, ba, bc, rfl, rfl, rfl, rfl, _, _, _, hbl⟩ := h.openF
  have HB : Hid (∀ i, i < G.blocks.length → _) := fun i hi => h.bs.get (i := i) hi
  have HN : Hid (∀ i, i < G.blocks.length → (G.blocks.drop i).all (fun b => endB G b.tm) = (endB G (G.blocks.getD i default).tm && (G.blocks.drop (i + 1)).all (fun b => endB G b.tm))) := fun i hi => all_drop (p := fun b => endB G b.tm) hi
  have HZ : Hid ((G.blocks.drop G.blocks.length).all (fun b => endB G b.tm) = true) := by show _ = _; rw [List.drop_length]; rfl
  obtain ⟨R, hR⟩ : ∃ R, R = G.blocks.all fun b => endB G b.tm := ⟨_, rfl⟩
  rw [← hR]
  have HR : Hid (R = (G.blocks.drop 0).all fun b => endB G b.tm) := hR
  clear h hR
  generalize hn : G.blocks.length = n at *
  clear hn
  generalize G.name = nm at *
  generalize G.params.length = pl at *
  generalize G.vars.length = vl at *
  generalize G.arrs.length = al at *
  have H0 : Hid (Below w.heap.size w (w.alloc (.cells #[.string nm, .slice pa pl pc, .int .u8 G.result, .slice va vl vc, .slice aa al ac, .slice ba n bc] 28)) ∧ Box (w.alloc (.cells #[.string nm, .slice pa pl pc, .int .u8 G.result, .slice va vl vc, .slice aa al ac, .slice ba n bc] 28)) w.heap.size [.string nm, .slice pa pl pc, .int .u8 G.result, .slice va vl vc, .slice aa al ac, .slice ba n bc]) := ⟨below_alloc (Below.refl _ _) _, Box.new w [.string nm, .slice pa pl pc, .int .u8 G.result, .slice va vl vc, .slice aa al ac, .slice ba n bc] 28⟩
  go_enter Tryz.func62, Tryz.ntmps62
  go_wp2
  go_loopw [8] (fun vi wr => ∃ i : Nat, vi = .int .i64 i ∧ i ≤ n ∧ Hid (R = ((G.blocks.drop i).all fun b => endB G b.tm) ∧ Below w.heap.size w wr ∧ Box wr w.heap.size [.string nm, .slice pa pl pc, .int .u8 G.result, .slice va vl vc, .slice aa al ac, .slice ba n bc])) (fun vi _ => n - (intOf vi).toNat)
  case atStart => exact ⟨0, rfl, by omega, HR.out, H0.out.1, H0.out.2⟩
  case round =>
    obtain ⟨i, rfl, hi, hr⟩ := hrel
    clear HR H0
    obtain ⟨e0, e1, e2, e3, e4, e5⟩ := box6 hr.out.2.2
    have hwl := hr.out.2.2.lt
    by_cases hin : i < n
    · obtain ⟨g, o, iv, rfl, hg, c0, c1, c2, c3, c4, c5, hins⟩ := HB.out i hin
      obtain ⟨ia, ic, rfl, _⟩ := hins.form
      clear hins
      have hin' : (i : Int) < n := by omega
      have hcl : ∀ j, wr.cell? ⟨g, j, none⟩ = w.cell? ⟨g, j, none⟩ := fun j => hr.out.2.1.cell (p := ⟨g, j, none⟩) hg
      rw [← hcl] at c0 c1 c2 c3 c4 c5
      have hd := hr.out.1
      rw [HN.out i hin] at hd
      have HEI := fun W (hb : Below w.heap.size w W) => HE.out (G.blocks.getD i default).tm W hb
      generalize (G.blocks.getD i default).ins.length = il at *
      unfold tmV at HEI
      generalize htl : (G.blocks.drop (i + 1)).all (fun b => endB G b.tm) = tl at *
      have HTL : Hid _ := htl
      clear htl
      generalize endB G (G.blocks.getD i default).tm = eb at *
      generalize (G.blocks.getD i default).tm.kind = t0 at *
      generalize (G.blocks.getD i default).tm.arg = t1 at *
      generalize (G.blocks.getD i default).tm.t0 = t2 at *
      generalize (G.blocks.getD i default).tm.t1 = t3 at *
      generalize (G.blocks.getD i default).tm.trap = t4 at *
      have HB1 : Hid (Below w.heap.size w (wr.alloc (.cells #[.slice ia il ic, .int .u8 t0, .int .i64 t1, .int .i64 t2, .int .i64 t3, .int .u8 t4] 40))) := below_alloc hr.out.2.1 _
      have HD : Hid (R = (eb && tl)) := hd
      have HEJ : Hid _ := HEI
      clear hcl HB HE HN HZ hd HEI
      cases eb with
      | true =>
        go_wp2_with (go_at_call 92; go_loud (refine Calls.mono (by exact HEJ.out _ HB1.out) ?_; rintro e w1 ⟨rfl, hb1⟩; have HW1 : Hid _ := hb1; clear hb1))
        go_roundw
        case rel => exact ⟨i + 1, by first | rfl | (congr 1; omega), by omega, by rw [HTL.out, HD.out]; rfl, below_trans HB1.out HW1.out, (hr.out.2.2.below (below_alloc (Below.refl _ _) _)).below HW1.out⟩
        case measure => simp [intOf]; omega
      | false =>
        go_wp2_with (go_at_call 92; go_loud (refine Calls.mono (by exact HEJ.out _ HB1.out) ?_; rintro e w1 ⟨rfl, hb1⟩; have HW1 : Hid _ := hb1; clear hb1))
        go_ret
        exact ⟨ret_bool (by rw [HD.out]; rfl), below_trans HB1.out HW1.out⟩
    · obtain rfl : i = n := by omega
      have hd : R = true := hr.out.1.trans HZ.out
      have HD : Hid _ := hd
      clear hd HB HE HN HZ
      go_wp2
      go_ret
      exact ⟨ret_bool HD.out.symm, hr.out.2.1⟩
set_option maxRecDepth 100000 in
set_option maxHeartbeats 2000000 in
theorem ins_any (p : List Gr) (ppv : Value) (G : Gr) (pv vv av bv : Value) (w : World) (hp : GrsAt w ppv p) (h : GrAt w pv vv av bv G) (hP : PartsAt w) :
    Calls Tryz.prog 63 #[ppv, .agg #[.string G.name, pv, .int .u8 G.result, vv, av, bv]] w fun e w' => e = .returned (.bool (G.blocks.all fun b => b.ins.all (standsB p G))) ∧ Below w.heap.size w w' := by
  have HE : Hid (∀ x xv W, Below w.heap.size w W → IntsAt w xv x.args → (0 ≤ x.bits ∧ x.bits < 18446744073709551616) → Calls Tryz.prog 24 #[ppv, .agg #[.string G.name, pv, .int .u8 G.result, vv, av, bv], inV x xv] W fun e w' => e = .returned (.tuple #[.int .u8 (typeI p G x), .bool (standsB p G x)]) ∧ Below W.heap.size W w') := fun x xv W hb hA hbits => type_any p ppv G pv vv av bv x xv W (hp.below hb) (h.below hb) (hA.below hb) hbits (hP.below hb)
  obtain ⟨pa, pc, va, vc, aa, ac, ba, bc, rfl, rfl, rfl, rfl, _, _, _, hbl⟩ := h.openF
  obtain ⟨qa, qc, rfl, _⟩ := hp.form
  have HB : Hid (∀ i, i < G.blocks.length → _) := fun i hi => h.bs.get (i := i) hi
  have HN : Hid (∀ i, i < G.blocks.length → (G.blocks.drop i).all (fun b => b.ins.all (standsB p G)) = ((G.blocks.getD i default).ins.all (standsB p G) && (G.blocks.drop (i + 1)).all (fun b => b.ins.all (standsB p G)))) := fun i hi => all_drop (p := fun b => b.ins.all (standsB p G)) hi
  have HZ : Hid ((G.blocks.drop G.blocks.length).all (fun b => b.ins.all (standsB p G)) = true) := by show _ = _; rw [List.drop_length]; rfl
  obtain ⟨R, hR⟩ : ∃ R, R = G.blocks.all fun b => b.ins.all (standsB p G) := ⟨_, rfl⟩
  rw [← hR]
  have HR : Hid (R = (G.blocks.drop 0).all fun b => b.ins.all (standsB p G)) := hR
  clear h hR hp hP
  generalize G.blocks.length = n at *
  generalize G.name = nm at *
  generalize G.params.length = pl at *
  generalize G.vars.length = vl at *
  generalize G.arrs.length = al at *
  generalize p.length = pn at *
  have H0 : Hid (Below w.heap.size w (w.alloc (.cells #[.string nm, .slice pa pl pc, .int .u8 G.result, .slice va vl vc, .slice aa al ac, .slice ba n bc] 28)) ∧ Box (w.alloc (.cells #[.string nm, .slice pa pl pc, .int .u8 G.result, .slice va vl vc, .slice aa al ac, .slice ba n bc] 28)) w.heap.size [.string nm, .slice pa pl pc, .int .u8 G.result, .slice va vl vc, .slice aa al ac, .slice ba n bc]) := ⟨below_alloc (Below.refl _ _) _, Box.new w [.string nm, .slice pa pl pc, .int .u8 G.result, .slice va vl vc, .slice aa al ac, .slice ba n bc] 28⟩
  go_enter Tryz.func63, Tryz.ntmps63
  go_wp2
  go_loopw [14] (fun vi wr => ∃ i : Nat, vi = .int .i64 i ∧ i ≤ n ∧ Hid (R = ((G.blocks.drop i).all fun b => b.ins.all (standsB p G)) ∧ Below w.heap.size w wr ∧ Box wr w.heap.size [.string nm, .slice pa pl pc, .int .u8 G.result, .slice va vl vc, .slice aa al ac, .slice ba n bc])) (fun vi _ => n - (intOf vi).toNat)
  case atStart => exact ⟨0, rfl, by omega, HR.out, H0.out.1, H0.out.2⟩
  case round =>
    obtain ⟨i, rfl, hi, hr⟩ := hrel
    clear HR H0
    obtain ⟨e0, e1, e2, e3, e4, e5⟩ := box6 hr.out.2.2
    have hwl := hr.out.2.2.lt
    by_cases hin : i < n
    · obtain ⟨g, o, iv, rfl, hg, c0, c1, c2, c3, c4, c5, hins⟩ := HB.out i hin
      obtain ⟨ia, ic, rfl, _⟩ := hins.form
      have hin' : (i : Int) < n := by omega
      have hcl : ∀ j, wr.cell? ⟨g, j, none⟩ = w.cell? ⟨g, j, none⟩ := fun j => hr.out.2.1.cell (p := ⟨g, j, none⟩) hg
      rw [← hcl] at c0 c1 c2 c3 c4 c5
      have hd := hr.out.1
      rw [HN.out i hin] at hd
      generalize htl : (G.blocks.drop (i + 1)).all (fun b => b.ins.all (standsB p G)) = tl at *
      have HTL : Hid _ := htl
      generalize (G.blocks.getD i default).ins = L at *
      have HI : Hid (∀ k, k < L.length → _) := fun k hk => hins.get (i := k) hk
      have HWF : Hid (∀ x ∈ L, 0 ≤ x.bits ∧ x.bits < 18446744073709551616) := hins.wf
      generalize (G.blocks.getD i default).tm.kind = t0 at *
      generalize (G.blocks.getD i default).tm.arg = t1 at *
      generalize (G.blocks.getD i default).tm.t0 = t2 at *
      generalize (G.blocks.getD i default).tm.t1 = t3 at *
      generalize (G.blocks.getD i default).tm.trap = t4 at *
      have HB1 : Hid (R = ((L.drop 0).all (standsB p G) && tl) ∧ Below w.heap.size w (wr.alloc (.cells #[.slice ia L.length ic, .int .u8 t0, .int .i64 t1, .int .i64 t2, .int .i64 t3, .int .u8 t4] 40)) ∧ Box (wr.alloc (.cells #[.slice ia L.length ic, .int .u8 t0, .int .i64 t1, .int .i64 t2, .int .i64 t3, .int .u8 t4] 40)) w.heap.size [.string nm, .slice pa pl pc, .int .u8 G.result, .slice va vl vc, .slice aa al ac, .slice (some ⟨g, o, none⟩) n bc]) := ⟨hd, below_alloc hr.out.2.1 _, hr.out.2.2.below (below_alloc (Below.refl _ _) _)⟩
      clear hcl HB HN HZ hd htl hins
      generalize wr = wo at *
      go_wp2
      go_loopw [21] (fun vk wr => ∃ k : Nat, vk = .int .i64 k ∧ k ≤ L.length ∧ Hid (R = ((L.drop k).all (standsB p G) && tl) ∧ Below w.heap.size w wr ∧ Box wr w.heap.size [.string nm, .slice pa pl pc, .int .u8 G.result, .slice va vl vc, .slice aa al ac, .slice (some ⟨g, o, none⟩) n bc])) (fun vk _ => L.length - (intOf vk).toNat)
      case atStart => exact ⟨0, rfl, by omega, HB1.out⟩
      case round =>
        obtain ⟨k, rfl, hk, hq⟩ := hrel
        clear HB1 e0 e1 e2 e3 e4 e5
        obtain ⟨e0, e1, e2, e3, e4, e5⟩ := box6 hq.out.2.2
        have hwl2 := hq.out.2.2.lt
        by_cases hkn : k < L.length
        · obtain ⟨gi, oi, xv, rfl, hgi, d0, d1, d2, d3, d4, d5, hxa⟩ := HI.out k hkn
          obtain ⟨xa, xc, rfl, _⟩ := hxa.form
          have hkn' : (k : Int) < L.length := by omega
          have hcl : ∀ j, wr.cell? ⟨gi, j, none⟩ = w.cell? ⟨gi, j, none⟩ := fun j => hq.out.2.1.cell (p := ⟨gi, j, none⟩) hgi
          rw [← hcl] at d0 d1 d2 d3 d4 d5
          have hd := hq.out.1
          rw [all_drop (d := default) hkn] at hd
          have hwf := HWF.out (L.getD k default) (by rw [List.getD, List.getElem?_eq_getElem hkn]; exact List.getElem_mem hkn)
          have HEI := fun W (hb : Below w.heap.size w W) => HE.out (L.getD k default) (.slice xa (L.getD k default).args.length xc) W hb hxa hwf
          unfold inV at HEI
          generalize hsb : standsB p G (L.getD k default) = sb at *
          generalize typeI p G (L.getD k default) = ty at *
          generalize (L.getD k default).args.length = xn at *
          generalize (L.getD k default).kind = x0 at *
          generalize (L.getD k default).op = x1 at *
          generalize (L.getD k default).dst = x2 at *
          generalize (L.getD k default).bits = x4 at *
          generalize (L.getD k default).ref = x5 at *
          have HB2 : Hid (Below w.heap.size w (wr.alloc (.cells #[.int .u8 x0, .int .u8 x1, .int .i64 x2, .slice xa xn xc, .int .u64 x4, .int .i64 x5] 58))) := below_alloc hq.out.2.1 _
          have HD : Hid (R = (sb && (L.drop (k + 1)).all (standsB p G) && tl)) := hd
          have HEJ : Hid _ := HEI
          clear hcl hd HEI hsb hwf HI HE
          cases sb with
          | true =>
            go_wp2_with (go_at_call 24; go_loud (refine Calls.mono (by exact HEJ.out _ HB2.out) ?_; rintro e w1 ⟨rfl, hb1⟩; have HW1 : Hid _ := hb1; clear hb1))
            go_roundw
            case rel => exact ⟨k + 1, by first | rfl | (congr 1; omega), by omega, by rw [HD.out]; simp, below_trans HB2.out HW1.out, (hq.out.2.2.below (below_alloc (Below.refl _ _) _)).below HW1.out⟩
            case measure => simp [intOf]; omega
          | false =>
            go_wp2_with (go_at_call 24; go_loud (refine Calls.mono (by exact HEJ.out _ HB2.out) ?_; rintro e w1 ⟨rfl, hb1⟩; have HW1 : Hid _ := hb1; clear hb1))
            go_ret
            exact ⟨ret_bool (by rw [HD.out]; simp), below_trans HB2.out HW1.out⟩
        · obtain rfl : k = L.length := by omega
          have hd : R = tl := by rw [hq.out.1, List.drop_length]; simp
          have HD : Hid _ := hd
          clear hd HI HE
          go_wp2
          go_roundw
          case rel => exact ⟨i + 1, by first | rfl | (congr 1; omega), by omega, by rw [HTL.out]; exact HD.out, hq.out.2⟩
          case measure => simp [intOf]; omega
    · obtain rfl : i = n := by omega
      have hd : R = true := hr.out.1.trans HZ.out
      have HD : Hid _ := hd
      clear hd HB HE HN HZ
      go_wp2
      go_ret
      exact ⟨ret_bool HD.out.symm, hr.out.2.1⟩
end Go.Proofs.YtabpnjakfoofpaaGreatDoor
