/- The strips of a graph: the walk. -/
import Derived.Test.YtcggbedjhglmmaaGreatDoorLNfM
namespace Go.Proofs.YtcggbedjhglmmaaGreatDoor
open Go.RowKit

structure StpOk (bs : List Bl) (ah : List (List Int)) (nv : Nat) : Prop where
  gr : GrOk bs ah nv
  phi : ∀ i, i < bs.length → ∀ x ∈ (blk bs i).ins, x.kind = 1 → x.args.length = (ah.getD i []).length
  sz : szB bs ≤ 1000000
  nv : nv ≤ 1000000
  al : ∀ j, (ah.getD j []).length ≤ 1000000
theorem StOk.insed {n i L : Nat} {ah : List Int} {all : List Sp} {x : In} (h : StOk n L all) (hi : i < n) (hah : ∀ a ∈ ah, 0 ≤ a ∧ a < (n : Int)) : StOk n (L + (x.args.length + 1)) (insS i ah all x) := by
  unfold insS
  dsimp only
  have h1 : StOk n (L + x.args.length) (if x.kind = 1 then handAll all ah x.args else askAll i all x.args) := by
    split
    · refine (StOk.handed (x.args.zip ah) h fun q hq => ?_).up (by rw [List.length_zip]; omega)
      have := hah _ (List.of_mem_zip hq).2
      omega
    · exact StOk.asked hi _ h
  split
  · exact h1.addSet hi _
  · exact h1.up (by omega)
theorem kept_at {m : Nat} {ss ss' : List Slot} {s : Slot} (hl : 1 + 3 * m ≤ ss.length) (hk : Kq m (ss ++ [s]) ss') : ss'[ss.length]? = some s := hk ss.length s hl (by simp)
set_option maxRecDepth 100000 in
set_option maxHeartbeats 8000000 in
theorem strips_any (g : Gr) (pv vv av bv : Value) (w : World) (hg : GrAt w pv vv av bv g) {ah : List (List Int)} {wA : World} {b0 GA : Nat} {kvs : List Value} (hb : Below wA.heap.size wA w) (hah : RowsIn wA b0 GA g.blocks.length kvs ah) (hok : StpOk g.blocks ah g.vars.length) :
    Calls Tryz.prog 19 #[.agg #[.string g.name, pv, .int .u8 g.result, vv, av, bv], rowN GA g.blocks.length] w fun e w' => ∃ G ss ts, e = .returned (.slice (some ⟨G, 0, none⟩) ((g.vars.length + 63) / 64) ((g.vars.length + 63) / 64)) ∧ Sts w w' G ((g.vars.length + 63) / 64) ss ts (stripsP g.blocks ah g.vars.length) := by
  have hB := hg.bs
  obtain ⟨pa, pc, va, vc, aa, ac, ba0, bc0, rfl, rfl, rfl, hbv, _, _, _, _⟩ := hg.openF
  clear hbv
  obtain ⟨nm, ps, r, vs, ars, bs⟩ := g
  dsimp only at *
  clear hg
  obtain ⟨ba, bc, rfl, hbl⟩ := hB.form
  have HI : Hid (∀ i, i < bs.length → _) := fun i hi => hB.get hi
  have HOK : Hid (StpOk bs ah vs.length) := hok
  have HAH : Hid (RowsIn wA b0 GA bs.length kvs ah ∧ Below wA.heap.size wA w) := ⟨hah, hb⟩
  obtain ⟨m, hm⟩ : ∃ m, m = (vs.length + 63) / 64 := ⟨_, rfl⟩
  have hmb : m ≤ 1000000 := by have := hok.nv; omega
  have HM : Hid (∀ a : Int, 0 ≤ a → a < (vs.length : Int) → a.toNat / 64 < m) := fun a h1 h2 => by omega
  have hnv := hok.nv
  rw [← hm]
  have hq : ((vs.length : Int) + 64 - 1) / 64 = (m : Int) := by omega
  have hmk : ∀ W, (Instr.makeSlice 60 (.int .i64 (((vs.length : Int) + 64 - 1) / 64)) (.int .i64 (((vs.length : Int) + 64 - 1) / 64))).run Tryz.prog W = .ok (.slice (some ⟨W.heap.size, 0, none⟩) m m) (W.alloc (.cells (madeCells #[.slice none 0 0, .slice none 0 0, .slice none 0 0] (m * 3)) 64)) := fun W => by rw [hq]; exact make_strips m hmb W
  obtain ⟨RES, hRES⟩ : ∃ RES, RES = stripsP bs ah vs.length := ⟨_, rfl⟩
  rw [← hRES]
  have HR : Hid (strF ah (bs.drop 0) 0 (List.replicate m emp) = RES) := by show _ = _; rw [List.drop_zero, hRES, hm]; rfl
  obtain ⟨n, hnn⟩ : ∃ n, n = bs.length := ⟨_, rfl⟩
  have HNB : Hid (bs.length = n) := hnn.symm
  rw [← hnn] at HI HAH hbl ⊢
  unfold rowN
  have hnb : n ≤ 1000000 := by
    have := hok.sz
    have h2 := szB_len bs
    omega
  have HNS : Hid (∃ ss, Sts w ((w.alloc (.cells #[.string nm, .slice pa ps.length pc, .int .u8 r, .slice va vs.length vc, .slice aa ars.length ac, .slice ba n bc] 28)).alloc (.cells (madeCells #[.slice none 0 0, .slice none 0 0, .slice none 0 0] (m * 3)) 64)) (w.heap.size + 1) m ss (List.replicate m (Value.slice none 0 0, Value.slice none 0 0, Value.slice none 0 0)) (List.replicate m emp)) := by
    have h9 := sts_new w (w.alloc (.cells #[.string nm, .slice pa ps.length pc, .int .u8 r, .slice va vs.length vc, .slice aa ars.length ac, .slice ba n bc] 28)) (below_alloc (Below.refl _ _) _) m hmb
    show ∃ ss, _
    simpa using h9
  have hnv' : (vs.length : Int) ≤ 1000000 := by omega
  clear hB hok hah hb hm hRES hnn hnv hq
  generalize ps.length = pl at *
  generalize hvl : vs.length = vl at *
  generalize ars.length = al at *
  go_enter Tryz.func19, Tryz.ntmps19
  go_wp2
  go_loopw [22] (fun vi wr => ∃ (i : Nat) (ss : List Slot) (ts : List V3) (a1 : List Sp) (L : Nat), vi = .int .i64 i ∧ i ≤ n ∧ Hid (Sts w wr (w.heap.size + 1) m ss ts a1 ∧ strF ah (bs.drop i) i a1 = RES ∧ StOk n L a1 ∧ L + szB (bs.drop i) ≤ 1000000)) (fun vi _ => n - (intOf vi).toNat)
  case atStart =>
    obtain ⟨ss, h9⟩ := HNS.out
    exact ⟨0, ss, _, _, 0, rfl, by omega, h9, HR.out, stOk_new n m, by have := HOK.out.sz; rw [List.drop_zero]; omega⟩
  case round =>
    obtain ⟨i, ss, ts, a1, L, rfl, hi, hr⟩ := hrel
    clear HNS HR hmk
    generalize wr = wo at *
    by_cases hin : i < n
    · have hin' : (i : Int) < n := by omega
      have hil : i < bs.length := by rw [HNB.out]; exact hin
      obtain ⟨g, o, iv, rfl, hgg, c0, c1, c2, c3, c4, c5, hins⟩ := HI.out i hin
      have hcl : ∀ j, wo.cell? ⟨g, j, none⟩ = w.cell? ⟨g, j, none⟩ := fun j => hr.out.1.low.cell (p := ⟨g, j, none⟩) hgg
      rw [← hcl] at c0 c1 c2 c3 c4 c5
      have HDS : Hid _ := strF_drop (ah := ah) hil a1
      rw [hr.out.2.1] at HDS
      have HSZ : Hid _ := szB_drop hil
      obtain ⟨xa, xc, rfl, hxl⟩ := hins.form
      have HIN : Hid (∀ k, k < (bs.getD i default).ins.length → _) := fun k hk => hins.get hk
      have HBK : Hid (blk bs i = bs.getD i default) := rfl
      have HIK : Hid (∀ x ∈ (bs.getD i default).ins, InOk bs.length vl (ah.getD i []) x) := HOK.out.gr.ins i hil
      have HPH : Hid (∀ x ∈ (bs.getD i default).ins, x.kind = 1 → x.args.length = (ah.getD i []).length) := HOK.out.phi i hil
      have HTM : Hid ((bs.getD i default).tm.kind = 2 ∨ (bs.getD i default).tm.kind = 3 → 0 ≤ (bs.getD i default).tm.arg ∧ (bs.getD i default).tm.arg < (vl : Int)) := HOK.out.gr.tm i hil
      have HAI : Hid (∀ a ∈ ah.getD i [], 0 ≤ a ∧ a < (n : Int)) := by rw [← HNB.out]; exact HOK.out.gr.ah i
      have hSt := hr.out.1
      have hB1 := hSt.boxed [.slice xa (bs.getD i default).ins.length xc, .int .u8 (bs.getD i default).tm.kind, .int .i64 (bs.getD i default).tm.arg, .int .i64 (bs.getD i default).tm.t0, .int .i64 (bs.getD i default).tm.t1, .int .u8 (bs.getD i default).tm.trap] 48 6 rfl
      have HBX : Hid (∀ ss' W ts' a', Kq m (ss ++ [⟨.slice (some ⟨wo.heap.size, 0, none⟩) 1 1, 48, 6, 1, [.slice xa (bs.getD i default).ins.length xc, .int .u8 (bs.getD i default).tm.kind, .int .i64 (bs.getD i default).tm.arg, .int .i64 (bs.getD i default).tm.t0, .int .i64 (bs.getD i default).tm.t1, .int .u8 (bs.getD i default).tm.trap]⟩]) ss' → Sts w W (w.heap.size + 1) m ss' ts' a' → W.cell? ⟨wo.heap.size, 1, none⟩ = some (.int .u8 (bs.getD i default).tm.kind) ∧ W.cell? ⟨wo.heap.size, 2, none⟩ = some (.int .i64 (bs.getD i default).tm.arg) ∧ W.cell? ⟨wo.heap.size, 3, none⟩ = some (.int .i64 (bs.getD i default).tm.t0) ∧ W.cell? ⟨wo.heap.size, 4, none⟩ = some (.int .i64 (bs.getD i default).tm.t1) ∧ W.cell? ⟨wo.heap.size, 5, none⟩ = some (.int .u8 (bs.getD i default).tm.trap) ∧ wo.heap.size < W.heap.size) := fun ss' W ts' a' hk hS => by
        have hj := kept_at hSt.len hk
        exact ⟨hS.at' hj (q := 1) rfl, hS.at' hj (q := 2) rfl, hS.at' hj (q := 3) rfl, hS.at' hj (q := 4) rfl, hS.at' hj (q := 5) rfl, (hS.heap.lt hj).2⟩
      have HB1 : Hid _ := hB1
      obtain ⟨rga, rgc, hrv⟩ := rows_ints HAH.out.1 hin (HOK.out.al i)
      have HRV : Hid (∀ W, Below w.heap.size w W → W.cell? ⟨GA, i, none⟩ = some (.slice rga (ah.getD i []).length rgc) ∧ IntsAt W (.slice rga (ah.getD i []).length rgc) (ah.getD i [])) := fun W hW => hrv W (below_trans HAH.out.2 hW)
      have HST : Hid (StOk n L a1 ∧ L + szB (bs.drop i) ≤ 1000000) := hr.out.2.2
      have HLO : Hid (Below w.heap.size w wo) := hSt.low
      have hil2 : (bs.getD i default).ins.length ≤ 1000000 := by
        have h1 := HST.out.2
        have h2 := HSZ.out
        have h3 := szI_len (bs.getD i default).ins
        unfold blk at h2
        omega
      have HIN' : Hid (i < n) := hin
      clear hcl hins hr hrv hSt hB1
      generalize bs.getD i default = B at *
      obtain ⟨xs, tm⟩ := B
      obtain ⟨tk, ta, t0, t1, ttr⟩ := tm
      dsimp only at *
      generalize hxs : xs.length = xn at *
      have HXN : Hid (xs.length = xn) := hxs
      clear hxs
      have HB1' : Hid _ := HB1.out
      generalize hssB : (ss ++ [⟨.slice (some ⟨wo.heap.size, 0, none⟩) 1 1, 48, 6, 1, [.slice xa xn xc, .int .u8 tk, .int .i64 ta, .int .i64 t0, .int .i64 t1, .int .u8 ttr]⟩]) = ssB at *
      clear hssB HB1
      obtain ⟨R2, hR2⟩ : ∃ R2, R2 = xs.foldl (insS i (ah.getD i [])) a1 := ⟨_, rfl⟩
      have HR2 : Hid ((xs.drop 0).foldl (insS i (ah.getD i [])) a1 = R2) := by show _ = _; rw [List.drop_zero, hR2]
      have HDD : Hid (strF ah (bs.drop (i + 1)) (i + 1) (endS i R2 ⟨tk, ta, t0, t1, ttr⟩) = RES) := by
        show _ = _
        have h9 := HDS.out
        rw [HBK.out] at h9
        rw [h9, hR2]; rfl
      have HLS : Hid (L + szI (xs.drop 0) + 1 + szB (bs.drop (i + 1)) ≤ 1000000) := by
        show _ ≤ _
        have h9 := HST.out.2
        have h8 := HSZ.out
        rw [HBK.out] at h8
        rw [h8] at h9
        rw [List.drop_zero]
        dsimp only at h9
        omega
      clear hR2 HDS HSZ
      go_wp2
      go_loopw [30] (fun vk wr => ∃ (k : Nat) (ss2 : List Slot) (ts2 : List V3) (a2 : List Sp) (L2 : Nat), vk = .int .i64 k ∧ k ≤ xn ∧ Hid (Sts w wr (w.heap.size + 1) m ss2 ts2 a2 ∧ Kq m ssB ss2 ∧ (xs.drop k).foldl (insS i (ah.getD i [])) a2 = R2 ∧ StOk n L2 a2 ∧ L2 + szI (xs.drop k) + 1 + szB (bs.drop (i + 1)) ≤ 1000000)) (fun vk _ => xn - (intOf vk).toNat)
      case atStart => exact ⟨0, ssB, ts, a1, L, rfl, by omega, HB1'.out, Kq.refl _ _, HR2.out, HST.out.1, HLS.out⟩
      case round =>
        obtain ⟨k, ss2, ts2, a2, L2, rfl, hk, hr⟩ := hrel
        clear HB1' HR2 HLS HST
        by_cases hkn : k < xn
        · have hkn' : (k : Int) < xn := by omega
          have hkl : k < xs.length := by rw [HXN.out]; exact hkn
          obtain ⟨gx, ox, xv, rfl, hgx, d0, d1, d2, d3, d4, d5, hxa⟩ := HIN.out k hkn
          have hcl : ∀ j, wr.cell? ⟨gx, j, none⟩ = w.cell? ⟨gx, j, none⟩ := fun j => hr.out.1.low.cell (p := ⟨gx, j, none⟩) hgx
          rw [← hcl] at d0 d1 d2 d3 d4 d5
          have hmem : xs.getD k default ∈ xs := by rw [List.getD, List.getElem?_eq_getElem hkl]; exact List.getElem_mem hkl
          have hID := insS_drop (i := i) (ah := ah.getD i []) hkl a2
          rw [hr.out.2.2.1] at hID
          have hSI := szI_drop hkl
          have hIO := HIK.out _ hmem
          have hPP := HPH.out _ hmem
          obtain ⟨xaa, xac, rfl, hxal⟩ := hxa.form
          have hNI := (hr.out.2.2.2.1.insed (x := xs.getD k default) HIN'.out HAI.out)
          have hL2 := hr.out.2.2.2.2
          rw [hSI] at hL2
          have hSO := hr.out.2.2.2.1
          have hSt := hr.out.1
          have hB2 := hSt.boxed [.int .u8 (xs.getD k default).kind, .int .u8 (xs.getD k default).op, .int .i64 (xs.getD k default).dst, .slice xaa (xs.getD k default).args.length xac, .int .u64 (xs.getD k default).bits, .int .i64 (xs.getD k default).ref] 54 6 rfl
          have HKQ : Hid (Kq m ssB ss2) := hr.out.2.1
          have hlen2 : 1 + 3 * m ≤ ss2.length := hSt.len
          clear hr hcl hmem hkl
          generalize xs.getD k default = x at *
          obtain ⟨xk, xo, xd, xargs, xb, xr⟩ := x
          dsimp only at *
          have HARG : Hid (∀ a ∈ xargs, 0 ≤ a ∧ a.toNat / 64 < m) := fun a ha => ⟨(hIO.args a ha).1, HM.out a (hIO.args a ha).1 (hIO.args a ha).2⟩
          have HST2 : Hid (StOk n L2 a2 ∧ L2 + (xargs.length + 1 + szI (List.drop (k + 1) xs)) + 1 + szB (List.drop (i + 1) bs) ≤ 1000000) := ⟨hSO, hL2⟩
          have HB2 : Hid _ := hB2
          have HNI : Hid _ := hNI
          have HID : Hid _ := hID
          have HXA : Hid _ := hxa
          have HDN : Hid (setsI ⟨xk, xo, xd, xargs, xb, xr⟩ = true → 0 ≤ xd ∧ xd.toNat / 64 < m) := fun hh => ⟨(hIO.dst hh).1, HM.out xd (hIO.dst hh).1 (hIO.dst hh).2⟩
          have HSE : Hid (∀ W, Calls Tryz.prog 37 #[.agg #[.int .u8 xk, .int .u8 xo, .int .i64 xd, .slice xaa xargs.length xac, .int .u64 xb, .int .i64 xr]] W fun e w' => e = .returned (.bool (setsI ⟨xk, xo, xd, xargs, xb, xr⟩)) ∧ Below W.heap.size W w') := fun W => sets_any ⟨xk, xo, xd, xargs, xb, xr⟩ (.slice xaa xargs.length xac) W
          have HBC : Hid (∀ ss' W ts' a', Kq m (ss2 ++ [⟨.slice (some ⟨wr.heap.size, 0, none⟩) 1 1, 54, 6, 1, [.int .u8 xk, .int .u8 xo, .int .i64 xd, .slice xaa xargs.length xac, .int .u64 xb, .int .i64 xr]⟩]) ss' → Sts w W (w.heap.size + 1) m ss' ts' a' → W.cell? ⟨wr.heap.size, 0, none⟩ = some (.int .u8 xk) ∧ W.cell? ⟨wr.heap.size, 1, none⟩ = some (.int .u8 xo) ∧ W.cell? ⟨wr.heap.size, 2, none⟩ = some (.int .i64 xd) ∧ W.cell? ⟨wr.heap.size, 3, none⟩ = some (.slice xaa xargs.length xac) ∧ W.cell? ⟨wr.heap.size, 4, none⟩ = some (.int .u64 xb) ∧ W.cell? ⟨wr.heap.size, 5, none⟩ = some (.int .i64 xr) ∧ wr.heap.size < W.heap.size) := fun ss' W ts' a' hk hS => by
            have hj := kept_at hlen2 hk
            exact ⟨hS.at' hj (q := 0) rfl, hS.at' hj (q := 1) rfl, hS.at' hj (q := 2) rfl, hS.at' hj (q := 3) rfl, hS.at' hj (q := 4) rfl, hS.at' hj (q := 5) rfl, (hS.heap.lt hj).2⟩
          have HLN : Hid (Kq m ss2 (ss2 ++ [⟨.slice (some ⟨wr.heap.size, 0, none⟩) 1 1, 54, 6, 1, [.int .u8 xk, .int .u8 xo, .int .i64 xd, .slice xaa xargs.length xac, .int .u64 xb, .int .i64 xr]⟩])) := Kq.more _ _ _
          have HLS2 : Hid (L2 + (xargs.length + 1) + szI (xs.drop (k + 1)) + 1 + szB (bs.drop (i + 1)) ≤ 1000000) := by show _ ≤ _; omega
          have HLX : Hid (L2 + xargs.length ≤ 5000000) := by show _ ≤ _; omega
          have HSA : Hid (StOk n (L2 + xargs.length) (if xk = 1 then handAll a2 (ah.getD i []) xargs else askAll i a2 xargs)) := by
            split
            · refine (StOk.handed (xargs.zip (ah.getD i [])) hSO fun q hq => ?_).up (by rw [List.length_zip]; omega)
              have := HAI.out _ (List.of_mem_zip hq).2
              omega
            · exact StOk.asked HIN'.out _ hSO
          have HIS : Hid (insS i (ah.getD i []) a2 ⟨xk, xo, xd, xargs, xb, xr⟩ = if setsI ⟨xk, xo, xd, xargs, xb, xr⟩ = true then addSet (if xk = 1 then handAll a2 (ah.getD i []) xargs else askAll i a2 xargs) i xd.toNat else (if xk = 1 then handAll a2 (ah.getD i []) xargs else askAll i a2 xargs)) := rfl
          clear hL2 hB2 hNI hID hSt hIO hSI hSO
          generalize ss2 ++ [⟨.slice (some ⟨wr.heap.size, 0, none⟩) 1 1, 54, 6, 1, [.int .u8 xk, .int .u8 xo, .int .i64 xd, .slice xaa xargs.length xac, .int .u64 xb, .int .i64 xr]⟩] = ssX at *
          by_cases hx1 : xk = 1
          · subst hx1
            have HPL : Hid (xargs.length = (ah.getD i []).length) := hPP rfl
            have HHD : Hid _ := hand_any (l := xargs) (ah := ah.getD i []) (hv := .slice rga (ah.getD i []).length rgc) (av := .slice xaa xargs.length xac) (HB2.out.same (w' := World.drew _) rfl (below_drew HB2.out.low)) HST2.out.1 hmb (fun W hW => HXA.out.below hW) (fun W hW => (HRV.out W hW).2) HPL.out HARG.out HAI.out HLX.out
            have hrc := (HRV.out _ HB2.out.low).1
            rw [← HPL.out] at hrc HHD
            have e1 : (if (1 : Int) = 1 then handAll a2 (ah.getD i []) xargs else askAll i a2 xargs) = handAll a2 (ah.getD i []) xargs := if_pos rfl
            rw [e1] at HIS HSA
            have e2 : setsI ⟨1, xo, xd, xargs, xb, xr⟩ = true := rfl
            rw [e2, if_pos rfl] at HIS
            rw [e2] at HSE
            have HD1 := HDN.out e2
            clear hPP HDN hxa e1 e2
            generalize handAll a2 (ah.getD i []) xargs = a3 at *
            generalize xargs.length = xal at *
            go_wp2
            go_region_with (go_at_call 35; refine Calls.mono (by exact HHD.out) ?_; rintro e w3 ⟨rfl, ss3, ts3, hS3, hK3⟩; have HS3 : Hid _ := hS3; have HK3 : Hid _ := hK3; clear hS3 hK3)
            all_goals (
              obtain ⟨e0, e1, e2, e3, e4, e5, hX⟩ := HBC.out _ _ _ _ HK3.out HS3.out
              obtain ⟨ud, hud⟩ : ∃ ud : Nat, xd = (ud : Int) := Int.eq_ofNat_of_zero_le HD1.1
              subst hud
              have hum : ud / 64 < m := by have := HD1.2; simpa using this
              have eIS : addSet a3 i (ud : Int).toNat = addSet a3 i ud := by rw [Int.toNat_natCast]
              rw [eIS] at HIS
              have HOF : Hid (∀ W, Calls Tryz.prog 38 #[.slice (some ⟨w.heap.size + 1, 0, none⟩) m m, .int .i64 (ud : Int)] W fun e w' => e = .returned (.tuple #[.pointer (some ⟨w.heap.size + 1, ud / 64 * 3, none⟩), .int .u64 (bitW ud : Nat)]) ∧ ∃ k, w' = W.drewN k) := fun W => ofv_any _ m m ud W hum (by omega)
              have HLD : Hid (∀ w4 q, Below w3.heap.size w3 w4 → ∃ t1 l1 t2 t3, ts3[ud / 64]? = some (.slice t1 l1 t2, t3) ∧ w4.cell? ⟨w.heap.size + 1, ud / 64 * 3, none⟩ = some (.slice t1 l1 t2) ∧ w.heap.size + 1 < w4.heap.size ∧ Calls Tryz.prog 39 #[.slice t1 l1 t2, .int .i64 (i : Int), .int .u64 (bitW ud : Nat)] (w4.drewN q) fun e w' => ∃ v', e = .returned v' ∧ (∃ ta tc nn, v' = .slice ta nn tc) ∧ (∃ x, w'.cell? ⟨w.heap.size + 1, ud / 64 * 3, none⟩ = some x) ∧ w'.frozen? ⟨w.heap.size + 1, ud / 64 * 3, none⟩ = false ∧ ∃ ss' ts', Sts w (w'.setCell ⟨w.heap.size + 1, ud / 64 * 3, none⟩ v') (w.heap.size + 1) m ss' ts' (addSet a3 i ud) ∧ Kq m ss3 ss') := fun w4 q hb4 => by
                have hS4 := (HS3.out.below hb4)
                have hS5 := hS4.same (w' := w4.drewN q) rfl (below_drewN hS4.low q)
                obtain ⟨⟨t1, t2, t3⟩, ht, hsx⟩ := hS4.get hum
                have hrow := hS4.row _ _ _ ht hsx
                have hob := hS5.heap.own _ _ hrow.1
                have hk1 := HSA.out.s (ud / 64)
                obtain ⟨cc0, _, _, _, hGl⟩ := hS4.cells ht
                obtain ⟨s0a, s0c, hv0⟩ : ∃ a c, t1 = .slice a (strip a3 ud).sets.length c := by
                  rcases own_shape hob with ⟨e, e0⟩ | ⟨g, c, e, _⟩
                  · exact ⟨none, 0, by rw [show (strip a3 ud).sets.length = 0 from e0]; exact e⟩
                  · exact ⟨_, _, e⟩
                subst hv0
                refine ⟨_, _, _, _, ht, cc0, hGl, (laid_any (w := w4.drewN q) (base := w.heap.size) hob (by have := hk1.2; have := HLX.out; omega) hS5.low.size i _ (bitW_lt ud) hk1.1.w).mono ?_⟩
                rintro e w5 ⟨v5, he, h1, h2, h3⟩
                obtain ⟨⟨ss', ts', k1, k2⟩, k3, k4⟩ := hS5.putSet (i := i) ht h1 h2 h3
                refine ⟨v5, he, ?_, k3, k4, ss', ts', k1, k2⟩
                rcases own_shape h1 with ⟨e, e0⟩ | ⟨g, c, e, _⟩
                · exact ⟨_, _, _, e⟩
                · exact ⟨_, _, _, e⟩
              clear hum eIS HD1
              generalize ud / 64 * 3 = uq at *
              generalize bitW ud = bw at *
              go_wp2_with (first
                | (go_at_call 37; go_loud (refine Calls.mono (by exact HSE.out _) ?_; rintro e w4 ⟨rfl, hb4⟩; have f2 := (hb4.cell (p := ⟨wr.heap.size, 2, none⟩) hX).trans e2; have HB4 : Hid _ := hb4; clear hb4))
                | (go_at_call 38; go_loud (refine Calls.mono (by exact HOF.out _) ?_; rintro e w5 ⟨rfl, kq, hw5⟩; subst hw5; obtain ⟨t1, l1, t2, t3, _, cT, hGl, hcl⟩ := HLD.out w4 kq HB4.out; have HCL : Hid _ := hcl; clear hcl))
                | (go_at_call 39; go_loud (refine Calls.mono (by exact HCL.out) ?_; rintro e w5 ⟨v5, rfl, ⟨ta5, tc5, nn5, rfl⟩, ⟨x5, cx5⟩, fx5, hup⟩; have HU : Hid _ := hup; clear hup)))
              go_roundw
              case rel =>
                obtain ⟨ss', ts', k1, k2⟩ := HU.out
                exact ⟨k + 1, ss', ts', addSet a3 i ud, L2 + (xal + 1), by first | rfl | (congr 1; omega), by omega, k1, Kq.trans (Kq.trans (Kq.trans HKQ.out HLN.out) HK3.out) k2, by rw [← HIS.out]; exact HID.out.symm, by rw [← HIS.out]; exact HNI.out, HLS2.out⟩
              case measure => simp [intOf]; omega)
          · have hx1' : (xk == 1) = false := beq_false_of_ne hx1
            have HHD : Hid _ := ask_any (l := xargs) (av := .slice xaa xargs.length xac) HB2.out HST2.out.1 HIN'.out hmb (fun W ss' ts' a' hS _ => HXA.out.below hS.low) HARG.out HLX.out
            rw [if_neg hx1] at HIS HSA
            by_cases hset : setsI ⟨xk, xo, xd, xargs, xb, xr⟩ = true
            · rw [if_pos hset] at HIS
              rw [hset] at HSE
              have HD1 := HDN.out hset
              clear hPP HDN hxa hx1 hset
              generalize askAll i a2 xargs = a3 at *
              generalize xargs.length = xal at *
              go_wp2_with (go_at_call 36; go_loud (refine Calls.mono (by exact HHD.out) ?_; rintro e w3 ⟨rfl, ss3, ts3, hS3, hK3⟩; have HS3 : Hid _ := hS3; have HK3 : Hid _ := hK3; obtain ⟨e0, e1, e2, e3, e4, e5, hX⟩ := HBC.out _ _ _ _ hK3 hS3; clear hS3 hK3))
              obtain ⟨ud, hud⟩ : ∃ ud : Nat, xd = (ud : Int) := Int.eq_ofNat_of_zero_le HD1.1
              subst hud
              have hum : ud / 64 < m := by have := HD1.2; simpa using this
              have eIS : addSet a3 i (ud : Int).toNat = addSet a3 i ud := by rw [Int.toNat_natCast]
              rw [eIS] at HIS
              have HOF : Hid (∀ W, Calls Tryz.prog 38 #[.slice (some ⟨w.heap.size + 1, 0, none⟩) m m, .int .i64 (ud : Int)] W fun e w' => e = .returned (.tuple #[.pointer (some ⟨w.heap.size + 1, ud / 64 * 3, none⟩), .int .u64 (bitW ud : Nat)]) ∧ ∃ k, w' = W.drewN k) := fun W => ofv_any _ m m ud W hum (by omega)
              have HLD : Hid (∀ w4 q, Below w3.heap.size w3 w4 → ∃ t1 l1 t2 t3, ts3[ud / 64]? = some (.slice t1 l1 t2, t3) ∧ w4.cell? ⟨w.heap.size + 1, ud / 64 * 3, none⟩ = some (.slice t1 l1 t2) ∧ w.heap.size + 1 < w4.heap.size ∧ Calls Tryz.prog 39 #[.slice t1 l1 t2, .int .i64 (i : Int), .int .u64 (bitW ud : Nat)] (w4.drewN q) fun e w' => ∃ v', e = .returned v' ∧ (∃ ta tc nn, v' = .slice ta nn tc) ∧ (∃ x, w'.cell? ⟨w.heap.size + 1, ud / 64 * 3, none⟩ = some x) ∧ w'.frozen? ⟨w.heap.size + 1, ud / 64 * 3, none⟩ = false ∧ ∃ ss' ts', Sts w (w'.setCell ⟨w.heap.size + 1, ud / 64 * 3, none⟩ v') (w.heap.size + 1) m ss' ts' (addSet a3 i ud) ∧ Kq m ss3 ss') := fun w4 q hb4 => by
                have hS4 := (HS3.out.below hb4)
                have hS5 := hS4.same (w' := w4.drewN q) rfl (below_drewN hS4.low q)
                obtain ⟨⟨t1, t2, t3⟩, ht, hsx⟩ := hS4.get hum
                have hrow := hS4.row _ _ _ ht hsx
                have hob := hS5.heap.own _ _ hrow.1
                have hk1 := HSA.out.s (ud / 64)
                obtain ⟨cc0, _, _, _, hGl⟩ := hS4.cells ht
                obtain ⟨s0a, s0c, hv0⟩ : ∃ a c, t1 = .slice a (strip a3 ud).sets.length c := by
                  rcases own_shape hob with ⟨e, e0⟩ | ⟨g, c, e, _⟩
                  · exact ⟨none, 0, by rw [show (strip a3 ud).sets.length = 0 from e0]; exact e⟩
                  · exact ⟨_, _, e⟩
                subst hv0
                refine ⟨_, _, _, _, ht, cc0, hGl, (laid_any (w := w4.drewN q) (base := w.heap.size) hob (by have := hk1.2; have := HLX.out; omega) hS5.low.size i _ (bitW_lt ud) hk1.1.w).mono ?_⟩
                rintro e w5 ⟨v5, he, h1, h2, h3⟩
                obtain ⟨⟨ss', ts', k1, k2⟩, k3, k4⟩ := hS5.putSet (i := i) ht h1 h2 h3
                refine ⟨v5, he, ?_, k3, k4, ss', ts', k1, k2⟩
                rcases own_shape h1 with ⟨e, e0⟩ | ⟨g, c, e, _⟩
                · exact ⟨_, _, _, e⟩
                · exact ⟨_, _, _, e⟩
              clear hum eIS HD1
              generalize ud / 64 * 3 = uq at *
              generalize bitW ud = bw at *
              go_wp2_with (first
                | (go_at_call 37; go_loud (refine Calls.mono (by exact HSE.out _) ?_; rintro e w4 ⟨rfl, hb4⟩; have f2 := (hb4.cell (p := ⟨wr.heap.size, 2, none⟩) hX).trans e2; have HB4 : Hid _ := hb4; clear hb4))
                | (go_at_call 38; go_loud (refine Calls.mono (by exact HOF.out _) ?_; rintro e w5 ⟨rfl, kq, hw5⟩; subst hw5; obtain ⟨t1, l1, t2, t3, _, cT, hGl, hcl⟩ := HLD.out w4 kq HB4.out; have HCL : Hid _ := hcl; clear hcl))
                | (go_at_call 39; go_loud (refine Calls.mono (by exact HCL.out) ?_; rintro e w5 ⟨v5, rfl, ⟨ta5, tc5, nn5, rfl⟩, ⟨x5, cx5⟩, fx5, hup⟩; have HU : Hid _ := hup; clear hup)))
              go_roundw
              case rel =>
                obtain ⟨ss', ts', k1, k2⟩ := HU.out
                exact ⟨k + 1, ss', ts', addSet a3 i ud, L2 + (xal + 1), by first | rfl | (congr 1; omega), by omega, k1, Kq.trans (Kq.trans (Kq.trans HKQ.out HLN.out) HK3.out) k2, by rw [← HIS.out]; exact HID.out.symm, by rw [← HIS.out]; exact HNI.out, HLS2.out⟩
              case measure => simp [intOf]; omega
            · rw [if_neg hset] at HIS
              have hset' : setsI ⟨xk, xo, xd, xargs, xb, xr⟩ = false := by simpa using hset
              rw [hset'] at HSE
              clear hPP HDN hxa hx1 hset hset'
              generalize askAll i a2 xargs = a3 at *
              generalize xargs.length = xal at *
              go_wp2_with (first
                | (go_at_call 36; go_loud (refine Calls.mono (by exact HHD.out) ?_; rintro e w3 ⟨rfl, ss3, ts3, hS3, hK3⟩; have HS3 : Hid _ := hS3; have HK3 : Hid _ := hK3; obtain ⟨e0, e1, e2, e3, e4, e5, hX⟩ := HBC.out _ _ _ _ hK3 hS3; clear hS3 hK3))
                | (go_at_call 37; go_loud (refine Calls.mono (by exact HSE.out _) ?_; rintro e w4 ⟨rfl, hb4⟩; have HB4 : Hid _ := hb4; clear hb4)))
              go_roundw
              case rel => exact ⟨k + 1, ss3, ts3, a3, L2 + (xal + 1), by first | rfl | (congr 1; omega), by omega, HS3.out.below HB4.out, Kq.trans (Kq.trans HKQ.out HLN.out) HK3.out, by rw [← HIS.out]; exact HID.out.symm, by rw [← HIS.out]; exact HNI.out, HLS2.out⟩
              case measure => simp [intOf]; omega
        · obtain rfl : k = xn := by omega
          have HRE : Hid (a2 = R2) := by
            show _ = _
            have h9 := hr.out.2.2.1
            rw [← HXN.out, List.drop_length] at h9
            exact h9
          obtain ⟨q1, q2, q3, q4, q5, hX⟩ := HBX.out _ _ _ _ hr.out.2.1 hr.out.1
          have HAS : Hid (∀ W, Calls Tryz.prog 40 #[.agg #[.int .u8 tk, .int .i64 ta, .int .i64 t0, .int .i64 t1, .int .u8 ttr]] W fun e w' => e = .returned (.bool (tk == 2 || tk == 3)) ∧ Below W.heap.size W w') := fun W => asks_any ⟨tk, ta, t0, t1, ttr⟩ W
          have HEN : Hid (endS i R2 ⟨tk, ta, t0, t1, ttr⟩ = if tk = 2 ∨ tk = 3 then askOne i R2 ta else R2) := rfl
          have HS2 : Hid _ := hr.out.1
          have hSO := hr.out.2.2.2.1
          have hLL : L2 + 1 + szB (bs.drop (i + 1)) ≤ 1000000 := by
            have h9 := hr.out.2.2.2.2
            rw [← HXN.out, List.drop_length] at h9
            unfold szI at h9
            simp only [List.map_nil, List.sum_nil] at h9
            omega
          have HSO : Hid (StOk n L2 a2 ∧ L2 + 1 + szB (bs.drop (i + 1)) ≤ 1000000) := ⟨hSO, hLL⟩
          clear hr hSO hLL
          by_cases htk : tk = 2 ∨ tk = 3
          · have htt : (tk == 2 || tk == 3) = true := by rcases htk with e | e <;> subst e <;> rfl
            rw [htt] at HAS
            rw [if_pos htk] at HEN
            have hta := HTM.out htk
            have HAK : Hid (∀ w4, Below wr.heap.size wr w4 → Calls Tryz.prog 36 #[.slice (some ⟨w.heap.size + 1, 0, none⟩) m m, .int .i64 (i : Int), .slice (some ⟨w4.heap.size, 0, none⟩) 1 1] (w4.alloc (.cells #[.int .i64 ta] 3)) fun e w' => e = .returned (.tuple #[]) ∧ ∃ ss' ts', Sts w w' (w.heap.size + 1) m ss' ts' (askOne i a2 ta)) := fun w4 hb4 => by
              have hS4 := HS2.out.below hb4
              have hS5 := hS4.boxed [.int .i64 ta] 3 1 rfl
              refine (ask_any (l := [ta]) hS5 HSO.out.1 HIN'.out hmb (fun W ss' ts' a' hS hk => ?_) (fun a ha => by simp at ha; subst ha; exact ⟨hta.1, HM.out _ hta.1 hta.2⟩) (by have := HSO.out.2; simp; omega)).mono ?_
              · have hj := kept_at hS4.len hk
                refine ⟨_, _, rfl, ⟨Nat.le_refl _, by simp⟩, .inr ⟨w4.heap.size, 0, rfl, (hS.heap.lt hj).2, fun j u hu => ?_⟩⟩
                rw [Nat.zero_add]
                exact hS.at' hj hu
              · rintro e w' ⟨he, ss', ts', h1, _⟩
                exact ⟨he, ss', ts', h1⟩
            clear htk htt hta
            go_wp2_with (first
              | (go_at_call 40; go_loud (refine Calls.mono (by exact HAS.out _) ?_; rintro e w4 ⟨rfl, hb4⟩; have f2 := (hb4.cell (p := ⟨wo.heap.size, 2, none⟩) hX).trans q2; have hX4 := Nat.lt_of_lt_of_le hX hb4.size; have HB4 : Hid _ := hb4; clear hb4))
              | (go_at_call 36; go_loud (refine Calls.mono (by exact HAK.out _ HB4.out) ?_; rintro e w5 ⟨rfl, hup⟩; have HU : Hid _ := hup; clear hup)))
            go_roundw
            case rel =>
              obtain ⟨ss', ts', k1⟩ := HU.out
              exact ⟨i + 1, ss', ts', askOne i a2 ta, L2 + 1, by first | rfl | (congr 1; omega), by omega, k1, by have h9 := HDD.out; rw [HEN.out, ← HRE.out] at h9; exact h9, HSO.out.1.askOne HIN'.out _, HSO.out.2⟩
            case measure => simp [intOf]; omega
          · have htt : (tk == 2 || tk == 3) = false := by
              have k1 : (tk == 2) = false := beq_false_of_ne fun e => htk (.inl e)
              have k2 : (tk == 3) = false := beq_false_of_ne fun e => htk (.inr e)
              rw [k1, k2]; rfl
            rw [htt] at HAS
            rw [if_neg htk] at HEN
            clear htk htt
            go_wp2_with (go_at_call 40; go_loud (refine Calls.mono (by exact HAS.out _) ?_; rintro e w4 ⟨rfl, hb4⟩; have HB4 : Hid _ := hb4; clear hb4))
            go_roundw
            case rel => exact ⟨i + 1, ss2, ts2, a2, L2, by first | rfl | (congr 1; omega), by omega, HS2.out.below HB4.out, by have h9 := HDD.out; rw [HEN.out, ← HRE.out] at h9; exact h9, HSO.out.1, by have := HSO.out.2; omega⟩
            case measure => simp [intOf]; omega
    · obtain rfl : i = n := by omega
      have HE : Hid (a1 = RES) := by
        show _ = _
        have h9 := hr.out.2.1
        rw [← HNB.out, List.drop_length] at h9
        exact h9
      go_wp2
      go_ret
      exact ⟨_, ss, ts, rfl, by rw [← HE.out]; exact hr.out.1⟩
end Go.Proofs.YtcggbedjhglmmaaGreatDoor
