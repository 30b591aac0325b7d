/- What is asked of calls (shape.rightCalls). -/
import Derived.Test.YtcggbedjhglmmaaGreatDoorLWoc
import Derived.Test.YtcggbedjhglmmaaGreatDoorGCheck
namespace Go.Proofs.YtcggbedjhglmmaaGreatDoor
open Go.RowKit

theorem all_dropL {α : Type} {l : List α} {d : α} {k : Nat} (h : k < l.length) (p : α → Bool) : (l.drop k).all p = (p (l.getD k d) && (l.drop (k + 1)).all p) := by
  rw [List.drop_eq_getElem_cons h, List.all_cons]
  simp [List.getElem?_eq_getElem h]
theorem szB_mem {b : Bl} : ∀ {l : List Bl}, b ∈ l → szI b.ins + 1 ≤ szB l
  | [], h => by simp at h
  | c :: l, h => by
    unfold szB
    rw [List.map_cons, List.sum_cons]
    rcases List.mem_cons.1 h with rfl | h
    · omega
    · have := szB_mem h; unfold szB at this; omega
theorem szI_mem {x : In} : ∀ {l : List In}, x ∈ l → x.args.length + 1 ≤ szI l
  | [], h => by simp at h
  | c :: l, h => by
    unfold szI
    rw [List.map_cons, List.sum_cons]
    rcases List.mem_cons.1 h with rfl | h
    · omega
    · have := szI_mem h; unfold szI at this; omega
set_option maxRecDepth 100000 in
set_option maxHeartbeats 4000000 in
theorem rc_any (G : Gr) (pv vv av bv : Value) (w : World) (hg : GrAt w pv vv av bv G) (hsz : szB G.blocks ≤ 300000) :
    Calls Tryz.prog 32 #[.agg #[.string G.name, pv, .int .u8 G.result, vv, av, bv]] w fun e w' => e = .returned (.bool (callsB G)) ∧ Below w.heap.size w w' := by
  have hB := hg.bs
  obtain ⟨pa, pc, va, vc, aa, ac, ba0, bc0, rfl, rfl, rfl, hbv, _, _, _, _⟩ := hg.openF
  clear hbv
  obtain ⟨nm, ps, r, vs, ars, bs⟩ := G
  dsimp only at *
  clear hg
  obtain ⟨ba, bc, rfl, hbl⟩ := hB.form
  have HI : Hid (∀ i, i < bs.length → _) := fun i hi => hB.get hi
  have hnb : bs.length ≤ 300000 := by have := szB_len bs; omega
  have hnb' : (bs.length : Int) ≤ 300000 := by omega
  have HSZ : Hid (∀ b ∈ bs, szI b.ins ≤ 300000) := fun b hb => by have := szB_mem hb; omega
  unfold callsB
  dsimp only
  obtain ⟨R, hR⟩ : ∃ R, R = bs.all fun b => b.ins.all fun x => !callB vs.length x := ⟨_, rfl⟩
  rw [← hR]
  have HR : Hid (((bs.drop 0).all fun b => b.ins.all fun x => !callB vs.length x) = R) := by show _ = _; rw [List.drop_zero, hR]
  generalize hn : bs.length = n at *
  have HNB : Hid (bs.length = n) := hn
  clear hn hB hR hsz
  generalize ps.length = pl at *
  generalize vs.length = vl at *
  generalize ars.length = al at *
  have HBV : Hid (∀ W, Below (w.alloc (.cells #[.string nm, .slice pa pl pc, .int .u8 r, .slice va vl vc, .slice aa al ac, .slice ba n bc] 28)).heap.size (w.alloc (.cells #[.string nm, .slice pa pl pc, .int .u8 r, .slice va vl vc, .slice aa al ac, .slice ba n bc] 28)) W → W.cell? ⟨w.heap.size, 3, none⟩ = some (.slice va vl vc)) := fun W hW => ((Box.new w [.string nm, .slice pa pl pc, .int .u8 r, .slice va vl vc, .slice aa al ac, .slice ba n bc] 28).below hW).cell 3 _ rfl
  have HLW : Hid (∀ W, Below (w.alloc (.cells #[.string nm, .slice pa pl pc, .int .u8 r, .slice va vl vc, .slice aa al ac, .slice ba n bc] 28)).heap.size (w.alloc (.cells #[.string nm, .slice pa pl pc, .int .u8 r, .slice va vl vc, .slice aa al ac, .slice ba n bc] 28)) W → Below w.heap.size w W) := fun W hW => below_trans (below_alloc (Below.refl _ _) _) hW
  go_enter Tryz.func32, Tryz.ntmps32
  go_wp2
  go_loopw [12] (fun vi wr => ∃ i : Nat, vi = .int .i64 i ∧ i ≤ n ∧ Hid (Below (w.alloc (.cells #[.string nm, .slice pa pl pc, .int .u8 r, .slice va vl vc, .slice aa al ac, .slice ba n bc] 28)).heap.size (w.alloc (.cells #[.string nm, .slice pa pl pc, .int .u8 r, .slice va vl vc, .slice aa al ac, .slice ba n bc] 28)) wr ∧ ((bs.drop i).all fun b => b.ins.all fun x => !callB vl x) = R)) (fun vi _ => n - (intOf vi).toNat)
  case atStart => exact ⟨0, rfl, by omega, Below.refl _ _, HR.out⟩
  case round =>
    obtain ⟨i, rfl, hi, hr⟩ := hrel
    clear HR
    generalize wr = wo at *
    by_cases hin : i < n
    · have hin' : (i : Int) < n := by omega
      have hil : i < bs.length := by rw [HNB.out]; exact hin
      obtain ⟨g, o, iv, rfl, hgg, c0, c1, c2, c3, c4, c5, hins⟩ := HI.out i hin
      have hlo := HLW.out _ hr.out.1
      have hcl : ∀ j, wo.cell? ⟨g, j, none⟩ = w.cell? ⟨g, j, none⟩ := fun j => hlo.cell (p := ⟨g, j, none⟩) hgg
      rw [← hcl] at c0 c1 c2 c3 c4 c5
      have hsb := HSZ.out (bs.getD i default) (by rw [List.getD, List.getElem?_eq_getElem hil]; exact List.getElem_mem hil)
      have hxn := szI_len (bs.getD i default).ins
      have hd := all_dropL (d := default) hil (fun b : Bl => b.ins.all fun x => !callB vl x)
      rw [hr.out.2] at hd
      have HRO : Hid _ := hr.out.1
      obtain ⟨xa, xc, rfl, hxl⟩ := hins.form
      have HIN : Hid (∀ k, k < (bs.getD i default).ins.length → _) := fun k hk => hins.get hk
      clear hr hcl hins hlo
      generalize bs.getD i default = B at *
      obtain ⟨xs, tm⟩ := B
      obtain ⟨tk, ta, t0, t1, ttr⟩ := tm
      dsimp only at *
      generalize hxs : xs.length = xn at *
      have HXN : Hid (xs.length = xn) := hxs
      have HXS : Hid (szI xs ≤ 300000) := hsb
      have hxb : (xn : Int) ≤ 300000 := by omega
      have HD : Hid (R = ((xs.drop 0).all (fun x => !callB vl x) && (bs.drop (i + 1)).all fun b => b.ins.all fun x => !callB vl x)) := by show _ = _; rw [List.drop_zero]; exact hd
      clear hxs hsb hd
      go_wp2
      go_loopw [19] (fun vk wr => ∃ k : Nat, vk = .int .i64 k ∧ k ≤ xn ∧ Hid (Below wo.heap.size wo wr ∧ R = ((xs.drop k).all (fun x => !callB vl x) && (bs.drop (i + 1)).all fun b => b.ins.all fun x => !callB vl x))) (fun vk _ => xn - (intOf vk).toNat)
      case atStart => exact ⟨0, rfl, by omega, below_alloc (Below.refl _ _) _, HD.out⟩
      case round =>
        obtain ⟨k, rfl, hk, hq⟩ := hrel
        clear HD
        have HB9 : Hid (Below (w.alloc (.cells #[.string nm, .slice pa pl pc, .int .u8 r, .slice va vl vc, .slice aa al ac, .slice (some ⟨g, o, none⟩) n bc] 28)).heap.size (w.alloc (.cells #[.string nm, .slice pa pl pc, .int .u8 r, .slice va vl vc, .slice aa al ac, .slice (some ⟨g, o, none⟩) n bc] 28)) wr) := below_trans HRO.out hq.out.1
        by_cases hkn : k < xn
        · have hkn' : (k : Int) < xn := by omega
          have hkl : k < xs.length := by rw [HXN.out]; exact hkn
          obtain ⟨gx, ox, xv, rfl, hgx, d0, d1, d2, d3, d4, d5, hxa⟩ := HIN.out k hkn
          have hl9 := HLW.out _ HB9.out
          have hcl : ∀ j, wr.cell? ⟨gx, j, none⟩ = w.cell? ⟨gx, j, none⟩ := fun j => hl9.cell (p := ⟨gx, j, none⟩) hgx
          rw [← hcl] at d0 d1 d2 d3 d4 d5
          obtain ⟨xxa, xxc, rfl, _⟩ := hxa.form
          have hmem : xs.getD k default ∈ xs := by rw [List.getD, List.getElem?_eq_getElem hkl]; exact List.getElem_mem hkl
          have hal : (xs.getD k default).args.length ≤ 1000000 := by have := szI_mem hmem; have := HXS.out; omega
          have hid := all_dropL (d := default) hkl (fun x : In => !callB vl x)
          have HQ : Hid _ := hq.out.2
          rw [hid] at HQ
          have HQ1 : Hid _ := hq.out.1
          have HIC : Hid (∀ W, Calls Tryz.prog 66 #[.agg #[.int .u8 (xs.getD k default).kind, .int .u8 (xs.getD k default).op, .int .i64 (xs.getD k default).dst, .slice xxa (xs.getD k default).args.length xxc, .int .u64 (xs.getD k default).bits, .int .i64 (xs.getD k default).ref]] W fun e w' => e = .returned (.bool ((xs.getD k default).kind == 9)) ∧ Below W.heap.size W w') := fun W => isCall_any (xs.getD k default) (.slice xxa (xs.getD k default).args.length xxc) W
          have HAN : Hid (∀ W, Below wr.heap.size wr W → Calls Tryz.prog 67 #[.slice xxa (xs.getD k default).args.length xxc, .func (.func 65) #[] #[ptr w.heap.size]] W fun e w' => e = .returned (.bool ((xs.getD k default).args.any fun x => !inB x vl)) ∧ w' = W) := fun W hW => anyI_any (hxa.below (below_trans hl9 hW)) hal w.heap.size vl vc va (HBV.out W (below_trans HB9.out hW))
          have HCB : Hid (callB vl (xs.getD k default) = (((xs.getD k default).kind == 9) && (decide ((xs.getD k default).ref < 0) || (xs.getD k default).args.any fun v => !inB v vl))) := rfl
          clear hq hcl hxa hmem hid hl9 hkl hal
          generalize xs.getD k default = x at *
          obtain ⟨xk, xo, xd, xargs, xb, xr⟩ := x
          dsimp only at *
          generalize (xargs.any fun v => !inB v vl) = AN at *
          generalize xargs.length = xal at *
          generalize hcb : callB vl ⟨xk, xo, xd, xargs, xb, xr⟩ = CB at *
          clear hcb
          by_cases hk9 : xk = 9
          · subst hk9
            by_cases hr0 : xr < 0
            · have HCC : Hid (CB = true) := by show _ = _; rw [HCB.out, decide_eq_true hr0]; rfl
              clear HCB
              go_wp2_with (go_at_call 66; go_loud (refine Calls.mono (by exact HIC.out _) ?_; rintro e w5 ⟨rfl, hb5⟩; have hbx := (Box.new wr [.int .u8 9, .int .u8 xo, .int .i64 xd, .slice xxa xal xxc, .int .u64 xb, .int .i64 xr] 54).below hb5; have e3 := hbx.cell 3 _ rfl; have e5 := hbx.cell 5 _ rfl; have HB5 : Hid _ := below_trans (below_alloc (Below.refl wr.heap.size wr) (.cells #[.int .u8 9, .int .u8 xo, .int .i64 xd, .slice xxa xal xxc, .int .u64 xb, .int .i64 xr] 54)) hb5; clear hb5 hbx))
              go_ret
              refine ⟨ret_bool ?_, below_trans (HLW.out _ HB9.out) HB5.out⟩
              rw [HQ.out, HCC.out]; rfl
            · cases hAN : AN with
              | true =>
                have HCC : Hid (CB = true) := by show _ = _; rw [HCB.out, hAN, Bool.or_true]; rfl
                rw [hAN] at HAN
                clear HCB
                go_wp2_with (first | (go_at_call 66; go_loud (refine Calls.mono (by exact HIC.out _) ?_; rintro e w5 ⟨rfl, hb5⟩; have hbx := (Box.new wr [.int .u8 9, .int .u8 xo, .int .i64 xd, .slice xxa xal xxc, .int .u64 xb, .int .i64 xr] 54).below hb5; have e3 := hbx.cell 3 _ rfl; have e5 := hbx.cell 5 _ rfl; have HB5 : Hid _ := below_trans (below_alloc (Below.refl wr.heap.size wr) (.cells #[.int .u8 9, .int .u8 xo, .int .i64 xd, .slice xxa xal xxc, .int .u64 xb, .int .i64 xr] 54)) hb5; clear hb5 hbx)) | (go_at_call 67; refine Calls.mono (by exact HAN.out _ HB5.out) ?_; rintro e wx ⟨rfl, hwx⟩; subst wx))
                go_ret
                refine ⟨ret_bool ?_, below_trans (HLW.out _ HB9.out) HB5.out⟩
                rw [HQ.out, HCC.out]; rfl
              | false =>
                have HCC : Hid (CB = false) := by show _ = _; rw [HCB.out, hAN, decide_eq_false hr0]; rfl
                rw [hAN] at HAN
                clear HCB
                go_wp2_with (first | (go_at_call 66; go_loud (refine Calls.mono (by exact HIC.out _) ?_; rintro e w5 ⟨rfl, hb5⟩; have hbx := (Box.new wr [.int .u8 9, .int .u8 xo, .int .i64 xd, .slice xxa xal xxc, .int .u64 xb, .int .i64 xr] 54).below hb5; have e3 := hbx.cell 3 _ rfl; have e5 := hbx.cell 5 _ rfl; have HB5 : Hid _ := below_trans (below_alloc (Below.refl wr.heap.size wr) (.cells #[.int .u8 9, .int .u8 xo, .int .i64 xd, .slice xxa xal xxc, .int .u64 xb, .int .i64 xr] 54)) hb5; clear hb5 hbx)) | (go_at_call 67; refine Calls.mono (by exact HAN.out _ HB5.out) ?_; rintro e wx ⟨rfl, hwx⟩; subst wx))
                go_roundw
                case rel =>
                  refine ⟨k + 1, by first | rfl | (congr 1; omega), by omega, below_trans HQ1.out HB5.out, ?_⟩
                  have h9 := HQ.out
                  rw [HCC.out] at h9
                  exact h9
                case measure => simp [intOf]; omega
          · have hk9' : (xk == 9) = false := beq_false_of_ne hk9
            have HCC : Hid (CB = false) := by show _ = _; rw [HCB.out, hk9']; rfl
            rw [hk9'] at HIC
            clear hk9 hk9' HCB
            go_wp2_with (go_at_call 66; go_loud (refine Calls.mono (by exact HIC.out _) ?_; rintro e w5 ⟨rfl, hb5⟩; have HB5 : Hid _ := below_trans (below_alloc (Below.refl wr.heap.size wr) (.cells #[.int .u8 xk, .int .u8 xo, .int .i64 xd, .slice xxa xal xxc, .int .u64 xb, .int .i64 xr] 54)) hb5; clear hb5))
            go_roundw
            case rel =>
              refine ⟨k + 1, by first | rfl | (congr 1; omega), by omega, below_trans HQ1.out HB5.out, ?_⟩
              have h9 := HQ.out
              rw [HCC.out] at h9
              exact h9
            case measure => simp [intOf]; omega
        · obtain rfl : k = xn := by omega
          have HE : Hid (((bs.drop (i + 1)).all fun b => b.ins.all fun x => !callB vl x) = R) := by
            have h9 := hq.out.2
            rw [← HXN.out, List.drop_length] at h9
            exact h9.symm
          clear hq
          go_wp2
          go_roundw
          case rel => exact ⟨i + 1, by first | rfl | (congr 1; omega), by omega, HB9.out, HE.out⟩
          case measure => simp [intOf]; omega
    · obtain rfl : i = n := by omega
      have HE : Hid (R = true) := by
        have h9 := hr.out.2
        rw [← HNB.out, List.drop_length] at h9
        exact h9.symm
      have HRO : Hid _ := hr.out.1
      clear hr
      go_wp2
      go_ret
      exact ⟨ret_bool HE.out.symm, HLW.out _ HRO.out⟩
end Go.Proofs.YtcggbedjhglmmaaGreatDoor
/- Right by itself (shape.Alone). -/
namespace Go.Proofs.YtcggbedjhglmmaaGreatDoor
open Go.RowKit

theorem grs_one {w : World} {pv vv av bv : Value} {G : Gr} (h : GrAt w pv vv av bv G) : GrsAt (w.alloc (.cells #[.string G.name, pv, .int .u8 G.result, vv, av, bv] 28)) (.slice (some ⟨w.heap.size, 0, none⟩) 1 1) [G] := by
  have hb : Below w.heap.size w (w.alloc (.cells #[.string G.name, pv, .int .u8 G.result, vv, av, bv] 28)) := below_alloc (Below.refl _ _) _
  have hbx := Box.new w [.string G.name, pv, .int .u8 G.result, vv, av, bv] 28
  refine ⟨[(pv, vv, av, bv)], rfl, ⟨_, _, rfl, ⟨Nat.le_refl _, by simp⟩, .inr ⟨w.heap.size, 0, rfl, hbx.lt, fun j u hu => ?_⟩⟩, fun i x q hx hq => ?_⟩
  · rw [Nat.zero_add]
    refine hbx.cell j u ?_
    unfold grsCells grL at hu
    simpa [grsCells, bytV] using hu
  · cases i with
    | zero => cases hx; cases hq; exact h.below hb
    | succ i => simp at hx
set_option maxRecDepth 100000 in
set_option maxHeartbeats 4000000 in
theorem alone_any (G : Gr) (pv vv av bv : Value) (w : World) (hg : GrAt w pv vv av bv G) (hP : PartsAt w) (hsz : szB G.blocks ≤ 300000) (hnb : G.blocks.length ≤ 100000) :
    Calls Tryz.prog 17 #[.agg #[.string G.name, pv, .int .u8 G.result, vv, av, bv]] w fun e w' => e = .returned (.bool (aloneP G)) ∧ Below w.heap.size w w' := by
  have HRC : Hid (∀ W, Below w.heap.size w W → _) := fun W hW => rc_any G pv vv av bv W (hg.below hW) hsz
  have HWO : Hid (∀ W, Below w.heap.size w W → _) := fun W hW => woc_any G pv vv av bv W (hg.below hW) hsz
  have HCK : Hid (∀ bv' W, Below w.heap.size w W → GrAt W pv vv av bv' (uncG G) → Calls Tryz.prog 11 #[.slice (some ⟨W.heap.size, 0, none⟩) 1 1] (W.alloc (.cells #[.string G.name, pv, .int .u8 G.result, vv, av, bv'] 28)) fun e w' => e = .returned (.tuple #[.int .i64 (checkT [uncG G]).1, .int .i64 (checkT [uncG G]).2]) ∧ Below (W.alloc (.cells #[.string G.name, pv, .int .u8 G.result, vv, av, bv'] 28)).heap.size (W.alloc (.cells #[.string G.name, pv, .int .u8 G.result, vv, av, bv'] 28)) w') := fun bv' W hW hG =>
    check_any [uncG G] _ _ (grs_one hG) (hP.below (below_trans hW (below_alloc (Below.refl _ _) _))) (fun _ G' hG' => by
      rw [List.mem_singleton.1 hG']; unfold uncG; dsimp only; rw [List.length_map]; exact hnb)
  have HC1 : Hid _ := check_one (uncG G)
  have HAP : Hid (aloneP G = (callsB G && graphB [uncG G] (uncG G))) := rfl
  obtain ⟨pa, pc, va, vc, aa, ac, ba0, bc0, rfl, rfl, rfl, rfl, _, _, _, _⟩ := hg.openF
  have HUN : Hid ((uncG G).name = G.name ∧ (uncG G).result = G.result) := ⟨rfl, rfl⟩
  clear hg hsz hnb hP
  generalize aloneP G = AP at *
  generalize callsB G = CB at *
  generalize graphB [uncG G] (uncG G) = GB at *
  generalize hUG : uncG G = UG at *
  generalize hck : checkT [UG] = CK at *
  clear hck
  obtain ⟨nm, ps, r, vs, ars, bs⟩ := G
  dsimp only at *
  clear hUG
  generalize ps.length = pl at *
  generalize vs.length = vl at *
  generalize ars.length = al at *
  generalize bs.length = n at *
  cases CB with
  | false =>
    go_enter Tryz.func17, Tryz.ntmps17
    go_wp2_with (go_at_call 32; go_loud (refine Calls.mono (by exact HRC.out _ (below_alloc (Below.refl _ _) _)) ?_; rintro e w2 ⟨rfl, hb2⟩; have HB2 : Hid _ := below_trans (below_alloc (Below.refl w.heap.size w) (.cells #[.string nm, .slice pa pl pc, .int .u8 r, .slice va vl vc, .slice aa al ac, .slice ba0 n bc0] 28)) hb2; clear hb2))
    go_ret
    exact ⟨ret_bool HAP.out.symm, HB2.out⟩
  | true =>
    cases GB with
    | true =>
      have HCC : Hid (CK = (0, 0)) := HC1.out
      obtain ⟨c1, c2⟩ := CK
      obtain ⟨rfl, rfl⟩ : c1 = 0 ∧ c2 = 0 := by cases HCC.out; exact ⟨rfl, rfl⟩
      dsimp only at *
      clear HC1 HCC
      go_enter Tryz.func17, Tryz.ntmps17
      go_wp2_with (first | (go_at_call 32; go_loud (refine Calls.mono (by exact HRC.out _ (below_alloc (Below.refl _ _) _)) ?_; rintro e w2 ⟨rfl, hb2⟩; have hbx := (Box.new w [.string nm, .slice pa pl pc, .int .u8 r, .slice va vl vc, .slice aa al ac, .slice ba0 n bc0] 28).below hb2; have e0 := hbx.cell 0 _ rfl; have e1 := hbx.cell 1 _ rfl; have e2 := hbx.cell 2 _ rfl; have e3 := hbx.cell 3 _ rfl; have e4 := hbx.cell 4 _ rfl; have e5 := hbx.cell 5 _ rfl; have HB2 : Hid _ := below_trans (below_alloc (Below.refl w.heap.size w) (.cells #[.string nm, .slice pa pl pc, .int .u8 r, .slice va vl vc, .slice aa al ac, .slice ba0 n bc0] 28)) hb2; clear hb2 hbx)) | (go_at_call 33; go_loud (refine Calls.mono (by exact HWO.out _ HB2.out) ?_; rintro e w3 ⟨bv', rfl, hG3, hb3⟩; have HG3 : Hid _ := hG3; obtain ⟨_, _, _, _, _, _, ba3, bc3, _, _, _, rfl, _, _, _, _⟩ := hG3.openF; have HB3 : Hid _ := below_trans HB2.out hb3; clear hb3 hG3)) | (go_at_call 11; go_loud (refine Calls.mono (by exact HCK.out _ _ HB3.out HG3.out) ?_; rintro e w4 ⟨rfl, hb4⟩; have HB4 : Hid _ := below_trans (below_trans HB3.out (below_alloc (Below.refl _ _) _)) hb4; clear hb4)))
      go_ret
      exact ⟨ret_bool HAP.out.symm, HB4.out⟩
    | false =>
      have HCC : Hid (CK = (4, 0)) := HC1.out
      obtain ⟨c1, c2⟩ := CK
      obtain ⟨rfl, rfl⟩ : c1 = 4 ∧ c2 = 0 := by cases HCC.out; exact ⟨rfl, rfl⟩
      dsimp only at *
      clear HC1 HCC
      go_enter Tryz.func17, Tryz.ntmps17
      go_wp2_with (first | (go_at_call 32; go_loud (refine Calls.mono (by exact HRC.out _ (below_alloc (Below.refl _ _) _)) ?_; rintro e w2 ⟨rfl, hb2⟩; have hbx := (Box.new w [.string nm, .slice pa pl pc, .int .u8 r, .slice va vl vc, .slice aa al ac, .slice ba0 n bc0] 28).below hb2; have e0 := hbx.cell 0 _ rfl; have e1 := hbx.cell 1 _ rfl; have e2 := hbx.cell 2 _ rfl; have e3 := hbx.cell 3 _ rfl; have e4 := hbx.cell 4 _ rfl; have e5 := hbx.cell 5 _ rfl; have HB2 : Hid _ := below_trans (below_alloc (Below.refl w.heap.size w) (.cells #[.string nm, .slice pa pl pc, .int .u8 r, .slice va vl vc, .slice aa al ac, .slice ba0 n bc0] 28)) hb2; clear hb2 hbx)) | (go_at_call 33; go_loud (refine Calls.mono (by exact HWO.out _ HB2.out) ?_; rintro e w3 ⟨bv', rfl, hG3, hb3⟩; have HG3 : Hid _ := hG3; obtain ⟨_, _, _, _, _, _, ba3, bc3, _, _, _, rfl, _, _, _, _⟩ := hG3.openF; have HB3 : Hid _ := below_trans HB2.out hb3; clear hb3 hG3)) | (go_at_call 11; go_loud (refine Calls.mono (by exact HCK.out _ _ HB3.out HG3.out) ?_; rintro e w4 ⟨rfl, hb4⟩; have HB4 : Hid _ := below_trans (below_trans HB3.out (below_alloc (Below.refl _ _) _)) hb4; clear hb4)))
      go_ret
      exact ⟨ret_bool HAP.out.symm, HB4.out⟩
end Go.Proofs.YtcggbedjhglmmaaGreatDoor
