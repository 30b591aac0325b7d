/- What is asked of calls (shape.rightCalls). -/
import Derived.Test.YtajaijilfclhpaaGreatDoorNWoc
import Derived.Test.YtajaijilfclhpaaGreatDoorGRPlM
import Derived.Test.YtajaijilfclhpaaGreatDoorNNd
import Derived.Test.YtajaijilfclhpaaGreatDoorNPlM
import Derived.Test.YtajaijilfclhpaaGreatDoorNAsM
import Derived.Test.YtajaijilfclhpaaGreatDoorNEvM
import Derived.Laws.CopyOwn
import Derived.Test.YtajaijilfclhpaaGreatDoorGLaidM
namespace Go.Proofs.YtajaijilfclhpaaGreatDoor
open Go.RowKit

theorem all_dropL {α : Type} {l : List α} {d : α} {k : Nat} (h : k < l.length) (p : α → Bool) : (l.drop k).all p = (p (l.getD k d) && (l.drop (k + 1)).all p) := by
 rw [List.drop_eq_getElem_cons h, List.all_cons]
 simp [List.getElem?_eq_getElem h]
set_option maxRecDepth 100000 in
set_option maxHeartbeats 4000000 in
theorem rc_any (G : Gr) (pv vv av bv : Value) (w : World) (hg : GrAt w pv vv av bv G) (hsz : G.blocks.length ≤ 100000 ∧ ∀ b ∈ G.blocks, b.ins.length ≤ 100000) :
  Calls Tryz.prog 53 #[.agg #[.string G.name, pv, .int .u8 G.result, vv, av, bv]] w fun e w' => e = .returned (.bool (callsB G)) ∧ Below w.heap.size w w' := by
 have hB := hg.bs
 obtain ⟨pa, pc, va, vc, aa, ac, ba0, bc0, rfl, rfl, rfl, hbv, _, _, _, _⟩ := hg.openF
 clear hbv
 obtain ⟨nm, ps, r, vs, ars, bs⟩ := G
 dsimp only at *
 clear hg
 obtain ⟨ba, bc, rfl, hbl⟩ := hB.form
 have HI : Hid (∀ i, i < bs.length → _) := fun i hi => hB.get hi
 have hnb : bs.length ≤ 300000 := by have h9 := hsz.1; omega
 have hnb' : (bs.length : Int) ≤ 300000 := by omega
 have HSZ : Hid (∀ b ∈ bs, b.ins.length ≤ 300000) := fun b hb => by have h9 := hsz.2 b hb; omega
 unfold callsB
 dsimp only
 obtain ⟨R, hR⟩ : ∃ R, R = bs.all fun b => b.ins.all fun x => !callB vs.length x := ⟨_, rfl⟩
 rw [← hR]
 have HR : Hid (((bs.drop 0).all fun b => b.ins.all fun x => !callB vs.length x) = R) := by show _ = _; rw [List.drop_zero, hR]
 generalize hn : bs.length = n at *
 have HNB : Hid (bs.length = n) := hn
 clear hn hB hR hsz
 generalize ps.length = pl at *
 generalize vs.length = vl at *
 generalize ars.length = al at *
 have HBV : Hid (∀ W, Below (w.alloc (.cells #[.string nm, .slice pa pl pc, .int .u8 r, .slice va vl vc, .slice aa al ac, .slice ba n bc] 28)).heap.size (w.alloc (.cells #[.string nm, .slice pa pl pc, .int .u8 r, .slice va vl vc, .slice aa al ac, .slice ba n bc] 28)) W → W.cell? ⟨w.heap.size, 3, none⟩ = some (.slice va vl vc)) := fun W hW => ((Box.new w [.string nm, .slice pa pl pc, .int .u8 r, .slice va vl vc, .slice aa al ac, .slice ba n bc] 28).below hW).cell 3 _ rfl
 have HLW : Hid (∀ W, Below (w.alloc (.cells #[.string nm, .slice pa pl pc, .int .u8 r, .slice va vl vc, .slice aa al ac, .slice ba n bc] 28)).heap.size (w.alloc (.cells #[.string nm, .slice pa pl pc, .int .u8 r, .slice va vl vc, .slice aa al ac, .slice ba n bc] 28)) W → Below w.heap.size w W) := fun W hW => below_trans (below_alloc (Below.refl _ _) _) hW
 go_enter Tryz.func53, Tryz.ntmps53
 go_wp2
 go_loopw [12] (fun vi wr => ∃ i : Nat, vi = .int .i64 i ∧ i ≤ n ∧ Hid (Below (w.alloc (.cells #[.string nm, .slice pa pl pc, .int .u8 r, .slice va vl vc, .slice aa al ac, .slice ba n bc] 28)).heap.size (w.alloc (.cells #[.string nm, .slice pa pl pc, .int .u8 r, .slice va vl vc, .slice aa al ac, .slice ba n bc] 28)) wr ∧ ((bs.drop i).all fun b => b.ins.all fun x => !callB vl x) = R)) (fun vi _ => n - (intOf vi).toNat)
 case atStart => exact ⟨0, rfl, by omega, Below.refl _ _, HR.out⟩
 case round =>
  obtain ⟨i, rfl, hi, hr⟩ := hrel
  clear HR
  generalize wr = wo at *
  by_cases hin : i < n
  ·have hin' : (i : Int) < n := by omega
   have hil : i < bs.length := by rw [HNB.out]; exact hin
   obtain ⟨g, o, iv, rfl, hgg, c0, c1, c2, c3, c4, c5, hins⟩ := HI.out i hin
   have hlo := HLW.out _ hr.out.1
   have hcl : ∀ j, wo.cell? ⟨g, j, none⟩ = w.cell? ⟨g, j, none⟩ := fun j => hlo.cell (p := ⟨g, j, none⟩) hgg
   rw [← hcl] at c0 c1 c2 c3 c4 c5
   have hsb := HSZ.out (bs.getD i default) (by rw [List.getD, List.getElem?_eq_getElem hil]; exact List.getElem_mem hil)
   have hd := all_dropL (d := default) hil (fun b : Bl => b.ins.all fun x => !callB vl x)
   rw [hr.out.2] at hd
   have HRO : Hid _ := hr.out.1
   obtain ⟨xa, xc, rfl, hxl⟩ := hins.form
   have HIN : Hid (∀ k, k < (bs.getD i default).ins.length → _) := fun k hk => hins.get hk
   clear hr hcl hins hlo
   generalize bs.getD i default = B at *
   obtain ⟨xs, tm⟩ := B
   obtain ⟨tk, ta, t0, t1, ttr⟩ := tm
   dsimp only at *
   generalize hxs : xs.length = xn at *
   have HXN : Hid (xs.length = xn) := hxs
   have hxb : (xn : Int) ≤ 300000 := by omega
   have HD : Hid (R = ((xs.drop 0).all (fun x => !callB vl x) && (bs.drop (i + 1)).all fun b => b.ins.all fun x => !callB vl x)) := by show _ = _; rw [List.drop_zero]; exact hd
   clear hxs hsb hd
   go_wp2
   go_loopw [19] (fun vk wr => ∃ k : Nat, vk = .int .i64 k ∧ k ≤ xn ∧ Hid (Below wo.heap.size wo wr ∧ R = ((xs.drop k).all (fun x => !callB vl x) && (bs.drop (i + 1)).all fun b => b.ins.all fun x => !callB vl x))) (fun vk _ => xn - (intOf vk).toNat)
   case atStart => exact ⟨0, rfl, by omega, below_alloc (Below.refl _ _) _, HD.out⟩
   case round =>
    obtain ⟨k, rfl, hk, hq⟩ := hrel
    clear HD
    have HB9 : Hid (Below (w.alloc (.cells #[.string nm, .slice pa pl pc, .int .u8 r, .slice va vl vc, .slice aa al ac, .slice (some ⟨g, o, none⟩) n bc] 28)).heap.size (w.alloc (.cells #[.string nm, .slice pa pl pc, .int .u8 r, .slice va vl vc, .slice aa al ac, .slice (some ⟨g, o, none⟩) n bc] 28)) wr) := below_trans HRO.out hq.out.1
    by_cases hkn : k < xn
    ·have hkn' : (k : Int) < xn := by omega
     have hkl : k < xs.length := by rw [HXN.out]; exact hkn
     obtain ⟨gx, ox, xv, rfl, hgx, d0, d1, d2, d3, d4, d5, hxa⟩ := HIN.out k hkn
     have hl9 := HLW.out _ HB9.out
     have hcl : ∀ j, wr.cell? ⟨gx, j, none⟩ = w.cell? ⟨gx, j, none⟩ := fun j => hl9.cell (p := ⟨gx, j, none⟩) hgx
     rw [← hcl] at d0 d1 d2 d3 d4 d5
     obtain ⟨xxa, xxc, rfl, hxf⟩ := hxa.form
     have hmem : xs.getD k default ∈ xs := by rw [List.getD, List.getElem?_eq_getElem hkl]; exact List.getElem_mem hkl
     have hal : (xs.getD k default).args.length ≤ 140737488355328 := by omega
     have hid := all_dropL (d := default) hkl (fun x : In => !callB vl x)
     have HQ : Hid _ := hq.out.2
     rw [hid] at HQ
     have HQ1 : Hid _ := hq.out.1
     have HIC : Hid (∀ W, Calls Tryz.prog 108 #[.agg #[.int .u8 (xs.getD k default).kind, .int .u8 (xs.getD k default).op, .int .i64 (xs.getD k default).dst, .slice xxa (xs.getD k default).args.length xxc, .int .u64 (xs.getD k default).bits, .int .i64 (xs.getD k default).ref]] W fun e w' => e = .returned (.bool ((xs.getD k default).kind == 9)) ∧ Below W.heap.size W w') := fun W => isCall_any (xs.getD k default) (.slice xxa (xs.getD k default).args.length xxc) W
     have HAN : Hid (∀ W, Below wr.heap.size wr W → Calls Tryz.prog 109 #[.slice xxa (xs.getD k default).args.length xxc, .func (.func 107) #[] #[ptr w.heap.size]] W fun e w' => e = .returned (.bool ((xs.getD k default).args.any fun x => !inB x vl)) ∧ w' = W) := fun W hW => anyI_any (hxa.below (below_trans hl9 hW)) hal w.heap.size vl vc va (HBV.out W (below_trans HB9.out hW))
     have HCB : Hid (callB vl (xs.getD k default) = (((xs.getD k default).kind == 9) && (decide ((xs.getD k default).ref < 0) || (xs.getD k default).args.any fun v => !inB v vl))) := rfl
     clear hq hcl hxa hmem hid hl9 hkl hal hxf
     generalize xs.getD k default = x at *
     obtain ⟨xk, xo, xd, xargs, xb, xr⟩ := x
     dsimp only at *
     generalize (xargs.any fun v => !inB v vl) = AN at *
     generalize xargs.length = xal at *
     generalize hcb : callB vl ⟨xk, xo, xd, xargs, xb, xr⟩ = CB at *
     clear hcb
     by_cases hk9 : xk = 9
     ·subst hk9
      by_cases hr0 : xr < 0
      ·have HCC : Hid (CB = true) := by show _ = _; rw [HCB.out, decide_eq_true hr0]; rfl
       clear HCB
       go_wp2_with (go_at_call 108; go_loud (refine Calls.mono (by exact HIC.out _) ?_; rintro e w5 ⟨rfl, hb5⟩; have hbx := (Box.new wr [.int .u8 9, .int .u8 xo, .int .i64 xd, .slice xxa xal xxc, .int .u64 xb, .int .i64 xr] 55).below hb5; have e3 := hbx.cell 3 _ rfl; have e5 := hbx.cell 5 _ rfl; have HB5 : Hid _ := below_trans (below_alloc (Below.refl wr.heap.size wr) (.cells #[.int .u8 9, .int .u8 xo, .int .i64 xd, .slice xxa xal xxc, .int .u64 xb, .int .i64 xr] 55)) hb5; clear hb5 hbx))
       go_ret
       refine ⟨ret_bool ?_, below_trans (HLW.out _ HB9.out) HB5.out⟩
       rw [HQ.out, HCC.out]; rfl
      ·cases hAN : AN with
       | true =>
        have HCC : Hid (CB = true) := by show _ = _; rw [HCB.out, hAN, Bool.or_true]; rfl
        rw [hAN] at HAN
        clear HCB
        go_wp2_with (first | (go_at_call 108; go_loud (refine Calls.mono (by exact HIC.out _) ?_; rintro e w5 ⟨rfl, hb5⟩; have hbx := (Box.new wr [.int .u8 9, .int .u8 xo, .int .i64 xd, .slice xxa xal xxc, .int .u64 xb, .int .i64 xr] 55).below hb5; have e3 := hbx.cell 3 _ rfl; have e5 := hbx.cell 5 _ rfl; have HB5 : Hid _ := below_trans (below_alloc (Below.refl wr.heap.size wr) (.cells #[.int .u8 9, .int .u8 xo, .int .i64 xd, .slice xxa xal xxc, .int .u64 xb, .int .i64 xr] 55)) hb5; clear hb5 hbx)) | (go_at_call 109; refine Calls.mono (by exact HAN.out _ HB5.out) ?_; rintro e wx ⟨rfl, hwx⟩; subst wx))
        go_ret
        refine ⟨ret_bool ?_, below_trans (HLW.out _ HB9.out) HB5.out⟩
        rw [HQ.out, HCC.out]; rfl
       | false =>
        have HCC : Hid (CB = false) := by show _ = _; rw [HCB.out, hAN, decide_eq_false hr0]; rfl
        rw [hAN] at HAN
        clear HCB
        go_wp2_with (first | (go_at_call 108; go_loud (refine Calls.mono (by exact HIC.out _) ?_; rintro e w5 ⟨rfl, hb5⟩; have hbx := (Box.new wr [.int .u8 9, .int .u8 xo, .int .i64 xd, .slice xxa xal xxc, .int .u64 xb, .int .i64 xr] 55).below hb5; have e3 := hbx.cell 3 _ rfl; have e5 := hbx.cell 5 _ rfl; have HB5 : Hid _ := below_trans (below_alloc (Below.refl wr.heap.size wr) (.cells #[.int .u8 9, .int .u8 xo, .int .i64 xd, .slice xxa xal xxc, .int .u64 xb, .int .i64 xr] 55)) hb5; clear hb5 hbx)) | (go_at_call 109; refine Calls.mono (by exact HAN.out _ HB5.out) ?_; rintro e wx ⟨rfl, hwx⟩; subst wx))
        go_roundw
        case rel =>
         refine ⟨k + 1, by first | rfl | (congr 1; omega), by omega, below_trans HQ1.out HB5.out, ?_⟩
         have h9 := HQ.out
         rw [HCC.out] at h9
         exact h9
        case measure => simp [intOf]; omega
     ·have hk9' : (xk == 9) = false := beq_false_of_ne hk9
      have HCC : Hid (CB = false) := by show _ = _; rw [HCB.out, hk9']; rfl
      rw [hk9'] at HIC
      clear hk9 hk9' HCB
      go_wp2_with (go_at_call 108; go_loud (refine Calls.mono (by exact HIC.out _) ?_; rintro e w5 ⟨rfl, hb5⟩; have HB5 : Hid _ := below_trans (below_alloc (Below.refl wr.heap.size wr) (.cells #[.int .u8 xk, .int .u8 xo, .int .i64 xd, .slice xxa xal xxc, .int .u64 xb, .int .i64 xr] 55)) hb5; clear hb5))
      go_roundw
      case rel =>
       refine ⟨k + 1, by first | rfl | (congr 1; omega), by omega, below_trans HQ1.out HB5.out, ?_⟩
       have h9 := HQ.out
       rw [HCC.out] at h9
       exact h9
      case measure => simp [intOf]; omega
    ·obtain rfl : k = xn := by omega
     have HE : Hid (((bs.drop (i + 1)).all fun b => b.ins.all fun x => !callB vl x) = R) := by
      have h9 := hq.out.2
      rw [← HXN.out, List.drop_length] at h9
      exact h9.symm
     clear hq
     go_wp2
     go_roundw
     case rel => exact ⟨i + 1, by first | rfl | (congr 1; omega), by omega, HB9.out, HE.out⟩
     case measure => simp [intOf]; omega
  ·obtain rfl : i = n := by omega
   have HE : Hid (R = true) := by
    have h9 := hr.out.2
    rw [← HNB.out, List.drop_length] at h9
    exact h9.symm
   have HRO : Hid _ := hr.out.1
   clear hr
   go_wp2
   go_ret
   exact ⟨ret_bool HE.out.symm, HLW.out _ HRO.out⟩
end Go.Proofs.YtajaijilfclhpaaGreatDoor
/- Right by itself (shape.Alone). -/
namespace Go.Proofs.YtajaijilfclhpaaGreatDoor
open Go.RowKit

theorem grs_one {w : World} {pv vv av bv : Value} {G : Gr} (h : GrAt w pv vv av bv G) : GrsAt (w.alloc (.cells #[.string G.name, pv, .int .u8 G.result, vv, av, bv] 28)) (.slice (some ⟨w.heap.size, 0, none⟩) 1 1) [G] := by
 have hb : Below w.heap.size w (w.alloc (.cells #[.string G.name, pv, .int .u8 G.result, vv, av, bv] 28)) := below_alloc (Below.refl _ _) _
 have hbx := Box.new w [.string G.name, pv, .int .u8 G.result, vv, av, bv] 28
 refine ⟨[(pv, vv, av, bv)], rfl, ⟨_, _, rfl, ⟨Nat.le_refl _, by simp⟩, .inr ⟨w.heap.size, 0, rfl, hbx.lt, fun j u hu => ?_⟩⟩, fun i x q hx hq => ?_⟩
 ·rw [Nat.zero_add]
  refine hbx.cell j u ?_
  unfold grsCells grL at hu
  simpa [grsCells, bytV] using hu
 ·cases i with
  | zero => cases hx; cases hq; exact h.below hb
  | succ i => simp at hx
set_option maxRecDepth 100000 in
set_option maxHeartbeats 4000000 in
theorem alone_any (G : Gr) (pv vv av bv : Value) (w : World) (hg : GrAt w pv vv av bv G) (hP : PartsAt w) (hsz : G.blocks.length ≤ 100000 ∧ ∀ b ∈ G.blocks, b.ins.length ≤ 100000) :
  Calls Tryz.prog 26 #[.agg #[.string G.name, pv, .int .u8 G.result, vv, av, bv]] w fun e w' => e = .returned (.bool (aloneP G)) ∧ Below w.heap.size w w' := by
 have HRC : Hid (∀ W, Below w.heap.size w W → _) := fun W hW => rc_any G pv vv av bv W (hg.below hW) hsz
 have HWO : Hid (∀ W, Below w.heap.size w W → _) := fun W hW => woc_any G pv vv av bv W (hg.below hW) hsz
 have HCK : Hid (∀ bv' W, Below w.heap.size w W → GrAt W pv vv av bv' (uncG G) → Calls Tryz.prog 39 #[.slice (some ⟨W.heap.size, 0, none⟩) 1 1] (W.alloc (.cells #[.string G.name, pv, .int .u8 G.result, vv, av, bv'] 28)) fun e w' => e = .returned (.tuple #[.int .i64 (checkT [uncG G]).1, .int .i64 (checkT [uncG G]).2]) ∧ Below (W.alloc (.cells #[.string G.name, pv, .int .u8 G.result, vv, av, bv'] 28)).heap.size (W.alloc (.cells #[.string G.name, pv, .int .u8 G.result, vv, av, bv'] 28)) w') := fun bv' W hW hG =>
  check_any [uncG G] _ _ (grs_one hG) (hP.below (below_trans hW (below_alloc (Below.refl _ _) _))) (fun _ G' hG' => by
   rw [List.mem_singleton.1 hG']; unfold uncG; dsimp only; rw [List.length_map]; exact hsz.1)
 have HC1 : Hid _ := check_one (uncG G)
 have HAP : Hid (aloneP G = (callsB G && graphB [uncG G] (uncG G))) := rfl
 obtain ⟨pa, pc, va, vc, aa, ac, ba0, bc0, rfl, rfl, rfl, rfl, _, _, _, _⟩ := hg.openF
 have HUN : Hid ((uncG G).name = G.name ∧ (uncG G).result = G.result) := ⟨rfl, rfl⟩
 clear hg hsz hP
 generalize aloneP G = AP at *
 generalize callsB G = CB at *
 generalize graphB [uncG G] (uncG G) = GB at *
 generalize hUG : uncG G = UG at *
 generalize hck : checkT [UG] = CK at *
 clear hck
 obtain ⟨nm, ps, r, vs, ars, bs⟩ := G
 dsimp only at *
 clear hUG
 generalize ps.length = pl at *
 generalize vs.length = vl at *
 generalize ars.length = al at *
 generalize bs.length = n at *
 cases CB with
 | false =>
  go_enter Tryz.func26, Tryz.ntmps26
  go_wp2_with (go_at_call 53; go_loud (refine Calls.mono (by exact HRC.out _ (below_alloc (Below.refl _ _) _)) ?_; rintro e w2 ⟨rfl, hb2⟩; have HB2 : Hid _ := below_trans (below_alloc (Below.refl w.heap.size w) (.cells #[.string nm, .slice pa pl pc, .int .u8 r, .slice va vl vc, .slice aa al ac, .slice ba0 n bc0] 28)) hb2; clear hb2))
  go_ret
  exact ⟨ret_bool HAP.out.symm, HB2.out⟩
 | true =>
  cases GB with
  | true =>
   have HCC : Hid (CK = (0, 0)) := HC1.out
   obtain ⟨c1, c2⟩ := CK
   obtain ⟨rfl, rfl⟩ : c1 = 0 ∧ c2 = 0 := by cases HCC.out; exact ⟨rfl, rfl⟩
   dsimp only at *
   clear HC1 HCC
   go_enter Tryz.func26, Tryz.ntmps26
   go_wp2_with (first | (go_at_call 53; go_loud (refine Calls.mono (by exact HRC.out _ (below_alloc (Below.refl _ _) _)) ?_; rintro e w2 ⟨rfl, hb2⟩; have hbx := (Box.new w [.string nm, .slice pa pl pc, .int .u8 r, .slice va vl vc, .slice aa al ac, .slice ba0 n bc0] 28).below hb2; have e0 := hbx.cell 0 _ rfl; have e1 := hbx.cell 1 _ rfl; have e2 := hbx.cell 2 _ rfl; have e3 := hbx.cell 3 _ rfl; have e4 := hbx.cell 4 _ rfl; have e5 := hbx.cell 5 _ rfl; have HB2 : Hid _ := below_trans (below_alloc (Below.refl w.heap.size w) (.cells #[.string nm, .slice pa pl pc, .int .u8 r, .slice va vl vc, .slice aa al ac, .slice ba0 n bc0] 28)) hb2; clear hb2 hbx)) | (go_at_call 54; go_loud (refine Calls.mono (by exact HWO.out _ HB2.out) ?_; rintro e w3 ⟨bv', rfl, hG3, hb3⟩; have HG3 : Hid _ := hG3; obtain ⟨_, _, _, _, _, _, ba3, bc3, _, _, _, rfl, _, _, _, _⟩ := hG3.openF; have HB3 : Hid _ := below_trans HB2.out hb3; clear hb3 hG3)) | (go_at_call 39; go_loud (refine Calls.mono (by exact HCK.out _ _ HB3.out HG3.out) ?_; rintro e w4 ⟨rfl, hb4⟩; have HB4 : Hid _ := below_trans (below_trans HB3.out (below_alloc (Below.refl _ _) _)) hb4; clear hb4)))
   go_ret
   exact ⟨ret_bool HAP.out.symm, HB4.out⟩
  | false =>
   have HCC : Hid (CK = (4, 0)) := HC1.out
   obtain ⟨c1, c2⟩ := CK
   obtain ⟨rfl, rfl⟩ : c1 = 4 ∧ c2 = 0 := by cases HCC.out; exact ⟨rfl, rfl⟩
   dsimp only at *
   clear HC1 HCC
   go_enter Tryz.func26, Tryz.ntmps26
   go_wp2_with (first | (go_at_call 53; go_loud (refine Calls.mono (by exact HRC.out _ (below_alloc (Below.refl _ _) _)) ?_; rintro e w2 ⟨rfl, hb2⟩; have hbx := (Box.new w [.string nm, .slice pa pl pc, .int .u8 r, .slice va vl vc, .slice aa al ac, .slice ba0 n bc0] 28).below hb2; have e0 := hbx.cell 0 _ rfl; have e1 := hbx.cell 1 _ rfl; have e2 := hbx.cell 2 _ rfl; have e3 := hbx.cell 3 _ rfl; have e4 := hbx.cell 4 _ rfl; have e5 := hbx.cell 5 _ rfl; have HB2 : Hid _ := below_trans (below_alloc (Below.refl w.heap.size w) (.cells #[.string nm, .slice pa pl pc, .int .u8 r, .slice va vl vc, .slice aa al ac, .slice ba0 n bc0] 28)) hb2; clear hb2 hbx)) | (go_at_call 54; go_loud (refine Calls.mono (by exact HWO.out _ HB2.out) ?_; rintro e w3 ⟨bv', rfl, hG3, hb3⟩; have HG3 : Hid _ := hG3; obtain ⟨_, _, _, _, _, _, ba3, bc3, _, _, _, rfl, _, _, _, _⟩ := hG3.openF; have HB3 : Hid _ := below_trans HB2.out hb3; clear hb3 hG3)) | (go_at_call 39; go_loud (refine Calls.mono (by exact HCK.out _ _ HB3.out HG3.out) ?_; rintro e w4 ⟨rfl, hb4⟩; have HB4 : Hid _ := below_trans (below_trans HB3.out (below_alloc (Below.refl _ _) _)) hb4; clear hb4)))
   go_ret
   exact ⟨ret_bool HAP.out.symm, HB4.out⟩
end Go.Proofs.YtajaijilfclhpaaGreatDoor
/- Needed of any graph: the program's. -/
namespace Go.Proofs.YtajaijilfclhpaaGreatDoor
open Go.RowKit Go.Sort

theorem args_len {w : World} {pv vv av bv : Value} {G : Gr} (h : GrAt w pv vv av bv G) : ∀ b ∈ G.blocks, ∀ x ∈ b.ins, x.args.length ≤ 140737488355328 := by
 intro b hb x hx
 have hB := h.bs
 obtain ⟨ba, bc, rfl, _⟩ := hB.form
 obtain ⟨i, hi, rfl⟩ := List.mem_iff_getElem.1 hb
 obtain ⟨g, o, iv, _, _, _, _, _, _, _, _, hins⟩ := hB.get hi
 obtain ⟨ia, ic, rfl, _⟩ := hins.form
 rw [List.getD, List.getElem?_eq_getElem hi, Option.getD_some] at hins
 obtain ⟨j, hj, rfl⟩ := List.mem_iff_getElem.1 hx
 obtain ⟨g2, o2, xv, _, _, _, _, _, _, _, _, hxa⟩ := hins.get hj
 rw [List.getD, List.getElem?_eq_getElem hj, Option.getD_some] at hxa
 exact hxa.form.choose_spec.choose_spec.2
theorem alone_vars {G : Gr} (ha : aloneG G = true) : G.vars.length ≤ 1048576 := by
 unfold aloneG at ha
 rw [Bool.and_eq_true] at ha
 exact headR_vars ha.1
set_option maxRecDepth 100000 in
set_option maxHeartbeats 2000000 in
theorem dNeeded_any (G : Gr) (pv vv av bv : Value) (w : World) (h : GrAt w pv vv av bv G) (hP : PartsAt w) (hsz : G.blocks.length ≤ 100000 ∧ ∀ b ∈ G.blocks, b.ins.length ≤ 100000) :
  Calls Tryz.prog 9 #[.agg #[.string G.name, pv, .int .u8 G.result, vv, av, bv]] w fun e w' => ∃ v, e = .returned v ∧ Below w.heap.size w w' ∧ (aloneG G = true → OwnT w' w.heap.size v (needL G)) ∧ (aloneG G = false → v = .slice none 0 0) := by
 have HAL : Hid (∀ W, Below w.heap.size w W → Calls Tryz.prog 26 #[.agg #[.string G.name, pv, .int .u8 G.result, vv, av, bv]] W fun e w' => e = .returned (.bool (aloneG G)) ∧ Below W.heap.size W w') := fun W hW => by
  have h9 := alone_any G pv vv av bv W (h.below hW) (hP.below hW) hsz
  rw [alone_same (args_len h)] at h9
  exact h9
 have HND : Hid (aloneG G = true → ∀ W, Below w.heap.size w W → Calls Tryz.prog 27 #[.agg #[.string G.name, pv, .int .u8 G.result, vv, av, bv]] W fun e w' => ∃ v, e = .returned v ∧ Below W.heap.size W w' ∧ OwnT w' W.heap.size v (needL G)) := fun ha W hW => dneeded_any G pv vv av bv W (h.below hW) (alone_inR ha) (alone_vars ha) hsz
 obtain ⟨pa, pc, va, vc, aa, ac, ba, bc, rfl, rfl, rfl, rfl, _, _, _, hbl⟩ := h.openF
 have H0 : Hid (Below w.heap.size w (w.alloc (.cells #[.string G.name, .slice pa G.params.length pc, .int .u8 G.result, .slice va G.vars.length vc, .slice aa G.arrs.length ac, .slice ba G.blocks.length bc] 28)) ∧ Box (w.alloc (.cells #[.string G.name, .slice pa G.params.length pc, .int .u8 G.result, .slice va G.vars.length vc, .slice aa G.arrs.length ac, .slice ba G.blocks.length bc] 28)) w.heap.size [.string G.name, .slice pa G.params.length pc, .int .u8 G.result, .slice va G.vars.length vc, .slice aa G.arrs.length ac, .slice ba G.blocks.length bc]) := ⟨below_alloc (Below.refl _ _) _, Box.new w _ _⟩
 clear h hP hsz
 generalize G.blocks.length = n at *
 generalize G.name = nm at *
 generalize G.params.length = pl at *
 generalize G.vars.length = m at *
 generalize G.arrs.length = al at *
 generalize G.result = r at *
 cases ha : aloneG G with
 | false =>
  rw [ha] at HAL
  clear ha HND
  go_enter Tryz.func9, Tryz.ntmps9
  go_wp2_with (go_at_call 26; go_loud (refine Calls.mono (by exact HAL.out _ H0.out.1) ?_; rintro e w2 ⟨rfl, hb⟩; have HB2 : Hid (Below w.heap.size w w2) := below_trans H0.out.1 hb; obtain ⟨e0, e1, e2, e3, e4, e5⟩ := box6 (H0.out.2.below hb); clear hb))
  go_ret
  exact ⟨_, rfl, HB2.out, (fun h => by cases h), fun _ => rfl⟩
 | true =>
  rw [ha] at HAL
  have HN2 : Hid _ := HND.out ha
  clear ha HND
  go_enter Tryz.func9, Tryz.ntmps9
  go_wp2_with (first
   | (go_at_call 26; go_loud (refine Calls.mono (by exact HAL.out _ H0.out.1) ?_; rintro e w2 ⟨rfl, hb⟩; have HB2 : Hid (Below w.heap.size w w2) := below_trans H0.out.1 hb; obtain ⟨e0, e1, e2, e3, e4, e5⟩ := box6 (H0.out.2.below hb); clear hb))
   | (go_at_call 27; go_loud (refine Calls.mono (by exact HN2.out _ HB2.out) ?_; rintro e w3 ⟨v3, rfl, hb3, ho3⟩; have HB3 : Hid _ := hb3; have HO3 : Hid _ := ho3; clear hb3 ho3)))
  go_ret
  exact ⟨_, rfl, below_trans HB2.out HB3.out, (fun _ => own_mono HO3.out HB2.out.size), fun h => by cases h⟩
end Go.Proofs.YtajaijilfclhpaaGreatDoor
/- A graph without what is not needed: plain. -/
namespace Go.Proofs.YtajaijilfclhpaaGreatDoor

/-- Does an instruction stay? -/
noncomputable def keepI (G : Gr) (x : In) : Bool := staysK x.kind || atB (needL G) x.dst
noncomputable def appB (G : Gr) (b : Bl) : Bl := ⟨b.ins.filter (keepI G), b.tm⟩
noncomputable def appG (G : Gr) : Gr := { G with blocks := G.blocks.map (appB G) }
/-- Half of the blocks are done. -/
noncomputable def appTo (G : Gr) (i : Nat) : List Bl := (G.blocks.take i).map (appB G) ++ G.blocks.drop i
end Go.Proofs.YtajaijilfclhpaaGreatDoor
/- A list of its own; what stays of a block: the walks. -/
namespace Go.Proofs.YtajaijilfclhpaaGreatDoor
open Go.RowKit Go.Sort

theorem makeI (n : Nat) (hn : n ≤ 1100000) : ∀ W : World, (Instr.makeSlice 22 (.int .i64 n) (.int .i64 n)).run Tryz.prog W = .ok (.slice (some ⟨W.heap.size, 0, none⟩) n n) (W.alloc (.cells (madeCells #[.int .i64 0] n) 3)) := by
 obtain ⟨i0, hi0, hz0, hz1, hz2⟩ := info_parts infoI
 intro W
 have hr := run_make (P := Tryz.prog) W 22 3 i0 (.int .i64 0) Tryz.underlying22 hi0 hz0 .i64 .i64 (n : Int) (n : Int) (by omega) (by omega) (by rw [hz2]; omega) (by omega)
 rw [hz1] at hr
 simp at hr
 exact hr
set_option maxRecDepth 100000 in
theorem dcopied_any {w : World} {v : Value} {l : List Int} (h : IntsAt w v l) (hl : l.length ≤ 1100000) :
  Calls Tryz.prog 156 #[v] w fun e w' => ∃ v', e = .returned v' ∧ OwnI w' w.heap.size v' l ∧ Below w.heap.size w w' := by
 obtain ⟨a, c, hv, hnc, hc⟩ := h
 subst hv
 by_cases h0 : l.length = 0
 ·have e0 : l = [] := List.eq_nil_of_length_eq_zero h0
  rw [h0]
  clear hc hnc
  go_enter Tryz.func156, Tryz.ntmps156
  go_wp2
  go_ret
  exact ⟨_, rfl, by subst e0; exact World.ownsRow_nil _ _ _ _, Below.refl _ _⟩
 rcases hc with hc | ⟨g, o, rfl, hg, hc⟩
 ·exact absurd hc h0
 have hmk := makeI l.length hl
 have hsz : (Tryz.prog.info? 3).map (·.size) = some 1 := by kernel_rfl
 obtain ⟨W1, hcp, hG1, hB1⟩ : ∃ W1, (Builtin.copy_ #[22, 22] 3 #[.slice (some ⟨w.heap.size, 0, none⟩) l.length l.length, .slice (some ⟨g, o, none⟩) l.length c]).run Tryz.prog (w.alloc (.cells (madeCells #[.int .i64 0] l.length) 3)) = .ok (.int .i64 (l.length : Int)) W1 ∧ W1.heap[w.heap.size]? = some (.cells (l.map intV).toArray 3 (0, 0)) ∧ Below w.heap.size w W1 := by
  have hG0 : (w.alloc (.cells (madeCells #[.int .i64 0] l.length) 3)).heap[w.heap.size]? = some (.cells (madeCells #[.int .i64 0] l.length) 3 (0, 0)) := heap_alloc_new _ _
  have hr := run_copy_row (P := Tryz.prog) (w.alloc (.cells (madeCells #[.int .i64 0] l.length) 3)) 22 22 3 3 w.heap.size 0 l.length l.length ⟨g, o, none⟩ l.length c (madeCells #[.int .i64 0] l.length) 3 (l.map intV) Tryz.underlying22 hsz hG0 (by simp) (fun j u hj => by
   rw [Addr.add_lit, World.cell?_alloc_lt _ _ _ hg]
   exact hc j u hj) (by simp [size_madeCells]) (fun u hu => by
   obtain ⟨x, _, rfl⟩ := List.mem_map.1 hu
   rfl)
  refine ⟨_, by simpa [goInt] using hr, ?_, ?_⟩
  ·refine (setRow_heap _ _ _ _ 3 _ hG0).trans ?_
   simp [toList_madeCells_one]
  ·exact below_setRow (below_alloc (Below.refl _ _) _) (Nat.le_refl _) _
 have HG1 : Hid _ := hG1
 have HB1 : Hid _ := hB1
 have hl0 : ¬ (l.length : Int) = 0 := by omega
 have hl0' : ((l.length : Int) == 0) = false := beq_false_of_ne hl0
 have HLL : Hid (∀ W : World, W.heap[w.heap.size]? = some (.cells (l.map intV).toArray 3 (0, 0)) → OwnI W w.heap.size (.slice (some ⟨w.heap.size, 0, none⟩) l.length l.length) l) := fun W h => by
  show World.ownsRow _ _ _ _ _ _ _
  exact ⟨by simp, .inr ⟨w.heap.size, l.length, (l.map intV).toArray, rfl, Nat.le_refl _, h, Nat.le_refl _, by unfold maxLen; omega, by simp, by simp only [Nat.mul_one]; exact List.take_of_length_le (by simp)⟩⟩
 clear hc hG1 hB1
 generalize l.length = n at *
 go_enter Tryz.func156, Tryz.ntmps156
 go_wp2
 go_ret
 exact ⟨_, rfl, HLL.out _ HG1.out, HB1.out⟩
end Go.Proofs.YtajaijilfclhpaaGreatDoor
/- Graphs that are alike are called the same. -/
namespace Go.Proofs.YtajaijilfclhpaaGreatDoor
open Go.RowKit

theorem sameI_yes (l : List Int) (v1 v2 : Value) (w : World) (h1 : IntsAt w v1 l) (h2 : IntsAt w v2 l) : Calls Tryz.prog 43 #[v1, v2] w fun e w' => e = .returned (.bool true) ∧ ∃ k, w' = w.drewN k := by
 have h := sameI_any l l v1 v2 w h1 h2
 rw [decide_eq_true rfl] at h
 exact h
theorem row_form {w : World} {v : Value} {n : Nat} {cs : List Value} (h : RowAt w v n cs) : ∃ a c, v = .slice a n c ∧ n ≤ 140737488355328 := by
 obtain ⟨a, c, hv, hn, _⟩ := h
 exact ⟨a, c, hv, hn.2⟩
theorem neq_arr (a b : Int) (w : World) : (binOp .neq 50 (.agg #[.int .u8 a, .int .i64 b]) (.agg #[.int .u8 a, .int .i64 b])).run Tryz.prog w = .ok (.bool false) w := by
 have hS : Tryz.prog.underlying 50 = some (.struct (Tryz.prog.fieldsOf 50)) := by kernel_rfl
 have hp : Tryz.prog.stoodInHeld 50 = false := by kernel_rfl
 rw [run_neq_struct, show (10000 : Nat) = 9999 + 1 from rfl, run_equalIn_agg w 9999 50 _ _ hS hp]
 simp only [Program.fieldsOf, Tryz.underlying50]
 go_simp
set_option maxRecDepth 100000 in
set_option maxHeartbeats 1000000 in
theorem sameT_yes (l : List Int) (v1 v2 : Value) (w : World) (h1 : TysAt w v1 l) (h2 : TysAt w v2 l) : Calls Tryz.prog 44 #[v1, v2] w fun e w' => e = .returned (.bool true) ∧ ∃ k, w' = w.drewN k := by
 obtain ⟨a1, c1, rfl, _⟩ := row_form h1
 obtain ⟨a2, c2, rfl, _⟩ := row_form h2
 have H1 : Hid (∀ i, i < l.length → _) := fun i hi => h1.get (i := i) hi
 have H2 : Hid (∀ i, i < l.length → _) := fun i hi => h2.get (i := i) hi
 clear h1 h2
 generalize l.length = n at *
 go_enter Tryz.func44, Tryz.ntmps44
 go_wp2
 go_loopw [5] (fun vi wr => ∃ i : Nat, vi = .int .i64 i ∧ i ≤ n ∧ Hid (∃ k, wr = w.drewN k)) (fun vi _ => n - (intOf vi).toNat)
 case atStart => exact ⟨0, rfl, by omega, 0, rfl⟩
 case round =>
  obtain ⟨i, rfl, hi, hr⟩ := hrel
  obtain ⟨q, hq⟩ := hr.out
  have HQ : Hid (wr = w.drewN q) := hq
  clear hq hr
  by_cases hin : i < n
  ·obtain ⟨g1, o1, rfl, _, k0⟩ := H1.out i hin
   obtain ⟨g2, o2, rfl, _, j0⟩ := H2.out i hin
   have k0' := k0
   rw [show w.cell? ⟨g1, o1 + i, none⟩ = wr.cell? ⟨g1, o1 + i, none⟩ from by rw [HQ.out]; rfl] at k0'
   have j0' := j0
   rw [show w.cell? ⟨g2, o2 + i, none⟩ = wr.cell? ⟨g2, o2 + i, none⟩ from by rw [HQ.out]; rfl] at j0'
   have hin' : (i : Int) < n := by omega
   clear H1 H2
   go_wp2
   go_quiet (fail)
   go_wp2
   go_roundw
   case rel => exact ⟨i + 1, by first | rfl | (congr 1; omega), by omega, _, by rw [HQ.out]; exact drewN_add _ _ _⟩
   case measure => simp [intOf]; omega
  ·obtain rfl : i = n := by omega
   clear H1 H2
   go_wp2
   go_ret
   exact ⟨rfl, q, HQ.out⟩
set_option maxRecDepth 100000 in
set_option maxHeartbeats 1000000 in
theorem sameA_yes (l : List (Int × Int)) (v1 v2 : Value) (w : World) (h1 : ArrsAt w v1 l) (h2 : ArrsAt w v2 l) : Calls Tryz.prog 45 #[v1, v2] w fun e w' => e = .returned (.bool true) ∧ ∃ k, w' = w.drewN k := by
 obtain ⟨a1, c1, rfl, _⟩ := row_form h1
 obtain ⟨a2, c2, rfl, _⟩ := row_form h2
 have H1 : Hid (∀ i, i < l.length → _) := fun i hi => h1.get (i := i) hi
 have H2 : Hid (∀ i, i < l.length → _) := fun i hi => h2.get (i := i) hi
 clear h1 h2
 generalize l.length = n at *
 have hne := neq_arr
 go_enter Tryz.func45, Tryz.ntmps45
 go_wp2
 go_loopw [5] (fun vi wr => ∃ i : Nat, vi = .int .i64 i ∧ i ≤ n ∧ Hid (∃ k, wr = w.drewN k)) (fun vi _ => n - (intOf vi).toNat)
 case atStart => exact ⟨0, rfl, by omega, 0, rfl⟩
 case round =>
  obtain ⟨i, rfl, hi, hr⟩ := hrel
  obtain ⟨q, hq⟩ := hr.out
  have HQ : Hid (wr = w.drewN q) := hq
  clear hq hr
  by_cases hin : i < n
  ·obtain ⟨g1, o1, rfl, _, k0, k1⟩ := H1.out i hin
   obtain ⟨g2, o2, rfl, _, j0, j1⟩ := H2.out i hin
   have k0' := k0
   rw [show w.cell? ⟨g1, o1 + i * 2, none⟩ = wr.cell? ⟨g1, o1 + i * 2, none⟩ from by rw [HQ.out]; rfl] at k0'
   have k1' := k1
   rw [show w.cell? ⟨g1, o1 + i * 2 + 1, none⟩ = wr.cell? ⟨g1, o1 + i * 2 + 1, none⟩ from by rw [HQ.out]; rfl] at k1'
   have j0' := j0
   rw [show w.cell? ⟨g2, o2 + i * 2, none⟩ = wr.cell? ⟨g2, o2 + i * 2, none⟩ from by rw [HQ.out]; rfl] at j0'
   have j1' := j1
   rw [show w.cell? ⟨g2, o2 + i * 2 + 1, none⟩ = wr.cell? ⟨g2, o2 + i * 2 + 1, none⟩ from by rw [HQ.out]; rfl] at j1'
   have hin' : (i : Int) < n := by omega
   clear H1 H2
   go_wp2
   go_quiet (fail)
   go_wp2
   go_roundw
   case rel => exact ⟨i + 1, by first | rfl | (congr 1; omega), by omega, _, by rw [HQ.out]; exact drewN_add _ _ _⟩
   case measure => simp [intOf]; omega
  ·obtain rfl : i = n := by omega
   clear H1 H2
   go_wp2
   go_ret
   exact ⟨rfl, q, HQ.out⟩
end Go.Proofs.YtajaijilfclhpaaGreatDoor
/- Lists of truths that are alike are called the same; is a program too great? -/
namespace Go.Proofs.YtajaijilfclhpaaGreatDoor
open Go.RowKit

def BosAt (w : World) (v : Value) (l : List Bool) : Prop := RowAt w v l.length (l.map boV)
theorem BosAt.below {w w' : World} {v : Value} {l : List Bool} (h : BosAt w v l) (hb : Below w.heap.size w w') : BosAt w' v l := RowAt.below h hb
theorem OwnT.at' {w : World} {base : Nat} {v : Value} {l : List Bool} (h : OwnT w base v l) (hn : l.length ≤ 1048576) : BosAt w v l := by
 rcases h.2 with ⟨hv, h0⟩ | ⟨g, cap, cur, hv, _, hh, hc, _⟩
 ·exact ⟨none, 0, by rw [hv, h0], ⟨by omega, by omega⟩, .inl h0⟩
 ·refine ⟨_, _, hv, ⟨hc, by omega⟩, .inr ⟨g, 0, rfl, (Array.getElem?_eq_some_iff.1 hh).1, fun j u hj => ?_⟩⟩
  have ho : w.ownsRow base 4 1 v l.length (l.map boV) := h
  rw [hv] at ho
  rw [Nat.zero_add, World.ownsRow.cellAt ho j (by have := (List.getElem?_eq_some_iff.1 hj).1; simpa using this)]
  exact hj
theorem BosAt.get {w : World} {a : Option Addr} {n c : Nat} {l : List Bool} (h : BosAt w (.slice a n c) l) {i : Nat} (hi : i < l.length) : ∃ g o, a = some ⟨g, o, none⟩ ∧ g < w.heap.size ∧ w.cell? ⟨g, o + i, none⟩ = some (.bool (l.getD i false)) := by
 obtain ⟨a', c', hv, _, hc⟩ := h
 cases hv
 rcases hc with h0 | ⟨g, o, ha, hg, hc⟩
 ·omega
 ·refine ⟨g, o, ha, hg, hc i _ ?_⟩
  simp [List.getD, List.getElem?_eq_getElem hi]
set_option maxRecDepth 100000 in
set_option maxHeartbeats 1000000 in
theorem sameBo_yes (l : List Bool) (v1 v2 : Value) (w : World) (h1 : BosAt w v1 l) (h2 : BosAt w v2 l) : Calls Tryz.prog 31 #[v1, v2] w fun e w' => e = .returned (.bool true) ∧ ∃ k, w' = w.drewN k := by
 obtain ⟨a1, c1, rfl, _⟩ := row_form h1
 obtain ⟨a2, c2, rfl, _⟩ := row_form h2
 have H1 : Hid (∀ i, i < l.length → _) := fun i hi => h1.get (i := i) hi
 have H2 : Hid (∀ i, i < l.length → _) := fun i hi => h2.get (i := i) hi
 clear h1 h2
 generalize l.length = n at *
 go_enter Tryz.func31, Tryz.ntmps31
 go_wp2
 go_loopw [5] (fun vi wr => ∃ i : Nat, vi = .int .i64 i ∧ i ≤ n ∧ Hid (∃ k, wr = w.drewN k)) (fun vi _ => n - (intOf vi).toNat)
 case atStart => exact ⟨0, rfl, by omega, 0, rfl⟩
 case round =>
  obtain ⟨i, rfl, hi, hr⟩ := hrel
  obtain ⟨q, hq⟩ := hr.out
  have HQ : Hid (wr = w.drewN q) := hq
  clear hq hr
  by_cases hin : i < n
  ·obtain ⟨g1, o1, rfl, _, k0⟩ := H1.out i hin
   obtain ⟨g2, o2, rfl, _, j0⟩ := H2.out i hin
   have k0' := k0
   rw [show w.cell? ⟨g1, o1 + i, none⟩ = wr.cell? ⟨g1, o1 + i, none⟩ from by rw [HQ.out]; rfl] at k0'
   have j0' := j0
   rw [show w.cell? ⟨g2, o2 + i, none⟩ = wr.cell? ⟨g2, o2 + i, none⟩ from by rw [HQ.out]; rfl] at j0'
   have hin' : (i : Int) < n := by omega
   clear H1 H2
   generalize l.getD i false = tb at *
   cases tb
   all_goals
    go_wp2
    go_quiet (fail)
    go_wp2
    go_roundw
    case rel => exact ⟨i + 1, by first | rfl | (congr 1; omega), by omega, _, by rw [HQ.out]; exact drewN_add _ _ _⟩
    case measure => simp [intOf]; omega
  ·obtain rfl : i = n := by omega
   clear H1 H2
   go_wp2
   go_ret
   exact ⟨rfl, q, HQ.out⟩
end Go.Proofs.YtajaijilfclhpaaGreatDoor
