/- The document's Needed: the walk. -/
import Derived.Test.YtajaijilfclhpaaGreatDoorNEvM
namespace Go.Proofs.YtajaijilfclhpaaGreatDoor
open Go.RowKit Go.Sort

set_option maxRecDepth 100000 in
set_option maxHeartbeats 4000000 in
theorem rneed_any (G : Gr) (pv vv av bv : Value) (w : World) (h : GrAt w pv vv av bv G) (hn : G.blocks.length ≤ 100000) (hA : argsN G + 1 ≤ 17592186044416) :
  Calls Tryz.prog 10 #[.agg #[.string G.name, pv, .int .u8 G.result, vv, av, bv]] w fun e w' => ∃ v, e = .returned v ∧ Below w.heap.size w w' ∧ (aloneG G = true → OwnT w' w.heap.size v (needL G)) ∧ (aloneG G = false → v = .slice none 0 0) := by
 have HAL : Hid (∀ W, Below w.heap.size w W → Calls Tryz.prog 28 #[.agg #[.string G.name, pv, .int .u8 G.result, vv, av, bv]] W fun e w' => e = .returned (.bool (aloneG G)) ∧ Below W.heap.size W w') := fun W hb => raloneG_any G pv vv av bv W (h.below hb) hn
 have HST : Hid _ := stays_any
 have HSE : Hid _ := sets_any
 obtain ⟨pa, pc, va, vc, aa, ac, ba, bc, rfl, rfl, rfl, rfl, _, _, _, hbl⟩ := h.openF
 have HB : Hid (∀ i, i < G.blocks.length → _) := fun i hi => h.bs.get (i := i) hi
 obtain ⟨i0, hi0, hz0, hz1, hz2⟩ := info_parts infoIk
 have H0 : Hid (Below w.heap.size w (w.alloc (.cells #[.string G.name, .slice pa G.params.length pc, .int .u8 G.result, .slice va G.vars.length vc, .slice aa G.arrs.length ac, .slice ba G.blocks.length bc] 28)) ∧ Box (w.alloc (.cells #[.string G.name, .slice pa G.params.length pc, .int .u8 G.result, .slice va G.vars.length vc, .slice aa G.arrs.length ac, .slice ba G.blocks.length bc] 28)) w.heap.size [.string G.name, .slice pa G.params.length pc, .int .u8 G.result, .slice va G.vars.length vc, .slice aa G.arrs.length ac, .slice ba G.blocks.length bc]) := ⟨below_alloc (Below.refl _ _) _, Box.new w [.string G.name, .slice pa G.params.length pc, .int .u8 G.result, .slice va G.vars.length vc, .slice aa G.arrs.length ac, .slice ba G.blocks.length bc] 28⟩
 clear h
 cases ha : aloneG G with
 | false =>
  rw [ha] at HAL
  clear HB hn hA
  generalize G.blocks.length = n at *
  generalize G.name = nm at *
  generalize G.params.length = pl at *
  generalize G.vars.length = m at *
  generalize G.arrs.length = al at *
  generalize G.result = r at *
  go_enter Tryz.func10, Tryz.ntmps10
  go_wp2_with (go_at_call 28; go_loud (refine Calls.mono (by exact HAL.out _ H0.out.1) ?_; rintro e w2 ⟨rfl, hb2⟩; have HZ : Hid _ := below_trans H0.out.1 hb2; clear hb2))
  go_ret
  exact ⟨_, rfl, HZ.out, (fun h => by cases h), fun _ => rfl⟩
 | true =>
  rw [ha] at HAL
  have HIR : Hid (InR G) := alone_inR ha
  have hmv : G.vars.length ≤ 1048576 := by
   have ha2 := ha
   unfold aloneG at ha2
   rw [Bool.and_eq_true] at ha2
   exact headR_vars ha2.1
  obtain ⟨O, hmk, hO⟩ := makeB G.vars.length hmv
  have HO : Hid _ := hO
  clear hO ha
  generalize hnn : G.blocks.length = n at *
  generalize G.name = nm at *
  generalize G.params.length = pl at *
  generalize hmm : G.vars.length = m at *
  generalize G.arrs.length = al at *
  generalize G.result = r at *
  have HNN : Hid _ := hnn
  have HMM : Hid _ := hmm
  clear hnn hmm
  go_enter Tryz.func10, Tryz.ntmps10
  go_wp2_with (go_at_call 28; go_loud (refine Calls.mono (by exact HAL.out _ H0.out.1) ?_; rintro e w2 ⟨rfl, hb2⟩; have HX2 : Hid _ := H0.out.2.below hb2; obtain ⟨e0, e1, e2, e3, e4, e5⟩ := box6 HX2.out; have HZ : Hid (Below w.heap.size w w2) := below_trans H0.out.1 hb2; clear hb2))
  have HN0 : Hid (NEv w (w2.alloc O) [.string nm, .slice pa pl pc, .int .u8 r, .slice va m vc, .slice aa al ac, .slice ba n bc] (.slice (some ⟨w2.heap.size, 0, none⟩) m m) (List.replicate m false)) :=
   ⟨below_alloc HZ.out _, HX2.out.below (below_alloc (Below.refl _ _) _), own_mono (HO.out w2) HZ.out.size, fun e => by have := HX2.out.lt; simp [Value.ownBlock] at e; omega⟩
  have HS0 : Hid (Snd G (List.replicate m false)) := ⟨by rw [List.length_replicate]; exact HMM.out.symm, fun v hv => by
   rw [List.getD_eq_getElem?_getD, List.getElem?_replicate] at hv
   split at hv <;> simp at hv⟩
  clear HO HAL H0 HX2 HZ hmk e0 e1 e2 e3 e4 e5
  generalize w2.heap.size = g0 at *
  obtain ⟨cs, hcs⟩ : ∃ cs : List Value, cs = [.string nm, .slice pa pl pc, .int .u8 r, .slice va m vc, .slice aa al ac, .slice ba n bc] := ⟨_, rfl⟩
  have HCS : Hid _ := hcs
  rw [← hcs] at HN0
  clear hcs
  go_wp2
  go_loopw [4] (fun vc wr => ∃ (out : List Bool) (c : Bool), vc = .bool c ∧ Hid (NEv w wr cs (.slice (some ⟨g0, 0, none⟩) m m) out ∧ Snd G out ∧ (c = false → out = needL G))) (fun vc wr => if boN vc = true then muN wr w.heap.size (.slice (some ⟨g0, 0, none⟩) m m) + 1 else 0)
  case atStart => exact ⟨_, true, rfl, HN0.out, HS0.out, fun h => by cases h⟩
  case round =>
   obtain ⟨out0, c, rfl, hr⟩ := hrel
   clear HN0 HS0
   generalize wr = wo at *
   have HR : Hid _ := hr.out
   clear hr
   cases c with
   | false =>
    have HW : Hid (OwnT wo w.heap.size (.slice (some ⟨g0, 0, none⟩) m m) (needL G)) := by
     have h9 := HR.out.1.own
     rw [HR.out.2.2 rfl] at h9
     exact h9
    clear HB HIR HST HSE
    go_wp2
    go_ret
    refine ⟨_, rfl, HR.out.1.low, ?_⟩
    first | exact HW.out | exact ⟨fun _ => HW.out, fun h => by cases h⟩ | exact ⟨HW.out, fun h => by cases h⟩
   | true =>
    go_wp2
    go_loopw [4, 5] (fun vc vi wr => ∃ (i : Nat) (out : List Bool) (c : Bool), vi = .int .i64 i ∧ vc = .bool c ∧ i ≤ n ∧ Hid (NEv w wr cs (.slice (some ⟨g0, 0, none⟩) m m) out ∧ Pass G out0 i [] out c)) (fun _ vi _ => n - (intOf vi).toNat)
    case atStart => exact ⟨0, out0, false, rfl, rfl, by omega, HR.out.1, Pass.start HR.out.2.1⟩
    case round =>
     obtain ⟨i, out, c, rfl, rfl, hi, hr⟩ := hrel
     generalize wr = wi at *
     have HQ : Hid _ := hr.out
     clear hr
     have hbx := HQ.out.1.box
     rw [HCS.out] at hbx
     obtain ⟨e0, e1, e2, e3, e4, e5⟩ := box6 hbx
     clear hbx
     by_cases hin : i < n
     ·obtain ⟨g1, o1, iv, rfl, hg, k0, k1, k2, k3, k4, k5, hins⟩ := HB.out i hin
      have hin' : (i : Int) < n := by omega
      have hcl : ∀ j, wi.cell? ⟨g1, j, none⟩ = w.cell? ⟨g1, j, none⟩ := fun j => HQ.out.1.low.cell (p := ⟨g1, j, none⟩) hg
      rw [← hcl] at k0 k1 k2 k3 k4 k5
      have HBM : Hid (G.blocks[i]? = some (G.blocks.getD i default)) := getD_somL (by rw [HNN.out]; exact hin)
      have HINS : Hid _ := hins
      obtain ⟨ia, ic, rfl, hil⟩ := hins.form
      have HIN : Hid (∀ k, k < (G.blocks.getD i default).ins.length → _) := fun k hk => HINS.out.get (i := k) hk
      clear hcl hins
      generalize G.blocks.getD i default = X at *
      obtain ⟨L, tk, ta, t0, t1, tt⟩ := X
      dsimp only at *
      have HMEM : Hid ((⟨L, ⟨tk, ta, t0, t1, tt⟩⟩ : Bl) ∈ G.blocks) := List.mem_of_getElem? HBM.out
      have HAB : Hid (∀ k, ((L.take k).map fun x : In => x.args.length).sum ≤ argsN G) := fun k => Nat.le_trans (take_sum _ L k) (block_args HMEM.out)
      obtain ⟨bcs, hbcs⟩ : ∃ bcs : List Value, bcs = [.slice ia L.length ic, .int .u8 tk, .int .i64 ta, .int .i64 t0, .int .i64 t1, .int .u8 tt] := ⟨_, rfl⟩
      have HBC : Hid _ := hbcs
      have HSZ : Hid (∀ (V : World) (o : Obj), (V.alloc o).heap.size = V.heap.size + 1) := fun V o => by simp
      have HWB : Hid (Below wi.heap.size wi (wi.alloc (.cells #[.slice ia L.length ic, .int .u8 tk, .int .i64 ta, .int .i64 t0, .int .i64 t1, .int .u8 tt] 63)) ∧ Box (wi.alloc (.cells #[.slice ia L.length ic, .int .u8 tk, .int .i64 ta, .int .i64 t0, .int .i64 t1, .int .u8 tt] 63)) wi.heap.size bcs) := ⟨below_alloc (Below.refl _ _) _, by rw [hbcs]; exact Box.new wi _ _⟩
      clear hbcs
      have HASK : Hid (tk = 2 ∨ tk = 3 ∨ (tk ≠ 2 ∧ tk ≠ 3)) := by show _ ∨ _; omega
      rcases HASK.out with hk2 | hk2 | ⟨hk2, hk3⟩
      rotate_left 2
      ·have hb2 := beq_false_of_ne hk2
       have hb3 := beq_false_of_ne hk3
       have HAT : Hid (asksT ⟨tk, ta, t0, t1, tt⟩ = false) := by show (tk == 2 || tk == 3) = false; rw [hb2, hb3]; rfl
       obtain ⟨pre, hpre⟩ : ∃ pre : List Int, pre = [] := ⟨_, rfl⟩
       have HPRE : Hid (pre = ([] : List Int)) := hpre
       have HPL : Hid (pre.length ≤ 1) := by show _ ≤ _; rw [hpre]; simp
       have HPA : Hid (pre = if asksT ⟨tk, ta, t0, t1, tt⟩ then [ta] else []) := by show _ = _; rw [HAT.out, hpre]; rfl
       have HL : Hid (Below wi.heap.size wi (wi.alloc (.cells #[.slice ia L.length ic, .int .u8 tk, .int .i64 ta, .int .i64 t0, .int .i64 t1, .int .u8 tt] 63)) ∧ Box (wi.alloc (.cells #[.slice ia L.length ic, .int .u8 tk, .int .i64 ta, .int .i64 t0, .int .i64 t1, .int .u8 tt] 63)) wi.heap.size bcs ∧ OwnI (wi.alloc (.cells #[.slice ia L.length ic, .int .u8 tk, .int .i64 ta, .int .i64 t0, .int .i64 t1, .int .u8 tt] 63)) (wi.heap.size + 1) (.slice none 0 0) []) := ⟨HWB.out.1, HWB.out.2, World.ownsRow_nil _ _ _ _⟩
       clear hpre HWB
       clear HASK
       go_wp2
       go_loopw [7, 8] (fun vl vk wr => ∃ (k : Nat) (la : Option Addr) (lc : Nat) (ll : List Int), vk = .int .i64 k ∧ vl = .slice la ll.length lc ∧ k ≤ L.length ∧ Hid (Below wi.heap.size wi wr ∧ Box wr wi.heap.size bcs ∧ OwnI wr (wi.heap.size + 1) (.slice la ll.length lc) ll ∧ ll = pre ++ (L.take k).flatMap (askI out))) (fun _ vk _ => L.length - (intOf vk).toNat)
       case atStart => exact ⟨0, none, 0, pre, rfl, by rw [HPRE.out]; rfl, by omega, HL.out.1, HL.out.2.1, by first | exact HL.out.2.2 | (rw [HPRE.out]; exact HL.out.2.2), by simp⟩
       case round =>
        obtain ⟨k, la, lc, ll, rfl, rfl, hk, hr⟩ := hrel
        clear HL
        generalize wr = wk at *
        have HK : Hid _ := hr.out
        clear hr
        have hbb := HK.out.2.1
        rw [HBC.out] at hbb
        obtain ⟨f0, f1, f2, f3, f4, f5⟩ := box6 hbb
        clear hbb
        have HLB : Hid (ll.length ≤ argsN G + 1) := by
         show _ ≤ _
         have h1 := flat_len out (L.take k)
         have h2 := HAB.out k
         have h3 := HPL.out
         rw [HK.out.2.2.2, List.length_append]
         omega
        by_cases hkn : k < L.length
        ·obtain ⟨g2, o2, xv, rfl, hg2, j0, j1, j2, j3, j4, j5, hxa⟩ := HIN.out k hkn
         have hkn' : (k : Int) < L.length := by omega
         have hcl : ∀ j, wk.cell? ⟨g2, j, none⟩ = w.cell? ⟨g2, j, none⟩ := fun j => (below_trans HQ.out.1.low HK.out.1).cell (p := ⟨g2, j, none⟩) hg2
         rw [← hcl] at j0 j1 j2 j3 j4 j5
         have HXM : Hid (L.getD k default ∈ L) := getD_memI hkn
         have HTK : Hid (L.take (k + 1) = L.take k ++ [L.getD k default]) := by
          show _ = _
          rw [List.take_add_one, getD_somL hkn]
          rfl
         have HXA : Hid (IntsAt wk xv (L.getD k default).args) := hxa.below (below_trans HQ.out.1.low HK.out.1)
         obtain ⟨ya, yc, rfl, hyl⟩ := hxa.form
         clear hcl hxa
         generalize L.getD k default = Y at *
         obtain ⟨kind, op, dst, args, bits, ref⟩ := Y
         dsimp only at *
         obtain ⟨wx, hwx⟩ : ∃ wx, wx = wk.alloc (.cells #[.int .u8 kind, .int .u8 op, .int .i64 dst, .slice ya args.length yc, .int .u64 bits, .int .i64 ref] 55) := ⟨_, rfl⟩
         have HWX : Hid _ := hwx
         have HWB2 : Hid (Below wk.heap.size wk wx) := by rw [hwx]; exact below_alloc (Below.refl _ _) _
         have hbx := Box.new wk [.int .u8 kind, .int .u8 op, .int .i64 dst, .slice ya args.length yc, .int .u64 bits, .int .i64 ref] 55
         rw [← hwx] at hbx
         obtain ⟨x0, x1, x2, x3, x4, x5⟩ := box6 hbx
         clear hbx hwx
         have HSTK : Hid (Calls Tryz.prog 29 #[.int .u8 kind] wx fun e w' => e = .returned (.bool (staysK kind)) ∧ w' = wx) := HST.out kind wx
         have HSEK : Hid (Calls Tryz.prog 30 #[.int .u8 kind] wx fun e w' => e = .returned (.bool (setsK kind)) ∧ w' = wx) := HSE.out kind wx
         have HDS : Hid (staysK kind = false → 0 ≤ dst ∧ dst < m) := fun hs => by
          have h9 := HIR.out.dst _ HMEM.out _ HXM.out hs
          rw [HMM.out] at h9
          exact h9
         have HAPP : Hid (∀ (v2 : Value) (w3 : World), w3.ownsRow (wi.heap.size + 1) 3 1 v2 (ll.length + args.length) (ll.map intV ++ args.map intV) → wx.grownBy w3 (Value.slice la ll.length lc).ownBlock → (staysK kind || (setsK kind && atB out dst)) = true → ∃ (la' : Option Addr) (lc' : Nat) (ll' : List Int), v2 = .slice la' ll'.length lc' ∧ (Below wi.heap.size wi w3 ∧ Box w3 wi.heap.size bcs ∧ OwnI w3 (wi.heap.size + 1) (.slice la' ll'.length lc') ll' ∧ ll' = pre ++ (L.take (k + 1)).flatMap (askI out))) := fun v2 w3 ho hg2 hc => by
          have hb3 : Below wi.heap.size wi w3 := below_grown (below_trans HK.out.1 HWB2.out) hg2 (fun q hq => by have := (World.ownsRow.lt HK.out.2.2.1 q hq).1; omega)
          have hx3 : Box w3 wi.heap.size bcs := (HK.out.2.1.below HWB2.out).same (hg2.block _ (Nat.lt_of_lt_of_le HK.out.2.1.lt HWB2.out.size) (fun e => by have := (World.ownsRow.lt HK.out.2.2.1 _ e.symm).1; omega))
          have ho2 : OwnI w3 (wi.heap.size + 1) v2 (ll ++ args) := by
           show World.ownsRow _ _ _ _ _ _ _
           rw [List.length_append, List.map_append]
           exact ho
          obtain ⟨la', lc', hv2, _⟩ := own_blk (Nat.le_refl _) ho
          subst hv2
          refine ⟨la', lc', ll ++ args, by rw [List.length_append], hb3, hx3, by rw [List.length_append]; exact ho2, ?_⟩
          rw [HTK.out, List.flatMap_append, ← List.append_assoc, ← HK.out.2.2.2]
          congr 1
          show args = askI out _ ++ []
          unfold askI
          rw [if_pos hc, List.append_nil]
         have HSKIP : Hid ((staysK kind || (setsK kind && atB out dst)) = false → Below wi.heap.size wi wx ∧ Box wx wi.heap.size bcs ∧ OwnI wx (wi.heap.size + 1) (.slice la ll.length lc) ll ∧ ll = pre ++ (L.take (k + 1)).flatMap (askI out)) := fun hc => by
          refine ⟨below_trans HK.out.1 HWB2.out, HK.out.2.1.below HWB2.out, owns_below HK.out.2.2.1 HWB2.out, ?_⟩
          rw [HTK.out, List.flatMap_append, ← List.append_assoc, ← HK.out.2.2.2]
          have e : [(⟨kind, op, dst, args, bits, ref⟩ : In)].flatMap (askI out) = [] := by
           show askI out _ ++ [] = []
           unfold askI
           rw [if_neg (by rw [hc]; simp)]
           rfl
          rw [e, List.append_nil]
         by_cases hap : (staysK kind || (setsK kind && atB out dst)) = true
         ·have HYA : Hid (IntsAt wx (.slice ya args.length yc) args) := HXA.out.below HWB2.out
          have HOWN : Hid (OwnI wx (wi.heap.size + 1) (.slice la ll.length lc) ll) := owns_below HK.out.2.2.1 HWB2.out
          have HLA : Hid ((args.map intV).length = args.length * 1) := (by show _ = _; simp)
          have H1A : Hid (∀ u ∈ args.map intV, u.oneCell' = true) := ints_one args
          have HBS : Hid (wi.heap.size + 1 ≤ wx.heap.size) := (by show _ ≤ _; have h1 := HK.out.2.1.lt; have h2 := HWB2.out.size; omega)
          have hlen : ll.length + args.length ≤ argsN G + 1 := by
           have h1 := flat_len out (L.take k)
           have h2 := HAB.out (k + 1)
           have h3 := HPL.out
           rw [HTK.out, List.map_append, List.sum_append] at h2
           simp only [List.map_cons, List.map_nil, List.sum_cons, List.sum_nil] at h2
           rw [HK.out.2.2.2, List.length_append]
           omega
          have HAP := HAPP.out
          have HAQ : Hid _ := HAP
          clear HAP
          cases hs : staysK kind with
          | true =>
           rw [hs] at HSTK
           clear HDS HSEK HSKIP HAPP
           go_wp2_with (first
            | (go_at_call 29; go_loud (rw [← HWX.out]; refine Calls.mono (by exact HSTK.out) ?_; rintro e w9 ⟨rfl, rfl⟩))
            | (at_builtin; go_loud (refine wpList_appendC _ rfl _ _ 22 rfl rfl (wi.heap.size + 1) 3 i0 (.int .i64 0) 1 8 Tryz.underlying22 hi0 hz0 hz1 hz2 rfl (by decide) _ ll.length (ll.map intV) rfl HOWN.out ya args.length yc (args.map intV) rfl HYA.out HLA.out H1A.out ?c0 ?c1 ?c2 ?_)))
           try (case c0 => unfold maxLen; omega)
           try (case c1 => omega)
           try (case c2 => exact HBS.out)
           intro v2 w3 ho hg3
           obtain ⟨la', lc', ll', rfl, hx⟩ := HAQ.out v2 w3 ho hg3 hap
           have HX : Hid _ := hx
           clear ho hg3 hx
           go_wp2
           go_roundw
           case rel => exact ⟨k + 1, la', lc', ll', by first | rfl | (congr 1; omega), rfl, by omega, HX.out⟩
           case measure => simp [intOf]; omega
          | false =>
           have hse := sets_of hs
           have hdt : atB out dst = true := by rw [hs, hse] at hap; simpa using hap
           obtain ⟨hd0, hd1⟩ := HDS.out hs
           rw [hs] at HSTK
           rw [hse] at HSEK
           clear HDS HSKIP HAPP
           obtain ⟨d, hd⟩ := Int.eq_ofNat_of_zero_le hd0
           subst hd
           have hcd := ((HQ.out.1.below (below_trans HK.out.1 HWB2.out)).rd (v := d) (by omega)).2.1
           rw [show out.getD d false = true from by simpa [atB] using hdt] at hcd
           go_wp2_with (first
            | (go_at_call 29; go_loud (rw [← HWX.out]; refine Calls.mono (by exact HSTK.out) ?_; rintro e w9 ⟨rfl, rfl⟩))
            | (go_at_call 30; go_loud (refine Calls.mono (by exact HSEK.out) ?_; rintro e w9 ⟨rfl, rfl⟩))
            | (at_builtin; go_loud (refine wpList_appendC _ rfl _ _ 22 rfl rfl (wi.heap.size + 1) 3 i0 (.int .i64 0) 1 8 Tryz.underlying22 hi0 hz0 hz1 hz2 rfl (by decide) _ ll.length (ll.map intV) rfl HOWN.out ya args.length yc (args.map intV) rfl HYA.out HLA.out H1A.out ?c0 ?c1 ?c2 ?_)))
           try (case c0 => unfold maxLen; omega)
           try (case c1 => omega)
           try (case c2 => exact HBS.out)
           intro v2 w3 ho hg3
           obtain ⟨la', lc', ll', rfl, hx⟩ := HAQ.out v2 w3 ho hg3 hap
           have HX : Hid _ := hx
           clear ho hg3 hx
           go_wp2
           go_roundw
           case rel => exact ⟨k + 1, la', lc', ll', by first | rfl | (congr 1; omega), rfl, by omega, HX.out⟩
           case measure => simp [intOf]; omega
         ·have hap' : (staysK kind || (setsK kind && atB out dst)) = false := by simpa using hap
          have hs : staysK kind = false := by
           cases h9 : staysK kind
           ·rfl
           ·rw [h9] at hap'; simp at hap'
          have hse := sets_of hs
          have hdt : atB out dst = false := by rw [hs, hse] at hap'; simpa using hap'
          obtain ⟨hd0, hd1⟩ := HDS.out hs
          have HX : Hid _ := HSKIP.out hap'
          rw [hs] at HSTK
          rw [hse] at HSEK
          clear HDS HSKIP HAPP
          obtain ⟨d, hd⟩ := Int.eq_ofNat_of_zero_le hd0
          subst hd
          have hcd := ((HQ.out.1.below (below_trans HK.out.1 HWB2.out)).rd (v := d) (by omega)).2.1
          rw [show out.getD d false = false from by simpa [atB] using hdt] at hcd
          go_wp2_with (first
           | (go_at_call 29; go_loud (rw [← HWX.out]; refine Calls.mono (by exact HSTK.out) ?_; rintro e w9 ⟨rfl, rfl⟩))
           | (go_at_call 30; go_loud (refine Calls.mono (by exact HSEK.out) ?_; rintro e w9 ⟨rfl, rfl⟩)))
          go_roundw
          case rel => exact ⟨k + 1, la, lc, ll, by first | rfl | (congr 1; omega), rfl, by omega, HX.out⟩
          case measure => simp [intOf]; omega
        ·obtain rfl : k = L.length := by omega
         have HLL : Hid (ll = askB out ⟨L, ⟨tk, ta, t0, t1, tt⟩⟩) := by
          show _ = _
          have h1 := HK.out.2.2.2
          rw [List.take_length] at h1
          unfold askB
          rw [h1, HPA.out]
         have HIA : Hid (∀ a ∈ ll, (0 ≤ a ∧ a < m) ∧ NeedP G a) := fun a ha => by
          rw [HLL.out] at ha
          have h1 := ask_in HIR.out HMEM.out a ha
          rw [HMM.out] at h1
          exact ⟨h1, ask_need HIR.out HQ.out.2.snd HMEM.out a ha⟩
         have HNX : Hid (∀ (out' : List Bool) (c' : Bool), Pass G out0 i ll out' c' → (c' = false → out = out0) → Pass G out0 (i + 1) [] out' c') := fun out' c' hp he => by
          rw [HLL.out] at hp
          exact Pass.next HBM.out hp he
         have HE : Hid (c = false → out = out0) := fun hc => (HQ.out.2.same hc).1
         have HKO : Hid (NEv w wk cs (.slice (some ⟨g0, 0, none⟩) m m) out ∧ OwnI wk (wi.heap.size + 1) (.slice la ll.length lc) ll) := ⟨HQ.out.1.below HK.out.1, HK.out.2.2.1⟩
         have HG0 : Hid (0 < m → g0 < wi.heap.size) := fun h => (HQ.out.1.rd h).1
         have HP0 : Hid (Pass G out0 i [] out c) := HQ.out.2
         have HMV : Hid (∀ (out' : List Bool) (c' : Bool) (q : Nat), Pass G out0 i (ll.take q) out' c' → (h : q < ll.length) → Pass G out0 i (ll.take (q + 1)) (out'.set (ll.getD q 0).toNat true) (c' || !(atB out' (ll.getD q 0)))) := fun out' c' q hp h => by
          have h1 := HIA.out _ (getD_memZ h)
          rw [List.take_add_one, getD_somL h]
          exact hp.mark h1.2 h1.1.1 (by rw [HMM.out]; exact h1.1.2)
         have HIB : Hid (∀ q : Nat, q < ll.length → 0 ≤ ll.getD q 0 ∧ ll.getD q 0 < m) := fun q h => (HIA.out _ (getD_memZ h)).1
         have hlb2 : ll.length ≤ 17592186044416 := by have := HLB.out; omega
         clear HK HQ HAB HINS HIN HBC HMEM HBM HPRE HPL HPA HLL HIA HST HSE HB HLB
         go_wp2
         go_loopw [4, 10] (fun vc vk wr => ∃ (q : Nat) (out' : List Bool) (c' : Bool), vk = .int .i64 q ∧ vc = .bool c' ∧ q ≤ ll.length ∧ (c' = false → c = false) ∧ Hid (NEv w wr cs (.slice (some ⟨g0, 0, none⟩) m m) out' ∧ Pass G out0 i (ll.take q) out' c' ∧ OwnI wr (wi.heap.size + 1) (.slice la ll.length lc) ll)) (fun _ vk _ => ll.length - (intOf vk).toNat)
         case atStart => exact ⟨0, out, c, rfl, rfl, by omega, id, HKO.out.1, HP0.out, HKO.out.2⟩
         case round =>
          obtain ⟨q, out', c', rfl, rfl, hq, hc', hr⟩ := hrel
          clear HKO HP0
          generalize wr = wq at *
          have HM : Hid _ := hr.out
          clear hr
          by_cases hqn : q < ll.length
          ·have hqn' : (q : Int) < ll.length := by omega
           obtain ⟨gl, rfl, hgl, hcl⟩ := ints_rd HM.out.2.2 hqn
           obtain ⟨hd0, hd1⟩ := HIB.out q hqn
           have HPM : Hid _ := HMV.out out' c' q HM.out.2.1 hqn
           clear HMV HIB HNX
           generalize ll.getD q 0 = a at *
           obtain ⟨d, hd⟩ := Int.eq_ofNat_of_zero_le hd0
           subst hd
           have hdm : d < m := by omega
           obtain ⟨_, ho1, ho2, ho3⟩ := HM.out.1.rd hdm
           have hgw := HG0.out (by omega)
           have HN : Hid (NEv w (wq.setCell ⟨g0, d, none⟩ (.bool true)) cs (.slice (some ⟨g0, 0, none⟩) m m) (out'.set d true) ∧ Pass G out0 i (ll.take (q + 1)) (out'.set d true) (c' || !(out'.getD d false)) ∧ OwnI (wq.setCell ⟨g0, d, none⟩ (.bool true)) (wi.heap.size + 1) (.slice (some ⟨gl, 0, none⟩) ll.length lc) ll) := ⟨ho3, by simpa [atB] using HPM.out, ints_other HM.out.2.2 (by show g0 < _; omega) _⟩
           clear ho3 HPM HM HG0
           generalize out'.getD d false = tb at *
           cases c'
           ·cases tb
            ·go_wp2
             go_roundw
             case rel => exact ⟨q + 1, out'.set d true, true, by first | rfl | (congr 1; omega), rfl, by omega, (fun h => by cases h), HN.out⟩
             case measure => simp [intOf]; omega
            ·go_wp2
             go_roundw
             case rel => exact ⟨q + 1, out'.set d true, false, by first | rfl | (congr 1; omega), rfl, by omega, hc', HN.out⟩
             case measure => simp [intOf]; omega
           ·go_wp2
            go_roundw
            case rel => exact ⟨q + 1, out'.set d true, true, by first | rfl | (congr 1; omega), rfl, by omega, (fun h => by cases h), HN.out⟩
            case measure => simp [intOf]; omega
          ·obtain rfl : q = ll.length := by omega
           have HZ : Hid (Pass G out0 (i + 1) [] out' c') := HNX.out out' c' (by have h9 := HM.out.2.1; rwa [List.take_length] at h9) (fun h => HE.out (hc' h))
           have HZ2 : Hid _ := HM.out.1
           clear HM HNX HMV HIB HE
           go_wp2
           go_roundw
           case rel => exact ⟨i + 1, out', c', by first | rfl | (congr 1; omega), rfl, by omega, HZ2.out, HZ.out⟩
           case measure => simp [intOf]; omega
      ·subst hk2
       clear HASK
       obtain ⟨pre, hpre⟩ : ∃ pre : List Int, pre = [ta] := ⟨_, rfl⟩
       have HPRE : Hid (pre = [ta]) := hpre
       have HPL : Hid (pre.length ≤ 1) := by show _ ≤ _; rw [hpre]; simp
       have HPA : Hid (pre = if asksT ⟨2, ta, t0, t1, tt⟩ then [ta] else []) := by show _ = _; rw [hpre]; rfl
       clear hpre
       go_wp2_with (at_builtin; go_loud (refine wpList_append_own_at _ rfl _ _ 22 rfl (wi.heap.size + 1) 3 i0 (.int .i64 0) 1 8 Tryz.underlying22 hi0 hz0 hz1 hz2 rfl (by decide) (.slice none 0 0) 0 [] rfl (World.ownsRow_nil _ _ _ _) ⟨wi.heap.size + 1, 0, none⟩ 1 1 [intV ta] rfl rfl ?d1 ?d2 ?d3 ?d4 ?d5 ?_))
       try (case d1 => intro j u hj; rw [Addr.add_lit, Nat.zero_add]; have h9 := (Box.new (wi.alloc (.cells #[.slice ia L.length ic, .int .u8 2, .int .i64 ta, .int .i64 t0, .int .i64 t1, .int .u8 tt] 63)) [intV ta] 3).cell j u hj; rw [HSZ.out] at h9; exact h9)
       try (case d2 => intro u hu; simp at hu; subst hu; rfl)
       try (case d3 => unfold maxLen; omega)
       try (case d4 => omega)
       try (case d5 => simp)
       intro v2 w3 ho hg3 _ hat
       obtain ⟨ga, ca, rfl⟩ : ∃ (ga ca : Nat), v2 = .slice (some ⟨ga, 0, none⟩) 1 ca := (by obtain ⟨ga, ca, h9, _⟩ := own_form (n := 0) ho; exact ⟨ga, ca, h9⟩)
       have HL : Hid (Below wi.heap.size wi w3 ∧ Box w3 wi.heap.size bcs ∧ OwnI w3 (wi.heap.size + 1) (.slice (some ⟨ga, 0, none⟩) 1 ca) [ta]) := by
        have hb1 := below_alloc (Below.refl (wi.alloc (.cells #[.slice ia L.length ic, .int .u8 2, .int .i64 ta, .int .i64 t0, .int .i64 t1, .int .u8 tt] 63)).heap.size (wi.alloc (.cells #[.slice ia L.length ic, .int .u8 2, .int .i64 ta, .int .i64 t0, .int .i64 t1, .int .u8 tt] 63))) (.cells #[intV ta] 3)
        refine ⟨below_grown (below_trans HWB.out.1 hb1) hg3 (fun q hq => by cases hq), (HWB.out.2.below hb1).same (hg3.block _ (by rw [HSZ.out, HSZ.out]; omega) (fun e => by cases e)), by show World.ownsRow _ _ _ _ _ _ _; simpa using ho⟩
       clear ho hg3 hat HWB
       go_wp2
       go_loopw [7, 8] (fun vl vk wr => ∃ (k : Nat) (la : Option Addr) (lc : Nat) (ll : List Int), vk = .int .i64 k ∧ vl = .slice la ll.length lc ∧ k ≤ L.length ∧ Hid (Below wi.heap.size wi wr ∧ Box wr wi.heap.size bcs ∧ OwnI wr (wi.heap.size + 1) (.slice la ll.length lc) ll ∧ ll = pre ++ (L.take k).flatMap (askI out))) (fun _ vk _ => L.length - (intOf vk).toNat)
       case atStart => exact ⟨0, some ⟨ga, 0, none⟩, ca, pre, rfl, by rw [HPRE.out]; rfl, by omega, HL.out.1, HL.out.2.1, by first | exact HL.out.2.2 | (rw [HPRE.out]; exact HL.out.2.2), by simp⟩
       case round =>
        obtain ⟨k, la, lc, ll, rfl, rfl, hk, hr⟩ := hrel
        clear HL
        generalize wr = wk at *
        have HK : Hid _ := hr.out
        clear hr
        have hbb := HK.out.2.1
        rw [HBC.out] at hbb
        obtain ⟨f0, f1, f2, f3, f4, f5⟩ := box6 hbb
        clear hbb
        have HLB : Hid (ll.length ≤ argsN G + 1) := by
         show _ ≤ _
         have h1 := flat_len out (L.take k)
         have h2 := HAB.out k
         have h3 := HPL.out
         rw [HK.out.2.2.2, List.length_append]
         omega
        by_cases hkn : k < L.length
        ·obtain ⟨g2, o2, xv, rfl, hg2, j0, j1, j2, j3, j4, j5, hxa⟩ := HIN.out k hkn
         have hkn' : (k : Int) < L.length := by omega
         have hcl : ∀ j, wk.cell? ⟨g2, j, none⟩ = w.cell? ⟨g2, j, none⟩ := fun j => (below_trans HQ.out.1.low HK.out.1).cell (p := ⟨g2, j, none⟩) hg2
         rw [← hcl] at j0 j1 j2 j3 j4 j5
         have HXM : Hid (L.getD k default ∈ L) := getD_memI hkn
         have HTK : Hid (L.take (k + 1) = L.take k ++ [L.getD k default]) := by
          show _ = _
          rw [List.take_add_one, getD_somL hkn]
          rfl
         have HXA : Hid (IntsAt wk xv (L.getD k default).args) := hxa.below (below_trans HQ.out.1.low HK.out.1)
         obtain ⟨ya, yc, rfl, hyl⟩ := hxa.form
         clear hcl hxa
         generalize L.getD k default = Y at *
         obtain ⟨kind, op, dst, args, bits, ref⟩ := Y
         dsimp only at *
         obtain ⟨wx, hwx⟩ : ∃ wx, wx = wk.alloc (.cells #[.int .u8 kind, .int .u8 op, .int .i64 dst, .slice ya args.length yc, .int .u64 bits, .int .i64 ref] 55) := ⟨_, rfl⟩
         have HWX : Hid _ := hwx
         have HWB2 : Hid (Below wk.heap.size wk wx) := by rw [hwx]; exact below_alloc (Below.refl _ _) _
         have hbx := Box.new wk [.int .u8 kind, .int .u8 op, .int .i64 dst, .slice ya args.length yc, .int .u64 bits, .int .i64 ref] 55
         rw [← hwx] at hbx
         obtain ⟨x0, x1, x2, x3, x4, x5⟩ := box6 hbx
         clear hbx hwx
         have HSTK : Hid (Calls Tryz.prog 29 #[.int .u8 kind] wx fun e w' => e = .returned (.bool (staysK kind)) ∧ w' = wx) := HST.out kind wx
         have HSEK : Hid (Calls Tryz.prog 30 #[.int .u8 kind] wx fun e w' => e = .returned (.bool (setsK kind)) ∧ w' = wx) := HSE.out kind wx
         have HDS : Hid (staysK kind = false → 0 ≤ dst ∧ dst < m) := fun hs => by
          have h9 := HIR.out.dst _ HMEM.out _ HXM.out hs
          rw [HMM.out] at h9
          exact h9
         have HAPP : Hid (∀ (v2 : Value) (w3 : World), w3.ownsRow (wi.heap.size + 1) 3 1 v2 (ll.length + args.length) (ll.map intV ++ args.map intV) → wx.grownBy w3 (Value.slice la ll.length lc).ownBlock → (staysK kind || (setsK kind && atB out dst)) = true → ∃ (la' : Option Addr) (lc' : Nat) (ll' : List Int), v2 = .slice la' ll'.length lc' ∧ (Below wi.heap.size wi w3 ∧ Box w3 wi.heap.size bcs ∧ OwnI w3 (wi.heap.size + 1) (.slice la' ll'.length lc') ll' ∧ ll' = pre ++ (L.take (k + 1)).flatMap (askI out))) := fun v2 w3 ho hg2 hc => by
          have hb3 : Below wi.heap.size wi w3 := below_grown (below_trans HK.out.1 HWB2.out) hg2 (fun q hq => by have := (World.ownsRow.lt HK.out.2.2.1 q hq).1; omega)
          have hx3 : Box w3 wi.heap.size bcs := (HK.out.2.1.below HWB2.out).same (hg2.block _ (Nat.lt_of_lt_of_le HK.out.2.1.lt HWB2.out.size) (fun e => by have := (World.ownsRow.lt HK.out.2.2.1 _ e.symm).1; omega))
          have ho2 : OwnI w3 (wi.heap.size + 1) v2 (ll ++ args) := by
           show World.ownsRow _ _ _ _ _ _ _
           rw [List.length_append, List.map_append]
           exact ho
          obtain ⟨la', lc', hv2, _⟩ := own_blk (Nat.le_refl _) ho
          subst hv2
          refine ⟨la', lc', ll ++ args, by rw [List.length_append], hb3, hx3, by rw [List.length_append]; exact ho2, ?_⟩
          rw [HTK.out, List.flatMap_append, ← List.append_assoc, ← HK.out.2.2.2]
          congr 1
          show args = askI out _ ++ []
          unfold askI
          rw [if_pos hc, List.append_nil]
         have HSKIP : Hid ((staysK kind || (setsK kind && atB out dst)) = false → Below wi.heap.size wi wx ∧ Box wx wi.heap.size bcs ∧ OwnI wx (wi.heap.size + 1) (.slice la ll.length lc) ll ∧ ll = pre ++ (L.take (k + 1)).flatMap (askI out)) := fun hc => by
          refine ⟨below_trans HK.out.1 HWB2.out, HK.out.2.1.below HWB2.out, owns_below HK.out.2.2.1 HWB2.out, ?_⟩
          rw [HTK.out, List.flatMap_append, ← List.append_assoc, ← HK.out.2.2.2]
          have e : [(⟨kind, op, dst, args, bits, ref⟩ : In)].flatMap (askI out) = [] := by
           show askI out _ ++ [] = []
           unfold askI
           rw [if_neg (by rw [hc]; simp)]
           rfl
          rw [e, List.append_nil]
         by_cases hap : (staysK kind || (setsK kind && atB out dst)) = true
         ·have HYA : Hid (IntsAt wx (.slice ya args.length yc) args) := HXA.out.below HWB2.out
          have HOWN : Hid (OwnI wx (wi.heap.size + 1) (.slice la ll.length lc) ll) := owns_below HK.out.2.2.1 HWB2.out
          have HLA : Hid ((args.map intV).length = args.length * 1) := (by show _ = _; simp)
          have H1A : Hid (∀ u ∈ args.map intV, u.oneCell' = true) := ints_one args
          have HBS : Hid (wi.heap.size + 1 ≤ wx.heap.size) := (by show _ ≤ _; have h1 := HK.out.2.1.lt; have h2 := HWB2.out.size; omega)
          have hlen : ll.length + args.length ≤ argsN G + 1 := by
           have h1 := flat_len out (L.take k)
           have h2 := HAB.out (k + 1)
           have h3 := HPL.out
           rw [HTK.out, List.map_append, List.sum_append] at h2
           simp only [List.map_cons, List.map_nil, List.sum_cons, List.sum_nil] at h2
           rw [HK.out.2.2.2, List.length_append]
           omega
          have HAP := HAPP.out
          have HAQ : Hid _ := HAP
          clear HAP
          cases hs : staysK kind with
          | true =>
           rw [hs] at HSTK
           clear HDS HSEK HSKIP HAPP
           go_wp2_with (first
            | (go_at_call 29; go_loud (rw [← HWX.out]; refine Calls.mono (by exact HSTK.out) ?_; rintro e w9 ⟨rfl, rfl⟩))
            | (at_builtin; go_loud (refine wpList_appendC _ rfl _ _ 22 rfl rfl (wi.heap.size + 1) 3 i0 (.int .i64 0) 1 8 Tryz.underlying22 hi0 hz0 hz1 hz2 rfl (by decide) _ ll.length (ll.map intV) rfl HOWN.out ya args.length yc (args.map intV) rfl HYA.out HLA.out H1A.out ?c0 ?c1 ?c2 ?_)))
           try (case c0 => unfold maxLen; omega)
           try (case c1 => omega)
           try (case c2 => exact HBS.out)
           intro v2 w3 ho hg3
           obtain ⟨la', lc', ll', rfl, hx⟩ := HAQ.out v2 w3 ho hg3 hap
           have HX : Hid _ := hx
           clear ho hg3 hx
           go_wp2
           go_roundw
           case rel => exact ⟨k + 1, la', lc', ll', by first | rfl | (congr 1; omega), rfl, by omega, HX.out⟩
           case measure => simp [intOf]; omega
          | false =>
           have hse := sets_of hs
           have hdt : atB out dst = true := by rw [hs, hse] at hap; simpa using hap
           obtain ⟨hd0, hd1⟩ := HDS.out hs
           rw [hs] at HSTK
           rw [hse] at HSEK
           clear HDS HSKIP HAPP
           obtain ⟨d, hd⟩ := Int.eq_ofNat_of_zero_le hd0
           subst hd
           have hcd := ((HQ.out.1.below (below_trans HK.out.1 HWB2.out)).rd (v := d) (by omega)).2.1
           rw [show out.getD d false = true from by simpa [atB] using hdt] at hcd
           go_wp2_with (first
            | (go_at_call 29; go_loud (rw [← HWX.out]; refine Calls.mono (by exact HSTK.out) ?_; rintro e w9 ⟨rfl, rfl⟩))
            | (go_at_call 30; go_loud (refine Calls.mono (by exact HSEK.out) ?_; rintro e w9 ⟨rfl, rfl⟩))
            | (at_builtin; go_loud (refine wpList_appendC _ rfl _ _ 22 rfl rfl (wi.heap.size + 1) 3 i0 (.int .i64 0) 1 8 Tryz.underlying22 hi0 hz0 hz1 hz2 rfl (by decide) _ ll.length (ll.map intV) rfl HOWN.out ya args.length yc (args.map intV) rfl HYA.out HLA.out H1A.out ?c0 ?c1 ?c2 ?_)))
           try (case c0 => unfold maxLen; omega)
           try (case c1 => omega)
           try (case c2 => exact HBS.out)
           intro v2 w3 ho hg3
           obtain ⟨la', lc', ll', rfl, hx⟩ := HAQ.out v2 w3 ho hg3 hap
           have HX : Hid _ := hx
           clear ho hg3 hx
           go_wp2
           go_roundw
           case rel => exact ⟨k + 1, la', lc', ll', by first | rfl | (congr 1; omega), rfl, by omega, HX.out⟩
           case measure => simp [intOf]; omega
         ·have hap' : (staysK kind || (setsK kind && atB out dst)) = false := by simpa using hap
          have hs : staysK kind = false := by
           cases h9 : staysK kind
           ·rfl
           ·rw [h9] at hap'; simp at hap'
          have hse := sets_of hs
          have hdt : atB out dst = false := by rw [hs, hse] at hap'; simpa using hap'
          obtain ⟨hd0, hd1⟩ := HDS.out hs
          have HX : Hid _ := HSKIP.out hap'
          rw [hs] at HSTK
          rw [hse] at HSEK
          clear HDS HSKIP HAPP
          obtain ⟨d, hd⟩ := Int.eq_ofNat_of_zero_le hd0
          subst hd
          have hcd := ((HQ.out.1.below (below_trans HK.out.1 HWB2.out)).rd (v := d) (by omega)).2.1
          rw [show out.getD d false = false from by simpa [atB] using hdt] at hcd
          go_wp2_with (first
           | (go_at_call 29; go_loud (rw [← HWX.out]; refine Calls.mono (by exact HSTK.out) ?_; rintro e w9 ⟨rfl, rfl⟩))
           | (go_at_call 30; go_loud (refine Calls.mono (by exact HSEK.out) ?_; rintro e w9 ⟨rfl, rfl⟩)))
          go_roundw
          case rel => exact ⟨k + 1, la, lc, ll, by first | rfl | (congr 1; omega), rfl, by omega, HX.out⟩
          case measure => simp [intOf]; omega
        ·obtain rfl : k = L.length := by omega
         have HLL : Hid (ll = askB out ⟨L, ⟨2, ta, t0, t1, tt⟩⟩) := by
          show _ = _
          have h1 := HK.out.2.2.2
          rw [List.take_length] at h1
          unfold askB
          rw [h1, HPA.out]
         have HIA : Hid (∀ a ∈ ll, (0 ≤ a ∧ a < m) ∧ NeedP G a) := fun a ha => by
          rw [HLL.out] at ha
          have h1 := ask_in HIR.out HMEM.out a ha
          rw [HMM.out] at h1
          exact ⟨h1, ask_need HIR.out HQ.out.2.snd HMEM.out a ha⟩
         have HNX : Hid (∀ (out' : List Bool) (c' : Bool), Pass G out0 i ll out' c' → (c' = false → out = out0) → Pass G out0 (i + 1) [] out' c') := fun out' c' hp he => by
          rw [HLL.out] at hp
          exact Pass.next HBM.out hp he
         have HE : Hid (c = false → out = out0) := fun hc => (HQ.out.2.same hc).1
         have HKO : Hid (NEv w wk cs (.slice (some ⟨g0, 0, none⟩) m m) out ∧ OwnI wk (wi.heap.size + 1) (.slice la ll.length lc) ll) := ⟨HQ.out.1.below HK.out.1, HK.out.2.2.1⟩
         have HG0 : Hid (0 < m → g0 < wi.heap.size) := fun h => (HQ.out.1.rd h).1
         have HP0 : Hid (Pass G out0 i [] out c) := HQ.out.2
         have HMV : Hid (∀ (out' : List Bool) (c' : Bool) (q : Nat), Pass G out0 i (ll.take q) out' c' → (h : q < ll.length) → Pass G out0 i (ll.take (q + 1)) (out'.set (ll.getD q 0).toNat true) (c' || !(atB out' (ll.getD q 0)))) := fun out' c' q hp h => by
          have h1 := HIA.out _ (getD_memZ h)
          rw [List.take_add_one, getD_somL h]
          exact hp.mark h1.2 h1.1.1 (by rw [HMM.out]; exact h1.1.2)
         have HIB : Hid (∀ q : Nat, q < ll.length → 0 ≤ ll.getD q 0 ∧ ll.getD q 0 < m) := fun q h => (HIA.out _ (getD_memZ h)).1
         have hlb2 : ll.length ≤ 17592186044416 := by have := HLB.out; omega
         clear HK HQ HAB HINS HIN HBC HMEM HBM HPRE HPL HPA HLL HIA HST HSE HB HLB
         go_wp2
         go_loopw [4, 10] (fun vc vk wr => ∃ (q : Nat) (out' : List Bool) (c' : Bool), vk = .int .i64 q ∧ vc = .bool c' ∧ q ≤ ll.length ∧ (c' = false → c = false) ∧ Hid (NEv w wr cs (.slice (some ⟨g0, 0, none⟩) m m) out' ∧ Pass G out0 i (ll.take q) out' c' ∧ OwnI wr (wi.heap.size + 1) (.slice la ll.length lc) ll)) (fun _ vk _ => ll.length - (intOf vk).toNat)
         case atStart => exact ⟨0, out, c, rfl, rfl, by omega, id, HKO.out.1, HP0.out, HKO.out.2⟩
         case round =>
          obtain ⟨q, out', c', rfl, rfl, hq, hc', hr⟩ := hrel
          clear HKO HP0
          generalize wr = wq at *
          have HM : Hid _ := hr.out
          clear hr
          by_cases hqn : q < ll.length
          ·have hqn' : (q : Int) < ll.length := by omega
           obtain ⟨gl, rfl, hgl, hcl⟩ := ints_rd HM.out.2.2 hqn
           obtain ⟨hd0, hd1⟩ := HIB.out q hqn
           have HPM : Hid _ := HMV.out out' c' q HM.out.2.1 hqn
           clear HMV HIB HNX
           generalize ll.getD q 0 = a at *
           obtain ⟨d, hd⟩ := Int.eq_ofNat_of_zero_le hd0
           subst hd
           have hdm : d < m := by omega
           obtain ⟨_, ho1, ho2, ho3⟩ := HM.out.1.rd hdm
           have hgw := HG0.out (by omega)
           have HN : Hid (NEv w (wq.setCell ⟨g0, d, none⟩ (.bool true)) cs (.slice (some ⟨g0, 0, none⟩) m m) (out'.set d true) ∧ Pass G out0 i (ll.take (q + 1)) (out'.set d true) (c' || !(out'.getD d false)) ∧ OwnI (wq.setCell ⟨g0, d, none⟩ (.bool true)) (wi.heap.size + 1) (.slice (some ⟨gl, 0, none⟩) ll.length lc) ll) := ⟨ho3, by simpa [atB] using HPM.out, ints_other HM.out.2.2 (by show g0 < _; omega) _⟩
           clear ho3 HPM HM HG0
           generalize out'.getD d false = tb at *
           cases c'
           ·cases tb
            ·go_wp2
             go_roundw
             case rel => exact ⟨q + 1, out'.set d true, true, by first | rfl | (congr 1; omega), rfl, by omega, (fun h => by cases h), HN.out⟩
             case measure => simp [intOf]; omega
            ·go_wp2
             go_roundw
             case rel => exact ⟨q + 1, out'.set d true, false, by first | rfl | (congr 1; omega), rfl, by omega, hc', HN.out⟩
             case measure => simp [intOf]; omega
           ·go_wp2
            go_roundw
            case rel => exact ⟨q + 1, out'.set d true, true, by first | rfl | (congr 1; omega), rfl, by omega, (fun h => by cases h), HN.out⟩
            case measure => simp [intOf]; omega
          ·obtain rfl : q = ll.length := by omega
           have HZ : Hid (Pass G out0 (i + 1) [] out' c') := HNX.out out' c' (by have h9 := HM.out.2.1; rwa [List.take_length] at h9) (fun h => HE.out (hc' h))
           have HZ2 : Hid _ := HM.out.1
           clear HM HNX HMV HIB HE
           go_wp2
           go_roundw
           case rel => exact ⟨i + 1, out', c', by first | rfl | (congr 1; omega), rfl, by omega, HZ2.out, HZ.out⟩
           case measure => simp [intOf]; omega
      ·subst hk2
       clear HASK
       obtain ⟨pre, hpre⟩ : ∃ pre : List Int, pre = [ta] := ⟨_, rfl⟩
       have HPRE : Hid (pre = [ta]) := hpre
       have HPL : Hid (pre.length ≤ 1) := by show _ ≤ _; rw [hpre]; simp
       have HPA : Hid (pre = if asksT ⟨3, ta, t0, t1, tt⟩ then [ta] else []) := by show _ = _; rw [hpre]; rfl
       clear hpre
       go_wp2_with (at_builtin; go_loud (refine wpList_append_own_at _ rfl _ _ 22 rfl (wi.heap.size + 1) 3 i0 (.int .i64 0) 1 8 Tryz.underlying22 hi0 hz0 hz1 hz2 rfl (by decide) (.slice none 0 0) 0 [] rfl (World.ownsRow_nil _ _ _ _) ⟨wi.heap.size + 1, 0, none⟩ 1 1 [intV ta] rfl rfl ?d1 ?d2 ?d3 ?d4 ?d5 ?_))
       try (case d1 => intro j u hj; rw [Addr.add_lit, Nat.zero_add]; have h9 := (Box.new (wi.alloc (.cells #[.slice ia L.length ic, .int .u8 3, .int .i64 ta, .int .i64 t0, .int .i64 t1, .int .u8 tt] 63)) [intV ta] 3).cell j u hj; rw [HSZ.out] at h9; exact h9)
       try (case d2 => intro u hu; simp at hu; subst hu; rfl)
       try (case d3 => unfold maxLen; omega)
       try (case d4 => omega)
       try (case d5 => simp)
       intro v2 w3 ho hg3 _ hat
       obtain ⟨ga, ca, rfl⟩ : ∃ (ga ca : Nat), v2 = .slice (some ⟨ga, 0, none⟩) 1 ca := (by obtain ⟨ga, ca, h9, _⟩ := own_form (n := 0) ho; exact ⟨ga, ca, h9⟩)
       have HL : Hid (Below wi.heap.size wi w3 ∧ Box w3 wi.heap.size bcs ∧ OwnI w3 (wi.heap.size + 1) (.slice (some ⟨ga, 0, none⟩) 1 ca) [ta]) := by
        have hb1 := below_alloc (Below.refl (wi.alloc (.cells #[.slice ia L.length ic, .int .u8 3, .int .i64 ta, .int .i64 t0, .int .i64 t1, .int .u8 tt] 63)).heap.size (wi.alloc (.cells #[.slice ia L.length ic, .int .u8 3, .int .i64 ta, .int .i64 t0, .int .i64 t1, .int .u8 tt] 63))) (.cells #[intV ta] 3)
        refine ⟨below_grown (below_trans HWB.out.1 hb1) hg3 (fun q hq => by cases hq), (HWB.out.2.below hb1).same (hg3.block _ (by rw [HSZ.out, HSZ.out]; omega) (fun e => by cases e)), by show World.ownsRow _ _ _ _ _ _ _; simpa using ho⟩
       clear ho hg3 hat HWB
       go_wp2
       go_loopw [7, 8] (fun vl vk wr => ∃ (k : Nat) (la : Option Addr) (lc : Nat) (ll : List Int), vk = .int .i64 k ∧ vl = .slice la ll.length lc ∧ k ≤ L.length ∧ Hid (Below wi.heap.size wi wr ∧ Box wr wi.heap.size bcs ∧ OwnI wr (wi.heap.size + 1) (.slice la ll.length lc) ll ∧ ll = pre ++ (L.take k).flatMap (askI out))) (fun _ vk _ => L.length - (intOf vk).toNat)
       case atStart => exact ⟨0, some ⟨ga, 0, none⟩, ca, pre, rfl, by rw [HPRE.out]; rfl, by omega, HL.out.1, HL.out.2.1, by first | exact HL.out.2.2 | (rw [HPRE.out]; exact HL.out.2.2), by simp⟩
       case round =>
        obtain ⟨k, la, lc, ll, rfl, rfl, hk, hr⟩ := hrel
        clear HL
        generalize wr = wk at *
        have HK : Hid _ := hr.out
        clear hr
        have hbb := HK.out.2.1
        rw [HBC.out] at hbb
        obtain ⟨f0, f1, f2, f3, f4, f5⟩ := box6 hbb
        clear hbb
        have HLB : Hid (ll.length ≤ argsN G + 1) := by
         show _ ≤ _
         have h1 := flat_len out (L.take k)
         have h2 := HAB.out k
         have h3 := HPL.out
         rw [HK.out.2.2.2, List.length_append]
         omega
        by_cases hkn : k < L.length
        ·obtain ⟨g2, o2, xv, rfl, hg2, j0, j1, j2, j3, j4, j5, hxa⟩ := HIN.out k hkn
         have hkn' : (k : Int) < L.length := by omega
         have hcl : ∀ j, wk.cell? ⟨g2, j, none⟩ = w.cell? ⟨g2, j, none⟩ := fun j => (below_trans HQ.out.1.low HK.out.1).cell (p := ⟨g2, j, none⟩) hg2
         rw [← hcl] at j0 j1 j2 j3 j4 j5
         have HXM : Hid (L.getD k default ∈ L) := getD_memI hkn
         have HTK : Hid (L.take (k + 1) = L.take k ++ [L.getD k default]) := by
          show _ = _
          rw [List.take_add_one, getD_somL hkn]
          rfl
         have HXA : Hid (IntsAt wk xv (L.getD k default).args) := hxa.below (below_trans HQ.out.1.low HK.out.1)
         obtain ⟨ya, yc, rfl, hyl⟩ := hxa.form
         clear hcl hxa
         generalize L.getD k default = Y at *
         obtain ⟨kind, op, dst, args, bits, ref⟩ := Y
         dsimp only at *
         obtain ⟨wx, hwx⟩ : ∃ wx, wx = wk.alloc (.cells #[.int .u8 kind, .int .u8 op, .int .i64 dst, .slice ya args.length yc, .int .u64 bits, .int .i64 ref] 55) := ⟨_, rfl⟩
         have HWX : Hid _ := hwx
         have HWB2 : Hid (Below wk.heap.size wk wx) := by rw [hwx]; exact below_alloc (Below.refl _ _) _
         have hbx := Box.new wk [.int .u8 kind, .int .u8 op, .int .i64 dst, .slice ya args.length yc, .int .u64 bits, .int .i64 ref] 55
         rw [← hwx] at hbx
         obtain ⟨x0, x1, x2, x3, x4, x5⟩ := box6 hbx
         clear hbx hwx
         have HSTK : Hid (Calls Tryz.prog 29 #[.int .u8 kind] wx fun e w' => e = .returned (.bool (staysK kind)) ∧ w' = wx) := HST.out kind wx
         have HSEK : Hid (Calls Tryz.prog 30 #[.int .u8 kind] wx fun e w' => e = .returned (.bool (setsK kind)) ∧ w' = wx) := HSE.out kind wx
         have HDS : Hid (staysK kind = false → 0 ≤ dst ∧ dst < m) := fun hs => by
          have h9 := HIR.out.dst _ HMEM.out _ HXM.out hs
          rw [HMM.out] at h9
          exact h9
         have HAPP : Hid (∀ (v2 : Value) (w3 : World), w3.ownsRow (wi.heap.size + 1) 3 1 v2 (ll.length + args.length) (ll.map intV ++ args.map intV) → wx.grownBy w3 (Value.slice la ll.length lc).ownBlock → (staysK kind || (setsK kind && atB out dst)) = true → ∃ (la' : Option Addr) (lc' : Nat) (ll' : List Int), v2 = .slice la' ll'.length lc' ∧ (Below wi.heap.size wi w3 ∧ Box w3 wi.heap.size bcs ∧ OwnI w3 (wi.heap.size + 1) (.slice la' ll'.length lc') ll' ∧ ll' = pre ++ (L.take (k + 1)).flatMap (askI out))) := fun v2 w3 ho hg2 hc => by
          have hb3 : Below wi.heap.size wi w3 := below_grown (below_trans HK.out.1 HWB2.out) hg2 (fun q hq => by have := (World.ownsRow.lt HK.out.2.2.1 q hq).1; omega)
          have hx3 : Box w3 wi.heap.size bcs := (HK.out.2.1.below HWB2.out).same (hg2.block _ (Nat.lt_of_lt_of_le HK.out.2.1.lt HWB2.out.size) (fun e => by have := (World.ownsRow.lt HK.out.2.2.1 _ e.symm).1; omega))
          have ho2 : OwnI w3 (wi.heap.size + 1) v2 (ll ++ args) := by
           show World.ownsRow _ _ _ _ _ _ _
           rw [List.length_append, List.map_append]
           exact ho
          obtain ⟨la', lc', hv2, _⟩ := own_blk (Nat.le_refl _) ho
          subst hv2
          refine ⟨la', lc', ll ++ args, by rw [List.length_append], hb3, hx3, by rw [List.length_append]; exact ho2, ?_⟩
          rw [HTK.out, List.flatMap_append, ← List.append_assoc, ← HK.out.2.2.2]
          congr 1
          show args = askI out _ ++ []
          unfold askI
          rw [if_pos hc, List.append_nil]
         have HSKIP : Hid ((staysK kind || (setsK kind && atB out dst)) = false → Below wi.heap.size wi wx ∧ Box wx wi.heap.size bcs ∧ OwnI wx (wi.heap.size + 1) (.slice la ll.length lc) ll ∧ ll = pre ++ (L.take (k + 1)).flatMap (askI out)) := fun hc => by
          refine ⟨below_trans HK.out.1 HWB2.out, HK.out.2.1.below HWB2.out, owns_below HK.out.2.2.1 HWB2.out, ?_⟩
          rw [HTK.out, List.flatMap_append, ← List.append_assoc, ← HK.out.2.2.2]
          have e : [(⟨kind, op, dst, args, bits, ref⟩ : In)].flatMap (askI out) = [] := by
           show askI out _ ++ [] = []
           unfold askI
           rw [if_neg (by rw [hc]; simp)]
           rfl
          rw [e, List.append_nil]
         by_cases hap : (staysK kind || (setsK kind && atB out dst)) = true
         ·have HYA : Hid (IntsAt wx (.slice ya args.length yc) args) := HXA.out.below HWB2.out
          have HOWN : Hid (OwnI wx (wi.heap.size + 1) (.slice la ll.length lc) ll) := owns_below HK.out.2.2.1 HWB2.out
          have HLA : Hid ((args.map intV).length = args.length * 1) := (by show _ = _; simp)
          have H1A : Hid (∀ u ∈ args.map intV, u.oneCell' = true) := ints_one args
          have HBS : Hid (wi.heap.size + 1 ≤ wx.heap.size) := (by show _ ≤ _; have h1 := HK.out.2.1.lt; have h2 := HWB2.out.size; omega)
          have hlen : ll.length + args.length ≤ argsN G + 1 := by
           have h1 := flat_len out (L.take k)
           have h2 := HAB.out (k + 1)
           have h3 := HPL.out
           rw [HTK.out, List.map_append, List.sum_append] at h2
           simp only [List.map_cons, List.map_nil, List.sum_cons, List.sum_nil] at h2
           rw [HK.out.2.2.2, List.length_append]
           omega
          have HAP := HAPP.out
          have HAQ : Hid _ := HAP
          clear HAP
          cases hs : staysK kind with
          | true =>
           rw [hs] at HSTK
           clear HDS HSEK HSKIP HAPP
           go_wp2_with (first
            | (go_at_call 29; go_loud (rw [← HWX.out]; refine Calls.mono (by exact HSTK.out) ?_; rintro e w9 ⟨rfl, rfl⟩))
            | (at_builtin; go_loud (refine wpList_appendC _ rfl _ _ 22 rfl rfl (wi.heap.size + 1) 3 i0 (.int .i64 0) 1 8 Tryz.underlying22 hi0 hz0 hz1 hz2 rfl (by decide) _ ll.length (ll.map intV) rfl HOWN.out ya args.length yc (args.map intV) rfl HYA.out HLA.out H1A.out ?c0 ?c1 ?c2 ?_)))
           try (case c0 => unfold maxLen; omega)
           try (case c1 => omega)
           try (case c2 => exact HBS.out)
           intro v2 w3 ho hg3
           obtain ⟨la', lc', ll', rfl, hx⟩ := HAQ.out v2 w3 ho hg3 hap
           have HX : Hid _ := hx
           clear ho hg3 hx
           go_wp2
           go_roundw
           case rel => exact ⟨k + 1, la', lc', ll', by first | rfl | (congr 1; omega), rfl, by omega, HX.out⟩
           case measure => simp [intOf]; omega
          | false =>
           have hse := sets_of hs
           have hdt : atB out dst = true := by rw [hs, hse] at hap; simpa using hap
           obtain ⟨hd0, hd1⟩ := HDS.out hs
           rw [hs] at HSTK
           rw [hse] at HSEK
           clear HDS HSKIP HAPP
           obtain ⟨d, hd⟩ := Int.eq_ofNat_of_zero_le hd0
           subst hd
           have hcd := ((HQ.out.1.below (below_trans HK.out.1 HWB2.out)).rd (v := d) (by omega)).2.1
           rw [show out.getD d false = true from by simpa [atB] using hdt] at hcd
           go_wp2_with (first
            | (go_at_call 29; go_loud (rw [← HWX.out]; refine Calls.mono (by exact HSTK.out) ?_; rintro e w9 ⟨rfl, rfl⟩))
            | (go_at_call 30; go_loud (refine Calls.mono (by exact HSEK.out) ?_; rintro e w9 ⟨rfl, rfl⟩))
            | (at_builtin; go_loud (refine wpList_appendC _ rfl _ _ 22 rfl rfl (wi.heap.size + 1) 3 i0 (.int .i64 0) 1 8 Tryz.underlying22 hi0 hz0 hz1 hz2 rfl (by decide) _ ll.length (ll.map intV) rfl HOWN.out ya args.length yc (args.map intV) rfl HYA.out HLA.out H1A.out ?c0 ?c1 ?c2 ?_)))
           try (case c0 => unfold maxLen; omega)
           try (case c1 => omega)
           try (case c2 => exact HBS.out)
           intro v2 w3 ho hg3
           obtain ⟨la', lc', ll', rfl, hx⟩ := HAQ.out v2 w3 ho hg3 hap
           have HX : Hid _ := hx
           clear ho hg3 hx
           go_wp2
           go_roundw
           case rel => exact ⟨k + 1, la', lc', ll', by first | rfl | (congr 1; omega), rfl, by omega, HX.out⟩
           case measure => simp [intOf]; omega
         ·have hap' : (staysK kind || (setsK kind && atB out dst)) = false := by simpa using hap
          have hs : staysK kind = false := by
           cases h9 : staysK kind
           ·rfl
           ·rw [h9] at hap'; simp at hap'
          have hse := sets_of hs
          have hdt : atB out dst = false := by rw [hs, hse] at hap'; simpa using hap'
          obtain ⟨hd0, hd1⟩ := HDS.out hs
          have HX : Hid _ := HSKIP.out hap'
          rw [hs] at HSTK
          rw [hse] at HSEK
          clear HDS HSKIP HAPP
          obtain ⟨d, hd⟩ := Int.eq_ofNat_of_zero_le hd0
          subst hd
          have hcd := ((HQ.out.1.below (below_trans HK.out.1 HWB2.out)).rd (v := d) (by omega)).2.1
          rw [show out.getD d false = false from by simpa [atB] using hdt] at hcd
          go_wp2_with (first
           | (go_at_call 29; go_loud (rw [← HWX.out]; refine Calls.mono (by exact HSTK.out) ?_; rintro e w9 ⟨rfl, rfl⟩))
           | (go_at_call 30; go_loud (refine Calls.mono (by exact HSEK.out) ?_; rintro e w9 ⟨rfl, rfl⟩)))
          go_roundw
          case rel => exact ⟨k + 1, la, lc, ll, by first | rfl | (congr 1; omega), rfl, by omega, HX.out⟩
          case measure => simp [intOf]; omega
        ·obtain rfl : k = L.length := by omega
         have HLL : Hid (ll = askB out ⟨L, ⟨3, ta, t0, t1, tt⟩⟩) := by
          show _ = _
          have h1 := HK.out.2.2.2
          rw [List.take_length] at h1
          unfold askB
          rw [h1, HPA.out]
         have HIA : Hid (∀ a ∈ ll, (0 ≤ a ∧ a < m) ∧ NeedP G a) := fun a ha => by
          rw [HLL.out] at ha
          have h1 := ask_in HIR.out HMEM.out a ha
          rw [HMM.out] at h1
          exact ⟨h1, ask_need HIR.out HQ.out.2.snd HMEM.out a ha⟩
         have HNX : Hid (∀ (out' : List Bool) (c' : Bool), Pass G out0 i ll out' c' → (c' = false → out = out0) → Pass G out0 (i + 1) [] out' c') := fun out' c' hp he => by
          rw [HLL.out] at hp
          exact Pass.next HBM.out hp he
         have HE : Hid (c = false → out = out0) := fun hc => (HQ.out.2.same hc).1
         have HKO : Hid (NEv w wk cs (.slice (some ⟨g0, 0, none⟩) m m) out ∧ OwnI wk (wi.heap.size + 1) (.slice la ll.length lc) ll) := ⟨HQ.out.1.below HK.out.1, HK.out.2.2.1⟩
         have HG0 : Hid (0 < m → g0 < wi.heap.size) := fun h => (HQ.out.1.rd h).1
         have HP0 : Hid (Pass G out0 i [] out c) := HQ.out.2
         have HMV : Hid (∀ (out' : List Bool) (c' : Bool) (q : Nat), Pass G out0 i (ll.take q) out' c' → (h : q < ll.length) → Pass G out0 i (ll.take (q + 1)) (out'.set (ll.getD q 0).toNat true) (c' || !(atB out' (ll.getD q 0)))) := fun out' c' q hp h => by
          have h1 := HIA.out _ (getD_memZ h)
          rw [List.take_add_one, getD_somL h]
          exact hp.mark h1.2 h1.1.1 (by rw [HMM.out]; exact h1.1.2)
         have HIB : Hid (∀ q : Nat, q < ll.length → 0 ≤ ll.getD q 0 ∧ ll.getD q 0 < m) := fun q h => (HIA.out _ (getD_memZ h)).1
         have hlb2 : ll.length ≤ 17592186044416 := by have := HLB.out; omega
         clear HK HQ HAB HINS HIN HBC HMEM HBM HPRE HPL HPA HLL HIA HST HSE HB HLB
         go_wp2
         go_loopw [4, 10] (fun vc vk wr => ∃ (q : Nat) (out' : List Bool) (c' : Bool), vk = .int .i64 q ∧ vc = .bool c' ∧ q ≤ ll.length ∧ (c' = false → c = false) ∧ Hid (NEv w wr cs (.slice (some ⟨g0, 0, none⟩) m m) out' ∧ Pass G out0 i (ll.take q) out' c' ∧ OwnI wr (wi.heap.size + 1) (.slice la ll.length lc) ll)) (fun _ vk _ => ll.length - (intOf vk).toNat)
         case atStart => exact ⟨0, out, c, rfl, rfl, by omega, id, HKO.out.1, HP0.out, HKO.out.2⟩
         case round =>
          obtain ⟨q, out', c', rfl, rfl, hq, hc', hr⟩ := hrel
          clear HKO HP0
          generalize wr = wq at *
          have HM : Hid _ := hr.out
          clear hr
          by_cases hqn : q < ll.length
          ·have hqn' : (q : Int) < ll.length := by omega
           obtain ⟨gl, rfl, hgl, hcl⟩ := ints_rd HM.out.2.2 hqn
           obtain ⟨hd0, hd1⟩ := HIB.out q hqn
           have HPM : Hid _ := HMV.out out' c' q HM.out.2.1 hqn
           clear HMV HIB HNX
           generalize ll.getD q 0 = a at *
           obtain ⟨d, hd⟩ := Int.eq_ofNat_of_zero_le hd0
           subst hd
           have hdm : d < m := by omega
           obtain ⟨_, ho1, ho2, ho3⟩ := HM.out.1.rd hdm
           have hgw := HG0.out (by omega)
           have HN : Hid (NEv w (wq.setCell ⟨g0, d, none⟩ (.bool true)) cs (.slice (some ⟨g0, 0, none⟩) m m) (out'.set d true) ∧ Pass G out0 i (ll.take (q + 1)) (out'.set d true) (c' || !(out'.getD d false)) ∧ OwnI (wq.setCell ⟨g0, d, none⟩ (.bool true)) (wi.heap.size + 1) (.slice (some ⟨gl, 0, none⟩) ll.length lc) ll) := ⟨ho3, by simpa [atB] using HPM.out, ints_other HM.out.2.2 (by show g0 < _; omega) _⟩
           clear ho3 HPM HM HG0
           generalize out'.getD d false = tb at *
           cases c'
           ·cases tb
            ·go_wp2
             go_roundw
             case rel => exact ⟨q + 1, out'.set d true, true, by first | rfl | (congr 1; omega), rfl, by omega, (fun h => by cases h), HN.out⟩
             case measure => simp [intOf]; omega
            ·go_wp2
             go_roundw
             case rel => exact ⟨q + 1, out'.set d true, false, by first | rfl | (congr 1; omega), rfl, by omega, hc', HN.out⟩
             case measure => simp [intOf]; omega
           ·go_wp2
            go_roundw
            case rel => exact ⟨q + 1, out'.set d true, true, by first | rfl | (congr 1; omega), rfl, by omega, (fun h => by cases h), HN.out⟩
            case measure => simp [intOf]; omega
          ·obtain rfl : q = ll.length := by omega
           have HZ : Hid (Pass G out0 (i + 1) [] out' c') := HNX.out out' c' (by have h9 := HM.out.2.1; rwa [List.take_length] at h9) (fun h => HE.out (hc' h))
           have HZ2 : Hid _ := HM.out.1
           clear HM HNX HMV HIB HE
           go_wp2
           go_roundw
           case rel => exact ⟨i + 1, out', c', by first | rfl | (congr 1; omega), rfl, by omega, HZ2.out, HZ.out⟩
           case measure => simp [intOf]; omega
     ·obtain rfl : i = n := by omega
      have HD : Hid (c = false → out = needL G) := fun hc => by
       have h9 := HQ.out.2
       rw [hc, ← HNN.out] at h9
       exact h9.done
      have HMU : Hid (c = true → muN wi w.heap.size (.slice (some ⟨g0, 0, none⟩) m m) < muN wo w.heap.size (.slice (some ⟨g0, 0, none⟩) m m)) := fun hc => by
       rw [muN_of HQ.out.1.own, muN_of HR.out.1.own]
       exact HQ.out.2.less hc
      clear HB HIR HST HSE
      go_wp2
      go_roundw
      case rel => exact ⟨out, c, rfl, HQ.out.1, HQ.out.2.snd, HD.out⟩
      case measure =>
       cases c with
       | false => simp [boN]
       | true => have := HMU.out rfl; simp [boN]; omega
end Go.Proofs.YtajaijilfclhpaaGreatDoor
