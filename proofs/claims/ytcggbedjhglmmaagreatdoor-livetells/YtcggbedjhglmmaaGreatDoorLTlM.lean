/- The law's own: is a graph great? -/
import Derived.Test.YtcggbedjhglmmaaGreatDoorLNfM
import Derived.Test.YtcggbedjhglmmaaGreatDoorGChk3M
import Derived.Test.YtcggbedjhglmmaaGreatDoorLRl
import Derived.Test.YtcggbedjhglmmaaGreatDoorLAw
namespace Go.Proofs.YtcggbedjhglmmaaGreatDoor
open Go.RowKit

def argS (l : List In) : Nat := (l.map fun x => x.args.length).sum
theorem argS_szI : ∀ l : List In, szI l = argS l + l.length
  | [] => rfl
  | x :: l => by
    have := argS_szI l
    unfold szI argS at *
    simp only [List.map_cons, List.sum_cons, List.length_cons]
    omega
theorem argS_drop {l : List In} {k : Nat} (h : k < l.length) : argS (l.drop k) = (l.getD k default).args.length + argS (l.drop (k + 1)) := by
  have e : l.getD k default = l[k] := by simp [List.getD, List.getElem?_eq_getElem h]
  rw [e, List.drop_eq_getElem_cons h]
  rfl
theorem argS_end (l : List In) : argS (l.drop l.length) = 0 := by rw [List.drop_length]; rfl
theorem szB_end (l : List Bl) : szB (l.drop l.length) = 0 := by rw [List.drop_length]; rfl
set_option maxRecDepth 100000 in
set_option maxHeartbeats 2000000 in
theorem greatL_any (G : Gr) (pv vv av bv : Value) (w : World) (h : GrAt w pv vv av bv G) :
    Calls Tryz.prog 5 #[.agg #[.string G.name, pv, .int .u8 G.result, vv, av, bv]] w fun e w' => ∃ b, e = .returned (.bool b) ∧ Hid (b = false → szB G.blocks ≤ 720 ∧ G.vars.length ≤ 240) ∧ Below w.heap.size w w' := by
  obtain ⟨pa, pc, va, vc, aa, ac, ba, bc, rfl, rfl, rfl, rfl, hpl, hml, hal, hbl⟩ := h.openF
  have HB : Hid (∀ i, i < G.blocks.length → _) := fun i hi => h.bs.get (i := i) hi
  have HSD : Hid (∀ i, i < G.blocks.length → szB (G.blocks.drop i) = argS (G.blocks.getD i default).ins + (G.blocks.getD i default).ins.length + 1 + szB (G.blocks.drop (i + 1))) := fun i hi => by
    have h9 := szB_drop hi
    rw [argS_szI] at h9
    exact h9
  have HSE : Hid (szB (G.blocks.drop G.blocks.length) = 0) := szB_end _
  obtain ⟨nm, ps, r, vs, ars, bs⟩ := G
  dsimp only at HB HSD HSE hbl hpl hml hal ⊢
  clear h
  obtain ⟨Z, hZ⟩ : ∃ Z, Z = szB bs := ⟨_, rfl⟩
  rw [← hZ]
  have HZ0 : Hid (Z = szB (bs.drop 0)) := hZ
  clear hZ
  generalize bs.length = n at *
  generalize ps.length = pl at *
  generalize vs.length = m at *
  generalize ars.length = al at *
  have hpl' : (pl : Int) ≤ 140737488355328 := by omega
  have hml' : (m : Int) ≤ 140737488355328 := by omega
  have hal' : (al : Int) ≤ 140737488355328 := by omega
  have H0 : Hid (Below w.heap.size w (w.alloc (.cells #[.string nm, .slice pa pl pc, .int .u8 r, .slice va m vc, .slice aa al ac, .slice ba n bc] 28)) ∧ Box (w.alloc (.cells #[.string nm, .slice pa pl pc, .int .u8 r, .slice va m vc, .slice aa al ac, .slice ba n bc] 28)) w.heap.size [.string nm, .slice pa pl pc, .int .u8 r, .slice va m vc, .slice aa al ac, .slice ba n bc]) := ⟨below_alloc (Below.refl _ _) _, Box.new w [.string nm, .slice pa pl pc, .int .u8 r, .slice va m vc, .slice aa al ac, .slice ba n bc] 28⟩
  obtain ⟨C, hCt, hCf, hCn⟩ : ∃ C : Bool → Prop, C true ∧ (Z ≤ 720 ∧ m ≤ 240 → C false) ∧ (∀ b, C b → Hid (b = false → Z ≤ 720 ∧ m ≤ 240)) := ⟨fun b => b = false → Z ≤ 720 ∧ m ≤ 240, (fun h => nomatch h), (fun h _ => h), (fun b h => h)⟩
  have HCT : Hid (C true) := hCt
  have HCF : Hid (Z ≤ 720 ∧ m ≤ 240 → C false) := hCf
  refine Calls.mono (R := fun e w' => ∃ b, e = .returned (.bool b) ∧ C b ∧ Below w.heap.size w w') ?_ (fun e w' ⟨b, he, hc, hb⟩ => ⟨b, he, hCn b hc, hb⟩)
  clear hCt hCf hCn
  go_enter Tryz.func5, Tryz.ntmps5
  go_wp2
  go_loopw [3, 4] (fun vn vi wr => ∃ (x i : Nat), vn = .int .i64 (x : Int) ∧ vi = .int .i64 i ∧ i ≤ n ∧ x ≤ 422212465065984 ∧ Hid ((Below w.heap.size w wr ∧ Box wr w.heap.size [.string nm, .slice pa pl pc, .int .u8 r, .slice va m vc, .slice aa al ac, .slice ba n bc]) ∧ (x ≤ 720 → Z = x + szB (bs.drop i)))) (fun _ vi _ => n - (intOf vi).toNat)
  case atStart => exact ⟨0, 0, rfl, rfl, by omega, by omega, H0.out, fun _ => by rw [Nat.zero_add]; exact HZ0.out⟩
  case round =>
    obtain ⟨x, i, rfl, rfl, hi, hx, hr⟩ := hrel
    clear H0 HZ0
    obtain ⟨e0, e1, e2, e3, e4, e5⟩ := box6 hr.out.1.2
    have hwl := hr.out.1.2.lt
    have hx' : (x : Int) ≤ 422212465065984 := by omega
    by_cases hbig : 720 < x
    · have hb1 : ¬ (x : Int) ≤ 720 := by omega
      have hb2 : (720 : Int) < x := by omega
      have HX : Hid _ := hr.out.1.1
      clear HB HSD HSE hr
      by_cases hin : i < n
      · have hin' : (i : Int) < n := by omega
        go_wp2
        go_ret
        first | exact ⟨true, rfl, HCT.out, HX.out⟩ | exact Or.inr ⟨rfl, HCT.out, HX.out⟩
      · have hin' : ¬ (i : Int) < n := by omega
        go_wp2
        go_ret
        first | exact ⟨true, rfl, HCT.out, HX.out⟩ | exact Or.inr ⟨rfl, HCT.out, HX.out⟩
    have hb1 : (x : Int) ≤ 720 := by omega
    have hb2 : ¬ (720 : Int) < x := by omega
    by_cases hin : i < n
    · obtain ⟨g, o, iv, rfl, hg, c0, c1, c2, c3, c4, c5, hins⟩ := HB.out i hin
      obtain ⟨ia, ic, rfl, hil⟩ := hins.form
      have hin' : (i : Int) < n := by omega
      have HE : Hid (Z = x + szB (bs.drop i)) := hr.out.2 (by omega)
      have HS1 : Hid _ := HSD.out i hin
      have HRR : Hid _ := hr.out.1
      generalize (bs.getD i default).ins = L at *
      have HI : Hid (∀ k, k < L.length → _) := fun k hk => hins.get (i := k) hk
      have HC0 : Hid _ := c0
      have HG : Hid (g < w.heap.size) := hg
      have c0' : wr.cell? ⟨g, o + i * 6, none⟩ = some (.slice ia L.length ic) := (hr.out.1.1.cell (p := ⟨g, o + i * 6, none⟩) hg).trans c0
      have hil' : (L.length : Int) ≤ 140737488355328 := by omega
      have HQ0 : Hid (x + 1 + L.length ≤ 720 → Z = x + 1 + L.length + argS (L.drop 0) + szB (bs.drop (i + 1))) := fun _ => by have h8 := HE.out; have h9 := HS1.out; rw [List.drop_zero]; omega
      clear HB c0 c1 c2 c3 c4 c5 hins hg hr HE HS1 HSD
      generalize wr = wo at *
      go_wp2
      go_loopw [3, 5] (fun vn vk wr => ∃ (y k : Nat), vn = .int .i64 (y : Int) ∧ vk = .int .i64 k ∧ k ≤ L.length ∧ y ≤ 422212465065984 ∧ Hid ((Below w.heap.size w wr ∧ Box wr w.heap.size [.string nm, .slice pa pl pc, .int .u8 r, .slice va m vc, .slice aa al ac, .slice (some ⟨g, o, none⟩) n bc]) ∧ (y ≤ 720 → Z = y + argS (L.drop k) + szB (bs.drop (i + 1))))) (fun _ vk _ => L.length - (intOf vk).toNat)
      case atStart => exact ⟨x + 1 + L.length, 0, by first | rfl | (congr 1; omega) | (simp; omega), rfl, by omega, by omega, HRR.out, HQ0.out⟩
      case round =>
        obtain ⟨y, k, rfl, rfl, hk, hyl, hq⟩ := hrel
        clear e0 e1 e2 e3 e4 e5 c0' HQ0
        obtain ⟨e0, e1, e2, e3, e4, e5⟩ := box6 hq.out.1.2
        have hwl2 := hq.out.1.2.lt
        have hyl' : (y : Int) ≤ 422212465065984 := by omega
        have c0' : wr.cell? ⟨g, o + i * 6, none⟩ = some (.slice ia L.length ic) := (hq.out.1.1.cell (p := ⟨g, o + i * 6, none⟩) HG.out).trans HC0.out
        by_cases hkn : k < L.length
        · have hkn' : (k : Int) < L.length := by omega
          obtain ⟨gi, oi, xv, rfl, hgi, d0, d1, d2, d3, d4, d5, hxa⟩ := HI.out k hkn
          obtain ⟨xa, xc, rfl, hxl⟩ := hxa.form
          have d3' := (hq.out.1.1.cell (p := ⟨gi, oi + k * 6 + 3, none⟩) hgi).trans d3
          have HA : Hid _ := argS_drop hkn
          generalize (L.getD k default).args.length = xn at *
          have hxl' : (xn : Int) ≤ 140737488355328 := by omega
          clear d0 d1 d2 d3 d4 d5 hxa HI hgi
          by_cases hy : y ≤ 720
          · have hy' : (y : Int) ≤ 720 := by omega
            have HN : Hid (y + xn ≤ 720 → Z = y + xn + argS (L.drop (k + 1)) + szB (bs.drop (i + 1))) := fun _ => by have h8 := hq.out.2 hy; have h9 := HA.out; omega
            have HQ1 : Hid _ := hq.out.1
            clear hq HA
            go_wp2
            go_roundw
            case rel => exact ⟨y + xn, k + 1, by first | rfl | (congr 1; omega) | (simp; omega), by first | rfl | (congr 1; omega), by omega, by omega, HQ1.out, HN.out⟩
            case measure => simp [intOf]; omega
          · have hy' : ¬ (y : Int) ≤ 720 := by omega
            have HQ1 : Hid _ := hq.out.1
            clear hq HA
            go_wp2
            go_roundw
            case rel => exact ⟨y, i + 1, rfl, by first | rfl | (congr 1; omega), by omega, by omega, HQ1.out, fun hc => by omega⟩
            case measure => simp [intOf]; omega
        · obtain rfl : k = L.length := by omega
          have HN : Hid (y ≤ 720 → Z = y + szB (bs.drop (i + 1))) := fun hy => by have h8 := hq.out.2 hy; rw [argS_end] at h8; omega
          have HQ1 : Hid _ := hq.out.1
          clear HI hq
          go_wp2
          go_roundw
          case rel => exact ⟨y, i + 1, rfl, by first | rfl | (congr 1; omega), by omega, by omega, HQ1.out, HN.out⟩
          case measure => simp [intOf]; omega
    · obtain rfl : i = n := by omega
      have HZ : Hid (Z ≤ 720) := by have h8 := hr.out.2 (by omega); rw [HSE.out] at h8; show _ ≤ _; omega
      have HX : Hid _ := hr.out.1.1
      clear HB HSD HSE hr
      by_cases h2 : 240 < m
      · have h2' : (240 : Int) < m := by omega
        go_wp2
        go_ret
        first | exact ⟨true, rfl, HCT.out, HX.out⟩ | exact Or.inr ⟨rfl, HCT.out, HX.out⟩
      have h2' : ¬ (240 : Int) < m := by omega
      by_cases h3 : 720 < al
      · have h3' : (720 : Int) < al := by omega
        go_wp2
        go_ret
        first | exact ⟨true, rfl, HCT.out, HX.out⟩ | exact Or.inr ⟨rfl, HCT.out, HX.out⟩
      have h3' : ¬ (720 : Int) < al := by omega
      by_cases h4 : 120 < pl
      · have h4' : (120 : Int) < pl := by omega
        go_wp2
        go_ret
        first | exact ⟨true, rfl, HCT.out, HX.out⟩ | exact Or.inr ⟨rfl, HCT.out, HX.out⟩
      have h4' : ¬ (120 : Int) < pl := by omega
      have HM : Hid (m ≤ 240) := by show _ ≤ _; omega
      go_wp2
      go_ret
      first | exact ⟨false, rfl, HCF.out ⟨HZ.out, HM.out⟩, HX.out⟩ | exact Or.inl ⟨rfl, HCF.out ⟨HZ.out, HM.out⟩, HX.out⟩
end Go.Proofs.YtcggbedjhglmmaaGreatDoor
/- The law LiveTells: its run. -/
namespace Go.Proofs.YtcggbedjhglmmaaGreatDoor
open Go.RowKit

theorem lvpost_yes {w : World} {bs : List Bl} {ah : List (List Int)} {n vl : Nat} {e : Ending} {w' : World} (hn : n ≤ 100000) (hv : vl ≤ 800000) (h : LvPost w true bs ah n vl e w') :
    (∃ gA gB, e = .returned (.tuple #[.slice (some ⟨gA, 0, none⟩) n n, .slice (some ⟨gB, 0, none⟩) n n, .int .i64 0]) ∧ NetAt w' (.slice (some ⟨gA, 0, none⟩) n n) ((List.range n).map fun i => rowV (fun v => liveIn bs ah v i) vl) ∧ NetAt w' (.slice (some ⟨gB, 0, none⟩) n n) ((List.range n).map fun i => rowV (fun v => liveOut bs ah v i) vl)) ∧ Below w.heap.size w w' := by
  obtain ⟨hb, ⟨hf, _⟩ | ⟨_, gA, gB, ka, kb, he, h1, h2⟩⟩ := h
  · exact absurd hf (by decide)
  · refine ⟨⟨gA, gB, he, h1.at' (by omega) ?_, h2.at' (by omega) ?_⟩, hb⟩
    · intro r hr
      obtain ⟨i, _, rfl⟩ := List.mem_map.1 hr
      exact Nat.le_trans (rowV_len _ _) (by omega)
    · intro r hr
      obtain ⟨i, _, rfl⟩ := List.mem_map.1 hr
      exact Nat.le_trans (rowV_len _ _) (by omega)
theorem lvpost_no {w : World} {bs : List Bl} {ah : List (List Int)} {n vl : Nat} {e : Ending} {w' : World} (h : LvPost w false bs ah n vl e w') : e = .returned (.tuple #[.slice none 0 0, .slice none 0 0, .int .i64 4]) ∧ Below w.heap.size w w' := by
  obtain ⟨hb, ⟨_, he⟩ | ⟨hf, _⟩⟩ := h
  · exact ⟨he, hb⟩
  · exact absurd hf (by decide)
theorem net_nil (w : World) : NetAt w (.slice none 0 0) ([] : List (List Int)) := ⟨[], rfl, row_nil _ _, fun i r kv hr => by simp at hr⟩
set_option maxRecDepth 100000 in
set_option maxHeartbeats 4000000 in
theorem tells_any (G : Gr) (pv vv av bv : Value) (w : World) (h : GrAt w pv vv av bv G) (hT : Tabs w) :
    Calls Tryz.prog 3 #[.agg #[.string G.name, pv, .int .u8 G.result, vv, av, bv]] w fun e w' => e = .returned (.bool true) ∧ Below w.heap.size w w' := by
  have HGR : Hid (∀ W, Below w.heap.size w W → _) := fun W hb => greatL_any G pv vv av bv W (h.below hb)
  have HAW : Hid (∀ W, Below w.heap.size w W → Calls Tryz.prog 6 #[] W fun e w' => e = .returned (.bool true) ∧ Below W.heap.size W w') := fun W hb => awakeL_any W (hT.below hb)
  have HLV : Hid (szB G.blocks ≤ 720 → G.vars.length ≤ 240 → ∀ W, Below w.heap.size w W → Calls Tryz.prog 7 #[.agg #[.string G.name, pv, .int .u8 G.result, vv, av, bv]] W fun e w' => LvPost W (aloneG G) G.blocks (aheadT (tms G.blocks)) G.blocks.length G.vars.length e w') := fun h1 h2 W hb => live_any G pv vv av bv W (h.below hb) (hT.below hb).1 (hT.below hb).2 (by omega) (by have := szB_len G.blocks; omega) (by omega)
  have HRV : Hid (szB G.blocks ≤ 720 → G.vars.length ≤ 240 → ∀ W, Below w.heap.size w W → Calls Tryz.prog 8 #[.agg #[.string G.name, pv, .int .u8 G.result, vv, av, bv]] W fun e w' => LvPost W (aloneG G) G.blocks (aheadT (tms G.blocks)) G.blocks.length G.vars.length e w') := fun h1 h2 W hb => rlive_any G pv vv av bv W (h.below hb) (by omega) (by have := szB_len G.blocks; omega) (by omega)
  have HNB : Hid (szB G.blocks ≤ 720 → G.blocks.length ≤ 100000) := fun h1 => by have := szB_len G.blocks; omega
  obtain ⟨pa, pc, va, vc, aa, ac, ba, bc, rfl, rfl, rfl, rfl, _, _, _, _⟩ := h.openF
  clear h hT
  generalize aheadT (tms G.blocks) = ah at *
  generalize aloneG G = AG at *
  obtain ⟨nm, ps, r, vs, ars, bs⟩ := G
  dsimp only at *
  generalize ps.length = pl at *
  generalize vs.length = m at *
  generalize ars.length = al at *
  generalize bs.length = n at *
  generalize hZ : szB bs = Z at *
  clear hZ
  have HBX0 : Hid (Box (w.alloc (.cells #[.string nm, .slice pa pl pc, .int .u8 r, .slice va m vc, .slice aa al ac, .slice ba n bc] 28)) w.heap.size [.string nm, .slice pa pl pc, .int .u8 r, .slice va m vc, .slice aa al ac, .slice ba n bc] ∧ Below w.heap.size w (w.alloc (.cells #[.string nm, .slice pa pl pc, .int .u8 r, .slice va m vc, .slice aa al ac, .slice ba n bc] 28))) := ⟨Box.new w [.string nm, .slice pa pl pc, .int .u8 r, .slice va m vc, .slice aa al ac, .slice ba n bc] 28, below_alloc (Below.refl _ _) _⟩
  have S1 : True := trivial
  cases AG
  · go_enter Tryz.func3, Tryz.ntmps3
    go_wp2_with (first
    | (go_at_call 5; go_loud (refine Calls.mono (by exact HGR.out _ HBX0.out.2) ?_; rintro e w2 ⟨bg, rfl, hng, hb⟩; have HNG : Hid (Hid (bg = false → Z ≤ 720 ∧ m ≤ 240)) := hng; have H2 : Hid (Below w.heap.size w w2 ∧ Box w2 w.heap.size [.string nm, .slice pa pl pc, .int .u8 r, .slice va m vc, .slice aa al ac, .slice ba n bc]) := ⟨below_trans HBX0.out.2 hb, HBX0.out.1.below hb⟩; obtain ⟨g0, g1, g2, g3, g4, g5⟩ := box6 H2.out.2; clear hb hng; cases bg))
    | (go_at_call 7; go_loud (have hbd : Z ≤ 720 ∧ m ≤ 240 := (by first | exact HNG.out.out rfl | exact HNG.out.out | exact HNG.out trivial); refine Calls.mono (by exact HLV.out hbd.1 hbd.2 _ H2.out.1) ?_; rintro e w3 hp; obtain ⟨rfl, hb⟩ := lvpost_no hp; have H3 : Hid (Below w.heap.size w w3 ∧ Box w3 w.heap.size [.string nm, .slice pa pl pc, .int .u8 r, .slice va m vc, .slice aa al ac, .slice ba n bc]) := ⟨below_trans H2.out.1 hb, H2.out.2.below hb⟩; obtain ⟨h0, h1, h2, h3, h4, h5⟩ := box6 H3.out.2; clear hp hb hbd))
    | (go_at_call 8; go_loud (have hbd : Z ≤ 720 ∧ m ≤ 240 := (by first | exact HNG.out.out rfl | exact HNG.out.out | exact HNG.out trivial); refine Calls.mono (by exact HRV.out hbd.1 hbd.2 _ H3.out.1) ?_; rintro e w4 hp; obtain ⟨rfl, hb⟩ := lvpost_no hp; have H4 : Hid (Below w.heap.size w w4 ∧ Box w4 w.heap.size [.string nm, .slice pa pl pc, .int .u8 r, .slice va m vc, .slice aa al ac, .slice ba n bc]) := ⟨below_trans H3.out.1 hb, H3.out.2.below hb⟩; clear hp hb hbd))
    | (go_at_call 9; clear S1; go_loud (refine Calls.mono (by exact sameR_yes _ _ _ _ (net_nil _) (net_nil _)) ?_; rintro e w5 ⟨rfl, hd5⟩; have H5 : Hid (Below w.heap.size w w5) := below_trans H4.out.1 (below_of_drew hd5); clear hd5))
    | (go_at_call 9; go_loud (refine Calls.mono (by exact sameR_yes _ _ _ _ (net_nil _) (net_nil _)) ?_; rintro e w6 ⟨rfl, hd6⟩; have H6 : Hid (Below w.heap.size w w6) := below_trans H5.out (below_of_drew hd6); clear hd6))
    | (go_at_call 6; go_loud (refine Calls.mono (by exact HAW.out _ (by first | exact H6.out | exact H2.out.1)) ?_; rintro e w7 ⟨rfl, hb7⟩; have H7 : Hid (Below w.heap.size w w7) := below_trans (by first | exact H6.out | exact H2.out.1) hb7; clear hb7)))
    all_goals (go_ret; exact ⟨rfl, H7.out⟩)
  · go_enter Tryz.func3, Tryz.ntmps3
    go_wp2_with (first
    | (go_at_call 5; go_loud (refine Calls.mono (by exact HGR.out _ HBX0.out.2) ?_; rintro e w2 ⟨bg, rfl, hng, hb⟩; have HNG : Hid (Hid (bg = false → Z ≤ 720 ∧ m ≤ 240)) := hng; have H2 : Hid (Below w.heap.size w w2 ∧ Box w2 w.heap.size [.string nm, .slice pa pl pc, .int .u8 r, .slice va m vc, .slice aa al ac, .slice ba n bc]) := ⟨below_trans HBX0.out.2 hb, HBX0.out.1.below hb⟩; obtain ⟨g0, g1, g2, g3, g4, g5⟩ := box6 H2.out.2; clear hb hng; cases bg))
    | (go_at_call 7; go_loud (have hbd : Z ≤ 720 ∧ m ≤ 240 := (by first | exact HNG.out.out rfl | exact HNG.out.out | exact HNG.out trivial); refine Calls.mono (by exact HLV.out hbd.1 hbd.2 _ H2.out.1) ?_; rintro e w3 hp; obtain ⟨⟨a_w3, b_w3, rfl, hi, ho⟩, hb⟩ := lvpost_yes (HNB.out hbd.1) (by omega) hp; have HI_w3 : Hid _ := hi; have HO_w3 : Hid _ := ho; have H3 : Hid (Below w.heap.size w w3 ∧ Box w3 w.heap.size [.string nm, .slice pa pl pc, .int .u8 r, .slice va m vc, .slice aa al ac, .slice ba n bc]) := ⟨below_trans H2.out.1 hb, H2.out.2.below hb⟩; obtain ⟨h0, h1, h2, h3, h4, h5⟩ := box6 H3.out.2; clear hp hb hbd hi ho))
    | (go_at_call 8; go_loud (have hbd : Z ≤ 720 ∧ m ≤ 240 := (by first | exact HNG.out.out rfl | exact HNG.out.out | exact HNG.out trivial); refine Calls.mono (by exact HRV.out hbd.1 hbd.2 _ H3.out.1) ?_; rintro e w4 hp; obtain ⟨⟨a_w4, b_w4, rfl, hi, ho⟩, hb⟩ := lvpost_yes (HNB.out hbd.1) (by omega) hp; have HI_w4 : Hid _ := hi; have HO_w4 : Hid _ := ho; have H4 : Hid (Below w.heap.size w w4 ∧ Box w4 w.heap.size [.string nm, .slice pa pl pc, .int .u8 r, .slice va m vc, .slice aa al ac, .slice ba n bc]) := ⟨below_trans H3.out.1 hb, H3.out.2.below hb⟩; have HI_o : Hid _ := HI_w3.out.below hb; have HO_o : Hid _ := HO_w3.out.below hb; clear hp hb hbd hi ho))
    | (go_at_call 9; clear S1; go_loud (refine Calls.mono (by exact sameR_yes _ _ _ _ HI_o.out HI_w4.out) ?_; rintro e w5 ⟨rfl, hd5⟩; have hb5 := below_of_drew hd5; have H5 : Hid (Below w.heap.size w w5) := below_trans H4.out.1 hb5; have HO_p : Hid _ := HO_o.out.below hb5; have HO_q : Hid _ := HO_w4.out.below hb5; clear hd5 hb5))
    | (go_at_call 9; go_loud (refine Calls.mono (by exact sameR_yes _ _ _ _ HO_p.out HO_q.out) ?_; rintro e w6 ⟨rfl, hd6⟩; have H6 : Hid (Below w.heap.size w w6) := below_trans H5.out (below_of_drew hd6); clear hd6))
    | (go_at_call 6; go_loud (refine Calls.mono (by exact HAW.out _ (by first | exact H6.out | exact H2.out.1)) ?_; rintro e w7 ⟨rfl, hb7⟩; have H7 : Hid (Below w.heap.size w w7) := below_trans (by first | exact H6.out | exact H2.out.1) hb7; clear hb7)))
    all_goals (go_ret; exact ⟨rfl, H7.out⟩)
end Go.Proofs.YtcggbedjhglmmaaGreatDoor
