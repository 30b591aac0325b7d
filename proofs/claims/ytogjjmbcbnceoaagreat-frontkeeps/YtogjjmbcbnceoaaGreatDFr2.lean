/- The fronts, as the document finds them. -/
import Derived.Test.YtogjjmbcbnceoaaGreatDFr1
namespace Go.Proofs.YtogjjmbcbnceoaaGreat
open Go.RowKit

theorem infoS1 : (Tryz.prog.info? 23).map (fun i => (i.zero, i.size, i.bytes)) = some (some (.slice none 0 0), 1, 24) := by kernel_rfl
set_option maxRecDepth 100000 in
set_option maxHeartbeats 4000000 in
theorem rfronts_any (nx : List (List Int)) (v : Value) (w : World) (h : NetAt w v nx) (hn : nx.length ≤ 100000) :
    Calls Tryz.prog 26 #[v] w fun e w' => (May nx → ∃ v', e = .returned (.tuple #[v', .int .i64 0]) ∧ NetG w' w.heap.size v' (frontsL nx)) ∧ (¬ May nx → e = .returned (.tuple #[.slice none 0 0, .int .i64 4])) ∧ Below w.heap.size w w' := by
  obtain ⟨va, vc, rfl, _⟩ := h.form
  have HMY : Hid _ := rmay_any nx _ w h
  by_cases hM : May nx
  rotate_left
  · rw [dec_false hM] at HMY
    have HM : Hid (¬ May nx) := hM
    clear hM h
    go_enter Tryz.func26, Tryz.ntmps26
    go_wp2_with (go_at_call 35; go_loud (refine Calls.mono (by exact HMY.out) ?_; rintro e w1 ⟨rfl, hb1⟩; have HB1 : Hid _ := hb1; clear hb1))
    go_ret2
    exact ⟨fun h9 => absurd h9 HM.out, fun _ => rfl, HB1.out⟩
  rw [dec_true hM] at HMY
  have HM : Hid (May nx) := hM
  have HOV : Hid (∀ W, Below w.heap.size w W → _) := fun W hb => rovers_any nx _ W (h.below hb) hM hn
  have HI : Hid (∀ i, i < nx.length → _) := fun i hi => h.get (i := i) hi
  have HTT : Hid (∀ a, a < nx.length → _) := fun a ha => fronts_take (nx := nx) ha
  have HTE : Hid ((frontsL nx).take nx.length = frontsL nx) := by show _ = _; rw [← frontsL_len nx, List.take_length]
  have HFA : Hid (∀ a, nodesL nx.length (Fr nx a) = frontL nx a) := fun a => rfl
  have HMA : Hid (∀ a b, Fr nx a b ↔ MetTo nx a b nx.length ∧ ¬ (a ≠ b ∧ Ov nx a b)) := fun a b => met_all hM
  clear h hM
  obtain ⟨n, hnn⟩ : ∃ n, n = nx.length := ⟨_, rfl⟩
  have HNN : Hid (n = nx.length) := hnn
  rw [← hnn] at HOV HTT HTE hn HMY HI HMA HFA
  rw [← hnn]
  clear hnn
  obtain ⟨i0, hi0, hz0, hz1, hz2⟩ := info_parts infoI
  obtain ⟨j0, hj0, hy0, hy1, hy2⟩ := info_parts infoS1
  go_enter Tryz.func26, Tryz.ntmps26
  go_wp2_with (first
    | (go_at_call 35; go_loud (refine Calls.mono (by exact HMY.out) ?_; rintro e w0 ⟨rfl, hb0⟩; have HB0 : Hid _ := hb0; clear hb0))
    | (go_at_call 36; go_loud (refine Calls.mono (by exact HOV.out _ HB0.out) ?_; rintro e w1 ⟨Bo, kvs, rfl, hs1⟩; have HS1 : Hid _ := hs1; clear hs1)))
  have HB1 : Hid (Below w.heap.size w w1) := below_trans HB0.out HS1.out.bel
  have HRD : Hid (∀ a b, a < n → b < n → _) := fun a b ha hb => HS1.out.read HNN.out ha hb
  clear HMY HOV HB0 HS1
  go_loopw [5, 6] (fun vl va wr => ∃ (a : Nat) (rows : List (List Int)), va = .int .i64 a ∧ a ≤ n ∧ Hid (Below w1.heap.size w1 wr ∧ NetG wr w1.heap.size vl rows ∧ rows = (frontsL nx).take a ∧ rows.length = a)) (fun _ va _ => n - (intOf va).toNat)
  case atStart => exact ⟨0, [], rfl, by omega, Below.refl _ _, NetG.nil _ _, by simp, rfl⟩
  case round =>
    obtain ⟨a, rows, rfl, ha, hr⟩ := hrel
    generalize wr = wo at *
    by_cases han : a < n
    · have han' : (a : Int) < n := by omega
      go_wp2
      go_loopw [7, 8] (fun vl vb wq => ∃ (b : Nat) (l : List Int), vb = .int .i64 b ∧ b ≤ n ∧ Hid (Below wo.heap.size wo wq ∧ OwnI wq wo.heap.size vl l ∧ l = nodesL b (Fr nx a) ∧ l.length ≤ b)) (fun _ vb _ => n - (intOf vb).toNat)
      case atStart => exact ⟨0, [], rfl, by omega, Below.refl _ _, World.ownsRow_nil _ _ _ _, rfl, by simp⟩
      case round =>
        obtain ⟨b, l, rfl, hb, hq⟩ := hrel
        generalize wr = wb at *
        by_cases hbn : b < n
        · have hbn' : (b : Int) < n := by omega
          have HBB : Hid (Below w1.heap.size w1 wb) := below_trans hr.out.1 hq.out.1
          go_wp2
          go_loopw [9, 10] (fun vm vc wq => ∃ (c : Nat) (m : Bool), vc = .int .i64 c ∧ c ≤ n ∧ vm = .bool m ∧ Hid (m = dec (MetTo nx a b c) ∧ wq = wb)) (fun _ vc _ => n - (intOf vc).toNat)
          case atStart => exact ⟨0, false, rfl, by omega, rfl, (met_zero nx a b).symm, rfl⟩
          case round =>
            obtain ⟨c, m, rfl, hc, rfl, hs⟩ := hrel
            have hwq := hs.out.2
            subst hwq
            by_cases hcn : c < n
            · have hcn' : (c : Int) < n := by omega
              cases m with
              | true =>
                have HX : Hid (true = dec (MetTo nx a b (c + 1))) := (met_old hs.out.1.symm).symm
                clear HRD HI
                go_wp2
                go_roundw
                case rel => exact ⟨c + 1, true, by first | rfl | (congr 1; omega), by omega, rfl, HX.out, by first | rfl | trivial⟩
                case measure => simp [intOf]; omega
              | false =>
                have HMN : Hid _ := met_new (nx := nx) (a := a) (b := b) (c := c) hs.out.1.symm
                obtain ⟨g, ⟨hg, hBo⟩, cB, cg⟩ := HRD.out a c han hcn
                have cB' : wr.cell? ⟨Bo, a, none⟩ = some (.slice (some ⟨g, 0, none⟩) n n) := (HBB.out.cell (p := ⟨Bo, a, none⟩) hBo).trans cB
                have cg' : wr.cell? ⟨g, c, none⟩ = some (.bool (dec (Ov nx a c))) := (HBB.out.cell (p := ⟨g, c, none⟩) hg).trans cg
                clear cB cg
                obtain ⟨ng, no, ra, rc, rfl, hng, nc0, hIr⟩ := HI.out c hcn
                have hw1 : w.heap.size ≤ w1.heap.size := HB1.out.size
                have nc' : wr.cell? ⟨ng, no + c, none⟩ = some (.slice ra (nx.getD c []).length rc) := (HBB.out.cell (p := ⟨ng, no + c, none⟩) (by show ng < w1.heap.size; omega)).trans ((HB1.out.cell (p := ⟨ng, no + c, none⟩) hng).trans nc0)
                have HHS : Hid _ := has_any (nx.getD c []) (b : Int) _ wr ((hIr.below HB1.out).below HBB.out)
                clear nc0 hIr HRD HI
                generalize (nx.getD c []).length = rl at *
                generalize amongB (nx.getD c []) (b : Int) = hm at *
                rcases hov : dec (Ov nx a c) with _ | _
                · rw [hov] at cg' HMN
                  have HX : Hid (false = dec (MetTo nx a b (c + 1))) := by show _ = _; rw [HMN.out]; rfl
                  clear hov HMN HHS
                  go_wp2
                  go_roundw
                  case rel => exact ⟨c + 1, false, by first | rfl | (congr 1; omega), by omega, rfl, HX.out, by first | rfl | trivial⟩
                  case measure => simp [intOf]; omega
                · rw [hov] at cg' HMN
                  have HX : Hid (hm = dec (MetTo nx a b (c + 1))) := by show _ = _; rw [HMN.out, Bool.true_and]
                  clear hov HMN
                  go_wp2_with (go_at_call 46; go_loud (refine Calls.mono (by exact HHS.out) ?_; rintro e w5 ⟨rfl, hw5⟩; have hw6 := hw5.symm; subst hw6))
                  go_roundw
                  case rel => exact ⟨c + 1, hm, by first | rfl | (congr 1; omega), by omega, rfl, HX.out, by first | rfl | trivial⟩
                  case measure => simp [intOf]; omega
            · obtain rfl : c = n := by omega
              have HMB : Hid (m = dec (MetTo nx a b c)) := hs.out.1
              have HFR : Hid _ := HMA.out a b
              have HNS : Hid _ := nodesL_succ b (Fr nx a)
              have HLN : Hid (l.length ≤ b) := hq.out.2.2.2
              cases m with
              | false =>
                have HX : Hid (l = nodesL (b + 1) (Fr nx a)) := by
                  show l = _
                  rw [HNS.out, dec_false (fun hf => by have h8 := (HFR.out.1 hf).1; have h9 := HMB.out; rw [dec_true h8] at h9; cases h9), hq.out.2.2.1]
                  simp
                clear HRD HI HNS HFR hs
                go_wp2
                go_roundw
                case rel => exact ⟨b + 1, l, by first | rfl | (congr 1; omega), by omega, hq.out.1, hq.out.2.1, HX.out, by have := HLN.out; omega⟩
                case measure => simp [intOf]; omega
              | true =>
                have HMT : Hid (MetTo nx a b c) := dec_iff.1 HMB.out.symm
                -- put, if the nearest does not bar it
                have HPUT : Hid (¬ (a ≠ b ∧ Ov nx a b) → l ++ [(b : Int)] = nodesL (b + 1) (Fr nx a)) := fun hh => by
                  rw [HNS.out, dec_true (HFR.out.2 ⟨HMT.out, hh⟩), hq.out.2.2.1]
                  rfl
                have HSKIP : Hid (a ≠ b ∧ Ov nx a b → l = nodesL (b + 1) (Fr nx a)) := fun hh => by
                  rw [HNS.out, dec_false (fun hf => (HFR.out.1 hf).2 hh), hq.out.2.2.1]
                  simp
                have HOW : Hid (OwnI wr wo.heap.size _ l) := hq.out.2.1
                by_cases hab : a = b
                · subst hab
                  have HX : Hid _ := HPUT.out (fun h9 => h9.1 rfl)
                  clear HRD HI HNS HFR hs HPUT HSKIP
                  go_wp2_with (at_builtin; go_loud (refine wpList_append_own_at _ rfl _ _ 23 rfl wo.heap.size 3 i0 (.int .i64 0) 1 8 Tryz.underlying23 hi0 hz0 hz1 hz2 rfl (by decide) _ l.length (l.map intV) rfl (HOW.out.alloc _) ⟨wr.heap.size, 0, none⟩ 1 1 [intV a] rfl rfl ?c1 ?c2 ?c3 ?c4 ?c5 ?_))
                  case c1 => exact cell_one_new wr (intV a) 3
                  case c2 => intro u hu; simp at hu; subst hu; rfl
                  case c3 => have := HLN.out; unfold maxLen; omega
                  case c4 => have := HLN.out; omega
                  case c5 => have := hq.out.1.size; simp; omega
                  intro v2 w2 ho hg2 _ hat
                  have HF : Hid (Below wo.heap.size wo w2) := below_grown (below_alloc hq.out.1 (.cells #[intV a] 3)) hg2 (fun q hqq => (HOW.out.lt q hqq).1)
                  have HO : Hid (OwnI w2 wo.heap.size v2 (l ++ [(a : Int)])) := by
                    show World.ownsRow _ _ _ _ _ _ _
                    simpa using ho
                  clear ho hg2 hat
                  go_wp2
                  go_roundw
                  case rel => exact ⟨a + 1, l ++ [(a : Int)], by first | rfl | (congr 1; omega), by omega, HF.out, HO.out, HX.out, by have := HLN.out; simp; omega⟩
                  case measure => simp [intOf]; omega
                · have hnab : ((a : Int) != (b : Int)) = true := bne_iff_ne.2 (by omega)
                  have habn : ¬ (a : Int) = (b : Int) := by omega
                  obtain ⟨g, ⟨hg, hBo⟩, cB, cg⟩ := HRD.out a b han hbn
                  have cB' : wr.cell? ⟨Bo, a, none⟩ = some (.slice (some ⟨g, 0, none⟩) c c) := (HBB.out.cell (p := ⟨Bo, a, none⟩) hBo).trans cB
                  have cg' : wr.cell? ⟨g, b, none⟩ = some (.bool (dec (Ov nx a b))) := (HBB.out.cell (p := ⟨g, b, none⟩) hg).trans cg
                  clear cB cg
                  by_cases hO : Ov nx a b
                  · have HX : Hid _ := HSKIP.out ⟨hab, hO⟩
                    rw [dec_true hO] at cg'
                    clear HRD HI HNS HFR hs HPUT HSKIP hO
                    go_wp2
                    go_roundw
                    case rel => exact ⟨b + 1, l, by first | rfl | (congr 1; omega), by omega, hq.out.1, HOW.out, HX.out, by have := HLN.out; omega⟩
                    case measure => simp [intOf]; omega
                  · have HX : Hid _ := HPUT.out (fun h9 => hO h9.2)
                    rw [dec_false hO] at cg'
                    clear HRD HI HNS HFR hs HPUT HSKIP hO
                    go_wp2_with (at_builtin; go_loud (refine wpList_append_own_at _ rfl _ _ 23 rfl wo.heap.size 3 i0 (.int .i64 0) 1 8 Tryz.underlying23 hi0 hz0 hz1 hz2 rfl (by decide) _ l.length (l.map intV) rfl (HOW.out.alloc _) ⟨wr.heap.size, 0, none⟩ 1 1 [intV b] rfl rfl ?c1 ?c2 ?c3 ?c4 ?c5 ?_))
                    case c1 => exact cell_one_new wr (intV b) 3
                    case c2 => intro u hu; simp at hu; subst hu; rfl
                    case c3 => have := HLN.out; unfold maxLen; omega
                    case c4 => have := HLN.out; omega
                    case c5 => have := hq.out.1.size; simp; omega
                    intro v2 w2 ho hg2 _ hat
                    have HF : Hid (Below wo.heap.size wo w2) := below_grown (below_alloc hq.out.1 (.cells #[intV b] 3)) hg2 (fun q hqq => (HOW.out.lt q hqq).1)
                    have HO : Hid (OwnI w2 wo.heap.size v2 (l ++ [(b : Int)])) := by
                      show World.ownsRow _ _ _ _ _ _ _
                      simpa using ho
                    clear ho hg2 hat
                    go_wp2
                    go_roundw
                    case rel => exact ⟨b + 1, l ++ [(b : Int)], by first | rfl | (congr 1; omega), by omega, HF.out, HO.out, HX.out, by have := HLN.out; simp; omega⟩
                    case measure => simp [intOf]; omega
        · obtain rfl : b = n := by omega
          obtain ⟨la, lc, hle, _⟩ := (OwnI.at' hq.out.2.1 (by have := hq.out.2.2.2; omega)).form
          subst hle
          have HX : Hid (rows ++ [l] = (frontsL nx).take (a + 1)) := by
            show _ = _
            rw [HTT.out a han, ← hr.out.2.2.1, hq.out.2.2.1, HFA.out]
          have HLL : Hid (rows.length = a) := hr.out.2.2.2
          have HBB : Hid (Below w1.heap.size w1 wb) := below_trans hr.out.1 hq.out.1
          obtain ⟨kvs2, hkl, hown, hkid⟩ := hr.out.2.1.below hq.out.1
          have HOL : Hid (OwnI wb w1.heap.size (.slice la l.length lc) l) := own_mono hq.out.2.1 hr.out.1.size
          have HAPT : Hid (∀ g, (Value.slice la l.length lc).ownBlock = some g → u5.ownBlock ≠ some g) := fun g hg e => by
            have h1 := (hq.out.2.1.lt g hg).1
            obtain ⟨k9, h9⟩ := hr.out.2.1.own
            have h2 := (h9.lt g e).2
            omega
          have HK : Hid _ := hkid
          have HOWN : Hid (wb.ownsRow w1.heap.size 23 1 u5 rows.length kvs2) := hown
          have HKL : Hid _ := hkl
          clear hkid hown hkl HRD HTT HI
          go_wp2_with (at_builtin; go_loud (refine wpList_append_own_at _ rfl _ _ 22 rfl w1.heap.size 23 j0 (.slice none 0 0) 1 24 Tryz.underlying22 hj0 hy0 hy1 hy2 rfl (by decide) _ rows.length kvs2 rfl (HOWN.out.alloc _) ⟨wb.heap.size, 0, none⟩ 1 1 [(.slice la l.length lc)] rfl rfl ?c1 ?c2 ?c3 ?c4 ?c5 ?_))
          case c1 => exact cell_one_new wb (.slice la l.length lc) 23
          case c2 =>
            intro u hu
            simp at hu
            subst hu
            rfl
          case c3 => have := HLL.out; unfold maxLen; omega
          case c4 => have := HLL.out; omega
          case c5 => have := HBB.out.size; simp; omega
          intro v2 w2 ho hg2 _ hat
          have HF : Hid (Below w1.heap.size w1 w2) := below_grown (below_alloc HBB.out (.cells #[(.slice la l.length lc)] 23)) hg2 (fun q hqq => (HOWN.out.lt q hqq).1)
          have HO : Hid (NetG w2 w1.heap.size v2 (rows ++ [l])) := NetG.push (w := wb.alloc (.cells #[(.slice la l.length lc)] 23)) HKL.out (fun i r kv e1 e2 => ⟨owns_below (HK.out i r kv e1 e2).1 (below_alloc (Below.refl _ _) _), (HK.out i r kv e1 e2).2⟩) (owns_below HOL.out (below_alloc (Below.refl _ _) _)) HAPT.out ho hg2 (by simpa using hat)
          clear ho hg2 hat
          go_wp2
          go_roundw
          case rel => exact ⟨a + 1, rows ++ [l], by first | rfl | (congr 1; omega), by omega, HF.out, HO.out, HX.out, by simp [HLL.out]⟩
          case measure => simp [intOf]; omega
    · obtain rfl : a = n := by omega
      have HX : Hid (rows = frontsL nx) := by show _ = _; rw [hr.out.2.2.1, HTE.out]
      clear HRD HTT HI
      go_wp2
      go_ret2
      exact ⟨fun _ => ⟨_, rfl, by rw [← HX.out]; exact hr.out.2.1.mono HB1.out.size⟩, fun h9 => absurd HM.out h9, below_trans HB1.out hr.out.1⟩
end Go.Proofs.YtogjjmbcbnceoaaGreat
