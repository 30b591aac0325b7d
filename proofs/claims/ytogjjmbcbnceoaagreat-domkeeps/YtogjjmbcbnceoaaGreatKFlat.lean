/- Lists of numbers that lie apart: the innermost walk. -/
import Derived.Test.YtogjjmbcbnceoaaGreatKFl3M
import Derived.Test.YtogjjmbcbnceoaaGreatKOverM
import Derived.Test.YtogjjmbcbnceoaaGreatDOrd
namespace Go.Proofs.YtogjjmbcbnceoaaGreat
open Go.RowKit

theorem getD_vs {l : List Value} {k : Nat} (h : k < l.length) : l[k]? = some (l.getD k nilV) := by rw [getD_of h, List.getElem?_eq_getElem h]
theorem marks_at {k : Int} {n i : Nat} (h : i < n) {l t : List Int} (e : l = marks k n ++ t) : l[i]? = some (markI k (i : Int)) := by
  rw [e, List.getElem?_append_left (by rw [marks_len]; exact h)]
  exact marks_get h
set_option maxRecDepth 100000 in
set_option maxHeartbeats 4000000 in
theorem flat_ok : FlatOk := fun base v vs ls W hn hbase hv hA hap => by
  obtain ⟨va, vc, hve, hvg⟩ := own_slK hv
  have hF0 := FL.of hA
  obtain ⟨vf, hvf⟩ : ∃ vf : Nat → Value, vf = fun k => vs.getD k nilV := ⟨_, rfl⟩
  obtain ⟨R0, hR0⟩ : ∃ R0 : Nat → List Int, R0 = fun k => ls.getD k [] := ⟨_, rfl⟩
  rw [← hvf, ← hR0] at hF0
  have HV : Hid (∀ wr, Only W wr (rowBl vs) → ∀ k, k < vs.length → ∃ gV, va = some ⟨gV, 0, none⟩ ∧ wr.cell? ⟨gV, k, none⟩ = some (vf k)) := fun wr ho k hk => by
    obtain ⟨g, e, hg⟩ := hvg (by omega)
    refine ⟨g, e, ?_⟩
    subst e
    have h4 := ho.same g hg (fun ⟨x, hx, hxg⟩ => hap x hx g hxg (by rw [hve]; rfl))
    rw [hve] at hv
    rw [World.cell?_of_block (a := ⟨g, k, none⟩) h4, hv.cellAt k (by omega), getD_vs hk, hvf]
  have HL0 : Hid (∀ k, k < vs.length → (R0 k).length ≤ 100000) := fun k hk => by
    rw [hR0]
    show (ls.getD k []).length ≤ 100000
    exact (hA.own k _ _ (getD_vs hk) (by rw [getD_of (show k < ls.length by rw [← hA.len]; exact hk), List.getElem?_eq_getElem])).2
  have HSV : Hid (∀ j, j < vs.length → ∀ g, (vf j).ownBlock = some g → rowBl vs g) := fun j hj g hg => ⟨vf j, by rw [hvf]; exact List.mem_of_getElem? (getD_vs hj), hg⟩
  have HSL : Hid (∀ g, rowBl vs g → g < W.heap.size) := fun g ⟨x, hx, hg⟩ => (hA.lt hx hg).2
  obtain ⟨S, hS⟩ : ∃ S, S = rowBl vs := ⟨_, rfl⟩
  rw [← hS] at HV HSV HSL ⊢
  obtain ⟨n, hnn⟩ : ∃ n, n = vs.length := ⟨_, rfl⟩
  rw [← hnn] at HV HL0 HSV hF0 hn hve
  have HF0 : Hid (FL W base n vf vf R0 R0) := hF0
  have HMK : Hid (∀ (k i : Int), 0 ≤ k → k ≤ 1000000 → 0 ≤ i → i ≤ 1000000000 → ∀ W, Calls Tryz.prog 29 #[.int .i64 k, .int .i64 i] W fun e w' => e = .returned (.int .i64 (markI k i)) ∧ ∃ d, w' = W.drewN d) := fun k i h1 h2 h3 h4 W => (mark_any k i h1 h2 h3 h4 W).mono fun e w' hh => ⟨hh.1, 0, hh.2 ▸ rfl⟩
  have HMK0 : Hid (∀ (k i : Int), 0 ≤ k → k ≤ 1000000 → 0 ≤ i → i ≤ 1000000000 → ∀ W, Calls Tryz.prog 29 #[.int .i64 k, .int .i64 i] W fun e w' => e = .returned (.int .i64 (markI k i)) ∧ W = w') := fun k i h1 h2 h3 h4 W => mark_any k i h1 h2 h3 h4 W
  have hmk2 : ∀ w : World, (Instr.makeSlice 23 (.int .i64 64) (.int .i64 64)).run Tryz.prog w = .ok (.slice (some ⟨w.heap.size, 0, none⟩) 64 64) (w.alloc (.cells (madeCells #[.int .i64 0] 64) 3)) := fun w => run_make_row' (P := Tryz.prog) 23 3 (.int .i64 0) 8 Tryz.underlying23 infoI rfl .i64 .i64 64 (by omega) (by omega) w
  have hmk := run_make_row' (P := Tryz.prog) 22 23 (.slice none 0 0) 24 Tryz.underlying22 infoS rfl .i64 .i64 n (by omega) (by omega)
  have HBS : Hid _ := hbase
  subst hve
  clear hF0 hvf hR0 hA hap hv hvg hS hnn hbase
  go_enter Tryz.func57, Tryz.ntmps57
  go_wp2
  go_loopw [3] (fun vk wr => ∃ (k : Nat) (R : Nat → List Int), vk = .int .i64 k ∧ k ≤ n ∧ Hid (Only W wr S ∧ FL wr base n vf vf R R ∧ (∀ j : Nat, j < k → R j = marks (j : Int) (R0 j).length) ∧ ∀ j, k ≤ j → R j = R0 j)) (fun vk _ => n - (intOf vk).toNat)
  case atStart => exact ⟨0, R0, rfl, by omega, Only.refl _ _, HF0.out, fun j hj => by omega, fun j _ => rfl⟩
  case round =>
    obtain ⟨k, R, rfl, hk, hq⟩ := hrel
    clear HF0
    generalize wr = wo at *
    by_cases hkn : k < n
    · have hkn' : (k : Int) < n := by omega
      obtain ⟨gV, hVe, cV⟩ := HV.out wo hq.out.1 k hkn
      subst hVe
      obtain ⟨ka, kc, hvk, hkg⟩ := own_slK (hq.out.2.1.own k hkn)
      rw [hq.out.2.2.2 k (Nat.le_refl _)] at hvk hkg
      have hkl := HL0.out k hkn
      have HQ0 : Hid _ := hq.out
      have HVK : Hid _ := hvk
      have HKG : Hid _ := hkg
      rw [hvk] at cV
      obtain ⟨m, hm⟩ : ∃ m, m = (R0 k).length := ⟨_, rfl⟩
      have HMM : Hid _ := hm
      rw [← hm] at cV hkl HVK HKG
      have HM1 : Hid (∀ i : Nat, i < m → ∀ W, Calls Tryz.prog 29 #[.int .i64 (k : Int), .int .i64 (i : Int)] W fun e w' => e = .returned (.int .i64 (markI k i)) ∧ ∃ d, w' = W.drewN d) := fun i hi => HMK.out k i (by omega) (by omega) (by omega) (by omega)
      have HCV : Hid (∀ wr, Only W wr S → wr.cell? ⟨gV, k, none⟩ = some (.slice ka m kc)) := fun wr ho => by
        obtain ⟨g2, e2, c2⟩ := HV.out wr ho k hkn
        cases e2
        rw [c2, HVK.out]
      clear hq hvk hkg hm
      go_wp2
      go_loopw [4] (fun vi wr => ∃ (i : Nat) (R : Nat → List Int), vi = .int .i64 i ∧ i ≤ m ∧ Hid (Only W wr S ∧ FL wr base n vf vf R R ∧ (∀ j : Nat, j < k → R j = marks (j : Int) (R0 j).length) ∧ (∀ j, k < j → R j = R0 j) ∧ R k = marks (k : Int) i ++ (R0 k).drop i)) (fun vi _ => m - (intOf vi).toNat)
      case atStart => exact ⟨0, R, rfl, by omega, HQ0.out.1, HQ0.out.2.1, HQ0.out.2.2.1, fun j hj => HQ0.out.2.2.2 j (by omega), by rw [marks_zero]; exact HQ0.out.2.2.2 k (Nat.le_refl _)⟩
      case round =>
        obtain ⟨i, R, rfl, hi, hq⟩ := hrel
        clear HQ0
        have cV' := HCV.out wr hq.out.1
        by_cases him : i < m
        · have him' : (i : Int) < m := by omega
          obtain ⟨g, hg, hgl⟩ := HKG.out (by omega)
          subst hg
          have hRl : (R k).length = m := by rw [hq.out.2.2.2.2, drop_len (by rw [← HMM.out]; exact hi), HMM.out]
          obtain ⟨y, hy⟩ : ∃ y, (R k)[i]? = some y := ⟨_, List.getElem?_eq_getElem (by omega)⟩
          have hown := hq.out.2.1.own k hkn
          rw [HVK.out] at hown
          have cy : wr.cell? ⟨g, i, none⟩ = some (.int .i64 y) := own_getK hown hy
          have fy : wr.frozen? ⟨g, i, none⟩ = false := by
            have h9 : wr.ownsRow base 3 1 (.slice (some ⟨g, 0, none⟩) m kc) (R k).length ((R k).map intV) := hown
            rw [hRl] at h9
            exact h9.frozenAt i
          have HN1 : Hid (∀ q, Only W ((wr.drewN q).setCell ⟨g, i, none⟩ (.int .i64 (markI k i))) S ∧ FL ((wr.drewN q).setCell ⟨g, i, none⟩ (.int .i64 (markI k i))) base n vf vf (upd R k ((R k).set i (markI k i))) (upd R k ((R k).set i (markI k i)))) := fun q =>
            ⟨(hq.out.1.after (below_drewN (Below.refl _ _) q)).set (HSV.out k hkn g (by rw [HVK.out]; rfl)) _ _, (hq.out.2.1.below (below_drewN (Below.refl _ _) q)).setR hkn HVK.out i _⟩
          have HN2 : Hid ((∀ j : Nat, j < k → upd R k ((R k).set i (markI k i)) j = marks (j : Int) (R0 j).length) ∧ (∀ j, k < j → upd R k ((R k).set i (markI k i)) j = R0 j) ∧ upd R k ((R k).set i (markI k i)) k = marks (k : Int) (i + 1) ++ (R0 k).drop (i + 1)) :=
            ⟨fun j hj => by rw [upd_ne _ _ (by omega)]; exact hq.out.2.2.1 j hj, fun j hj => by rw [upd_ne _ _ (by omega)]; exact hq.out.2.2.2.1 j hj, by rw [upd_same, hq.out.2.2.2.2]; exact marks_drop (by rw [← HMM.out]; exact him)⟩
          have HMI : Hid _ := HM1.out i him
          clear hq hown hy hRl HV HSV HSL HM1 HCV HMK hgl
          go_wp2
          refine wp_region_last 9 _ rfl rfl (by kernel_rfl) (by kernel_rfl) (by kernel_rfl) (by kernel_rfl) (by kernel_rfl) (by kernel_rfl) ?_
          simp only [List.take_succ_cons, List.take_zero]
          repeat (go_big_quiet_step ((go_at_call 29; exact Calls.quiet_of (HMI.out _))))
          refine wpQuiet_nil ?_
          intro _ hw'
          obtain ⟨nq, hw''⟩ := hw'
          subst hw''
          intro K hK
          go_simp
          refine hK _ _ ?_
          clear hK K
          go_wp2
          go_roundw
          case rel => exact ⟨i + 1, _, by first | rfl | (congr 1; omega), by omega, (HN1.out nq).1, (HN1.out nq).2, HN2.out.1, HN2.out.2.1, HN2.out.2.2⟩
          case measure => simp [intOf]; omega
        · obtain rfl : i = m := by omega
          have HE : Hid (R k = marks (k : Int) (R0 k).length) := by
            show _ = _
            rw [hq.out.2.2.2.2, HMM.out]
            exact marks_all
          clear HV HSV HSL HM1 HCV HMK
          go_wp2
          go_roundw
          case rel => exact ⟨k + 1, R, by first | rfl | (congr 1; omega), by omega, hq.out.1, hq.out.2.1, fun j hj => by
            by_cases e : j = k
            · subst e; exact HE.out
            · exact hq.out.2.2.1 j (by omega), fun j hj => hq.out.2.2.2.1 j (by omega)⟩
          case measure => simp [intOf]; omega
    · obtain rfl : n = k := by omega
      have HRM : Hid (∀ j : Nat, j < n → R j = marks (j : Int) (R0 j).length) := hq.out.2.2.1
      have HRL : Hid (∀ j : Nat, j < n → (R j).length ≤ 100000 ∧ R j = marks (j : Int) (R j).length) := fun j hj => by
        have h1 := HRM.out j hj
        have h2 : (R j).length = (R0 j).length := by rw [h1, marks_len]
        exact ⟨by rw [h2]; exact HL0.out j hj, by rw [h2]; exact h1⟩
      obtain ⟨w2, hw2⟩ : ∃ w2, w2 = wo.alloc (.cells (madeCells #[.slice none 0 0] n) 23) := ⟨_, rfl⟩
      have HW2 : Hid _ := hw2
      have HZE : Hid (ZE W n wo.heap.size S vf) := ⟨HSL.out, HSV.out, hq.out.1.low.size⟩
      have HZ0 : Hid (ZF W w2 base n wo.heap.size S vf vf R R (List.replicate n nilV)) := by
        have hb : Below wo.heap.size wo w2 := by rw [hw2]; exact below_alloc (Below.refl _ _) _
        refine ⟨hq.out.1.after hb, hq.out.2.1.below hb, ?_, fun j hj g hg => .inl (HSV.out j hj g hg)⟩
        have r1 := World.ownsRow_lit (base := base) (e := 23) (size := 1) wo (madeCells #[.slice none 0 0] n) n (Nat.le_trans HBS.out hq.out.1.low.size) (by unfold maxLen; omega) (by simp [size_madeCells])
        rw [toList_madeCells_one, ← hw2] at r1
        exact r1
      clear hq HRM HL0 HSL HSV hw2
      go_wp2
      rw [← HW2.out]
      clear hmk HW2
      generalize wo.heap.size = Gs at *
      go_loopw [6] (fun vk wr => ∃ (k : Nat) (gv : Nat → Value) (Q : Nat → List Int) (gm : List Value), vk = .int .i64 k ∧ k ≤ n ∧ Hid (ZF W wr base n Gs S vf gv R Q gm ∧ (∀ j : Nat, j < k → gm.getD j nilV = gv j ∧ Q j = marks (j : Int) ((R j).length + 64)) ∧ ∀ j, k ≤ j → gv j = vf j ∧ Q j = R j)) (fun vk _ => n - (intOf vk).toNat)
      case atStart => exact ⟨0, vf, R, _, rfl, by omega, HZ0.out, fun j hj => by omega, fun j _ => ⟨rfl, rfl⟩⟩
      case round =>
        obtain ⟨k, gv, Q, gm, rfl, hk, hq⟩ := hrel
        clear HZ0
        generalize wr = wp at *
        by_cases hkn : k < n
        · have hkn' : (k : Int) < n := by omega
          obtain ⟨gV, hVe, cV⟩ := HV.out wp hq.out.1.only k hkn
          subst hVe
          obtain ⟨ka, kc, hvk, _⟩ := own_slK (hq.out.1.fl.own k hkn)
          obtain ⟨hkl, hRk⟩ := HRL.out k hkn
          have HVK : Hid _ := hvk
          have HRK : Hid _ := hRk
          rw [hvk] at cV
          have HQ0 : Hid _ := hq.out
          have HGK : Hid _ := hq.out.2.2 k (Nat.le_refl _)
          obtain ⟨m, hm⟩ : ∃ m, m = (R k).length := ⟨_, rfl⟩
          have HMM : Hid _ := hm
          rw [← hm] at cV hkl HVK HRK
          have HCV : Hid (∀ wr, Only W wr S → wr.cell? ⟨gV, k, none⟩ = some (.slice ka m kc)) := fun wr ho => by
            obtain ⟨g2, e2, c2⟩ := HV.out wr ho k hkn
            cases e2
            rw [c2, HVK.out]
          clear hq hvk hRk hm
          go_wp2
          go_loopw [7, 8] (fun vg vi wr => ∃ (i : Nat) (gv : Nat → Value) (Q : Nat → List Int), vi = .int .i64 i ∧ i ≤ 64 ∧ Hid (ZF W wr base n Gs S vf gv R Q gm ∧ (∀ j : Nat, j < k → gm.getD j nilV = gv j ∧ Q j = marks (j : Int) ((R j).length + 64)) ∧ (∀ j, k < j → gv j = vf j ∧ Q j = R j) ∧ gv k = vg ∧ Q k = marks (k : Int) (m + i))) (fun _ vi _ => 64 - (intOf vi).toNat)
          case atStart => exact ⟨0, gv, Q, rfl, by omega, HQ0.out.1, HQ0.out.2.1, fun j hj => HQ0.out.2.2 j (by omega), by rw [HGK.out.1]; exact HVK.out, by rw [HGK.out.2]; exact HRK.out⟩
          case round =>
            obtain ⟨i, gv, Q, rfl, hi, hq⟩ := hrel
            clear HQ0 HGK
            have cV' := HCV.out wr hq.out.1.only
            have hgow := hq.out.1.fl.gow k hkn
            obtain ⟨ga, gc, hvg, hgg⟩ := own_slK hgow
            have hQl : (Q k).length = m + i := by rw [hq.out.2.2.2.2, marks_len]
            rw [hQl] at hvg hgg
            have hvg2 := hq.out.2.2.2.1
            rw [hvg] at hvg2
            subst hvg2
            by_cases hi64 : i < 64
            · have hi64' : (i : Int) < 64 := by omega
              have HA1 : Hid (Below wr.heap.size wr (wr.alloc (.cells #[.int .i64 (markI k ((m : Int) + i))] 3))) := below_alloc (Below.refl _ _) _
              obtain ⟨t, ht⟩ := hq.out.1.fl.pre k hkn
              have hbs : base ≤ wr.heap.size := Nat.le_trans HBS.out hq.out.1.only.low.size
              obtain ⟨v', w', hrun, ho, hg, hown', hat⟩ := append_front (wr.alloc (.cells #[.int .i64 (markI k ((m : Int) + i))] 3)) base 23 (gv k) (Q k) [markI k ((m : Int) + i)] ⟨wr.heap.size, 0, none⟩ 1 (owns_below hgow HA1.out) (cell_one_new wr (intV (markI k ((m : Int) + i))) 3) (by rw [hQl]; simp; omega) (by simp; omega)
              have hal := own_alias (owns_below (hq.out.1.fl.own k hkn) HA1.out) (owns_below hgow HA1.out) ht hown' hg
              have HZ1 : Hid _ := hq.out.1.put HZE.out hkn HA1.out (u := gv k) (.inr rfl) (t := t ++ [markI k ((m : Int) + i)]) hg hal (by rw [← List.append_assoc, ← ht]; exact ho) hat
              have HQ2 : Hid ((∀ j : Nat, j < k → gm.getD j nilV = upd gv k v' j ∧ upd Q k (R k ++ (t ++ [markI k ((m : Int) + i)])) j = marks (j : Int) ((R j).length + 64)) ∧ (∀ j, k < j → upd gv k v' j = vf j ∧ upd Q k (R k ++ (t ++ [markI k ((m : Int) + i)])) j = R j) ∧ upd gv k v' k = v' ∧ upd Q k (R k ++ (t ++ [markI k ((m : Int) + i)])) k = marks (k : Int) (m + (i + 1))) :=
                ⟨fun j hj => by rw [upd_ne _ _ (by omega), upd_ne _ _ (by omega)]; exact hq.out.2.1 j hj, fun j hj => by rw [upd_ne _ _ (by omega), upd_ne _ _ (by omega)]; exact hq.out.2.2.1 j hj, upd_same _ _ _, by rw [upd_same, ← List.append_assoc, ← ht, hq.out.2.2.2.2, ← Nat.add_assoc, marks_succ]; simp⟩
              have HMI : Hid _ := HMK0.out (k : Int) ((m : Int) + i) (by omega) (by omega) (by omega) (by omega)
              rw [hvg] at hrun
              clear hq hgow hgg ho hg hown' hat hal ht hQl HV HCV HMK HMK0 HRL hvg HA1 hmk2
              go_wp2_with (first
                | (go_at_call 29; go_loud (refine Calls.mono (by exact HMI.out _) ?_; rintro e w9 ⟨rfl, rfl⟩))
                | (at_builtin; go_loud (refine wpList_append_is rfl _ _ 23 rfl _ _ v' w' rfl rfl hrun ?_)))
              go_wp2
              go_roundw
              case rel => exact ⟨i + 1, _, _, by first | rfl | (congr 1; omega), by omega, HZ1.out, HQ2.out.1, HQ2.out.2.1, HQ2.out.2.2.1, HQ2.out.2.2.2⟩
              case measure => simp [intOf]; omega
            · obtain rfl : i = 64 := by omega
              have hgl := World.ownsRow.cellAt hq.out.1.gs k (by omega)
              have hgml : gm.length = n := by have := hq.out.1.gs.1; simpa using this
              have cG : wr.cell? ⟨Gs, k, none⟩ = some (gm.getD k nilV) := by rw [hgl, getD_vs (by omega)]
              have fG : wr.frozen? ⟨Gs, k, none⟩ = false := World.ownsRow.frozenAt hq.out.1.gs k
              have HZ1 : Hid _ := hq.out.1.store HZE.out k (.slice ga (m + 64) gc)
              have HQ2 : Hid ((∀ j : Nat, j < k + 1 → (gm.set k (.slice ga (m + 64) gc)).getD j nilV = gv j ∧ Q j = marks (j : Int) ((R j).length + 64)) ∧ ∀ j, k + 1 ≤ j → gv j = vf j ∧ Q j = R j) := ⟨fun j hj => by
                rw [List.getD_eq_getElem?_getD, List.getElem?_set]
                by_cases e : k = j
                · subst e
                  rw [if_pos rfl, if_pos (by omega)]
                  exact ⟨hvg.symm, by rw [hq.out.2.2.2.2, HMM.out]⟩
                · rw [if_neg e, ← List.getD_eq_getElem?_getD]
                  exact hq.out.2.1 j (by omega), fun j hj => hq.out.2.2.1 j (by omega)⟩
              generalize gm.getD k nilV = gold at cG
              clear hq hgow hgg hQl HV HCV HMK HMK0 HRL hvg hgl hgml hmk2
              go_wp2
              go_roundw
              case rel => exact ⟨k + 1, gv, Q, _, by first | rfl | (congr 1; omega), by omega, HZ1.out, HQ2.out.1, HQ2.out.2⟩
              case measure => simp [intOf]; omega
        · obtain rfl : n = k := by omega
          have HZ3 : Hid (ZF W wp base n Gs S vf gv R Q gm) := hq.out.1
          have HG3 : Hid (∀ j : Nat, j < n → gm.getD j nilV = gv j ∧ Q j = marks (j : Int) ((R j).length + 64)) := hq.out.2.1
          clear hq
          go_wp2
          go_loopw [9] (fun vk wr => ∃ k : Nat, vk = .int .i64 k ∧ k ≤ n ∧ Hid (ZF W wr base n Gs S vf gv R Q gm)) (fun vk _ => n - (intOf vk).toNat)
          case atStart => exact ⟨0, rfl, by omega, HZ3.out⟩
          case round =>
            obtain ⟨k, rfl, hk, hq⟩ := hrel
            clear HZ3
            generalize wr = ws at *
            by_cases hkn : k < n
            · have hkn' : (k : Int) < n := by omega
              obtain ⟨gV, hVe, cV⟩ := HV.out ws hq.out.only k hkn
              subst hVe
              obtain ⟨ka, kc, hvk, hkg⟩ := own_slK (hq.out.fl.own k hkn)
              obtain ⟨ga, gc, hgk, hgg⟩ := own_slK (hq.out.fl.gow k hkn)
              obtain ⟨hkl, hRk⟩ := HRL.out k hkn
              obtain ⟨hgm, hQk⟩ := HG3.out k hkn
              have hQl : (Q k).length = (R k).length + 64 := by rw [hQk, marks_len]
              rw [hQl] at hgk hgg
              have hgml : gm.length = n := by have := hq.out.gs.1; simpa using this
              have HCC : Hid (∀ wr, ZF W wr base n Gs S vf gv R Q gm → wr.cell? ⟨gV, k, none⟩ = some (.slice ka (R k).length kc) ∧ wr.cell? ⟨Gs, k, none⟩ = some (.slice ga ((R k).length + 64) gc) ∧ (∀ i, i < (R k).length → ∃ g, ka = some ⟨g, 0, none⟩ ∧ wr.cell? ⟨g, i, none⟩ = some (.int .i64 (markI k i))) ∧ ∀ i, i < (R k).length + 64 → ∃ g, ga = some ⟨g, 0, none⟩ ∧ wr.cell? ⟨g, i, none⟩ = some (.int .i64 (markI k i))) := fun wr hz => by
                refine ⟨?_, ?_, fun i hi => ?_, fun i hi => ?_⟩
                · obtain ⟨g2, e2, c2⟩ := HV.out wr hz.only k hkn
                  cases e2
                  rw [c2, hvk]
                · rw [World.ownsRow.cellAt hz.gs k (by omega), getD_vs (by omega), hgm, hgk]
                · obtain ⟨g, e, _⟩ := hkg (by omega)
                  subst e
                  have h9 := hz.fl.own k hkn
                  rw [hvk] at h9
                  exact ⟨g, rfl, own_getK h9 (marks_at (t := []) hi (by rw [List.append_nil]; exact hRk))⟩
                · obtain ⟨g, e, _⟩ := hgg (by omega)
                  subst e
                  have h9 := hz.fl.gow k hkn
                  rw [hgk] at h9
                  exact ⟨g, rfl, own_getK h9 (marks_at (t := []) hi (by rw [List.append_nil]; exact hQk))⟩
              have HQ0 : Hid _ := hq.out
              have HMI : Hid (∀ i : Nat, i < (R k).length + 64 → _) := fun i hi => HMK.out (k : Int) (i : Int) (by omega) (by omega) (by omega) (by omega)
              clear hq hvk hkg hgk hgg hRk hgm hQk hQl hgml cV
              generalize (R k).length = m at *
              go_wp2
              go_loopw [10] (fun vi wr => ∃ i : Nat, vi = .int .i64 i ∧ i ≤ m + 64 ∧ Hid (ZF W wr base n Gs S vf gv R Q gm)) (fun vi _ => m + 64 - (intOf vi).toNat)
              case atStart => exact ⟨0, rfl, by omega, HQ0.out⟩
              case round =>
                obtain ⟨i, rfl, hi, hq⟩ := hrel
                clear HQ0
                obtain ⟨c1, c2, h1, h2⟩ := HCC.out wr hq.out
                have HZD : Hid (∀ q, ZF W (wr.drewN q) base n Gs S vf gv R Q gm) := fun q => hq.out.below (below_drewN (Below.refl _ _) q)
                by_cases hiL : i < m + 64
                · have hiL' : (i : Int) < (m : Int) + 64 := by omega
                  obtain ⟨gq, hgq, c4⟩ := h2 i hiL
                  subst hgq
                  have HMM : Hid _ := HMI.out i hiL
                  by_cases him : i < m
                  · have him' : (i : Int) < m := by omega
                    have hd1 : decide (i < m) = true := decide_eq_true him
                    obtain ⟨gk, hgk, c3⟩ := h1 i him
                    subst hgk
                    clear hq h1 h2 HCC HMI HV HMK HMK0 HRL HG3 hmk2
                    go_wp2
                    go_quiet ((go_at_call 29; exact Calls.quiet_of (HMM.out _)))
                    go_wp2
                    go_roundw
                    case rel => exact ⟨i + 1, by first | rfl | (congr 1; omega), by omega, by first | exact HZD.out 0 | exact HZD.out _⟩
                    case measure => simp [intOf]; omega
                  · have him' : ¬ (i : Int) < m := by omega
                    have hd1 : decide (i < m) = false := decide_eq_false him
                    have hd2 : decide (m ≤ i) = true := decide_eq_true (by omega)
                    clear hq h1 h2 HCC HMI HV HMK HMK0 HRL HG3 hmk2
                    go_wp2
                    go_quiet ((go_at_call 29; exact Calls.quiet_of (HMM.out _)))
                    go_wp2
                    go_roundw
                    case rel => exact ⟨i + 1, by first | rfl | (congr 1; omega), by omega, by first | exact HZD.out 0 | exact HZD.out _⟩
                    case measure => simp [intOf]; omega
                · obtain rfl : i = m + 64 := by omega
                  have hiL' : ¬ (((m + 64 : Nat) : Int) < (m : Int) + 64) := by omega
                  clear h1 h2 HCC HMI HV HMK HMK0 HRL HG3 hmk2
                  go_wp2
                  go_roundw
                  case rel => exact ⟨k + 1, by first | rfl | (congr 1; omega), by omega, hq.out⟩
                  case measure => simp [intOf]; omega
            · obtain rfl : n = k := by omega
              have HZ4 : Hid (ZF W ws base n Gs S vf gv R Q gm) := hq.out
              have HG4 : Hid (∀ j : Nat, j < n → gm.getD j nilV = gv j) := fun j hj => (HG3.out j hj).1
              clear hq HG3
              go_wp2
              go_loopw [11] (fun vk wr => ∃ (k : Nat) (gv : Nat → Value) (Q : Nat → List Int) (gm : List Value), vk = .int .i64 k ∧ k ≤ n ∧ Hid (ZF W wr base n Gs S vf gv R Q gm ∧ ∀ j : Nat, j < n → gm.getD j nilV = gv j)) (fun vk _ => n - (intOf vk).toNat)
              case atStart => exact ⟨0, gv, Q, gm, rfl, by omega, HZ4.out, HG4.out⟩
              case round =>
                obtain ⟨k, gv, Q, gm, rfl, hk, hq⟩ := hrel
                clear HZ4 HG4
                generalize wr = wt at *
                by_cases hkn : k < n
                · have hkn' : (k : Int) < n := by omega
                  obtain ⟨gV, hVe, cV⟩ := HV.out wt hq.out.1.only k hkn
                  subst hVe
                  obtain ⟨ka, kc, hvk, _⟩ := own_slK (hq.out.1.fl.own k hkn)
                  obtain ⟨hkl, hRk⟩ := HRL.out k hkn
                  have HVK : Hid _ := hvk
                  have HCV : Hid (∀ wr, Only W wr S → wr.cell? ⟨gV, k, none⟩ = some (.slice ka (R k).length kc)) := fun wr ho => by
                    obtain ⟨g2, e2, c2⟩ := HV.out wr ho k hkn
                    cases e2
                    rw [c2, hvk]
                  obtain ⟨w5, hw5⟩ : ∃ w5, w5 = wt.alloc (.cells (madeCells #[.int .i64 0] 64) 3) := ⟨_, rfl⟩
                  have HW5 : Hid _ := hw5
                  have hb5 : Below wt.heap.size wt w5 := by rw [hw5]; exact below_alloc (Below.refl _ _) _
                  have HZ5 : Hid (ZF W w5 base n Gs S vf gv R Q gm) := hq.out.1.below hb5
                  have HM5 : Hid (∃ Ml : List Int, Ml.length = 64 ∧ w5.ownsRow wt.heap.size 3 1 (slK wt.heap.size 64) 64 (Ml.map intV)) := by
                    refine ⟨List.replicate 64 0, by simp, ?_⟩
                    have r1 := World.ownsRow_lit (base := wt.heap.size) (e := 3) (size := 1) wt (madeCells #[.int .i64 0] 64) 64 (Nat.le_refl _) (by unfold maxLen; omega) (by simp [size_madeCells])
                    rw [toList_madeCells_one, ← hw5] at r1
                    rw [List.map_replicate]
                    exact r1
                  have HMF : Hid (∀ j, j < n → ∀ g, ((vf j).ownBlock = some g ∨ (gv j).ownBlock = some g) → g ≠ wt.heap.size) := fun j hj g hg e => by
                    have := hq.out.1.fl.lt hj hg
                    omega
                  have HMW : Hid (W.heap.size ≤ wt.heap.size ∧ wt.heap.size ≠ Gs) := ⟨hq.out.1.only.low.size, fun e => by
                    have := (World.ownsRow.lt hq.out.1.gs Gs rfl).2
                    omega⟩
                  have HGM : Hid _ := hq.out.2
                  have HMI : Hid (∀ i : Nat, i < 64 → _) := fun i hi => HMK0.out ((k : Int) + n) (i : Int) (by omega) (by omega) (by omega) (by omega)
                  clear hq hvk hRk hw5 hb5 cV
                  go_wp2
                  rw [← HW5.out]
                  clear HW5
                  generalize wt.heap.size = M at *
                  go_loopw [13] (fun vi wr => ∃ i : Nat, vi = .int .i64 i ∧ i ≤ 64 ∧ Hid (ZF W wr base n Gs S vf gv R Q gm ∧ ∃ Ml : List Int, Ml.length = 64 ∧ wr.ownsRow M 3 1 (slK M 64) 64 (Ml.map intV))) (fun vi _ => 64 - (intOf vi).toNat)
                  case atStart => exact ⟨0, rfl, by omega, HZ5.out, HM5.out⟩
                  case round =>
                    obtain ⟨i, rfl, hi, hq⟩ := hrel
                    clear HZ5 HM5
                    obtain ⟨Ml, hMl, hMo⟩ := hq.out.2
                    by_cases hi64 : i < 64
                    · have hi64' : (i : Int) < 64 := by omega
                      obtain ⟨y, hy⟩ : ∃ y, Ml[i]? = some y := ⟨_, List.getElem?_eq_getElem (by omega)⟩
                      have cy : wr.cell? ⟨M, i, none⟩ = some (.int .i64 y) := by
                        rw [hMo.cellAt i (by omega), List.getElem?_map, hy]
                        rfl
                      have fy : wr.frozen? ⟨M, i, none⟩ = false := hMo.frozenAt i
                      have HN1 : Hid (ZF W (wr.setCell ⟨M, i, none⟩ (.int .i64 (markI ((k : Int) + n) i))) base n Gs S vf gv R Q gm) := hq.out.1.but HMW.out.1 HMW.out.2 HMF.out (grown_setK wr M i _)
                      have HN2 : Hid (∃ Ml : List Int, Ml.length = 64 ∧ (wr.setCell ⟨M, i, none⟩ (.int .i64 (markI ((k : Int) + n) i))).ownsRow M 3 1 (slK M 64) 64 (Ml.map intV)) := ⟨Ml.set i (markI ((k : Int) + n) i), by simpa using hMl, by
                        rw [List.map_set]
                        exact (World.ownsRow.stored hMo i _).1⟩
                      have HMM : Hid _ := HMI.out i hi64
                      clear hq hMl hMo hy HV HCV HMK HMK0 HRL HMI hmk2
                      go_wp2_with (go_at_call 29; go_loud (refine Calls.mono (by exact HMM.out _) ?_; rintro e w9 ⟨rfl, rfl⟩))
                      go_roundw
                      case rel => exact ⟨i + 1, by first | rfl | (congr 1; omega), by omega, HN1.out, HN2.out⟩
                      case measure => simp [intOf]; omega
                    · obtain rfl : i = 64 := by omega
                      have cV' := HCV.out wr hq.out.1.only
                      obtain ⟨v', w', hrun, ho, hg, hown', hat⟩ := append_front wr base 23 (vf k) (R k) Ml ⟨M, 0, none⟩ 64 (hq.out.1.fl.own k hkn) (World.ownsRow.cells hMo (g := M) rfl) (by omega) (Nat.le_trans HBS.out hq.out.1.only.low.size)
                      rw [hMl, HVK.out] at hrun
                      have hZ1 := hq.out.1.put HZE.out hkn (Below.refl _ _) (u := vf k) (.inl rfl) hg hown' ho hat
                      obtain ⟨a2, c2, hv2, _⟩ := own_slK ho
                      subst hv2
                      have hgml : gm.length = n := by have := hq.out.1.gs.1; simpa using this
                      have cG : w'.cell? ⟨Gs, k, none⟩ = some (gm.getD k nilV) := by rw [World.ownsRow.cellAt hZ1.gs k (by omega), getD_vs (by omega)]
                      have fG : w'.frozen? ⟨Gs, k, none⟩ = false := World.ownsRow.frozenAt hZ1.gs k
                      have HZ2 : Hid _ := hZ1.store HZE.out k (.slice a2 (R k ++ Ml).length c2)
                      have HG2 : Hid (∀ j : Nat, j < n → (gm.set k (.slice a2 (R k ++ Ml).length c2)).getD j nilV = upd gv k (.slice a2 (R k ++ Ml).length c2) j) := fun j hj => by
                        rw [List.getD_eq_getElem?_getD, List.getElem?_set]
                        by_cases e : k = j
                        · subst e
                          rw [if_pos rfl, if_pos (by omega), upd_same]
                          rfl
                        · rw [if_neg e, ← List.getD_eq_getElem?_getD, upd_ne _ _ (fun e2 => e e2.symm)]
                          exact HGM.out j hj
                      generalize gm.getD k nilV = gold at cG
                      clear hq hMl hMo HV HCV HMK HMK0 HRL HMI hmk2 ho hg hown' hat hZ1 hgml
                      generalize (R k ++ Ml).length = nl at *
                      go_wp2_with (at_builtin; go_loud (refine wpList_append_is rfl _ _ 23 rfl _ _ _ _ rfl rfl hrun ?_))
                      go_wp2
                      go_roundw
                      case rel => exact ⟨k + 1, _, _, _, by first | rfl | (congr 1; omega), by omega, HZ2.out, HG2.out⟩
                      case measure => simp [intOf]; omega
                · obtain rfl : n = k := by omega
                  have HZ5 : Hid (ZF W wt base n Gs S vf gv R Q gm) := hq.out.1
                  have HG5 : Hid (∀ j : Nat, j < n → gm.getD j nilV = gv j) := hq.out.2
                  clear hq
                  go_wp2
                  go_loopw [14] (fun vk wr => ∃ k : Nat, vk = .int .i64 k ∧ k ≤ n ∧ Hid (ZF W wr base n Gs S vf gv R Q gm)) (fun vk _ => n - (intOf vk).toNat)
                  case atStart => exact ⟨0, rfl, by omega, HZ5.out⟩
                  case round =>
                    obtain ⟨k, rfl, hk, hq⟩ := hrel
                    clear HZ5
                    generalize wr = wu at *
                    by_cases hkn : k < n
                    · have hkn' : (k : Int) < n := by omega
                      obtain ⟨gV, hVe, cV⟩ := HV.out wu hq.out.only k hkn
                      subst hVe
                      obtain ⟨ka, kc, hvk, hkg⟩ := own_slK (hq.out.fl.own k hkn)
                      obtain ⟨ga, gc, hgk, hgg⟩ := own_slK (hq.out.fl.gow k hkn)
                      obtain ⟨hkl, hRk⟩ := HRL.out k hkn
                      have hgm := HG5.out k hkn
                      obtain ⟨t, ht⟩ := hq.out.fl.pre k hkn
                      have hQl : (R k).length ≤ (Q k).length := by rw [ht]; simp
                      have hgml : gm.length = n := by have := hq.out.gs.1; simpa using this
                      have HCC : Hid (∀ wr, ZF W wr base n Gs S vf gv R Q gm → wr.cell? ⟨gV, k, none⟩ = some (.slice ka (R k).length kc) ∧ wr.cell? ⟨Gs, k, none⟩ = some (.slice ga (Q k).length gc) ∧ ∀ i, i < (R k).length → ∃ g g2, ka = some ⟨g, 0, none⟩ ∧ wr.cell? ⟨g, i, none⟩ = some (.int .i64 (markI k i)) ∧ ga = some ⟨g2, 0, none⟩ ∧ wr.cell? ⟨g2, i, none⟩ = some (.int .i64 (markI k i))) := fun wr hz => by
                        refine ⟨?_, ?_, fun i hi => ?_⟩
                        · obtain ⟨g2, e2, c2⟩ := HV.out wr hz.only k hkn
                          cases e2
                          rw [c2, hvk]
                        · rw [World.ownsRow.cellAt hz.gs k (by omega), getD_vs (by omega), hgm, hgk]
                        · obtain ⟨g, e, _⟩ := hkg (by omega)
                          subst e
                          obtain ⟨g2, e2, _⟩ := hgg (by omega)
                          subst e2
                          have h9 := hz.fl.own k hkn
                          rw [hvk] at h9
                          have h8 := hz.fl.gow k hkn
                          rw [hgk] at h8
                          exact ⟨g, g2, rfl, own_getK h9 (marks_at (t := []) hi (by rw [List.append_nil]; exact hRk)), rfl, own_getK h8 (marks_at (t := t) hi (by rw [← hRk]; exact ht))⟩
                      have HQ0 : Hid _ := hq.out
                      have HMI : Hid (∀ i : Nat, i < (R k).length → _) := fun i hi => HMK.out (k : Int) (i : Int) (by omega) (by omega) (by omega) (by omega)
                      clear hq hvk hkg hgk hgg hRk hgm ht hgml cV
                      generalize (R k).length = m at *
                      generalize (Q k).length = m2 at *
                      go_wp2
                      go_loopw [15] (fun vi wr => ∃ i : Nat, vi = .int .i64 i ∧ i ≤ m ∧ Hid (ZF W wr base n Gs S vf gv R Q gm)) (fun vi _ => m - (intOf vi).toNat)
                      case atStart => exact ⟨0, rfl, by omega, HQ0.out⟩
                      case round =>
                        obtain ⟨i, rfl, hi, hq⟩ := hrel
                        clear HQ0
                        obtain ⟨c1, c2, h1⟩ := HCC.out wr hq.out
                        have HZD : Hid (∀ q, ZF W (wr.drewN q) base n Gs S vf gv R Q gm) := fun q => hq.out.below (below_drewN (Below.refl _ _) q)
                        by_cases him : i < m
                        · have him' : (i : Int) < m := by omega
                          have him2 : (i : Int) < m2 := by omega
                          obtain ⟨g, g2, hg, c3, hg2, c4⟩ := h1 i him
                          subst hg
                          subst hg2
                          have HMM : Hid _ := HMI.out i him
                          clear hq h1 HCC HMI HV HMK HMK0 HRL HG5 hmk2
                          go_wp2
                          go_quiet ((go_at_call 29; exact Calls.quiet_of (HMM.out _)))
                          go_wp2
                          go_roundw
                          case rel => exact ⟨i + 1, by first | rfl | (congr 1; omega), by omega, by first | exact HZD.out 0 | exact HZD.out _⟩
                          case measure => simp [intOf]; omega
                        · obtain rfl : i = m := by omega
                          clear h1 HCC HMI HV HMK HMK0 HRL HG5 hmk2
                          go_wp2
                          go_roundw
                          case rel => exact ⟨k + 1, by first | rfl | (congr 1; omega), by omega, hq.out⟩
                          case measure => simp [intOf]; omega
                    · clear HV HMK HMK0 HRL HG5 hmk2
                      go_wp2
                      go_ret
                      exact ⟨rfl, hq.out.only⟩
end Go.Proofs.YtogjjmbcbnceoaaGreat
