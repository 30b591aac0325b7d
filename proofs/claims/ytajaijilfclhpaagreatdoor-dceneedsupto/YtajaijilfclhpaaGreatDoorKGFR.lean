/- Rows of one kind that lie apart: Truths. -/
import Derived.Test.YtajaijilfclhpaaGreatDoorKGf0
import Derived.Test.YtajaijilfclhpaaGreatDoorKGuM
namespace Go.Proofs.YtajaijilfclhpaaGreatDoor
open Go.RowKit Go.Sort

abbrev truthM (k i : Int) : Bool := decide (markI k i % 2 = 0)
abbrev mkR (k i : Int) : List Value := [.bool (truthM k i)]
theorem infoKR : (Tryz.prog.info? 4).map (fun i => (i.zero, i.size, i.bytes)) = some (some (.bool false), 1, 1) := by kernel_rfl
theorem infoKSR : (Tryz.prog.info? 33).map (fun i => (i.zero, i.size, i.bytes)) = some (some (.slice none 0 0), 1, 24) := by kernel_rfl
set_option maxRecDepth 100000 in
set_option maxHeartbeats 8000000 in
theorem flatR_ok (base : Nat) (v : Value) (vs : List Value) (W : World) (hn : vs.length ≤ 100000) (hbase : base ≤ W.heap.size) (hv : W.ownsRow base 33 1 v vs.length vs) (hA : ApartsC 4 1 W base vs) (hap : ∀ g, rowBl vs g → v.ownBlock ≠ some g) :
  Calls Tryz.prog 71 #[v] W fun e w' => e = .returned (.bool true) ∧ Only W w' (rowBl vs) := by
 obtain ⟨i0, hi0, hz0, hz1, hz2⟩ := info_parts infoKR
 obtain ⟨va, vc, hve, hvg⟩ := own_slK hv
 obtain ⟨vf, N, R0, hvf, hF0, hL0⟩ := hA.fl
 have HV : Hid (∀ wr, Only W wr (rowBl vs) → ∀ k, k < vs.length → ∃ gV, va = some ⟨gV, 0, none⟩ ∧ wr.cell? ⟨gV, k, none⟩ = some (vf k)) := fun wr ho k hk => by
  obtain ⟨g, e, hg⟩ := hvg (by omega)
  refine ⟨g, e, ?_⟩
  subst e
  have h4 := ho.same g hg (fun hc => hap g hc (by rw [hve]; rfl))
  rw [hve] at hv
  rw [World.cell?_of_block (a := ⟨g, k, none⟩) h4, hv.cellAt k (by omega), getD_vs hk, hvf]
 have HL0 : Hid (∀ k, k < vs.length → N k ≤ 100000) := hL0
 have HSV : Hid (∀ j, j < vs.length → ∀ g, (vf j).ownBlock = some g → rowBl vs g) := fun j hj g hg => ⟨vf j, by rw [hvf]; exact List.mem_of_getElem? (getD_vs hj), hg⟩
 have HSL : Hid (∀ g, rowBl vs g → g < W.heap.size) := fun g hg => (hA.lt hg).2
 obtain ⟨B, hB⟩ : ∃ B, B = rowBl vs := ⟨_, rfl⟩
 rw [← hB] at HV HSV HSL ⊢
 obtain ⟨n, hnn⟩ : ∃ n, n = vs.length := ⟨_, rfl⟩
 rw [← hnn] at HV HL0 HSV hF0 hn hve
 have HF0 : Hid (FLc 4 1 W base n vf vf N N R0 R0) := hF0
 have HMK : Hid (∀ (k i : Int), 0 ≤ k → k ≤ 1000000 → 0 ≤ i → i ≤ 1000000000 → ∀ W, Calls Tryz.prog 49 #[.int .i64 k, .int .i64 i] W fun e w' => e = .returned (.int .i64 (markI k i)) ∧ Below W.heap.size W w') := fun k i h1 h2 h3 h4 W => (mark_any k i h1 (by omega) h3 h4 W).mono fun e w' hh => ⟨hh.1, hh.2 ▸ Below.refl _ _⟩
 skip
 have hf : ∀ (k i : Int), (mkR k i).length = 1 := fun _ _ => rfl
 obtain ⟨O2, hmk2, HO2⟩ : ∃ O : Obj, (∀ w : World, (Instr.makeSlice 33 (.int .i64 64) (.int .i64 64)).run Tryz.prog w = .ok (.slice (some ⟨w.heap.size, 0, none⟩) 64 64) (w.alloc O)) ∧ Hid (∀ w : World, ∃ Z, (w.alloc O).ownsRow w.heap.size 4 1 (slK w.heap.size 64) 64 Z ∧ ∀ u ∈ Z, u.oneCell' = true) :=
  ⟨.cells (madeCells #[.bool false] (64 * 1)) 4, fun w => by
   have hr := run_make (P := Tryz.prog) w 33 4 i0 (.bool false) Tryz.underlying33 hi0 hz0 .i64 .i64 64 64 (by omega) (by omega) (by rw [hz2]; omega) (by omega)
   rw [hz1] at hr
   exact hr, fun w => ⟨_, World.ownsRow_lit w (madeCells #[.bool false] (64 * 1)) 64 (Nat.le_refl _) (by unfold maxLen; omega) (by simp [size_madeCells]), List.all_eq_true.1 (show ((madeCells #[.bool false] (64 * 1)).toList.all fun u => u.oneCell') = true by kernel_rfl)⟩⟩
 have hmk := run_make_row' (P := Tryz.prog) 38 33 (.slice none 0 0) 24 Tryz.underlying38 infoKSR rfl .i64 .i64 n (by omega) (by omega)
 have HBS : Hid _ := hbase
 subst hve
 clear hF0 hvf hL0 hA hap hv hvg hB hnn hbase
 go_enter Tryz.func71, Tryz.ntmps71
 go_wp2
 go_loopw [3] (fun vk wr => ∃ (k : Nat) (R : Nat → List Value), vk = .int .i64 k ∧ k ≤ n ∧ Hid (Only W wr B ∧ FLc 4 1 wr base n vf vf N N R R ∧ (∀ j : Nat, j < k → R j = mksL (mkR (j : Int)) (N j)) ∧ ∀ j, k ≤ j → R j = R0 j)) (fun vk _ => n - (intOf vk).toNat)
 case atStart => exact ⟨0, R0, rfl, by omega, Only.refl _ _, HF0.out, fun j hj => by omega, fun j _ => rfl⟩
 case round =>
  obtain ⟨k, R, rfl, hk, hq⟩ := hrel
  generalize wr = wo at *
  by_cases hkn : k < n
  ·have hkn' : (k : Int) < n := by omega
   have HLR : Hid ((R0 k).length = N k * 1) := (HF0.out.own k hkn).1
   clear HF0
   obtain ⟨gV, hVe, cV⟩ := HV.out wo hq.out.1 k hkn
   subst hVe
   obtain ⟨ka, kc, hvk, hkg⟩ := own_slK (hq.out.2.1.own k hkn)
   have hkl := HL0.out k hkn
   have HQ0 : Hid _ := hq.out
   have HVK : Hid _ := hvk
   have HKG : Hid _ := hkg
   rw [hvk] at cV
   obtain ⟨m, hm⟩ : ∃ m, m = N k := ⟨_, rfl⟩
   have HMM : Hid _ := hm
   rw [← hm] at cV hkl HVK HKG HLR
   have HM1 : Hid (∀ i : Nat, i < m → ∀ W, _) := fun i hi => HMK.out k i (by omega) (by omega) (by omega) (by omega)
   have HCV : Hid (∀ wr, Only W wr B → wr.cell? ⟨gV, k, none⟩ = some (.slice ka m kc)) := fun wr ho => by
    obtain ⟨g2, e2, c2⟩ := HV.out wr ho k hkn
    cases e2
    rw [c2, HVK.out]
   clear hq hvk hkg hm
   go_wp2
   go_loopw [4] (fun vi wr => ∃ (i : Nat) (R : Nat → List Value), vi = .int .i64 i ∧ i ≤ m ∧ Hid (Only W wr B ∧ FLc 4 1 wr base n vf vf N N R R ∧ (∀ j : Nat, j < k → R j = mksL (mkR (j : Int)) (N j)) ∧ (∀ j, k < j → R j = R0 j) ∧ R k = mksL (mkR (k : Int)) i ++ (R0 k).drop (i * 1))) (fun vi _ => m - (intOf vi).toNat)
   case atStart => exact ⟨0, R, rfl, by omega, HQ0.out.1, HQ0.out.2.1, HQ0.out.2.2.1, fun j hj => HQ0.out.2.2.2 j (by omega), by rw [HQ0.out.2.2.2 k (Nat.le_refl _)]; simp [mksL]⟩
   case round =>
    obtain ⟨i, R, rfl, hi, hq⟩ := hrel
    clear HQ0
    have cV' := HCV.out wr hq.out.1
    by_cases him : i < m
    ·have him' : (i : Int) < m := by omega
     obtain ⟨g, hge, hgl⟩ := HKG.out (by omega)
     subst hge
     have HUP : Hid (∀ d os, Below wr.heap.size wr (grow (redrawn wr d) os)) := fun d os => below_regrown wr d os
     have cVr : ∀ d os, (grow (redrawn wr d) os).cell? ⟨gV, k, none⟩ = some (.slice (some ⟨g, 0, none⟩) m kc) := cell_regrown cV'
     have HST : Hid (∀ V, Below wr.heap.size wr V → ((∃ u, V.cell? ⟨g, i, none⟩ = some u)) ∧ (∀ j, V.frozen? ⟨g, j, none⟩ = false) ∧ Only W (setW V g (i) (mkR (k : Int) i)) B ∧ FLc 4 1 (setW V g (i) (mkR (k : Int) i)) base n vf vf N N (upd R k (setS (R k) (i) (mkR (k : Int) i))) (upd R k (setS (R k) (i) (mkR (k : Int) i)))) := fun V hb => by
      have hf2 := hq.out.2.1.below hb
      have ho := hf2.own k hkn
      rw [HVK.out, ← HMM.out] at ho
      have hxl : (R k).length = m * 1 := ho.1
      refine ⟨?_, fun j => World.ownsRow.frozenAt ho j, ?_, hf2.setR hkn HVK.out HMM.out.symm _ _⟩
      ·have c : ∀ j, j < m * 1 → ∃ u, V.cell? ⟨g, j, none⟩ = some u := fun j hj => ⟨(R k)[j]'(by omega), by rw [World.ownsRow.cellAt ho j hj]; exact List.getElem?_eq_getElem _⟩
       exact c i (by omega)
      ·exact (hq.out.1.after hb).grown (grown_setW g _ V _) fun q _ e => by cases e; exact HSV.out k hkn g (by rw [HVK.out]; rfl)
     have HN2 : Hid ((∀ j : Nat, j < k → upd R k (setS (R k) (i) (mkR (k : Int) i)) j = mksL (mkR (j : Int)) (N j)) ∧ (∀ j, k < j → upd R k (setS (R k) (i) (mkR (k : Int) i)) j = R0 j) ∧ upd R k (setS (R k) (i) (mkR (k : Int) i)) k = mksL (mkR (k : Int)) (i + 1) ++ (R0 k).drop ((i + 1) * 1)) :=
      ⟨fun j hj => by rw [upd_ne _ _ (by omega)]; exact hq.out.2.2.1 j hj, fun j hj => by rw [upd_ne _ _ (by omega)]; exact hq.out.2.2.2.1 j hj, by rw [upd_same, hq.out.2.2.2.2]; have h9 := marks_next (hf (k : Int)) HLR.out him; simpa only [Nat.mul_one] using h9⟩
     have HMI : Hid (∀ d os, _) := fun d os => Calls.regrown_of (HM1.out i him (grow (redrawn wr d) os))
     clear hq HV HSV HSL HM1 HCV HMK HLR cV hf hgl hmk2 HO2 HKG HBS 
     go_wp2
     refine wp_region_lastC (C := fun w' => ∃ p : Regrown, w' = grow (redrawn wr p.d) p.os) ⟨⟨wr.drawn + 1, #[]⟩, by rw [grow_empty]; rfl⟩ 11 _ rfl rfl (by kernel_rfl) (by kernel_rfl) (by kernel_rfl) (by kernel_rfl) (by kernel_rfl) (by kernel_rfl) ?_
     simp only [List.take_succ_cons, List.take_zero]
     repeat (go_big_quiet_step (with_reducible exact HMI.out _ _))
     refine wpQuiet_nil ?_
     intro _ hw'
     obtain ⟨⟨dq, osq⟩, hw''⟩ := hw'
     subst hw''
     obtain ⟨⟨u0, k0⟩, fz, HP1, HP2⟩ := HST.out _ (HUP.out dq osq)
     have HP1 : Hid _ := HP1
     have HP2 : Hid _ := HP2
     clear HST HUP HMI cVr
     generalize grow (redrawn wr dq) osq = V at *
     intro K hK
     go_simp
     refine hK _ _ ?_
     clear hK K
     go_wp2
     go_roundw
     case rel => exact ⟨i + 1, _, by first | rfl | (congr 1; omega), by omega, HP1.out, HP2.out, HN2.out.1, HN2.out.2.1, HN2.out.2.2⟩
     case measure => simp [intOf]; omega
    ·obtain rfl : i = m := by omega
     have HE : Hid (R k = mksL (mkR (k : Int)) (N k)) := by
      show _ = _
      rw [hq.out.2.2.2.2, List.drop_eq_nil_of_le (by rw [HLR.out]; exact Nat.le_refl _), List.append_nil, HMM.out]
     clear HV HSV HSL HM1 HCV HMK
     go_wp2
     go_roundw
     case rel => exact ⟨k + 1, R, by first | rfl | (congr 1; omega), by omega, hq.out.1, hq.out.2.1, fun j hj => by
      by_cases e : j = k
      ·subst e; exact HE.out
      ·exact hq.out.2.2.1 j (by omega), fun j hj => hq.out.2.2.2.1 j (by omega)⟩
     case measure => simp [intOf]; omega
  ·obtain rfl : n = k := by omega
   clear HF0
   have HRM : Hid (∀ j : Nat, j < n → R j = mksL (mkR (j : Int)) (N j)) := hq.out.2.2.1
   obtain ⟨w2, hw2⟩ : ∃ w2, w2 = wo.alloc (.cells (madeCells #[.slice none 0 0] n) 33) := ⟨_, rfl⟩
   have HW2 : Hid _ := hw2
   have HZE : Hid (ZEc W n wo.heap.size B vf) := ⟨HSL.out, HSV.out, hq.out.1.low.size⟩
   have HZ0 : Hid (ZFc 4 33 1 W w2 base n wo.heap.size B vf vf N N R R (List.replicate n nilV)) := by
    have hb : Below wo.heap.size wo w2 := by rw [hw2]; exact below_alloc (Below.refl _ _) _
    refine ⟨hq.out.1.after hb, hq.out.2.1.below hb, ?_, fun j hj g hg => .inl (HSV.out j hj g hg)⟩
    have r1 := World.ownsRow_lit (base := base) (e := 33) (size := 1) wo (madeCells #[.slice none 0 0] n) n (Nat.le_trans HBS.out hq.out.1.low.size) (by unfold maxLen; omega) (by simp [size_madeCells])
    rw [toList_madeCells_one, ← hw2] at r1
    exact r1
   have HMA : Hid (∀ (w : World) (g c i a b : Nat) (k : Int) (t : List Value), w.ownsRow base 4 1 (.slice (some ⟨g, 0, none⟩) a c) a (mksL (mkR k) b ++ t) → i < b → w.cell? ⟨g, i, none⟩ = some (.bool (truthM k i))) := fun w g c i a b k t ho hi => by
    have hml := mksL_len (hf k) b
    have hle : b * 1 ≤ a * 1 := by have := ho.1; rw [List.length_append, hml] at this; omega
    have h2 : (i + 1) * 1 ≤ b * 1 := Nat.mul_le_mul_right _ (by omega)
    rw [Nat.succ_mul] at h2
    have c : ∀ j, j < 1 → w.cell? ⟨g, i * 1 + j, none⟩ = (mkR k (i : Int))[j]? := fun j hj => by
     rw [World.ownsRow.cellAt ho _ (by omega), List.getElem?_append_left (by rw [hml]; omega)]
     exact mksL_get (hf k) hj b hi
    exact (by have h9 := c 0 (by omega); rw [Nat.mul_one, Nat.add_zero] at h9; exact h9)
   clear hq HSL HSV hw2
   go_wp2
   rw [← HW2.out]
   clear hmk HW2
   generalize wo.heap.size = Gs at *
   go_loopw [6] (fun vk wr => ∃ (k : Nat) (gv : Nat → Value) (M : Nat → Nat) (Q : Nat → List Value) (gm : List Value), vk = .int .i64 k ∧ k ≤ n ∧ Hid (ZFc 4 33 1 W wr base n Gs B vf gv N M R Q gm ∧ (∀ j : Nat, j < k → gm.getD j nilV = gv j ∧ M j = N j + 64 ∧ Q j = mksL (mkR (j : Int)) (N j + 64)) ∧ ∀ j, k ≤ j → gv j = vf j ∧ M j = N j ∧ Q j = R j)) (fun vk _ => n - (intOf vk).toNat)
   case atStart => exact ⟨0, vf, N, R, _, rfl, by omega, HZ0.out, fun j hj => by omega, fun j _ => ⟨rfl, rfl, rfl⟩⟩
   case round =>
    obtain ⟨k, gv, M, Q, gm, rfl, hk, hq⟩ := hrel
    clear HZ0
    generalize wr = wp at *
    by_cases hkn : k < n
    ·have hkn' : (k : Int) < n := by omega
     obtain ⟨gV, hVe, cV⟩ := HV.out wp hq.out.1.only k hkn
     subst hVe
     obtain ⟨ka, kc, hvk, _⟩ := own_slK (hq.out.1.fl.own k hkn)
     have hkl := HL0.out k hkn
     have HRK : Hid (R k = _) := HRM.out k hkn
     have HVK : Hid _ := hvk
     rw [hvk] at cV
     have HQ0 : Hid _ := hq.out
     have HGK : Hid _ := hq.out.2.2 k (Nat.le_refl _)
     obtain ⟨m, hm⟩ : ∃ m, m = N k := ⟨_, rfl⟩
     have HMM : Hid _ := hm
     rw [← hm] at cV hkl HVK HRK
     have HCV : Hid (∀ wr, Only W wr B → wr.cell? ⟨gV, k, none⟩ = some (.slice ka m kc)) := fun wr ho => by
      obtain ⟨g2, e2, c2⟩ := HV.out wr ho k hkn
      cases e2
      rw [c2, HVK.out]
     clear hq hvk hm
     go_wp2
     go_loopw [7, 8] (fun vg vi wr => ∃ (i : Nat) (gv : Nat → Value) (M : Nat → Nat) (Q : Nat → List Value), vi = .int .i64 i ∧ i ≤ 64 ∧ Hid (ZFc 4 33 1 W wr base n Gs B vf gv N M R Q gm ∧ (∀ j : Nat, j < k → gm.getD j nilV = gv j ∧ M j = N j + 64 ∧ Q j = mksL (mkR (j : Int)) (N j + 64)) ∧ (∀ j, k < j → gv j = vf j ∧ M j = N j ∧ Q j = R j) ∧ gv k = vg ∧ M k = m + i ∧ Q k = mksL (mkR (k : Int)) (m + i))) (fun _ vi _ => 64 - (intOf vi).toNat)
     case atStart => exact ⟨0, gv, M, Q, rfl, by omega, HQ0.out.1, HQ0.out.2.1, fun j hj => HQ0.out.2.2 j (by omega), by rw [HGK.out.1]; exact HVK.out, by rw [HGK.out.2.1, Nat.add_zero]; exact HMM.out.symm, by rw [HGK.out.2.2]; exact HRK.out⟩
     case round =>
      obtain ⟨i, gv, M, Q, rfl, hi, hq⟩ := hrel
      clear HQ0 HGK
      have cV' := HCV.out wr hq.out.1.only
      have hgow := hq.out.1.fl.gow k hkn
      obtain ⟨ga, gc, hvg, hgg⟩ := own_slK hgow
      rw [hq.out.2.2.2.2.1] at hvg hgg
      have hvg2 := hq.out.2.2.2.1
      rw [hvg] at hvg2
      subst hvg2
      by_cases hi64 : i < 64
      ·have hi64' : (i : Int) < 64 := by omega
       have HRUN : Hid (∀ V, Below wr.heap.size wr V → V.cell? ⟨gV, k, none⟩ = some (.slice ka m kc) ∧ ∃ v' w', (Builtin.append_ #[33, 33] 33 #[.slice ga (m + i) gc, .slice (some ⟨V.heap.size, 0, none⟩) 1 1]).run Tryz.prog (V.alloc (.cells #[.bool (truthM k ((m : Int) + i))] 4)) = .ok v' w' ∧ ∃ (gv' : Nat → Value) (M' : Nat → Nat) (Q' : Nat → List Value), ZFc 4 33 1 W w' base n Gs B vf gv' N M' R Q' gm ∧ (∀ j : Nat, j < k → gm.getD j nilV = gv' j ∧ M' j = N j + 64 ∧ Q' j = mksL (mkR (j : Int)) (N j + 64)) ∧ (∀ j, k < j → gv' j = vf j ∧ M' j = N j ∧ Q' j = R j) ∧ gv' k = v' ∧ M' k = m + (i + 1) ∧ Q' k = mksL (mkR (k : Int)) (m + (i + 1))) := fun V hb => by
        have HA1 : Below wr.heap.size wr (V.alloc (.cells #[.bool (truthM k ((m : Int) + i))] 4)) := below_alloc hb _
        obtain ⟨t, ht⟩ := hq.out.1.fl.pre k hkn
        have hMk := hq.out.2.2.2.2.1
        have hbs : base ≤ wr.heap.size := Nat.le_trans HBS.out hq.out.1.only.low.size
        obtain ⟨v', w', hrun, ho, hg, hown', hat⟩ := append_frontG (V.alloc (.cells #[.bool (truthM k ((m : Int) + i))] 4)) base 33 4 33 i0 (.bool false) 1 1 Tryz.underlying33 hi0 hz0 hz1 hz2 rfl (by decide) (gv k) (M k) (Q k) (mkR (k : Int) ((m : Int) + i)) ⟨V.heap.size, 0, none⟩ 1 1 (owns_below hgow HA1) rfl (fun j u hj => by rw [Addr.add_lit, Nat.zero_add]; exact (Box.new V (mkR (k : Int) ((m : Int) + i)) 4).cell j u hj) (by intro u hu; simp at hu; subst hu; rfl) (by rw [hMk]; unfold maxLen; omega) (by rw [hMk]; omega) (by have := hb.size; simp; omega)
        have hal := own_aliasG (owns_below (hq.out.1.fl.own k hkn) HA1) (owns_below hgow HA1) ht (hq.out.1.fl.le k hkn) hown' hg
        have HZ1 := hq.out.1.put HZE.out hkn HA1 (u := gv k) (.inr rfl) (m' := M k + 1) (t := t ++ mkR (k : Int) ((m : Int) + i)) hg hal (by rw [← List.append_assoc, ← ht]; exact ho) (by have := hq.out.1.fl.le k hkn; omega) hat
        rw [hvg] at hrun
        refine ⟨hb.cell (block_lt_of_cell cV') |>.trans cV', v', w', hrun, _, _, _, HZ1, fun j hj => ?_, fun j hj => ?_, upd_same _ _ _, by rw [upd_same, hMk]; omega, ?_⟩
        ·rw [upd_ne _ _ (by omega), upd_ne _ _ (by omega), upd_ne _ _ (by omega)]; exact hq.out.2.1 j hj
        ·rw [upd_ne _ _ (by omega), upd_ne _ _ (by omega), upd_ne _ _ (by omega)]; exact hq.out.2.2.1 j hj
        ·rw [upd_same, ← List.append_assoc, ← ht, hq.out.2.2.2.2.2, ← Nat.add_assoc, mksL_succ, show ((m + i : Nat) : Int) = (m : Int) + i by omega]
       have HMI : Hid _ := HMK.out (k : Int) ((m : Int) + i) (by omega) (by omega) (by omega) (by omega)
       clear hq hgow hgg HV HCV HMK HRM HL0 hvg hmk2 HO2 HBS HZE HMA hf 
       go_wp2_with (first
        | (go_at_call 49; go_loud (refine Calls.mono (by exact HMI.out _) ?_; rintro e w9 ⟨rfl, hb9⟩; obtain ⟨cV9, v', w', hrun, gv', M', Q', HZ1, HQ1, HQ2, HQ3, HQ4, HQ5⟩ := HRUN.out w9 hb9; have HA : Hid _ := HZ1; have HB : Hid _ := HQ1; have HC : Hid _ := HQ2; have HD : Hid _ := HQ3; have HE : Hid _ := HQ4; have HG : Hid _ := HQ5; clear HZ1 HQ1 HQ2 HQ3 HQ4 HQ5 HRUN hb9))
        | (at_builtin; go_loud (refine wpList_append_is rfl _ _ 33 rfl _ _ v' w' rfl rfl hrun ?_)))
       go_wp2
       go_roundw
       case rel => exact ⟨i + 1, gv', M', Q', by first | rfl | (congr 1; omega), by omega, HA.out, HB.out, HC.out, HD.out, HE.out, HG.out⟩
       case measure => simp [intOf]; omega
      ·obtain rfl : i = 64 := by omega
       have hgl := World.ownsRow.cellAt hq.out.1.gs k (by omega)
       have hgml : gm.length = n := by have := hq.out.1.gs.1; simpa using this
       have cG : wr.cell? ⟨Gs, k, none⟩ = some (gm.getD k nilV) := by rw [hgl, getD_vs (by omega)]
       have fG : wr.frozen? ⟨Gs, k, none⟩ = false := World.ownsRow.frozenAt hq.out.1.gs k
       have HZ1 : Hid _ := hq.out.1.store HZE.out k (.slice ga (m + 64) gc)
       have HQ2 : Hid ((∀ j : Nat, j < k + 1 → (gm.set k (.slice ga (m + 64) gc)).getD j nilV = gv j ∧ M j = N j + 64 ∧ Q j = mksL (mkR (j : Int)) (N j + 64)) ∧ ∀ j, k + 1 ≤ j → gv j = vf j ∧ M j = N j ∧ Q j = R j) := ⟨fun j hj => by
        rw [List.getD_eq_getElem?_getD, List.getElem?_set]
        by_cases e : k = j
        ·subst e
         rw [if_pos rfl, if_pos (by omega)]
         exact ⟨hvg.symm, by rw [hq.out.2.2.2.2.1, HMM.out], by rw [hq.out.2.2.2.2.2, HMM.out]⟩
        ·rw [if_neg e, ← List.getD_eq_getElem?_getD]
         exact hq.out.2.1 j (by omega), fun j hj => hq.out.2.2.1 j (by omega)⟩
       generalize gm.getD k nilV = gold at cG
       clear hq hgow hgg HV HCV HMK HRM HL0 hvg hgl hgml hmk2 HO2 HMA hf 
       go_wp2
       go_roundw
       case rel => exact ⟨k + 1, gv, M, Q, _, by first | rfl | (congr 1; omega), by omega, HZ1.out, HQ2.out.1, HQ2.out.2⟩
       case measure => simp [intOf]; omega
    ·obtain rfl : n = k := by omega
     have HZ3 : Hid (ZFc 4 33 1 W wp base n Gs B vf gv N M R Q gm) := hq.out.1
     have HG3 : Hid (∀ j : Nat, j < n → gm.getD j nilV = gv j ∧ M j = N j + 64 ∧ Q j = mksL (mkR (j : Int)) (N j + 64)) := hq.out.2.1
     clear hq
     go_wp2
     go_loopw [9] (fun vk wr => ∃ k : Nat, vk = .int .i64 k ∧ k ≤ n ∧ Hid (ZFc 4 33 1 W wr base n Gs B vf gv N M R Q gm)) (fun vk _ => n - (intOf vk).toNat)
     case atStart => exact ⟨0, rfl, by omega, HZ3.out⟩
     case round =>
      obtain ⟨k, rfl, hk, hq⟩ := hrel
      clear HZ3
      generalize wr = ws at *
      by_cases hkn : k < n
      ·have hkn' : (k : Int) < n := by omega
       obtain ⟨gV, hVe, cV⟩ := HV.out ws hq.out.only k hkn
       subst hVe
       obtain ⟨ka, kc, hvk, hkg⟩ := own_slK (hq.out.fl.own k hkn)
       obtain ⟨ga, gc, hgk, hgg⟩ := own_slK (hq.out.fl.gow k hkn)
       have hkl := HL0.out k hkn
       have hRk := HRM.out k hkn
       obtain ⟨hgm, hMk, hQk⟩ := HG3.out k hkn
       rw [hMk] at hgk hgg
       have hgml : gm.length = n := by have := hq.out.gs.1; simpa using this
       have HCC : Hid (∀ wr, ZFc 4 33 1 W wr base n Gs B vf gv N M R Q gm → wr.cell? ⟨gV, k, none⟩ = some (.slice ka (N k) kc) ∧ wr.cell? ⟨Gs, k, none⟩ = some (.slice ga (N k + 64) gc) ∧ (∀ i, i < N k → ∃ g, ka = some ⟨g, 0, none⟩ ∧ wr.cell? ⟨g, i, none⟩ = some (.bool (truthM k i))) ∧ ∀ i, i < N k + 64 → ∃ g, ga = some ⟨g, 0, none⟩ ∧ wr.cell? ⟨g, i, none⟩ = some (.bool (truthM k i))) := fun wr hz => by
        refine ⟨?_, ?_, fun i hi => ?_, fun i hi => ?_⟩
        ·obtain ⟨g2, e2, c2⟩ := HV.out wr hz.only k hkn
         cases e2
         rw [c2, hvk]
        ·rw [World.ownsRow.cellAt hz.gs k (by omega), getD_vs (by omega), hgm, hgk]
        ·obtain ⟨g, e, _⟩ := hkg (by omega)
         subst e
         have h9 := hz.fl.own k hkn
         rw [hvk, hRk, ← List.append_nil (mksL _ _)] at h9
         exact ⟨g, rfl, HMA.out wr g kc i (N k) (N k) k [] h9 hi⟩
        ·obtain ⟨g, e, _⟩ := hgg (by omega)
         subst e
         have h9 := hz.fl.gow k hkn
         rw [hgk, hMk, hQk, ← List.append_nil (mksL _ _)] at h9
         exact ⟨g, rfl, HMA.out wr g gc i (N k + 64) (N k + 64) k [] h9 hi⟩
       have HQ0 : Hid _ := hq.out
       have HMI : Hid (∀ i : Nat, i < N k + 64 → ∀ W, _) := fun i hi => HMK.out (k : Int) (i : Int) (by omega) (by omega) (by omega) (by omega)
       clear hq hvk hkg hgk hgg hRk hgm hMk hQk hgml cV
       generalize N k = m at *
       go_wp2
       go_loopw [10] (fun vi wr => ∃ i : Nat, vi = .int .i64 i ∧ i ≤ m + 64 ∧ Hid (ZFc 4 33 1 W wr base n Gs B vf gv N M R Q gm)) (fun vi _ => m + 64 - (intOf vi).toNat)
       case atStart => exact ⟨0, rfl, by omega, HQ0.out⟩
       case round =>
        obtain ⟨i, rfl, hi, hq⟩ := hrel
        clear HQ0
        obtain ⟨c1, c2, h1, h2⟩ := HCC.out wr hq.out
        have HZD : Hid (∀ d os, ZFc 4 33 1 W (grow (redrawn wr d) os) base n Gs B vf gv N M R Q gm) := fun d os => hq.out.below (below_regrown wr d os)
        have c1r := cell_regrown c1
        have c2r := cell_regrown c2
        by_cases hiL : i < m + 64
        ·have hiL' : (i : Int) < (m : Int) + 64 := by omega
         obtain ⟨gq, hgq, y0⟩ := h2 i hiL
         subst hgq
         have yr0 := cell_regrown y0
         have HM1 : Hid (∀ d os, _) := fun d os => Calls.regrown_of (HMI.out i hiL (grow (redrawn wr d) os))
         skip
         by_cases him : i < m
         ·as_aux_lemma =>
           have him' : (i : Int) < m := by omega
           have hd1 : decide (i < m) = true := decide_eq_true him
           obtain ⟨gk, hgk, x0⟩ := h1 i him
           subst hgk
           have xr0 := cell_regrown x0
           have hb2 : ((markI (k : Int) (i : Int)).tmod 2 == 0) = decide (markI (k : Int) (i : Int) % 2 = 0) := by
            rw [Int.tmod_eq_emod_of_nonneg (by unfold markI; omega)]
            rfl
           cases hb : decide (markI (k : Int) (i : Int) % 2 = 0)
           all_goals
            rw [hb] at hb2
            try simp only [truthM, hb] at x0 xr0
            simp only [truthM, hb] at y0 yr0
            clear hq h1 h2 HCC HMI HV HMK HL0 HRM HG3 hmk2 HO2 HBS HMA hf HZE 
            go_wp2
            refine wp_region_quiet_below (by kernel_rfl) (by kernel_rfl) ?_
            repeat (go_big_quiet_step ((first | with_reducible exact HM1.out _ _)))
            refine wpQuiet_nil ?_
            intro _ hw'
            obtain ⟨⟨dq, osq⟩, hw''⟩ := hw'
            subst hw''
            go_wp2
            go_roundw
            case rel => exact ⟨i + 1, by first | rfl | (congr 1; omega), by omega, HZD.out dq osq⟩
            case measure => simp [intOf]; omega
         ·as_aux_lemma =>
           have him' : ¬ (i : Int) < m := by omega
           have hd1 : decide (i < m) = false := decide_eq_false him
           have hd2 : decide (m ≤ i) = true := decide_eq_true (by omega)
           have hb2 : ((markI (k : Int) (i : Int)).tmod 2 == 0) = decide (markI (k : Int) (i : Int) % 2 = 0) := by
            rw [Int.tmod_eq_emod_of_nonneg (by unfold markI; omega)]
            rfl
           cases hb : decide (markI (k : Int) (i : Int) % 2 = 0)
           all_goals
            rw [hb] at hb2
            try simp only [truthM, hb] at x0 xr0
            simp only [truthM, hb] at y0 yr0
            clear hq h1 h2 HCC HMI HV HMK HL0 HRM HG3 hmk2 HO2 HBS HMA hf HZE 
            go_wp2
            refine wp_region_quiet_below (by kernel_rfl) (by kernel_rfl) ?_
            repeat (go_big_quiet_step ((first | with_reducible exact HM1.out _ _)))
            refine wpQuiet_nil ?_
            intro _ hw'
            obtain ⟨⟨dq, osq⟩, hw''⟩ := hw'
            subst hw''
            go_wp2
            go_roundw
            case rel => exact ⟨i + 1, by first | rfl | (congr 1; omega), by omega, HZD.out dq osq⟩
            case measure => simp [intOf]; omega
        ·obtain rfl : i = m + 64 := by omega
         have hiL' : ¬ (((m + 64 : Nat) : Int) < (m : Int) + 64) := by omega
         clear h1 h2 HCC HMI HV HMK HL0 HRM HG3 hmk2 HO2 HBS HMA hf HZE c1r c2r HZD
         go_wp2
         go_roundw
         case rel => exact ⟨k + 1, by first | rfl | (congr 1; omega), by omega, hq.out⟩
         case measure => simp [intOf]; omega
      ·obtain rfl : n = k := by omega
       have HZ4 : Hid (ZFc 4 33 1 W ws base n Gs B vf gv N M R Q gm) := hq.out
       have HG4 : Hid (∀ j : Nat, j < n → gm.getD j nilV = gv j) := fun j hj => (HG3.out j hj).1
       clear hq HG3
       go_wp2
       go_loopw [11] (fun vk wr => ∃ (k : Nat) (gv : Nat → Value) (M : Nat → Nat) (Q : Nat → List Value) (gm : List Value), vk = .int .i64 k ∧ k ≤ n ∧ Hid (ZFc 4 33 1 W wr base n Gs B vf gv N M R Q gm ∧ ∀ j : Nat, j < n → gm.getD j nilV = gv j)) (fun vk _ => n - (intOf vk).toNat)
       case atStart => exact ⟨0, gv, M, Q, gm, rfl, by omega, HZ4.out, HG4.out⟩
       case round =>
        obtain ⟨k, gv, M, Q, gm, rfl, hk, hq⟩ := hrel
        clear HZ4 HG4
        generalize wr = wt at *
        by_cases hkn : k < n
        ·have hkn' : (k : Int) < n := by omega
         obtain ⟨gV, hVe, cV⟩ := HV.out wt hq.out.1.only k hkn
         subst hVe
         obtain ⟨ka, kc, hvk, _⟩ := own_slK (hq.out.1.fl.own k hkn)
         have hkl := HL0.out k hkn
         have HVK : Hid _ := hvk
         have HCV : Hid (∀ wr, Only W wr B → wr.cell? ⟨gV, k, none⟩ = some (.slice ka (N k) kc)) := fun wr ho => by
          obtain ⟨g2, e2, c2⟩ := HV.out wr ho k hkn
          cases e2
          rw [c2, hvk]
         obtain ⟨w5, hw5⟩ : ∃ w5, w5 = wt.alloc O2 := ⟨_, rfl⟩
         have HW5 : Hid _ := hw5
         have hb5 : Below wt.heap.size wt w5 := by rw [hw5]; exact below_alloc (Below.refl _ _) _
         have HZ5 : Hid (ZFc 4 33 1 W w5 base n Gs B vf gv N M R Q gm) := hq.out.1.below hb5
         have HM5 : Hid (∃ Z, w5.ownsRow wt.heap.size 4 1 (slK wt.heap.size 64) 64 Z ∧ ∀ u ∈ Z, u.oneCell' = true) := by
          rw [hw5]
          exact HO2.out wt
         have HMF : Hid (∀ (gv' : Nat → Value) j, j < n → (gv' j = gv j) → ∀ g, ((vf j).ownBlock = some g ∨ (gv' j).ownBlock = some g) → g ≠ wt.heap.size) := fun gv' j hj he g hg e => by
          rw [he] at hg
          have := hq.out.1.fl.lt hj hg
          omega
         have HMW : Hid (W.heap.size ≤ wt.heap.size ∧ wt.heap.size ≠ Gs) := ⟨hq.out.1.only.low.size, fun e => by
          have := (World.ownsRow.lt hq.out.1.gs Gs rfl).2
          omega⟩
         have HGM : Hid _ := hq.out.2
         have HMI : Hid (∀ i : Nat, i < 64 → ∀ W, _) := fun i hi => HMK.out ((k : Int) + n) (i : Int) (by omega) (by omega) (by omega) (by omega)
         clear hq hvk hw5 hb5 cV
         go_wp2
         rw [← HW5.out]
         clear HW5
         generalize wt.heap.size = T at *
         go_loopw [13] (fun vi wr => ∃ i : Nat, vi = .int .i64 i ∧ i ≤ 64 ∧ Hid (ZFc 4 33 1 W wr base n Gs B vf gv N M R Q gm ∧ ∃ Z, wr.ownsRow T 4 1 (slK T 64) 64 Z ∧ ∀ u ∈ Z, u.oneCell' = true)) (fun vi _ => 64 - (intOf vi).toNat)
         case atStart => exact ⟨0, rfl, by omega, HZ5.out, HM5.out⟩
         case round =>
          obtain ⟨i, rfl, hi, hq⟩ := hrel
          clear HZ5 HM5
          by_cases hi64 : i < 64
          ·have hi64' : (i : Int) < 64 := by omega
           have HST : Hid (∀ V, Below wr.heap.size wr V → ((∃ u, V.cell? ⟨T, i, none⟩ = some u)) ∧ (∀ j, V.frozen? ⟨T, j, none⟩ = false) ∧ ZFc 4 33 1 W (setW V T (i) (mkR ((k : Int) + n) i)) base n Gs B vf gv N M R Q gm ∧ ∃ Z, (setW V T (i) (mkR ((k : Int) + n) i)).ownsRow T 4 1 (slK T 64) 64 Z ∧ ∀ u ∈ Z, u.oneCell' = true) := fun V hb => by
            obtain ⟨Z, hZ, hZ1⟩ := hq.out.2
            have ho := owns_below hZ hb
            have hxl : Z.length = 64 * 1 := ho.1
            refine ⟨?_, fun j => World.ownsRow.frozenAt ho j, (hq.out.1.below hb).but HMW.out.1 HMW.out.2 (fun j hj g hg => HMF.out gv j hj rfl g hg) (grown_setW T _ V _), _, own_setS _ _ ho, fun u hu => ?_⟩
            ·have c : ∀ j, j < 64 * 1 → ∃ u, V.cell? ⟨T, j, none⟩ = some u := fun j hj => ⟨Z[j]'(by omega), by rw [World.ownsRow.cellAt ho j hj]; exact List.getElem?_eq_getElem _⟩
             exact c i (by omega)
            ·rw [setS_eq _ _ _ (by simp; omega)] at hu
             rcases List.mem_append.1 hu with hu | hu
             ·rcases List.mem_append.1 hu with hu | hu
              ·exact hZ1 u (List.mem_of_mem_take hu)
              ·simp at hu
               subst hu; rfl
             ·exact hZ1 u (List.mem_of_mem_drop hu)
           have HMM : Hid _ := HMI.out i hi64
           clear hq HV HCV HMK HL0 HRM HMI hmk2 HO2 HMF HMW HGM HVK HBS HZE HMA hf 
           go_wp2_with (go_at_call 49; go_loud (refine Calls.mono (by exact HMM.out _) ?_; rintro e w9 ⟨rfl, hb9⟩; obtain ⟨⟨u0, k0⟩, fz, hp1, hp2⟩ := HST.out w9 hb9; have HP1 : Hid _ := hp1; have HP2 : Hid _ := hp2; clear hp1 hp2 HST hb9))
           go_roundw
           case rel => exact ⟨i + 1, by first | rfl | (congr 1; omega), by omega, HP1.out, HP2.out⟩
           case measure => simp [intOf]; omega
          ·obtain rfl : i = 64 := by omega
           obtain ⟨Z, hZ, hZ1⟩ := hq.out.2
           have hZl : Z.length = 64 * 1 := hZ.1
           have cV' := HCV.out wr hq.out.1.only
           obtain ⟨v', w', hrun, ho, hg, hown', hat⟩ := append_frontG wr base 33 4 33 i0 (.bool false) 1 1 Tryz.underlying33 hi0 hz0 hz1 hz2 rfl (by decide) (vf k) (N k) (R k) Z ⟨T, 0, none⟩ 64 64 (hq.out.1.fl.own k hkn) hZl (World.ownsRow.cells hZ (g := T) rfl) hZ1 (by unfold maxLen; omega) (by omega) (Nat.le_trans HBS.out hq.out.1.only.low.size)
           rw [HVK.out] at hrun
           have hZ2 := hq.out.1.put HZE.out hkn (Below.refl _ _) (u := vf k) (.inl rfl) hg hown' ho (by omega) hat
           obtain ⟨a2, c2, hv2, _⟩ := own_slK ho
           subst hv2
           have hgml : gm.length = n := by have := hq.out.1.gs.1; simpa using this
           have cG : w'.cell? ⟨Gs, k, none⟩ = some (gm.getD k nilV) := by rw [World.ownsRow.cellAt hZ2.gs k (by omega), getD_vs (by omega)]
           have fG : w'.frozen? ⟨Gs, k, none⟩ = false := World.ownsRow.frozenAt hZ2.gs k
           have HZ2 : Hid _ := hZ2.store HZE.out k (.slice a2 (N k + 64) c2)
           have HG2 : Hid (∀ j : Nat, j < n → (gm.set k (.slice a2 (N k + 64) c2)).getD j nilV = upd gv k (.slice a2 (N k + 64) c2) j) := fun j hj => by
            rw [List.getD_eq_getElem?_getD, List.getElem?_set]
            by_cases e : k = j
            ·subst e
             rw [if_pos rfl, if_pos (by omega), upd_same]
             rfl
            ·rw [if_neg e, ← List.getD_eq_getElem?_getD, upd_ne _ _ (fun e2 => e e2.symm)]
             exact HGM.out j hj
           generalize gm.getD k nilV = gold at cG
           clear hq hZ hZ1 hZl HV HCV HMK HL0 HRM HMI hmk2 HO2 ho hg hown' hat hZ2 hgml HMF HMW HGM HVK HBS HZE HMA hf 
           generalize N k = m at *
           go_wp2_with (at_builtin; go_loud (refine wpList_append_is rfl _ _ 33 rfl _ _ _ _ rfl rfl hrun ?_))
           go_wp2
           go_roundw
           case rel => exact ⟨k + 1, _, _, _, _, by first | rfl | (congr 1; omega), by omega, HZ2.out, HG2.out⟩
           case measure => simp [intOf]; omega
        ·obtain rfl : n = k := by omega
         have HZ5 : Hid (ZFc 4 33 1 W wt base n Gs B vf gv N M R Q gm) := hq.out.1
         have HG5 : Hid (∀ j : Nat, j < n → gm.getD j nilV = gv j) := hq.out.2
         clear hq
         go_wp2
         go_loopw [14] (fun vk wr => ∃ k : Nat, vk = .int .i64 k ∧ k ≤ n ∧ Hid (ZFc 4 33 1 W wr base n Gs B vf gv N M R Q gm)) (fun vk _ => n - (intOf vk).toNat)
         case atStart => exact ⟨0, rfl, by omega, HZ5.out⟩
         case round =>
          obtain ⟨k, rfl, hk, hq⟩ := hrel
          clear HZ5
          generalize wr = wu at *
          by_cases hkn : k < n
          ·have hkn' : (k : Int) < n := by omega
           obtain ⟨gV, hVe, cV⟩ := HV.out wu hq.out.only k hkn
           subst hVe
           obtain ⟨ka, kc, hvk, hkg⟩ := own_slK (hq.out.fl.own k hkn)
           obtain ⟨ga, gc, hgk, hgg⟩ := own_slK (hq.out.fl.gow k hkn)
           have hkl := HL0.out k hkn
           have hRk := HRM.out k hkn
           have hgm := HG5.out k hkn
           obtain ⟨t, ht⟩ := hq.out.fl.pre k hkn
           have hNM := hq.out.fl.le k hkn
           have hgml : gm.length = n := by have := hq.out.gs.1; simpa using this
           have HCC : Hid (∀ wr, ZFc 4 33 1 W wr base n Gs B vf gv N M R Q gm → wr.cell? ⟨gV, k, none⟩ = some (.slice ka (N k) kc) ∧ wr.cell? ⟨Gs, k, none⟩ = some (.slice ga (M k) gc) ∧ ∀ i, i < N k → (∃ g, ka = some ⟨g, 0, none⟩ ∧ wr.cell? ⟨g, i, none⟩ = some (.bool (truthM k i))) ∧ ∃ g, ga = some ⟨g, 0, none⟩ ∧ wr.cell? ⟨g, i, none⟩ = some (.bool (truthM k i))) := fun wr hz => by
            refine ⟨?_, ?_, fun i hi => ⟨?_, ?_⟩⟩
            ·obtain ⟨g2, e2, c2⟩ := HV.out wr hz.only k hkn
             cases e2
             rw [c2, hvk]
            ·rw [World.ownsRow.cellAt hz.gs k (by omega), getD_vs (by omega), hgm, hgk]
            ·obtain ⟨g, e, _⟩ := hkg (by omega)
             subst e
             have h9 := hz.fl.own k hkn
             rw [hvk, hRk, ← List.append_nil (mksL _ _)] at h9
             exact ⟨g, rfl, HMA.out wr g kc i (N k) (N k) k [] h9 hi⟩
            ·obtain ⟨g, e, _⟩ := hgg (by omega)
             subst e
             have h9 := hz.fl.gow k hkn
             rw [hgk, ht, hRk] at h9
             exact ⟨g, rfl, HMA.out wr g gc i (M k) (N k) k t h9 hi⟩
           have HQ0 : Hid _ := hq.out
           have HMI : Hid (∀ i : Nat, i < N k → ∀ W, _) := fun i hi => HMK.out (k : Int) (i : Int) (by omega) (by omega) (by omega) (by omega)
           clear hq hvk hkg hgk hgg hRk hgm ht hgml cV
           generalize N k = m at *
           generalize M k = m2 at *
           go_wp2
           go_loopw [15] (fun vi wr => ∃ i : Nat, vi = .int .i64 i ∧ i ≤ m ∧ Hid (ZFc 4 33 1 W wr base n Gs B vf gv N M R Q gm)) (fun vi _ => m - (intOf vi).toNat)
           case atStart => exact ⟨0, rfl, by omega, HQ0.out⟩
           case round =>
            obtain ⟨i, rfl, hi, hq⟩ := hrel
            clear HQ0
            obtain ⟨c1, c2, h1⟩ := HCC.out wr hq.out
            have HZD : Hid (∀ d os, ZFc 4 33 1 W (grow (redrawn wr d) os) base n Gs B vf gv N M R Q gm) := fun d os => hq.out.below (below_regrown wr d os)
            have c1r := cell_regrown c1
            have c2r := cell_regrown c2
            by_cases him : i < m
            ·as_aux_lemma =>
              have him' : (i : Int) < m := by omega
              have him2 : (i : Int) < m2 := by omega
              obtain ⟨⟨gk, hgk, x0⟩, gq, hgq, y0⟩ := h1 i him
              subst hgk
              subst hgq
              have xr0 := cell_regrown x0
              have yr0 := cell_regrown y0
              have HM1 : Hid (∀ d os, _) := fun d os => Calls.regrown_of (HMI.out i him (grow (redrawn wr d) os))
              skip
              have hb2 : ((markI (k : Int) (i : Int)).tmod 2 == 0) = decide (markI (k : Int) (i : Int) % 2 = 0) := by
               rw [Int.tmod_eq_emod_of_nonneg (by unfold markI; omega)]
               rfl
              cases hb : decide (markI (k : Int) (i : Int) % 2 = 0)
              all_goals
               rw [hb] at hb2
               try simp only [truthM, hb] at x0 xr0
               simp only [truthM, hb] at y0 yr0
               clear hq h1 HCC HMI HV HMK HL0 HRM HG5 hmk2 HO2 HBS HMA hf HZE 
               go_wp2
               refine wp_region_quiet_below (by kernel_rfl) (by kernel_rfl) ?_
               repeat (go_big_quiet_step ((first | with_reducible exact HM1.out _ _)))
               refine wpQuiet_nil ?_
               intro _ hw'
               obtain ⟨⟨dq, osq⟩, hw''⟩ := hw'
               subst hw''
               go_wp2
               go_roundw
               case rel => exact ⟨i + 1, by first | rfl | (congr 1; omega), by omega, HZD.out dq osq⟩
               case measure => simp [intOf]; omega
            ·obtain rfl : i = m := by omega
             clear h1 HCC HMI HV HMK HL0 HRM HG5 hmk2 HO2 HBS HMA hf HZE c1r c2r HZD
             go_wp2
             go_roundw
             case rel => exact ⟨k + 1, by first | rfl | (congr 1; omega), by omega, hq.out⟩
             case measure => simp [intOf]; omega
          ·clear HV HMK HL0 HRM HG5 hmk2 HO2 HBS HMA hf HZE
           go_wp2
           go_ret
           exact ⟨rfl, hq.out.only⟩
end Go.Proofs.YtajaijilfclhpaaGreatDoor
