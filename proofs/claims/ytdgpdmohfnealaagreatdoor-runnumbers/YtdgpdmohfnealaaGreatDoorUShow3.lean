/- A word is shown: the walk. -/
import Derived.Test.YtdgpdmohfnealaaGreatDoorURd2M
import Derived.Test.YtdgpdmohfnealaaGreatDoorUOrd3M
namespace Go.Proofs.YtdgpdmohfnealaaGreatDoor
open Go.RowKit

theorem wpAny_cast {P : Program} {md : Region.Mode} {ops : Array Oper} {Q : Exit → Act → World → Prop} {n n' : Nat} {l l' : Array Bool} {a : Act} {w : World} (h1 : n = n') (h2 : l = l') (h : wpAny P md ops Q n' l' a w) : wpAny P md ops Q n l a w := by rw [h1, h2]; exact h
set_option maxRecDepth 100000 in
set_option maxHeartbeats 2000000 in
theorem do_show_walk {bs B g o ag ao c v sl : Nat} {t x : Int} {fl : List Value} {sv : Value} {w : World} {Q : World → Prop} (c0 : w.cell? ⟨g, o, none⟩ = some (.int .u8 10)) (c3 : w.cell? ⟨g, o + 3, none⟩ = some (.slice (some ⟨ag, ao, none⟩) 1 c)) (ca : w.cell? ⟨ag, ao, none⟩ = some (.int .i64 (v : Int)))
    (b8 : w.cell? ⟨B, 8, none⟩ = some sv) (b8' : ∀ k ob, ((w.drewN k).alloc ob).cell? ⟨B, 8, none⟩ = some sv)
    (HG : Hid (∀ W k, W = w.drewN k → Calls Tryz.prog 33 #[ptr B, .int .i64 (v : Int)] W fun e w' => e = .returned (.int .u64 x) ∧ ∃ k, w' = W.drewN k))
    (HY : Hid (∀ W k, W = w.drewN k → Calls Tryz.prog 36 #[ptr B, .int .i64 (v : Int)] W fun e w' => e = .returned (.int .u8 t) ∧ ∃ k, w' = W.drewN k))
    (HO : Hid (∀ k, (w.drewN k).ownsRow bs 54 2 sv sl fl)) (hsl : Hid (sl ≤ 1000000000)) (hbs : Hid (bs ≤ w.heap.size))
    (HX : Hid (∀ k ob w2 sv', w2.ownsRow bs 54 2 sv' (sl + 1) (fl ++ [.int .u8 t, .int .u64 x]) → ((w.drewN k).alloc ob).grownBy w2 sv.ownBlock → (sv'.ownBlock = sv.ownBlock ∨ sv'.ownBlock = some ((w.drewN k).alloc ob).heap.size) → w2.cell? ⟨B, 8, none⟩ = some sv ∧ w2.frozen? ⟨B, 8, none⟩ = false ∧ Q (w2.setCell ⟨B, 8, none⟩ sv'))) :
    Calls Tryz.prog 18 #[ptr B, .pointer (some ⟨g, o, none⟩)] w fun e w' => e = .returned (.tuple #[]) ∧ Q w' := by
  obtain ⟨i0, hi0, hz0, hz1, hz2⟩ := info_parts infoSh
  go_enter Tryz.func18, Tryz.ntmps18
  go_wp2
  refine wp_region_any (by kernel_rfl) ?_
  refine wpAny_take (i := 0) (oi := ⟨some 140, .move (.tmp 0), _, _, _, _⟩) (v := ptr B) rfl (by kernel_rfl) (by kernel_rfl) (by kernel_rfl) (fun _ _ _ h => h) (Or.inl ⟨by rfl, by intro w; go_simp⟩) ?_
  refine wpAny_take (i := 1) (oi := ⟨some 141, .move (.tmp 0), _, _, _, _⟩) (v := ptr B) rfl (by kernel_rfl) (by kernel_rfl) (by kernel_rfl) (fun _ _ _ h => h) (Or.inl ⟨by rfl, by intro w; go_simp⟩) ?_
  refine wpAny_take (i := 2) (oi := ⟨some 142, .nilCheck (.tmp 141), _, _, _, _⟩) (v := ptr B) rfl (by kernel_rfl) (by kernel_rfl) (by kernel_rfl) (fun _ _ _ h => h) (Or.inl ⟨by rfl, by intro w; go_simp⟩) ?_
  refine wpAny_take (i := 3) (oi := ⟨some 143, .fieldAddr _ (.tmp 142) 8, _, _, _, _⟩) (v := .pointer (some ⟨B, 8, none⟩)) rfl (by kernel_rfl) (by kernel_rfl) (by kernel_rfl) (fun _ _ _ h => h) (Or.inl ⟨by rfl, by intro w; go_simp⟩) ?_
  refine wpAny_take (i := 4) (oi := ⟨some 144, .fieldAddr _ (.tmp 143) 0, _, _, _, _⟩) (v := .pointer (some ⟨B, 8, none⟩)) rfl (by kernel_rfl) (by kernel_rfl) (by kernel_rfl) (fun _ _ _ h => h) (Or.inl ⟨by rfl, by intro w; go_simp⟩) ?_
  refine wpAny_cast (n' := 22 - 6 + (7 + 1)) (l' := listed0 29 6 5) (by kernel_rfl) (by kernel_rfl) ?_
  refine wpAny_stray (w := w) 6 22 5 7 ⟨some 145, Op.load 22 (.tmp 144), 22, "do.go:27", #[⟨4, .data⟩], none⟩ sv rfl (by kernel_rfl) (by kernel_rfl) (by kernel_rfl) (by kernel_rfl) (by kernel_rfl) ⟨1, rfl⟩ (Or.inl ⟨by rfl, by rintro _ ⟨n, rfl⟩; go_simp⟩) ?_
  simp only [List.take_succ_cons, List.take_zero, List.drop_succ_cons, List.drop_zero]
  simp only [Act.put, List.setIfInBounds_toArray, List.set_cons_succ, List.set_cons_zero]
  repeat (go_big_quiet_step (first | (go_at_call 36; exact Calls.quiet_of (HY.out _ _ rfl)) | (go_at_call 33; exact Calls.quiet_of (HG.out _ _ rfl))))
  refine wpQuiet_nil ?_
  intro _ hw'
  obtain ⟨nq, hw''⟩ := hw'
  subst hw''
  refine ⟨fun y => ?_, ?_⟩
  · try simp only [List.setIfInBounds_toArray, List.set_cons_succ, List.set_cons_zero]
    refine wpAny_take (i := 22) (oi := ⟨some 162, .build _ _, _, _, _, _⟩) (v := .agg #[.int .u8 t, .int .u64 x]) rfl (by kernel_rfl) (by kernel_rfl) (by kernel_rfl) (fun _ _ _ h => h) (Or.inl ⟨by rfl, by intro w; go_simp⟩) ?_
    refine wpAny_ready (rs := [5, 23]) (by kernel_rfl) (by simp) ?_
    refine AllReady.cons rfl (fun K hK => ?_) (AllReady.cons rfl (fun K hK => ?_) AllReady.nil)
    · go_simp
      refine hK _ _ ?_
      clear hK K
      refine wpAny_ready (rs := [23]) (by kernel_rfl) (by simp) ?_
      refine AllReady.cons rfl (fun K hK => ?_) AllReady.nil
      go_simp
      refine hK _ _ ?_
      clear hK K
      refine wpAny_ready (rs := [24]) (by kernel_rfl) (by simp) ?_
      refine AllReady.cons (o := ⟨some 164, Op.call { callee := Callee.builtin Builtin.append, args := #[.tmp 145, .tmp 163], argTypes := #[22, 22] }, _, _, _, _⟩) rfl (fun K hK => ?_) AllReady.nil
      refine step_append_own rfl (.tmp 145) (.tmp 163) 22 rfl bs 54 i0 (.agg #[.int .u8 0, .int .u64 0]) 2 16 Tryz.underlying22 hi0 hz0 hz1 hz2 rfl (by decide) sv sl fl ?e1 ?e2 ⟨w.heap.size, 0, none⟩ 1 1 [.int .u8 t, .int .u64 x] ?e3 rfl ?e4 ?e5 ?e6 ?e7 ?e8 ?_
      case e1 => simp [Act.eval]
      case e2 => exact (HO.out _).alloc _
      case e3 => simp [Act.eval]
      case e4 => exact cells2_new rfl _ _ _
      case e5 => intro u hu; simp at hu; rcases hu with rfl | rfl <;> rfl
      case e6 => have := hsl.out; unfold maxLen; omega
      case e7 => have := hsl.out; omega
      case e8 => have := hbs.out; simp; omega
      intro v2 w2 ho hg2 hat
      obtain ⟨g2, cc2, rfl, _, _, _, _⟩ := own_form ho
      obtain ⟨q1, q2, HQ0⟩ := HX.out _ _ w2 _ ho hg2 hat
      have HQ : Hid (Q _) := HQ0
      clear ho hg2 hat HQ0
      refine hK _ _ ?_
      clear hK K
      refine wpAny_ready (rs := [25]) (by kernel_rfl) (by simp) ?_
      refine AllReady.cons rfl (fun K hK => ?_) AllReady.nil
      go_simp
      refine hK _ _ ?_
      clear hK K
      refine wpAny_ready (rs := [26]) (by kernel_rfl) (by simp) ?_
      refine AllReady.cons rfl (fun K hK => ?_) AllReady.nil
      go_simp
      refine hK _ _ ?_
      clear hK K
      refine wpAny_ready (rs := [27]) (by kernel_rfl) (by simp) ?_
      refine AllReady.cons rfl (fun K hK => ?_) AllReady.nil
      go_simp
      refine hK _ _ ?_
      clear hK K
      refine wpAny_ready (rs := [28]) (by kernel_rfl) (by simp) ?_
      refine AllReady.cons rfl (fun K hK => ?_) AllReady.nil
      go_simp
      refine hK _ _ ?_
      clear hK K
      refine wpAny_done (by kernel_rfl) ?_ _
      go_wp2
      go_end0
      exact ⟨rfl, HQ.out⟩
    · go_simp
      refine hK _ _ ?_
      clear hK K
      refine wpAny_ready (rs := [5]) (by kernel_rfl) (by simp) ?_
      refine AllReady.cons rfl (fun K hK => ?_) AllReady.nil
      go_simp
      refine hK _ _ ?_
      clear hK K
      refine wpAny_ready (rs := [24]) (by kernel_rfl) (by simp) ?_
      refine AllReady.cons (o := ⟨some 164, Op.call { callee := Callee.builtin Builtin.append, args := #[.tmp 145, .tmp 163], argTypes := #[22, 22] }, _, _, _, _⟩) rfl (fun K hK => ?_) AllReady.nil
      refine step_append_own rfl (.tmp 145) (.tmp 163) 22 rfl bs 54 i0 (.agg #[.int .u8 0, .int .u64 0]) 2 16 Tryz.underlying22 hi0 hz0 hz1 hz2 rfl (by decide) sv sl fl ?e1 ?e2 ⟨w.heap.size, 0, none⟩ 1 1 [.int .u8 t, .int .u64 x] ?e3 rfl ?e4 ?e5 ?e6 ?e7 ?e8 ?_
      case e1 => simp [Act.eval]
      case e2 => exact (HO.out _).alloc _
      case e3 => simp [Act.eval]
      case e4 => exact cells2_new rfl _ _ _
      case e5 => intro u hu; simp at hu; rcases hu with rfl | rfl <;> rfl
      case e6 => have := hsl.out; unfold maxLen; omega
      case e7 => have := hsl.out; omega
      case e8 => have := hbs.out; simp; omega
      intro v2 w2 ho hg2 hat
      obtain ⟨g2, cc2, rfl, _, _, _, _⟩ := own_form ho
      obtain ⟨q1, q2, HQ0⟩ := HX.out _ _ w2 _ ho hg2 hat
      have HQ : Hid (Q _) := HQ0
      clear ho hg2 hat HQ0
      refine hK _ _ ?_
      clear hK K
      refine wpAny_ready (rs := [25]) (by kernel_rfl) (by simp) ?_
      refine AllReady.cons rfl (fun K hK => ?_) AllReady.nil
      go_simp
      refine hK _ _ ?_
      clear hK K
      refine wpAny_ready (rs := [26]) (by kernel_rfl) (by simp) ?_
      refine AllReady.cons rfl (fun K hK => ?_) AllReady.nil
      go_simp
      refine hK _ _ ?_
      clear hK K
      refine wpAny_ready (rs := [27]) (by kernel_rfl) (by simp) ?_
      refine AllReady.cons rfl (fun K hK => ?_) AllReady.nil
      go_simp
      refine hK _ _ ?_
      clear hK K
      refine wpAny_ready (rs := [28]) (by kernel_rfl) (by simp) ?_
      refine AllReady.cons rfl (fun K hK => ?_) AllReady.nil
      go_simp
      refine hK _ _ ?_
      clear hK K
      refine wpAny_done (by kernel_rfl) ?_ _
      go_wp2
      go_end0
      exact ⟨rfl, HQ.out⟩
  · refine wpAny_take (i := 22) (oi := ⟨some 162, .build _ _, _, _, _, _⟩) (v := .agg #[.int .u8 t, .int .u64 x]) rfl (by kernel_rfl) (by kernel_rfl) (by kernel_rfl) (fun _ _ _ h => h) (Or.inl ⟨by rfl, by intro w; go_simp⟩) ?_
    refine wpAny_ready (rs := [23]) (by kernel_rfl) (by simp) ?_
    refine AllReady.cons rfl (fun K hK => ?_) AllReady.nil
    go_simp
    refine hK _ _ ?_
    clear hK K
    refine wpAny_ready (rs := [24]) (by kernel_rfl) (by simp) ?_
    refine AllReady.cons (o := ⟨some 164, Op.call { callee := Callee.builtin Builtin.append, args := #[.tmp 145, .tmp 163], argTypes := #[22, 22] }, _, _, _, _⟩) rfl (fun K hK => ?_) AllReady.nil
    refine step_append_own rfl (.tmp 145) (.tmp 163) 22 rfl bs 54 i0 (.agg #[.int .u8 0, .int .u64 0]) 2 16 Tryz.underlying22 hi0 hz0 hz1 hz2 rfl (by decide) sv sl fl ?e1 ?e2 ⟨w.heap.size, 0, none⟩ 1 1 [.int .u8 t, .int .u64 x] ?e3 rfl ?e4 ?e5 ?e6 ?e7 ?e8 ?_
    case e1 => simp [Act.eval]
    case e2 => exact (HO.out _).alloc _
    case e3 => simp [Act.eval]
    case e4 => exact cells2_new rfl _ _ _
    case e5 => intro u hu; simp at hu; rcases hu with rfl | rfl <;> rfl
    case e6 => have := hsl.out; unfold maxLen; omega
    case e7 => have := hsl.out; omega
    case e8 => have := hbs.out; simp; omega
    intro v2 w2 ho hg2 hat
    obtain ⟨g2, cc2, rfl, _, _, _, _⟩ := own_form ho
    obtain ⟨q1, q2, HQ0⟩ := HX.out _ _ w2 _ ho hg2 hat
    have HQ : Hid (Q _) := HQ0
    clear ho hg2 hat HQ0
    refine hK _ _ ?_
    clear hK K
    refine wpAny_ready (rs := [25]) (by kernel_rfl) (by simp) ?_
    refine AllReady.cons rfl (fun K hK => ?_) AllReady.nil
    go_simp
    refine hK _ _ ?_
    clear hK K
    refine wpAny_ready (rs := [26]) (by kernel_rfl) (by simp) ?_
    refine AllReady.cons rfl (fun K hK => ?_) AllReady.nil
    go_simp
    refine hK _ _ ?_
    clear hK K
    refine wpAny_ready (rs := [27]) (by kernel_rfl) (by simp) ?_
    refine AllReady.cons rfl (fun K hK => ?_) AllReady.nil
    go_simp
    refine hK _ _ ?_
    clear hK K
    refine wpAny_ready (rs := [28]) (by kernel_rfl) (by simp) ?_
    refine AllReady.cons rfl (fun K hK => ?_) AllReady.nil
    go_simp
    refine hK _ _ ?_
    clear hK K
    refine wpAny_done (by kernel_rfl) ?_ _
    go_wp2
    go_end0
    exact ⟨rfl, HQ.out⟩
end Go.Proofs.YtdgpdmohfnealaaGreatDoor
