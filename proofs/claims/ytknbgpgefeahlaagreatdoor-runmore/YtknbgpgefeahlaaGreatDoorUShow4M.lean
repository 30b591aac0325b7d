/- The law with one stray, as it is used. -/
import Derived.Test.YtknbgpgefeahlaaGreatDoorUOrd2
import Derived.Test.YtknbgpgefeahlaaGreatDoorURdM
namespace Go.Proofs.YtknbgpgefeahlaaGreatDoor
open Go.RowKit

def pre2B (md : Region.Mode) (ops pops : Array Oper) (k m s : Nat) (os : Oper) : Bool :=
  decide (s < k) && decide (k ≤ m) && os.guard.isNone &&
  ((List.range m).all fun j => decide (j < k) || match ops[j]? with
    | some o => o.guard.isNone && o.after.all (fun e => !Region.binds md e || (decide (e.on < j) && !(e.on == s))) && os.apart pops o
    | none => false) &&
  ((List.range ops.size).all fun p => decide (p < m) ||
    ((List.range ops.size).any fun i => decide (m ≤ i) && depB md ops p i) ||
    ((List.range m).all fun j => decide (j < k) || depB md ops p j || ((List.range m).any fun i => decide (j < i) && depB md ops i j)))
theorem Pre2.of {md : Region.Mode} {L : List Oper} {k m s : Nat} {os : Oper} (hm : m ≤ L.length) (hos : L.toArray[s]? = some os) (hsel : Region.noSelect L.toArray = true) (h : pre2B md L.toArray (L.take m).toArray k m s os = true) : Pre2 md L.toArray (L.take m).toArray k m s os := by
  unfold pre2B at h
  simp only [Bool.and_eq_true, decide_eq_true_eq, List.all_eq_true, List.mem_range, Option.isNone_iff_eq_none, Bool.or_eq_true] at h
  obtain ⟨⟨⟨⟨h1, h2⟩, h3⟩, h4⟩, h5⟩ := h
  have g1 : ∀ j o, k ≤ j → j < m → L.toArray[j]? = some o → o.guard = none ∧ (∀ e ∈ o.after, Region.binds md e = true → e.on < j ∧ e.on ≠ s) ∧ os.apart (L.take m).toArray o = true := by
    intro j o hk hj ho
    rcases h4 j hj with h6 | h6
    · omega
    · rw [ho] at h6
      simp only [Bool.and_eq_true, Option.isNone_iff_eq_none, Array.all_eq_true_iff_forall_mem, Bool.or_eq_true, Bool.not_eq_true', decide_eq_true_eq] at h6
      refine ⟨h6.1.1, fun e he hb => ?_, h6.2⟩
      rcases h6.1.2 e he with h7 | h7
      · rw [hb] at h7; cases h7
      · exact ⟨h7.1, by simpa using h7.2⟩
  refine ⟨by simpa using hm, by simp; omega, fun j hj => by simp [hj], h1, h2, fun j o hk hj ho => (g1 j o hk hj ho).1, fun j o hk hj ho => (g1 j o hk hj ho).2.1, hos, h3, fun j o hk hj ho => (g1 j o hk hj ho).2.2, fun cs b => Region.noSelect_spec hsel s os cs b hos, fun j o cs b _ _ ho => Region.noSelect_spec hsel j o cs b ho, fun p hp hps => ?_⟩
  rcases h5 p hps with (h6 | h6) | h6
  · omega
  · rw [List.any_eq_true] at h6
    obtain ⟨i, hi, h7⟩ := h6
    simp only [Bool.and_eq_true, decide_eq_true_eq] at h7
    exact .inl ⟨i, h7.1, by simpa using hi, h7.2⟩
  · refine .inr fun j hk hj => ?_
    rcases h6 j hj with (h7 | h7) | h7
    · omega
    · exact .inl h7
    · rw [List.any_eq_true] at h7
      obtain ⟨i, hi, h8⟩ := h7
      simp only [Bool.and_eq_true, decide_eq_true_eq] at h8
      exact .inr ⟨i, by simpa using hi, h8.1, h8.2⟩
theorem put_back (a : Act) (d : Option Tmp) (v : Value) : ∃ x, (a.put d v).put d x = a := by
  cases d with
  | none => exact ⟨v, rfl⟩
  | some d =>
    refine ⟨a.tmps.getD d undef, ?_⟩
    unfold Act.put
    dsimp only
    have : (a.tmps.setIfInBounds d v).setIfInBounds d (a.tmps.getD d undef) = a.tmps := by
      apply Array.ext_getElem?
      intro i
      rw [Array.getElem?_setIfInBounds]
      split
      · rename_i e; subst e
        by_cases hd : d < a.tmps.size
        · simp [hd, Array.getD_eq_getD_getElem?]
        · simp [hd]
      · rename_i e
        rw [Array.getElem?_setIfInBounds, if_neg e]
    rw [this]
/-- Those ahead of k are listed but for the stray. -/
def listed0 (n k s : Nat) : Array Bool := ((List.range n).map fun i => decide (i < k) && !(i == s)).toArray
theorem listed0_at (n k s i : Nat) : (listed0 n k s)[i]? = if i < n then some (decide (i < k) && !(i == s)) else none := by
  unfold listed0
  rw [List.getElem?_toArray, List.getElem?_map]
  by_cases h : i < n
  · rw [List.getElem?_range h, if_pos h]; rfl
  · rw [List.getElem?_eq_none (by simpa using Nat.le_of_not_lt h), if_neg h]; rfl
def listedP (m k : Nat) : Array Bool := ((List.range m).map fun i => decide (i < k)).toArray
theorem listedP_at (m k i : Nat) : (listedP m k)[i]? = if i < m then some (decide (i < k)) else none := listed1_at m k i
theorem wpAny_stray {P : Program} {Q : Exit → Act → World → Prop} {a : Act} {w w' : World} {L : List Oper} (k m s r : Nat) (os : Oper) (v : Value) (hos : L.toArray[s]? = some os) (hml : decide (m ≤ L.length) = true) (hsel : Region.noSelect L.toArray = true) (hsel2 : Region.noSelect (L.take m).toArray = true) (hlex : Region.lexFrom .any (L.take m).toArray (m - k) k (listedP m k) = true) (hp : pre2B .any L.toArray (L.take m).toArray k m s os = true)
    (hw : ∃ n, w' = w.drewN n) (hy : YieldsIn P (L.take m).toArray (fun w' => ∃ n, w' = w.drewN n) os v a)
    (h : wpQuiet P (L.take m).toArray (fun w' => ∃ n, w' = w.drewN n) (fun F => ∀ w', (∃ n, w' = w.drewN n) → (∀ x, wpAny P .any L.toArray Q (r + 1) (listed2 L.length m s false) (F.put os.dst x) w') ∧ wpAny P .any L.toArray Q r (listed2 L.length m s true) F w') ((L.take m).drop k) (a.put os.dst v)) :
    wpAny P .any L.toArray Q (m - k + (r + 1)) (listed0 L.length k s) a w' := by
  have hml' : m ≤ L.length := by simpa using hml
  have hpre := Pre2.of (md := .any) hml' hos hsel hp
  have h1 := hpre.sk
  have h2 := hpre.km
  have hl : ((L.take m).drop k).length = m - k := by rw [List.length_drop, List.length_take]; omega
  have hq := wpAnyQ_lex (C := fun w' => ∃ n, w' = w.drewN n) (md := .any) hsel2 ((L.take m).drop k) k (listedP m k) (a.put os.dst v) (fun j => by simp [List.getElem?_drop]) (by rw [hl]; exact hlex) h
  rw [hl] at hq
  have hsz : L.toArray.size = L.length := by simp
  refine main2U (P := P) (Q := Q) (v := v) (C := fun w' => ∃ n, w' = w.drewN n) hpre (fun a' w2 hw2 hqm => by rw [hsz]; exact (hqm w2 hw2).2) (fun a' w2 hw2 hqm => ?_) (m - k) (listed0 L.length k s) (listedP m k) a w' ⟨?_, ?_, ?_, ?_, ?_, ?_, ?_⟩ ?_ hw hy hq
  · obtain ⟨x, hx⟩ := put_back a' os.dst v
    have := (hqm w2 hw2).1 x
    rw [hx] at this
    rw [hsz]
    exact this
  · simp [listed0]
  · simp [listedP]
  · intro j hk hj
    rw [listedP_at, listed0_at, if_pos hj, if_pos (by omega), decide_eq_false (by omega)]
    rfl
  · intro j hk hj
    rw [listedP_at, if_pos hj, decide_eq_true hk]
  · intro j hk hs
    rw [listed0_at, if_pos (by omega), decide_eq_true hk]
    simp [hs]
  · intro p hp hps
    rw [listed0_at, if_pos (by simpa using hps), decide_eq_false (by omega)]
    rfl
  · intro j o hk hj hlt
    rw [listed0_at, if_pos (by omega), decide_eq_false (by omega)] at hlt
    cases hlt
  · rw [listed0_at, if_pos (by omega)]
    simp
end Go.Proofs.YtknbgpgefeahlaaGreatDoor
/- A word is shown: the walk. -/
namespace Go.Proofs.YtknbgpgefeahlaaGreatDoor
open Go.RowKit

theorem wpAny_cast {P : Program} {md : Region.Mode} {ops : Array Oper} {Q : Exit → Act → World → Prop} {n n' : Nat} {l l' : Array Bool} {a : Act} {w : World} (h1 : n = n') (h2 : l = l') (h : wpAny P md ops Q n' l' a w) : wpAny P md ops Q n l a w := by rw [h1, h2]; exact h
set_option maxRecDepth 100000 in
set_option maxHeartbeats 2000000 in
theorem do_show_walk {bs B g o ag ao c v sl : Nat} {t x : Int} {fl : List Value} {sv : Value} {w : World} {Q : World → Prop} (c0 : w.cell? ⟨g, o, none⟩ = some (.int .u8 10)) (c3 : w.cell? ⟨g, o + 3, none⟩ = some (.slice (some ⟨ag, ao, none⟩) 1 c)) (ca : w.cell? ⟨ag, ao, none⟩ = some (.int .i64 (v : Int)))
    (b8 : w.cell? ⟨B, 8, none⟩ = some sv) (b8' : ∀ k ob, ((w.drewN k).alloc ob).cell? ⟨B, 8, none⟩ = some sv)
    (HG : Hid (∀ W k, W = w.drewN k → Calls Tryz.prog 44 #[ptr B, .int .i64 (v : Int)] W fun e w' => e = .returned (.int .u64 x) ∧ ∃ k, w' = W.drewN k))
    (HY : Hid (∀ W k, W = w.drewN k → Calls Tryz.prog 47 #[ptr B, .int .i64 (v : Int)] W fun e w' => e = .returned (.int .u8 t) ∧ ∃ k, w' = W.drewN k))
    (HO : Hid (∀ k, (w.drewN k).ownsRow bs 56 2 sv sl fl)) (hsl : Hid (sl ≤ 1000000000)) (hbs : Hid (bs ≤ w.heap.size))
    (HX : Hid (∀ k ob w2 sv', w2.ownsRow bs 56 2 sv' (sl + 1) (fl ++ [.int .u8 t, .int .u64 x]) → ((w.drewN k).alloc ob).grownBy w2 sv.ownBlock → (sv'.ownBlock = sv.ownBlock ∨ sv'.ownBlock = some ((w.drewN k).alloc ob).heap.size) → w2.cell? ⟨B, 8, none⟩ = some sv ∧ w2.frozen? ⟨B, 8, none⟩ = false ∧ Q (w2.setCell ⟨B, 8, none⟩ sv'))) :
    Calls Tryz.prog 26 #[ptr B, .pointer (some ⟨g, o, none⟩)] w fun e w' => e = .returned (.tuple #[]) ∧ Q w' := by
  obtain ⟨i0, hi0, hz0, hz1, hz2⟩ := info_parts infoSh
  go_enter Tryz.func26, Tryz.ntmps26
  go_wp2
  refine wp_region_any (by kernel_rfl) ?_
  refine wpAny_take (i := 0) (oi := ⟨some 140, .move (.tmp 0), _, _, _, _⟩) (v := ptr B) rfl (by kernel_rfl) (by kernel_rfl) (by kernel_rfl) (fun _ _ _ h => h) (Or.inl ⟨by rfl, by intro w; go_simp⟩) ?_
  refine wpAny_take (i := 1) (oi := ⟨some 141, .move (.tmp 0), _, _, _, _⟩) (v := ptr B) rfl (by kernel_rfl) (by kernel_rfl) (by kernel_rfl) (fun _ _ _ h => h) (Or.inl ⟨by rfl, by intro w; go_simp⟩) ?_
  refine wpAny_take (i := 2) (oi := ⟨some 142, .nilCheck (.tmp 141), _, _, _, _⟩) (v := ptr B) rfl (by kernel_rfl) (by kernel_rfl) (by kernel_rfl) (fun _ _ _ h => h) (Or.inl ⟨by rfl, by intro w; go_simp⟩) ?_
  refine wpAny_take (i := 3) (oi := ⟨some 143, .fieldAddr _ (.tmp 142) 8, _, _, _, _⟩) (v := .pointer (some ⟨B, 8, none⟩)) rfl (by kernel_rfl) (by kernel_rfl) (by kernel_rfl) (fun _ _ _ h => h) (Or.inl ⟨by rfl, by intro w; go_simp⟩) ?_
  refine wpAny_take (i := 4) (oi := ⟨some 144, .fieldAddr _ (.tmp 143) 0, _, _, _, _⟩) (v := .pointer (some ⟨B, 8, none⟩)) rfl (by kernel_rfl) (by kernel_rfl) (by kernel_rfl) (fun _ _ _ h => h) (Or.inl ⟨by rfl, by intro w; go_simp⟩) ?_
  refine wpAny_cast (n' := 22 - 6 + (7 + 1)) (l' := listed0 29 6 5) (by kernel_rfl) (by kernel_rfl) ?_
  refine wpAny_stray (w := w) 6 22 5 7 ⟨some 145, Op.load 26 (.tmp 144), 26, "do.go:27", #[⟨4, .data⟩], none⟩ sv rfl (by kernel_rfl) (by kernel_rfl) (by kernel_rfl) (by kernel_rfl) (by kernel_rfl) ⟨1, rfl⟩ (Or.inl ⟨by rfl, by rintro _ ⟨n, rfl⟩; go_simp⟩) ?_
  simp only [List.take_succ_cons, List.take_zero, List.drop_succ_cons, List.drop_zero]
  simp only [Act.put, List.setIfInBounds_toArray, List.set_cons_succ, List.set_cons_zero]
  repeat (go_big_quiet_step (first | (go_at_call 47; exact Calls.quiet_of (HY.out _ _ rfl)) | (go_at_call 44; exact Calls.quiet_of (HG.out _ _ rfl))))
  refine wpQuiet_nil ?_
  intro _ hw'
  obtain ⟨nq, hw''⟩ := hw'
  subst hw''
  refine ⟨fun y => ?_, ?_⟩
  · try simp only [List.setIfInBounds_toArray, List.set_cons_succ, List.set_cons_zero]
    refine wpAny_take (i := 22) (oi := ⟨some 162, .build _ _, _, _, _, _⟩) (v := .agg #[.int .u8 t, .int .u64 x]) rfl (by kernel_rfl) (by kernel_rfl) (by kernel_rfl) (fun _ _ _ h => h) (Or.inl ⟨by rfl, by intro w; go_simp⟩) ?_
    refine wpAny_ready (rs := [5, 23]) (by kernel_rfl) (by simp) ?_
    refine AllReady.cons rfl (fun K hK => ?_) (AllReady.cons rfl (fun K hK => ?_) AllReady.nil)
    · go_simp
      refine hK _ _ ?_
      clear hK K
      refine wpAny_ready (rs := [23]) (by kernel_rfl) (by simp) ?_
      refine AllReady.cons rfl (fun K hK => ?_) AllReady.nil
      go_simp
      refine hK _ _ ?_
      clear hK K
      refine wpAny_ready (rs := [24]) (by kernel_rfl) (by simp) ?_
      refine AllReady.cons (o := ⟨some 164, Op.call { callee := Callee.builtin Builtin.append, args := #[.tmp 145, .tmp 163], argTypes := #[26, 26] }, _, _, _, _⟩) rfl (fun K hK => ?_) AllReady.nil
      refine step_append_own rfl (.tmp 145) (.tmp 163) 26 rfl bs 56 i0 (.agg #[.int .u8 0, .int .u64 0]) 2 16 Tryz.underlying26 hi0 hz0 hz1 hz2 rfl (by decide) sv sl fl ?e1 ?e2 ⟨w.heap.size, 0, none⟩ 1 1 [.int .u8 t, .int .u64 x] ?e3 rfl ?e4 ?e5 ?e6 ?e7 ?e8 ?_
      case e1 => simp [Act.eval]
      case e2 => exact (HO.out _).alloc _
      case e3 => simp [Act.eval]
      case e4 => exact cells2_new rfl _ _ _
      case e5 => intro u hu; simp at hu; rcases hu with rfl | rfl <;> rfl
      case e6 => have := hsl.out; unfold maxLen; omega
      case e7 => have := hsl.out; omega
      case e8 => have := hbs.out; simp; omega
      intro v2 w2 ho hg2 hat
      obtain ⟨g2, cc2, rfl, _, _, _, _⟩ := own_form ho
      obtain ⟨q1, q2, HQ0⟩ := HX.out _ _ w2 _ ho hg2 hat
      have HQ : Hid (Q _) := HQ0
      clear ho hg2 hat HQ0
      refine hK _ _ ?_
      clear hK K
      refine wpAny_ready (rs := [25]) (by kernel_rfl) (by simp) ?_
      refine AllReady.cons rfl (fun K hK => ?_) AllReady.nil
      go_simp
      refine hK _ _ ?_
      clear hK K
      refine wpAny_ready (rs := [26]) (by kernel_rfl) (by simp) ?_
      refine AllReady.cons rfl (fun K hK => ?_) AllReady.nil
      go_simp
      refine hK _ _ ?_
      clear hK K
      refine wpAny_ready (rs := [27]) (by kernel_rfl) (by simp) ?_
      refine AllReady.cons rfl (fun K hK => ?_) AllReady.nil
      go_simp
      refine hK _ _ ?_
      clear hK K
      refine wpAny_ready (rs := [28]) (by kernel_rfl) (by simp) ?_
      refine AllReady.cons rfl (fun K hK => ?_) AllReady.nil
      go_simp
      refine hK _ _ ?_
      clear hK K
      refine wpAny_done (by kernel_rfl) ?_ _
      go_wp2
      go_end0
      exact ⟨rfl, HQ.out⟩
    · go_simp
      refine hK _ _ ?_
      clear hK K
      refine wpAny_ready (rs := [5]) (by kernel_rfl) (by simp) ?_
      refine AllReady.cons rfl (fun K hK => ?_) AllReady.nil
      go_simp
      refine hK _ _ ?_
      clear hK K
      refine wpAny_ready (rs := [24]) (by kernel_rfl) (by simp) ?_
      refine AllReady.cons (o := ⟨some 164, Op.call { callee := Callee.builtin Builtin.append, args := #[.tmp 145, .tmp 163], argTypes := #[26, 26] }, _, _, _, _⟩) rfl (fun K hK => ?_) AllReady.nil
      refine step_append_own rfl (.tmp 145) (.tmp 163) 26 rfl bs 56 i0 (.agg #[.int .u8 0, .int .u64 0]) 2 16 Tryz.underlying26 hi0 hz0 hz1 hz2 rfl (by decide) sv sl fl ?e1 ?e2 ⟨w.heap.size, 0, none⟩ 1 1 [.int .u8 t, .int .u64 x] ?e3 rfl ?e4 ?e5 ?e6 ?e7 ?e8 ?_
      case e1 => simp [Act.eval]
      case e2 => exact (HO.out _).alloc _
      case e3 => simp [Act.eval]
      case e4 => exact cells2_new rfl _ _ _
      case e5 => intro u hu; simp at hu; rcases hu with rfl | rfl <;> rfl
      case e6 => have := hsl.out; unfold maxLen; omega
      case e7 => have := hsl.out; omega
      case e8 => have := hbs.out; simp; omega
      intro v2 w2 ho hg2 hat
      obtain ⟨g2, cc2, rfl, _, _, _, _⟩ := own_form ho
      obtain ⟨q1, q2, HQ0⟩ := HX.out _ _ w2 _ ho hg2 hat
      have HQ : Hid (Q _) := HQ0
      clear ho hg2 hat HQ0
      refine hK _ _ ?_
      clear hK K
      refine wpAny_ready (rs := [25]) (by kernel_rfl) (by simp) ?_
      refine AllReady.cons rfl (fun K hK => ?_) AllReady.nil
      go_simp
      refine hK _ _ ?_
      clear hK K
      refine wpAny_ready (rs := [26]) (by kernel_rfl) (by simp) ?_
      refine AllReady.cons rfl (fun K hK => ?_) AllReady.nil
      go_simp
      refine hK _ _ ?_
      clear hK K
      refine wpAny_ready (rs := [27]) (by kernel_rfl) (by simp) ?_
      refine AllReady.cons rfl (fun K hK => ?_) AllReady.nil
      go_simp
      refine hK _ _ ?_
      clear hK K
      refine wpAny_ready (rs := [28]) (by kernel_rfl) (by simp) ?_
      refine AllReady.cons rfl (fun K hK => ?_) AllReady.nil
      go_simp
      refine hK _ _ ?_
      clear hK K
      refine wpAny_done (by kernel_rfl) ?_ _
      go_wp2
      go_end0
      exact ⟨rfl, HQ.out⟩
  · refine wpAny_take (i := 22) (oi := ⟨some 162, .build _ _, _, _, _, _⟩) (v := .agg #[.int .u8 t, .int .u64 x]) rfl (by kernel_rfl) (by kernel_rfl) (by kernel_rfl) (fun _ _ _ h => h) (Or.inl ⟨by rfl, by intro w; go_simp⟩) ?_
    refine wpAny_ready (rs := [23]) (by kernel_rfl) (by simp) ?_
    refine AllReady.cons rfl (fun K hK => ?_) AllReady.nil
    go_simp
    refine hK _ _ ?_
    clear hK K
    refine wpAny_ready (rs := [24]) (by kernel_rfl) (by simp) ?_
    refine AllReady.cons (o := ⟨some 164, Op.call { callee := Callee.builtin Builtin.append, args := #[.tmp 145, .tmp 163], argTypes := #[26, 26] }, _, _, _, _⟩) rfl (fun K hK => ?_) AllReady.nil
    refine step_append_own rfl (.tmp 145) (.tmp 163) 26 rfl bs 56 i0 (.agg #[.int .u8 0, .int .u64 0]) 2 16 Tryz.underlying26 hi0 hz0 hz1 hz2 rfl (by decide) sv sl fl ?e1 ?e2 ⟨w.heap.size, 0, none⟩ 1 1 [.int .u8 t, .int .u64 x] ?e3 rfl ?e4 ?e5 ?e6 ?e7 ?e8 ?_
    case e1 => simp [Act.eval]
    case e2 => exact (HO.out _).alloc _
    case e3 => simp [Act.eval]
    case e4 => exact cells2_new rfl _ _ _
    case e5 => intro u hu; simp at hu; rcases hu with rfl | rfl <;> rfl
    case e6 => have := hsl.out; unfold maxLen; omega
    case e7 => have := hsl.out; omega
    case e8 => have := hbs.out; simp; omega
    intro v2 w2 ho hg2 hat
    obtain ⟨g2, cc2, rfl, _, _, _, _⟩ := own_form ho
    obtain ⟨q1, q2, HQ0⟩ := HX.out _ _ w2 _ ho hg2 hat
    have HQ : Hid (Q _) := HQ0
    clear ho hg2 hat HQ0
    refine hK _ _ ?_
    clear hK K
    refine wpAny_ready (rs := [25]) (by kernel_rfl) (by simp) ?_
    refine AllReady.cons rfl (fun K hK => ?_) AllReady.nil
    go_simp
    refine hK _ _ ?_
    clear hK K
    refine wpAny_ready (rs := [26]) (by kernel_rfl) (by simp) ?_
    refine AllReady.cons rfl (fun K hK => ?_) AllReady.nil
    go_simp
    refine hK _ _ ?_
    clear hK K
    refine wpAny_ready (rs := [27]) (by kernel_rfl) (by simp) ?_
    refine AllReady.cons rfl (fun K hK => ?_) AllReady.nil
    go_simp
    refine hK _ _ ?_
    clear hK K
    refine wpAny_ready (rs := [28]) (by kernel_rfl) (by simp) ?_
    refine AllReady.cons rfl (fun K hK => ?_) AllReady.nil
    go_simp
    refine hK _ _ ?_
    clear hK K
    refine wpAny_done (by kernel_rfl) ?_ _
    go_wp2
    go_end0
    exact ⟨rfl, HQ.out⟩
end Go.Proofs.YtknbgpgefeahlaaGreatDoor
/- A word is shown. -/
namespace Go.Proofs.YtknbgpgefeahlaaGreatDoor
open Go.RowKit

theorem do_show {E : Env} {w : World} {V : Vals} {ss : List Slot} {S : St} (h : Rn E w V ss S) {m : Nat} {l : List Int} (ha : Asks E S m l) (hg : S.top.g < E.P.length) {g o : Nat} {av : Value} {x : In} (hx : InAt E.w0 g o av x) (hk : x.kind = 10) {v : Nat} (hn : x.args.length = 1) (hv : x.args.getD 0 0 = (v : Int)) (hvl : v < l.length) (hvv : v < (E.P.getD S.top.g default).vars.length) (hsl : S.shows.length ≤ 1000000000) :
    Calls Tryz.prog 26 #[ptr E.B, .pointer (some ⟨g, o, none⟩)] w fun e w' => e = .returned (.tuple #[]) ∧ ∃ sv' ss', Rn E w' { V with sv := sv' } ss' { S with shows := S.shows ++ [((E.P.getD S.top.g default).vars.getD v 0, S.get v)] } := by
  have hx' := hx.below h.low
  obtain ⟨ag, ao, c, rfl, ca⟩ := hx'.arg0 (by omega)
  have c3 := hx'.c3
  rw [hn] at c3
  refine do_show_walk (bs := E.w0.heap.size) (sl := S.shows.length) (fl := flat shCells S.shows) (sv := V.sv) (by rw [hx'.c0, hk]) c3 (by rw [ca, hv]) h.box.2.2.2.2.2.2.2.2.1 (fun k ob => ((h.drewN k).alloc ob).box.2.2.2.2.2.2.2.2.1) (fun W k hW => by subst hW; exact get_any (h.drewN k) ha v hvl) (fun W k hW => by subst hW; exact typeOf_any (h.drewN k) ha.hm ha.hmb hg v hvv) (fun k => (h.drewN k).heap.own 6 _ h.s6) hsl h.low.size (fun k ob w2 sv' ho hgr hat => ?_)
  have hRA := (h.drewN k).alloc ob
  have hBW : w2.heap[E.B]? = ((w.drewN k).alloc ob).heap[E.B]? := hgr.block E.B (hRA.heap.lt hRA.s0).2 (fun e => h.heap.apart 6 0 _ _ E.B (by omega) h.s6 h.s0 e.symm rfl)
  exact ⟨(World.cell?_of_block (w := (w.drewN k).alloc ob) (a := ⟨E.B, 8, none⟩) hBW).trans hRA.box.2.2.2.2.2.2.2.2.1, (World.frozen?_of_block (w := (w.drewN k).alloc ob) (a := ⟨E.B, 8, none⟩) hBW).trans (hRA.fz 8), sv', hRA.show ho hgr hat⟩
end Go.Proofs.YtknbgpgefeahlaaGreatDoor
