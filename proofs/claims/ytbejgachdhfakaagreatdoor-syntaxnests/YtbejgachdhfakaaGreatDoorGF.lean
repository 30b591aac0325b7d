/- Statements of a word. -/
import Derived.Test.YtbejgachdhfakaaGreatDoorGE
import Derived.Deep.DeepCutAuto
namespace Go.Proofs.YtbejgachdhfakaaGreatDoor
open Go.RowKit

theorem semi_list : (⟨#[59]⟩ : ByteArray).toList = [59] := by rw [Lib.toList_data]
theorem take_at {E : Env} {w : World} {v : Value} {kvs : List Value} {st : St} (h : Par E w v kvs st) {c : UInt8} : Calls Tryz.prog 43 #[ptr E.p, .string ⟨#[c]⟩] w (PostK natV E w v kvs (take E.s [c] st)) := by
  have e : (⟨#[c]⟩ : ByteArray).toList = [c] := by rw [Lib.toList_data]
  have := take_par h ⟨#[c]⟩ (by rw [e]; simp)
  rw [e] at this
  exact this
def DoesExprSt (F : FW) (n : Nat) : Prop := ∀ (E : Env) (w : World) (v : Value) (kvs : List Value) (st : St) (k : Nat), Good E.s (tl st).toks → st.toks ≠ [] → Par E w v kvs st → exprP F E.s n k st ≠ .out → Calls Tryz.prog 142 #[ptr E.p, .int .u8 (k : Int)] w (PostN E w v kvs (exprP F E.s n k st))
set_option maxRecDepth 100000 in
set_option maxHeartbeats 1000000 in
theorem exprSt_any {F : FW} {n : Nat} (hX : DoesExpr F n) : DoesExprSt F (n + 1) := by
  intro E w v kvs st kd hg hn h hne
  have HS : Hid (∀ a st', exprP F E.s (n + 1) kd st = .ok a st' → Went 0 st st') := fun a st' hs => (went_stmt F E.s (n + 1)).2.2.2.1 kd st a st' hn hs
  have hsum := h.sum
  have hPS := pass_par h hg
  generalize hR : exprP F E.s (n + 1) kd st = RES at hne HS ⊢
  simp only [exprP] at hR
  have HR0 : Hid (((row F E.s n 1 (tl st)).bind fun v st1 => (take E.s [59] st1).bind fun _ st2 => putP ⟨kd, (hd st).2.1, ⟨#[]⟩, 0, 0, 0, 0, [v]⟩ st2) = RES) := hR
  have HX : Hid (∀ W V K st1, Par E W V K st1 → row F E.s n 1 st1 ≠ .out → Calls Tryz.prog 158 #[ptr E.p] W (PostN E W V K (row F E.s n 1 st1))) := fun W V K st1 hp h1 => hX E W V K st1 hp h1
  have HW1 : Hid (∀ a st1, row F E.s n 1 (tl st) = .ok a st1 → Went 1 st st1) := fun a st1 hs => (went_tl hn).trans ((went_expr F E.s n).1 _ _ _ _ hs)
  generalize (hd st).2.1 = pl at hPS HR0
  clear hR hX h hg hn
  have hrn : row F E.s n 1 (tl st) ≠ .out := fun h0 => hne (by have := HR0.out; rw [h0] at this; exact this.symm)
  go_enter Tryz.func142, Tryz.ntmps142
  go_wp2_with (first | (go_at_call 93; refine Calls.mono (by exact hPS) ?_; rintro e w1 ⟨rfl, hk1, hp1⟩; have HM1 : Hid (Moved E.p w v kvs w1 v kvs) := hk1.moved v kvs; have HP1 : Hid (Par E w1 v kvs (tl st)) := hp1; clear hp1) | (go_at_call 158; refine Calls.mono (by exact HX.out _ _ _ _ HP1.out hrn) ?_; rintro e w2 h2; rcases hq2 : row F E.s n 1 (tl st) with ⟨a2, st2⟩ | ⟨c2, q2⟩ | _; rotate_left; (rw [hq2] at h2; obtain ⟨rfl, v2, k2, hm2⟩ := h2; have hre := HR0.out; simp only [hq2, Res.bind] at hre; subst hre; exact ⟨rfl, rfl, v2, k2, HM1.out.trans hm2⟩); (exfalso; apply hne; have hre := HR0.out; simp only [hq2, Res.bind] at hre; exact hre.symm); rw [hq2] at h2; obtain ⟨rfl, v2, k2, hp2, hm2⟩ := h2; have HM2 : Hid (Moved E.p w v kvs w2 v2 k2) := HM1.out.trans hm2; have hs2 := HR0.out; simp only [hq2, Res.bind] at hs2; have HRES2 : Hid _ := hs2; clear hs2; have HP2 : Hid (Par E w2 v2 k2 st2) := hp2; have HQ2 : Hid _ := hq2; clear hp2 hq2; skip) | (go_at_call 43; refine Calls.mono (by exact take_at HP2.out) ?_; rintro e w3 h3; rcases hq3 : take E.s [59] st2 with ⟨a3, st3⟩ | ⟨c3, q3⟩ | _; rotate_left; (rw [hq3] at h3; obtain ⟨rfl, hk3⟩ := h3; have hre := HRES2.out; simp only [hq3] at hre; subst hre; exact ⟨rfl, rfl, v2, k2, HM2.out.kept hk3⟩); (exfalso; apply hne; have hre := HRES2.out; simp only [hq3] at hre; exact hre.symm); rw [hq3] at h3; obtain ⟨rfl, hk3, hp3⟩ := h3; have HM3 : Hid (Moved E.p w v kvs w3 v2 k2) := HM2.out.kept hk3; have hs3 := HRES2.out; simp only [hq3] at hs3; have HRES3 : Hid _ := hs3; clear hs3; have HP3 : Hid (Par E w3 v2 k2 st3) := hp3; have HQ3 : Hid _ := hq3; clear hp3 hq3; skip))
  have hsz := HP3.out
  have hwe := HW1.out _ _ HQ2.out
  have hp4 : Below w3.heap.size w3 (w3.alloc (.cells (ints [a2]).toArray 3)) := (Below.refl _ _).alloc (Nat.le_refl _) _
  have hput : Calls Tryz.prog 100 #[ptr E.p, .agg #[.int .u8 (kd : Int), natV pl, .string ⟨#[]⟩, .int .u8 0, .int .u8 0, .int .u64 0, .int .i64 0, .slice (some ⟨w3.heap.size, 0, none⟩) 1 1]] (w3.alloc (.cells (ints [a2]).toArray 3)) (PostN E w v kvs (putP ⟨kd, pl, ⟨#[]⟩, 0, 0, 0, 0, [a2]⟩ st3)) :=
    put_node (HP3.out.below hp4) (HM3.out.below hp4) ⟨kd, pl, ⟨#[]⟩, 0, 0, 0, 0, [a2]⟩ (some ⟨w3.heap.size, 0, none⟩) 1 1 (kid_new HP3.out.bs [a2] (by simp [maxLen])) (fun g' hg' => by
      simp [Value.ownBlock] at hg'
      subst hg'
      exact ⟨HM3.out.size, fun x hx hc => by have := (HP3.out.nds.blocks x hx _ hc).2; omega⟩) (by have := (hwe.trans (went_take (by simp) HQ3.out)).sum; omega)
  refine Calls.mono (by exact hput) ?_
  rintro e w6 h6
  have hre := HRES3.out
  subst hre
  unfold putP PostN at h6
  obtain ⟨rfl, h6⟩ := h6
  go_wp2
  go_ret
  exact ⟨rfl, h6⟩
end Go.Proofs.YtbejgachdhfakaaGreatDoor
/- while. -/
namespace Go.Proofs.YtbejgachdhfakaaGreatDoor
open Go.RowKit

def DoesBlock (F : FW) (n : Nat) : Prop := ∀ (E : Env) (w : World) (v : Value) (kvs : List Value) (st : St), Par E w v kvs st → block F E.s n st ≠ .out → Calls Tryz.prog 48 #[ptr E.p] w (PostN E w v kvs (block F E.s n st))
set_option maxRecDepth 100000 in
set_option maxHeartbeats 2000000 in
theorem while_any {F : FW} {n : Nat} (hX : DoesExpr F n) (hB : DoesBlock F n) {E : Env} {w : World} {v : Value} {kvs : List Value} {st : St} (hg : Good E.s (tl st).toks) (hn : st.toks ≠ []) (h : Par E w v kvs st) (RES : Res Nat) (hne : RES ≠ .out)
    (hR : ((row F E.s n 1 (tl st)).bind fun c st1 => (block F E.s n st1).bind fun b st2 => putP ⟨15, (hd st).2.1, ⟨#[]⟩, 0, 0, 0, 0, [c, b]⟩ st2) = RES) : Calls Tryz.prog 140 #[ptr E.p] w (PostN E w v kvs RES) := by
  have hsum := h.sum
  have hl := h.lt
  have hPS := pass_par h hg
  have HX : Hid (∀ W V K st1, Par E W V K st1 → row F E.s n 1 st1 ≠ .out → Calls Tryz.prog 158 #[ptr E.p] W (PostN E W V K (row F E.s n 1 st1))) := fun W V K st1 hp h1 => hX E W V K st1 hp h1
  have HB : Hid (∀ W V K st1, Par E W V K st1 → block F E.s n st1 ≠ .out → Calls Tryz.prog 48 #[ptr E.p] W (PostN E W V K (block F E.s n st1))) := fun W V K st1 hp h1 => hB E W V K st1 hp h1
  have HW1 : Hid (∀ a st1, row F E.s n 1 (tl st) = .ok a st1 → Went 1 st st1) := fun a st1 hs => (went_tl hn).trans ((went_expr F E.s n).1 _ _ _ _ hs)
  have HW2 : Hid (∀ a st1 st2, block F E.s n st1 = .ok a st2 → Went 1 st1 st2) := fun a st1 st2 hs => (went_stmt F E.s n).1 st1 a st2 hs
  have HR0 : Hid _ := hR
  generalize (hd st).2.1 = pl at hPS HR0
  obtain ⟨i0, hi, hz0, hz1, hz2⟩ := info_parts info3
  clear hR hX hB h hg hn
  have hrn : row F E.s n 1 (tl st) ≠ .out := fun h0 => hne (by have := HR0.out; rw [h0] at this; exact this.symm)
  go_enter Tryz.func140, Tryz.ntmps140
  go_wp2_with (first | (go_at_call 93; refine Calls.mono (by exact hPS) ?_; rintro e w1 ⟨rfl, hk1, hp1⟩; have HM1 : Hid (Moved E.p w v kvs w1 v kvs) := hk1.moved v kvs; have HP1 : Hid (Par E w1 v kvs (tl st)) := hp1; clear hp1; have hwA : Below w1.heap.size w1 (w1.alloc (.cells #[Value.int .u8 15, natV pl, .string ⟨#[]⟩, .int .u8 0, .int .u8 0, .int .u64 0, .int .i64 0, .slice none 0 0] 46)) := (Below.refl _ _).alloc (Nat.le_refl _) _; have BA := Box.new w1 [Value.int .u8 15, natV pl, .string ⟨#[]⟩, .int .u8 0, .int .u8 0, .int .u64 0, .int .i64 0, .slice none 0 0] 46; have HPA : Hid _ := HP1.out.below hwA; have HMA : Hid _ := HM1.out.below hwA; have HKA : Hid (KB E w v kvs w1.heap.size [Value.int .u8 15, natV pl, .string ⟨#[]⟩, .int .u8 0, .int .u8 0, .int .u64 0, .int .i64 0] none 0 0 [] (w1.alloc (.cells #[Value.int .u8 15, natV pl, .string ⟨#[]⟩, .int .u8 0, .int .u8 0, .int .u64 0, .int .i64 0, .slice none 0 0] 46)) v kvs) := ⟨HMA.out, HP1.out.off (Nat.le_refl _), BA, World.ownsRow_nil _ _ _ _, fun g hg => (by cases hg), HM1.out.size, hl⟩))
  go_cut [2] (fun t wr => t = .int .i64 0 ∧ ∃ (a2 : Nat) (st2 : St) (v2 : Value) (k2 : List Value) (ka2 : Option Addr) (kn2 kc2 : Nat), Hid (KB E w v kvs w1.heap.size [Value.int .u8 15, natV pl, .string ⟨#[]⟩, .int .u8 0, .int .u8 0, .int .u64 0, .int .i64 0] ka2 kn2 kc2 ([] ++ [a2]) wr v2 k2 ∧ Par E wr v2 k2 st2 ∧ row F E.s n 1 (tl st) = .ok a2 st2 ∧ ((block F E.s n st2).bind fun b st2 => putP ⟨15, pl, ⟨#[]⟩, 0, 0, 0, 0, [a2, b]⟩ st2) = RES))
  case first =>
    go_region_law (first | (refine step_call rfl 158 (.tmp 9) _ rfl (ptr E.p) (by first | (simp [Act.eval]; done) | (simp [Act.eval, Act.put]; done)) (by kernel_rfl) (by exact HX.out _ _ _ _ (HPA.out.below (Below.refl _ _).drew) hrn) ?_; rintro e w2 h2; rcases hq2 : row F E.s n 1 (tl st) with ⟨a2, st2⟩ | ⟨c2, q2⟩ | _; rotate_left; (rw [hq2] at h2; obtain ⟨rfl, v2, k2, hm2⟩ := h2; have hre := HR0.out; simp only [hq2, Res.bind] at hre; subst hre; exact ⟨rfl, rfl, v2, k2, (HMA.out.kept (Kept.refl _ _).drew).trans hm2⟩); (exfalso; apply hne; have hre := HR0.out; simp only [hq2, Res.bind] at hre; exact hre.symm); rw [hq2] at h2; obtain ⟨rfl, v2, k2, hp2, hm2⟩ := h2; have HMd2 : Hid (Moved E.p (w1.alloc (.cells #[Value.int .u8 15, natV pl, .string ⟨#[]⟩, .int .u8 0, .int .u8 0, .int .u64 0, .int .i64 0, .slice none 0 0] 46)) v kvs w2 v2 k2) := ((Kept.refl _ _).drew.moved _ _).trans hm2; have HKa2 : Hid (KB E w v kvs w1.heap.size [Value.int .u8 15, natV pl, .string ⟨#[]⟩, .int .u8 0, .int .u8 0, .int .u64 0, .int .i64 0] none 0 0 [] w2 v2 k2) := HKA.out.moved HPA.out HMd2.out; have x72 := HKa2.out.box.cell 7 _ rfl; have xl2 := HKa2.out.box.lt; have hs2 := HR0.out; simp only [hq2, Res.bind] at hs2; have HRES2 : Hid _ := hs2; clear hs2; have HPa2 : Hid (Par E w2 v2 k2 st2) := hp2; have HQ2 : Hid _ := hq2; clear hp2 hq2 hm2) | (refine step_append_own rfl (.tmp 8) (.tmp 11) 44 rfl E.base 3 i0 (.int .i64 0) 1 8 Tryz.underlying44 hi hz0 hz1 hz2 rfl (by decide) (.slice none 0 0) ([] : List Nat).length (ints []) ?e1 ?e2 ⟨w2.heap.size, 0, none⟩ 1 1 [natV a2] ?e3 rfl ?e4 ?e5 ?e6 ?e7 ?e8 ?_; (case e1 => first | (simp [Act.eval]; done) | (simp [Act.eval, Act.put]; done)); (case e2 => exact HKa2.out.row.alloc _); (case e3 => first | (simp [Act.eval]; done) | (simp [Act.eval, Act.put]; done)); (case e4 => exact cell_one_new w2 _ _); (case e5 => intro u hu; simp at hu; subst hu; rfl); (case e6 => simp [maxLen]); (case e7 => simp); (case e8 => have := HPa2.out.bs; simp; omega); intro x2 y2 ho hg hs; obtain ⟨g2, d2, rfl, hK2, hP2, hgw, hgf⟩ := HKa2.out.app HPa2.out (W := w2.alloc (.cells #[natV a2] 3)) ((Below.refl _ _).alloc (Nat.le_refl _) _) (by simp) ho hg hs (n := 7) rfl; have hbe : y2.heap[w1.heap.size]? = w2.heap[w1.heap.size]? := hgw.block w1.heap.size xl2 (fun hc => (HKa2.out.fr w1.heap.size hc.symm).2.1 rfl); have q72 := (World.cell?_of_block (w := w2) (a := ⟨w1.heap.size, 7, none⟩) hbe).trans x72; have qf2 := (World.frozen?_of_block (w := w2) (a := ⟨w1.heap.size, 7, none⟩) hbe).trans (HKa2.out.box.fz 7); have HKb2 : Hid _ := hK2; have HPb2 : Hid _ := hP2; have HMb2 : Hid _ := hK2.mv; clear hK2 hP2 hgw hgf hbe ho hg hs))
    all_goals (go_wp2_with fail; go_meet; exact ⟨rfl, a2, st2, v2, k2, _, _, _, HKb2.out, HPb2.out, HQ2.out, HRES2.out⟩)
  case rest =>
  obtain ⟨rfl, a2, st2, v2, k2, ka2, kn2, kc2, hcut2⟩ := hcut
  have HKc2 : Hid (KB E w v kvs w1.heap.size [Value.int .u8 15, natV pl, .string ⟨#[]⟩, .int .u8 0, .int .u8 0, .int .u64 0, .int .i64 0] ka2 kn2 kc2 ([] ++ [a2]) wc v2 k2) := hcut2.out.1
  have HPc2 : Hid (Par E wc v2 k2 st2) := hcut2.out.2.1
  have HMc2 : Hid (Moved E.p w v kvs wc v2 k2) := hcut2.out.1.mv
  have HQc2 : Hid (row F E.s n 1 (tl st) = .ok a2 st2) := hcut2.out.2.2.1
  have HRc2 : Hid (((block F E.s n st2).bind fun b st2 => putP ⟨15, pl, ⟨#[]⟩, 0, 0, 0, 0, [a2, b]⟩ st2) = RES) := hcut2.out.2.2.2
  have d72 := HKc2.out.box.cell 7 _ rfl
  have dl2 := HKc2.out.box.lt
  have hbn : block F E.s n st2 ≠ .out := fun h0 => hne (by have := HRc2.out; rw [h0] at this; exact this.symm)
  go_wp2_with fail
  go_cut [2] (fun t wr => t = .int .i64 0 ∧ ∃ (a3 : Nat) (st3 : St) (v3 : Value) (k3 : List Value) (ka3 : Option Addr) (kn3 kc3 : Nat), Hid (KB E w v kvs w1.heap.size [Value.int .u8 15, natV pl, .string ⟨#[]⟩, .int .u8 0, .int .u8 0, .int .u64 0, .int .i64 0] ka3 kn3 kc3 (([] ++ [a2]) ++ [a3]) wr v3 k3 ∧ Par E wr v3 k3 st3 ∧ block F E.s n st2 = .ok a3 st3 ∧ (putP ⟨15, pl, ⟨#[]⟩, 0, 0, 0, 0, [a2, a3]⟩ st3) = RES))
  case first =>
    go_region_law (first | (refine step_call rfl 48 (.tmp 16) _ rfl (ptr E.p) (by first | (simp [Act.eval]; done) | (simp [Act.eval, Act.put]; done)) (by kernel_rfl) (by exact HB.out _ _ _ _ (HPc2.out.below (Below.refl _ _).drew) hbn) ?_; rintro e w3 h3; rcases hq3 : block F E.s n st2 with ⟨a3, st3⟩ | ⟨c3, q3⟩ | _; rotate_left; (rw [hq3] at h3; obtain ⟨rfl, v3, k3, hm3⟩ := h3; have hre := HRc2.out; simp only [hq3, Res.bind] at hre; subst hre; exact ⟨rfl, rfl, v3, k3, (HMc2.out.kept (Kept.refl _ _).drew).trans hm3⟩); (exfalso; apply hne; have hre := HRc2.out; simp only [hq3, Res.bind] at hre; exact hre.symm); rw [hq3] at h3; obtain ⟨rfl, v3, k3, hp3, hm3⟩ := h3; have HMd3 : Hid (Moved E.p wc v2 k2 w3 v3 k3) := ((Kept.refl _ _).drew.moved _ _).trans hm3; have HKa3 : Hid (KB E w v kvs w1.heap.size [Value.int .u8 15, natV pl, .string ⟨#[]⟩, .int .u8 0, .int .u8 0, .int .u64 0, .int .i64 0] ka2 kn2 kc2 ([] ++ [a2]) w3 v3 k3) := HKc2.out.moved HPc2.out HMd3.out; have x73 := HKa3.out.box.cell 7 _ rfl; have xl3 := HKa3.out.box.lt; have hs3 := HRc2.out; simp only [hq3, Res.bind] at hs3; have HRES3 : Hid _ := hs3; clear hs3; have HPa3 : Hid (Par E w3 v3 k3 st3) := hp3; have HQ3 : Hid _ := hq3; clear hp3 hq3 hm3) | (refine step_append_own rfl (.tmp 15) (.tmp 18) 44 rfl E.base 3 i0 (.int .i64 0) 1 8 Tryz.underlying44 hi hz0 hz1 hz2 rfl (by decide) (.slice ka2 kn2 kc2) (([] ++ [a2]) : List Nat).length (ints ([] ++ [a2])) ?e1 ?e2 ⟨w3.heap.size, 0, none⟩ 1 1 [natV a3] ?e3 rfl ?e4 ?e5 ?e6 ?e7 ?e8 ?_; (case e1 => first | (simp [Act.eval]; done) | (simp [Act.eval, Act.put]; done)); (case e2 => exact HKa3.out.row.alloc _); (case e3 => first | (simp [Act.eval]; done) | (simp [Act.eval, Act.put]; done)); (case e4 => exact cell_one_new w3 _ _); (case e5 => intro u hu; simp at hu; subst hu; rfl); (case e6 => simp [maxLen]); (case e7 => simp); (case e8 => have := HPa3.out.bs; simp; omega); intro x3 y3 ho hg hs; obtain ⟨g3, d3, rfl, hK3, hP3, hgw, hgf⟩ := HKa3.out.app HPa3.out (W := w3.alloc (.cells #[natV a3] 3)) ((Below.refl _ _).alloc (Nat.le_refl _) _) (by simp) ho hg hs (n := 7) rfl; have hbe : y3.heap[w1.heap.size]? = w3.heap[w1.heap.size]? := hgw.block w1.heap.size xl3 (fun hc => (HKa3.out.fr w1.heap.size hc.symm).2.1 rfl); have q73 := (World.cell?_of_block (w := w3) (a := ⟨w1.heap.size, 7, none⟩) hbe).trans x73; have qf3 := (World.frozen?_of_block (w := w3) (a := ⟨w1.heap.size, 7, none⟩) hbe).trans (HKa3.out.box.fz 7); have HKb3 : Hid _ := hK3; have HPb3 : Hid _ := hP3; have HMb3 : Hid _ := hK3.mv; clear hK3 hP3 hgw hgf hbe ho hg hs))
    all_goals (go_wp2_with fail; go_meet; exact ⟨rfl, a3, st3, v3, k3, _, _, _, HKb3.out, HPb3.out, HQ3.out, HRES3.out⟩)
  case rest =>
  obtain ⟨rfl, a3, st3, v3, k3, ka3, kn3, kc3, hcut3⟩ := hcut
  have HKc3 : Hid (KB E w v kvs w1.heap.size [Value.int .u8 15, natV pl, .string ⟨#[]⟩, .int .u8 0, .int .u8 0, .int .u64 0, .int .i64 0] ka3 kn3 kc3 (([] ++ [a2]) ++ [a3]) wc v3 k3) := hcut3.out.1
  have HPc3 : Hid (Par E wc v3 k3 st3) := hcut3.out.2.1
  have HMc3 : Hid (Moved E.p w v kvs wc v3 k3) := hcut3.out.1.mv
  have HQc3 : Hid (block F E.s n st2 = .ok a3 st3) := hcut3.out.2.2.1
  have HRc3 : Hid ((putP ⟨15, pl, ⟨#[]⟩, 0, 0, 0, 0, [a2, a3]⟩ st3) = RES) := hcut3.out.2.2.2
  have d73 := HKc3.out.box.cell 7 _ rfl
  have dl3 := HKc3.out.box.lt
  have z0 := HKc3.out.box.cell 0 _ rfl
  have z1 := HKc3.out.box.cell 1 _ rfl
  have z2 := HKc3.out.box.cell 2 _ rfl
  have z3 := HKc3.out.box.cell 3 _ rfl
  have z4 := HKc3.out.box.cell 4 _ rfl
  have z5 := HKc3.out.box.cell 5 _ rfl
  have z6 := HKc3.out.box.cell 6 _ rfl
  have z7 := HKc3.out.box.cell 7 _ rfl
  go_wp2_with fail
  have hput : Calls Tryz.prog 100 #[ptr E.p, .agg #[Value.int .u8 15, natV pl, .string ⟨#[]⟩, .int .u8 0, .int .u8 0, .int .u64 0, .int .i64 0, .slice ka3 kn3 kc3]] wc (PostN E w v kvs (putP ⟨15, pl, ⟨#[]⟩, 0, 0, 0, 0, [a2, a3]⟩ st3)) :=
    put_node HPc3.out HMc3.out ⟨15, pl, ⟨#[]⟩, 0, 0, 0, 0, [a2, a3]⟩ ka3 kn3 kc3 HKc3.out.row (fun g hg => ⟨(HKc3.out.fr g hg).1, (HKc3.out.fr g hg).2.2⟩) (by have := (HW1.out _ _ HQc2.out).sum; have := (HW2.out _ _ _ HQc3.out).sum; omega)
  refine Calls.mono (by exact hput) ?_
  rintro e w99 h99
  have hre := HRc3.out
  subst hre
  unfold putP PostN at h99
  obtain ⟨rfl, h99⟩ := h99
  go_wp2
  go_ret
  exact ⟨rfl, h99⟩
end Go.Proofs.YtbejgachdhfakaaGreatDoor
/- if. -/
namespace Go.Proofs.YtbejgachdhfakaaGreatDoor
open Go.RowKit

def DoesIf (F : FW) (n : Nat) : Prop := ∀ (E : Env) (w : World) (v : Value) (kvs : List Value) (st : St) (p : Nat), Par E w v kvs st → ifP F E.s n p st ≠ .out → Calls Tryz.prog 139 #[ptr E.p, natV p] w (PostN E w v kvs (ifP F E.s n p st))
def DoesElse (F : FW) (n : Nat) : Prop := ∀ (E : Env) (w : World) (v : Value) (kvs : List Value) (st : St), Par E w v kvs st → elseP F E.s n st ≠ .out → Calls Tryz.prog 159 #[ptr E.p] w (PostN E w v kvs (elseP F E.s n st))
theorem has_at {E : Env} {w : World} {v : Value} {kvs : List Value} {st : St} (h : Par E w v kvs st) (x : List UInt8) : Calls Tryz.prog 91 #[ptr E.p, .string ⟨x.toArray⟩] w fun e w' => e = .returned (.bool (has E.s x st)) ∧ Below w.heap.size w w' := by
  have e : (⟨x.toArray⟩ : ByteArray).toList = x := by rw [Lib.toList_data]
  have := has_par h ⟨x.toArray⟩
  rw [e] at this
  exact this
set_option maxRecDepth 100000 in
set_option maxHeartbeats 2000000 in
theorem if_any {F : FW} {n : Nat} (hX : DoesExpr F n) (hB : DoesBlock F n) (hL : DoesElse F n) : DoesIf F (n + 1) := by
  intro E w v kvs st pl h hne
  have hsum := h.sum
  have hl := h.lt
  generalize hR : ifP F E.s (n + 1) pl st = RES at hne ⊢
  simp only [ifP] at hR
  have HX : Hid (∀ W V K st1, Par E W V K st1 → row F E.s n 1 st1 ≠ .out → Calls Tryz.prog 158 #[ptr E.p] W (PostN E W V K (row F E.s n 1 st1))) := fun W V K st1 hp h1 => hX E W V K st1 hp h1
  have HB : Hid (∀ W V K st1, Par E W V K st1 → block F E.s n st1 ≠ .out → Calls Tryz.prog 48 #[ptr E.p] W (PostN E W V K (block F E.s n st1))) := fun W V K st1 hp h1 => hB E W V K st1 hp h1
  have HE : Hid (∀ W V K st1, Par E W V K st1 → elseP F E.s n st1 ≠ .out → Calls Tryz.prog 159 #[ptr E.p] W (PostN E W V K (elseP F E.s n st1))) := fun W V K st1 hp h1 => hL E W V K st1 hp h1
  have HW1 : Hid (∀ a st1, row F E.s n 1 st = .ok a st1 → Went 0 st st1) := fun a st1 hs => (went_expr F E.s n).1 _ _ _ _ hs
  have HW2 : Hid (∀ a st1 st2, block F E.s n st1 = .ok a st2 → Went 1 st1 st2) := fun a st1 st2 hs => (went_stmt F E.s n).1 st1 a st2 hs
  have HW3 : Hid (∀ a st1 st2, elseP F E.s n st1 = .ok a st2 → Went 0 st1 st2) := fun a st1 st2 hs => (went_stmt F E.s n).2.2.2.2.2.2.1 st1 a st2 hs
  have HR0 : Hid _ := hR
  obtain ⟨i0, hi, hz0, hz1, hz2⟩ := info_parts info3
  have hwA : Below w.heap.size w (w.alloc (.cells #[Value.int .u8 14, natV pl, .string ⟨#[]⟩, .int .u8 0, .int .u8 0, .int .u64 0, .int .i64 0, .slice none 0 0] 46)) := (Below.refl _ _).alloc (Nat.le_refl _) _
  have BA := Box.new w [Value.int .u8 14, natV pl, .string ⟨#[]⟩, .int .u8 0, .int .u8 0, .int .u64 0, .int .i64 0, .slice none 0 0] 46
  have HPA : Hid (Par E (w.alloc (.cells #[Value.int .u8 14, natV pl, .string ⟨#[]⟩, .int .u8 0, .int .u8 0, .int .u64 0, .int .i64 0, .slice none 0 0] 46)) v kvs st) := h.below hwA
  have HMA : Hid (Moved E.p w v kvs (w.alloc (.cells #[Value.int .u8 14, natV pl, .string ⟨#[]⟩, .int .u8 0, .int .u8 0, .int .u64 0, .int .i64 0, .slice none 0 0] 46)) v kvs) := (Kept.of_below hwA).moved v kvs
  have HKA : Hid (KB E w v kvs w.heap.size [Value.int .u8 14, natV pl, .string ⟨#[]⟩, .int .u8 0, .int .u8 0, .int .u64 0, .int .i64 0] none 0 0 [] (w.alloc (.cells #[Value.int .u8 14, natV pl, .string ⟨#[]⟩, .int .u8 0, .int .u8 0, .int .u64 0, .int .i64 0, .slice none 0 0] 46)) v kvs) := ⟨HMA.out, h.off (Nat.le_refl _), BA, World.ownsRow_nil _ _ _ _, fun g hg => (by cases hg), Nat.le_refl _, hl⟩
  clear hR hX hB hL h BA
  have hrn : row F E.s n 1 st ≠ .out := fun h0 => hne (by have := HR0.out; rw [h0] at this; exact this.symm)
  go_enter Tryz.func139, Tryz.ntmps139
  go_wp2_with fail
  go_cut [4] (fun t wr => t = .int .i64 0 ∧ ∃ (a1 : Nat) (st1 : St) (v1 : Value) (k1 : List Value) (ka1 : Option Addr) (kn1 kc1 : Nat), Hid (KB E w v kvs w.heap.size [Value.int .u8 14, natV pl, .string ⟨#[]⟩, .int .u8 0, .int .u8 0, .int .u64 0, .int .i64 0] ka1 kn1 kc1 ([] ++ [a1]) wr v1 k1 ∧ Par E wr v1 k1 st1 ∧ row F E.s n 1 st = .ok a1 st1 ∧ ((block F E.s n st1).bind fun b st2 => (if has E.s [101, 108, 115, 101] st2 then (elseP F E.s n (tl st2)).bind fun z st3 => putP ⟨14, pl, ⟨#[]⟩, 0, 0, 0, 0, [a1, b, z]⟩ st3 else putP ⟨14, pl, ⟨#[]⟩, 0, 0, 0, 0, [a1, b]⟩ st2)) = RES))
  case first =>
    go_region_law (first | (refine step_call rfl 158 (.tmp 10) _ rfl (ptr E.p) (by first | (simp [Act.eval]; done) | (simp [Act.eval, Act.put]; done)) (by kernel_rfl) (by exact HX.out _ _ _ _ (HPA.out.below (Below.refl _ _).drew) hrn) ?_; rintro e w1 h1; rcases hq1 : row F E.s n 1 st with ⟨a1, st1⟩ | ⟨c1, q1⟩ | _; rotate_left; (rw [hq1] at h1; obtain ⟨rfl, v1, k1, hm1⟩ := h1; have hre := HR0.out; simp only [hq1, Res.bind] at hre; subst hre; exact ⟨rfl, rfl, v1, k1, (HMA.out.kept (Kept.refl _ _).drew).trans hm1⟩); (exfalso; apply hne; have hre := HR0.out; simp only [hq1, Res.bind] at hre; exact hre.symm); rw [hq1] at h1; obtain ⟨rfl, v1, k1, hp1, hm1⟩ := h1; have HMd1 : Hid (Moved E.p (w.alloc (.cells #[Value.int .u8 14, natV pl, .string ⟨#[]⟩, .int .u8 0, .int .u8 0, .int .u64 0, .int .i64 0, .slice none 0 0] 46)) v kvs w1 v1 k1) := ((Kept.refl _ _).drew.moved _ _).trans hm1; have HKa1 : Hid (KB E w v kvs w.heap.size [Value.int .u8 14, natV pl, .string ⟨#[]⟩, .int .u8 0, .int .u8 0, .int .u64 0, .int .i64 0] none 0 0 [] w1 v1 k1) := HKA.out.moved HPA.out HMd1.out; have x71 := HKa1.out.box.cell 7 _ rfl; have xl1 := HKa1.out.box.lt; have hs1 := HR0.out; simp only [hq1, Res.bind] at hs1; have HRES1 : Hid _ := hs1; clear hs1; have HPa1 : Hid (Par E w1 v1 k1 st1) := hp1; have HQ1 : Hid _ := hq1; clear hp1 hq1 hm1) | (refine step_append_own rfl (.tmp 9) (.tmp 12) 44 rfl E.base 3 i0 (.int .i64 0) 1 8 Tryz.underlying44 hi hz0 hz1 hz2 rfl (by decide) (.slice none 0 0) ([] : List Nat).length (ints []) ?e1 ?e2 ⟨w1.heap.size, 0, none⟩ 1 1 [natV a1] ?e3 rfl ?e4 ?e5 ?e6 ?e7 ?e8 ?_; (case e1 => first | (simp [Act.eval]; done) | (simp [Act.eval, Act.put]; done)); (case e2 => exact HKa1.out.row.alloc _); (case e3 => first | (simp [Act.eval]; done) | (simp [Act.eval, Act.put]; done)); (case e4 => exact cell_one_new w1 _ _); (case e5 => intro u hu; simp at hu; subst hu; rfl); (case e6 => simp [maxLen]); (case e7 => simp); (case e8 => have := HPa1.out.bs; simp; omega); intro x1 y1 ho hg hs; obtain ⟨g1, d1, rfl, hK1, hP1, hgw, hgf⟩ := HKa1.out.app HPa1.out (W := w1.alloc (.cells #[natV a1] 3)) ((Below.refl _ _).alloc (Nat.le_refl _) _) (by simp) ho hg hs (n := 7) rfl; have hbe : y1.heap[w.heap.size]? = w1.heap[w.heap.size]? := hgw.block w.heap.size xl1 (fun hc => (HKa1.out.fr w.heap.size hc.symm).2.1 rfl); have q71 := (World.cell?_of_block (w := w1) (a := ⟨w.heap.size, 7, none⟩) hbe).trans x71; have qf1 := (World.frozen?_of_block (w := w1) (a := ⟨w.heap.size, 7, none⟩) hbe).trans (HKa1.out.box.fz 7); have HKb1 : Hid _ := hK1; have HPb1 : Hid _ := hP1; have HMb1 : Hid _ := hK1.mv; clear hK1 hP1 hgw hgf hbe ho hg hs))
    all_goals (go_wp2_with fail; go_meet; exact ⟨rfl, a1, st1, v1, k1, _, _, _, HKb1.out, HPb1.out, HQ1.out, HRES1.out⟩)
  case rest =>
  obtain ⟨rfl, a1, st1, v1, k1, ka1, kn1, kc1, hcut1⟩ := hcut
  have HKc1 : Hid (KB E w v kvs w.heap.size [Value.int .u8 14, natV pl, .string ⟨#[]⟩, .int .u8 0, .int .u8 0, .int .u64 0, .int .i64 0] ka1 kn1 kc1 ([] ++ [a1]) wc v1 k1) := hcut1.out.1
  have HPc1 : Hid (Par E wc v1 k1 st1) := hcut1.out.2.1
  have HMc1 : Hid (Moved E.p w v kvs wc v1 k1) := hcut1.out.1.mv
  have HQc1 : Hid (row F E.s n 1 st = .ok a1 st1) := hcut1.out.2.2.1
  have HRc1 : Hid (((block F E.s n st1).bind fun b st2 => (if has E.s [101, 108, 115, 101] st2 then (elseP F E.s n (tl st2)).bind fun z st3 => putP ⟨14, pl, ⟨#[]⟩, 0, 0, 0, 0, [a1, b, z]⟩ st3 else putP ⟨14, pl, ⟨#[]⟩, 0, 0, 0, 0, [a1, b]⟩ st2)) = RES) := hcut1.out.2.2.2
  have d71 := HKc1.out.box.cell 7 _ rfl
  have dl1 := HKc1.out.box.lt
  have hbn : block F E.s n st1 ≠ .out := fun h0 => hne (by have := HRc1.out; rw [h0] at this; exact this.symm)
  go_wp2_with fail
  go_cut [4] (fun t wr => t = .int .i64 0 ∧ ∃ (a2 : Nat) (st2 : St) (v2 : Value) (k2 : List Value) (ka2 : Option Addr) (kn2 kc2 : Nat), Hid (KB E w v kvs w.heap.size [Value.int .u8 14, natV pl, .string ⟨#[]⟩, .int .u8 0, .int .u8 0, .int .u64 0, .int .i64 0] ka2 kn2 kc2 (([] ++ [a1]) ++ [a2]) wr v2 k2 ∧ Par E wr v2 k2 st2 ∧ block F E.s n st1 = .ok a2 st2 ∧ (if has E.s [101, 108, 115, 101] st2 then (elseP F E.s n (tl st2)).bind fun z st3 => putP ⟨14, pl, ⟨#[]⟩, 0, 0, 0, 0, [a1, a2, z]⟩ st3 else putP ⟨14, pl, ⟨#[]⟩, 0, 0, 0, 0, [a1, a2]⟩ st2) = RES))
  case first =>
    go_region_law (first | (refine step_call rfl 48 (.tmp 17) _ rfl (ptr E.p) (by first | (simp [Act.eval]; done) | (simp [Act.eval, Act.put]; done)) (by kernel_rfl) (by exact HB.out _ _ _ _ (HPc1.out.below (Below.refl _ _).drew) hbn) ?_; rintro e w2 h2; rcases hq2 : block F E.s n st1 with ⟨a2, st2⟩ | ⟨c2, q2⟩ | _; rotate_left; (rw [hq2] at h2; obtain ⟨rfl, v2, k2, hm2⟩ := h2; have hre := HRc1.out; simp only [hq2, Res.bind] at hre; subst hre; exact ⟨rfl, rfl, v2, k2, (HMc1.out.kept (Kept.refl _ _).drew).trans hm2⟩); (exfalso; apply hne; have hre := HRc1.out; simp only [hq2, Res.bind] at hre; exact hre.symm); rw [hq2] at h2; obtain ⟨rfl, v2, k2, hp2, hm2⟩ := h2; have HMd2 : Hid (Moved E.p wc v1 k1 w2 v2 k2) := ((Kept.refl _ _).drew.moved _ _).trans hm2; have HKa2 : Hid (KB E w v kvs w.heap.size [Value.int .u8 14, natV pl, .string ⟨#[]⟩, .int .u8 0, .int .u8 0, .int .u64 0, .int .i64 0] ka1 kn1 kc1 ([] ++ [a1]) w2 v2 k2) := HKc1.out.moved HPc1.out HMd2.out; have x72 := HKa2.out.box.cell 7 _ rfl; have xl2 := HKa2.out.box.lt; have hs2 := HRc1.out; simp only [hq2, Res.bind] at hs2; have HRES2 : Hid _ := hs2; clear hs2; have HPa2 : Hid (Par E w2 v2 k2 st2) := hp2; have HQ2 : Hid _ := hq2; clear hp2 hq2 hm2) | (refine step_append_own rfl (.tmp 16) (.tmp 19) 44 rfl E.base 3 i0 (.int .i64 0) 1 8 Tryz.underlying44 hi hz0 hz1 hz2 rfl (by decide) (.slice ka1 kn1 kc1) (([] ++ [a1]) : List Nat).length (ints ([] ++ [a1])) ?e1 ?e2 ⟨w2.heap.size, 0, none⟩ 1 1 [natV a2] ?e3 rfl ?e4 ?e5 ?e6 ?e7 ?e8 ?_; (case e1 => first | (simp [Act.eval]; done) | (simp [Act.eval, Act.put]; done)); (case e2 => exact HKa2.out.row.alloc _); (case e3 => first | (simp [Act.eval]; done) | (simp [Act.eval, Act.put]; done)); (case e4 => exact cell_one_new w2 _ _); (case e5 => intro u hu; simp at hu; subst hu; rfl); (case e6 => simp [maxLen]); (case e7 => simp); (case e8 => have := HPa2.out.bs; simp; omega); intro x2 y2 ho hg hs; obtain ⟨g2, d2, rfl, hK2, hP2, hgw, hgf⟩ := HKa2.out.app HPa2.out (W := w2.alloc (.cells #[natV a2] 3)) ((Below.refl _ _).alloc (Nat.le_refl _) _) (by simp) ho hg hs (n := 7) rfl; have hbe : y2.heap[w.heap.size]? = w2.heap[w.heap.size]? := hgw.block w.heap.size xl2 (fun hc => (HKa2.out.fr w.heap.size hc.symm).2.1 rfl); have q72 := (World.cell?_of_block (w := w2) (a := ⟨w.heap.size, 7, none⟩) hbe).trans x72; have qf2 := (World.frozen?_of_block (w := w2) (a := ⟨w.heap.size, 7, none⟩) hbe).trans (HKa2.out.box.fz 7); have HKb2 : Hid _ := hK2; have HPb2 : Hid _ := hP2; have HMb2 : Hid _ := hK2.mv; clear hK2 hP2 hgw hgf hbe ho hg hs))
    all_goals (go_wp2_with fail; go_meet; exact ⟨rfl, a2, st2, v2, k2, _, _, _, HKb2.out, HPb2.out, HQ2.out, HRES2.out⟩)
  case rest =>
  obtain ⟨rfl, a2, st2, v2, k2, ka2, kn2, kc2, hcut2⟩ := hcut
  have HKc2 : Hid (KB E w v kvs w.heap.size [Value.int .u8 14, natV pl, .string ⟨#[]⟩, .int .u8 0, .int .u8 0, .int .u64 0, .int .i64 0] ka2 kn2 kc2 (([] ++ [a1]) ++ [a2]) wc v2 k2) := hcut2.out.1
  have HPc2 : Hid (Par E wc v2 k2 st2) := hcut2.out.2.1
  have HMc2 : Hid (Moved E.p w v kvs wc v2 k2) := hcut2.out.1.mv
  have HQc2 : Hid (block F E.s n st1 = .ok a2 st2) := hcut2.out.2.2.1
  have HRc2 : Hid ((if has E.s [101, 108, 115, 101] st2 then (elseP F E.s n (tl st2)).bind fun z st3 => putP ⟨14, pl, ⟨#[]⟩, 0, 0, 0, 0, [a1, a2, z]⟩ st3 else putP ⟨14, pl, ⟨#[]⟩, 0, 0, 0, 0, [a1, a2]⟩ st2) = RES) := hcut2.out.2.2.2
  have d72 := HKc2.out.box.cell 7 _ rfl
  have dl2 := HKc2.out.box.lt
  have hHS := has_at HPc2.out [101, 108, 115, 101]
  cases hh : has E.s [101, 108, 115, 101] st2
  · rw [hh] at hHS
    have HR5 : Hid (putP ⟨14, pl, ⟨#[]⟩, 0, 0, 0, 0, [a1, a2]⟩ st2 = RES) := by
      have := HRc2.out
      rw [hh] at this
      exact this
    go_wp2_with ((go_at_call 91; refine Calls.mono (by exact hHS) ?_; rintro e w5 ⟨rfl, hb5⟩; have HK5 : Hid _ := HKc2.out.kept HPc2.out (.of_below hb5); have z0 := HK5.out.box.cell 0 _ rfl; have z1 := HK5.out.box.cell 1 _ rfl; have z2 := HK5.out.box.cell 2 _ rfl; have z3 := HK5.out.box.cell 3 _ rfl; have z4 := HK5.out.box.cell 4 _ rfl; have z5 := HK5.out.box.cell 5 _ rfl; have z6 := HK5.out.box.cell 6 _ rfl; have z7 := HK5.out.box.cell 7 _ rfl))
    have hput : Calls Tryz.prog 100 #[ptr E.p, .agg #[Value.int .u8 14, natV pl, .string ⟨#[]⟩, .int .u8 0, .int .u8 0, .int .u64 0, .int .i64 0, .slice ka2 kn2 kc2]] w5 (PostN E w v kvs (putP ⟨14, pl, ⟨#[]⟩, 0, 0, 0, 0, [a1, a2]⟩ st2)) :=
      put_node (HPc2.out.below hb5) (HMc2.out.below hb5) ⟨14, pl, ⟨#[]⟩, 0, 0, 0, 0, [a1, a2]⟩ ka2 kn2 kc2 HK5.out.row (fun g hg => ⟨(HK5.out.fr g hg).1, (HK5.out.fr g hg).2.2⟩) (by have := (HW1.out _ _ HQc1.out).sum; have := (HW2.out _ _ _ HQc2.out).sum; omega)
    refine Calls.mono (by exact hput) ?_
    rintro e w99 h99
    have hre := HR5.out
    subst hre
    unfold putP PostN at h99
    obtain ⟨rfl, h99⟩ := h99
    go_wp2
    go_ret
    exact ⟨rfl, h99⟩
  · rw [hh] at hHS
    have HR5 : Hid (((elseP F E.s n (tl st2)).bind fun z st3 => putP ⟨14, pl, ⟨#[]⟩, 0, 0, 0, 0, [a1, a2, z]⟩ st3) = RES) := by
      have := HRc2.out
      rw [hh] at this
      exact this
    have hen : elseP F E.s n (tl st2) ≠ .out := fun h0 => hne (by have := HR5.out; rw [h0] at this; exact this.symm)
    have hgd : Good E.s (tl st2).toks := good_txs HPc2.out.good (by unfold has at hh; rw [eq_of_beq hh]; simp)
    have hwt : Went 1 st2 (tl st2) := went_tl (has_ne hh (by simp))
    have HPS : Hid (∀ W, Below wc.heap.size wc W → Calls Tryz.prog 93 #[ptr E.p] W fun e w' => e = .returned (.int .i64 ((hd st2).2.1 : Int)) ∧ Kept E.p W w' ∧ Par E w' v2 k2 (tl st2)) := fun W hW => pass_par (HPc2.out.below hW) hgd
    generalize (hd st2).2.1 = yy at HPS
    go_wp2_with (first | (go_at_call 91; refine Calls.mono (by exact hHS) ?_; rintro e w5 ⟨rfl, hb5⟩) | (go_at_call 93; refine Calls.mono (by exact HPS.out _ hb5) ?_; rintro e w6 ⟨rfl, hk6, hp6⟩; have hkk : Kept E.p wc w6 := (Kept.of_below hb5).trans hk6; have HK6 : Hid _ := HKc2.out.kept HPc2.out hkk; have HP6 : Hid _ := hp6; have HM6 : Hid _ := HMc2.out.kept hkk; have d76 := HK6.out.box.cell 7 _ rfl; have dl6 := HK6.out.box.lt; clear hp6))
    go_cut [4] (fun t wr => t = .int .i64 0 ∧ ∃ (a3 : Nat) (st3 : St) (v3 : Value) (k3 : List Value) (ka3 : Option Addr) (kn3 kc3 : Nat), Hid (KB E w v kvs w.heap.size [Value.int .u8 14, natV pl, .string ⟨#[]⟩, .int .u8 0, .int .u8 0, .int .u64 0, .int .i64 0] ka3 kn3 kc3 ((([] ++ [a1]) ++ [a2]) ++ [a3]) wr v3 k3 ∧ Par E wr v3 k3 st3 ∧ elseP F E.s n (tl st2) = .ok a3 st3 ∧ (putP ⟨14, pl, ⟨#[]⟩, 0, 0, 0, 0, [a1, a2, a3]⟩ st3) = RES))
    case first =>
      go_region_law (first | (refine step_call rfl 159 (.tmp 28) _ rfl (ptr E.p) (by first | (simp [Act.eval]; done) | (simp [Act.eval, Act.put]; done)) (by kernel_rfl) (by exact HE.out _ _ _ _ (HP6.out.below (Below.refl _ _).drew) hen) ?_; rintro e w3 h3; rcases hq3 : elseP F E.s n (tl st2) with ⟨a3, st3⟩ | ⟨c3, q3⟩ | _; rotate_left; (rw [hq3] at h3; obtain ⟨rfl, v3, k3, hm3⟩ := h3; have hre := HR5.out; simp only [hq3, Res.bind] at hre; subst hre; exact ⟨rfl, rfl, v3, k3, (HM6.out.kept (Kept.refl _ _).drew).trans hm3⟩); (exfalso; apply hne; have hre := HR5.out; simp only [hq3, Res.bind] at hre; exact hre.symm); rw [hq3] at h3; obtain ⟨rfl, v3, k3, hp3, hm3⟩ := h3; have HMd3 : Hid (Moved E.p w6 v2 k2 w3 v3 k3) := ((Kept.refl _ _).drew.moved _ _).trans hm3; have HKa3 : Hid (KB E w v kvs w.heap.size [Value.int .u8 14, natV pl, .string ⟨#[]⟩, .int .u8 0, .int .u8 0, .int .u64 0, .int .i64 0] ka2 kn2 kc2 (([] ++ [a1]) ++ [a2]) w3 v3 k3) := HK6.out.moved HP6.out HMd3.out; have x73 := HKa3.out.box.cell 7 _ rfl; have xl3 := HKa3.out.box.lt; have hs3 := HR5.out; simp only [hq3, Res.bind] at hs3; have HRES3 : Hid _ := hs3; clear hs3; have HPa3 : Hid (Par E w3 v3 k3 st3) := hp3; have HQ3 : Hid _ := hq3; clear hp3 hq3 hm3) | (refine step_append_own rfl (.tmp 27) (.tmp 30) 44 rfl E.base 3 i0 (.int .i64 0) 1 8 Tryz.underlying44 hi hz0 hz1 hz2 rfl (by decide) (.slice ka2 kn2 kc2) ((([] ++ [a1]) ++ [a2]) : List Nat).length (ints (([] ++ [a1]) ++ [a2])) ?e1 ?e2 ⟨w3.heap.size, 0, none⟩ 1 1 [natV a3] ?e3 rfl ?e4 ?e5 ?e6 ?e7 ?e8 ?_; (case e1 => first | (simp [Act.eval]; done) | (simp [Act.eval, Act.put]; done)); (case e2 => exact HKa3.out.row.alloc _); (case e3 => first | (simp [Act.eval]; done) | (simp [Act.eval, Act.put]; done)); (case e4 => exact cell_one_new w3 _ _); (case e5 => intro u hu; simp at hu; subst hu; rfl); (case e6 => simp [maxLen]); (case e7 => simp); (case e8 => have := HPa3.out.bs; simp; omega); intro x3 y3 ho hg hs; obtain ⟨g3, d3, rfl, hK3, hP3, hgw, hgf⟩ := HKa3.out.app HPa3.out (W := w3.alloc (.cells #[natV a3] 3)) ((Below.refl _ _).alloc (Nat.le_refl _) _) (by simp) ho hg hs (n := 7) rfl; have hbe : y3.heap[w.heap.size]? = w3.heap[w.heap.size]? := hgw.block w.heap.size xl3 (fun hc => (HKa3.out.fr w.heap.size hc.symm).2.1 rfl); have q73 := (World.cell?_of_block (w := w3) (a := ⟨w.heap.size, 7, none⟩) hbe).trans x73; have qf3 := (World.frozen?_of_block (w := w3) (a := ⟨w.heap.size, 7, none⟩) hbe).trans (HKa3.out.box.fz 7); have HKb3 : Hid _ := hK3; have HPb3 : Hid _ := hP3; have HMb3 : Hid _ := hK3.mv; clear hK3 hP3 hgw hgf hbe ho hg hs))
      all_goals (go_wp2_with fail; go_meet; exact ⟨rfl, a3, st3, v3, k3, _, _, _, HKb3.out, HPb3.out, HQ3.out, HRES3.out⟩)
    case rest =>
    obtain ⟨rfl, a3, st3, v3, k3, ka3, kn3, kc3, hcut3⟩ := hcut
    have HKc3 : Hid (KB E w v kvs w.heap.size [Value.int .u8 14, natV pl, .string ⟨#[]⟩, .int .u8 0, .int .u8 0, .int .u64 0, .int .i64 0] ka3 kn3 kc3 ((([] ++ [a1]) ++ [a2]) ++ [a3]) wc v3 k3) := hcut3.out.1
    have HPc3 : Hid (Par E wc v3 k3 st3) := hcut3.out.2.1
    have HMc3 : Hid (Moved E.p w v kvs wc v3 k3) := hcut3.out.1.mv
    have HQc3 : Hid (elseP F E.s n (tl st2) = .ok a3 st3) := hcut3.out.2.2.1
    have HRc3 : Hid ((putP ⟨14, pl, ⟨#[]⟩, 0, 0, 0, 0, [a1, a2, a3]⟩ st3) = RES) := hcut3.out.2.2.2
    have d73 := HKc3.out.box.cell 7 _ rfl
    have dl3 := HKc3.out.box.lt
    have z0 := HKc3.out.box.cell 0 _ rfl
    have z1 := HKc3.out.box.cell 1 _ rfl
    have z2 := HKc3.out.box.cell 2 _ rfl
    have z3 := HKc3.out.box.cell 3 _ rfl
    have z4 := HKc3.out.box.cell 4 _ rfl
    have z5 := HKc3.out.box.cell 5 _ rfl
    have z6 := HKc3.out.box.cell 6 _ rfl
    have z7 := HKc3.out.box.cell 7 _ rfl
    go_wp2_with fail
    have hput : Calls Tryz.prog 100 #[ptr E.p, .agg #[Value.int .u8 14, natV pl, .string ⟨#[]⟩, .int .u8 0, .int .u8 0, .int .u64 0, .int .i64 0, .slice ka3 kn3 kc3]] wc (PostN E w v kvs (putP ⟨14, pl, ⟨#[]⟩, 0, 0, 0, 0, [a1, a2, a3]⟩ st3)) :=
      put_node HPc3.out HMc3.out ⟨14, pl, ⟨#[]⟩, 0, 0, 0, 0, [a1, a2, a3]⟩ ka3 kn3 kc3 HKc3.out.row (fun g hg => ⟨(HKc3.out.fr g hg).1, (HKc3.out.fr g hg).2.2⟩) (by have := (HW1.out _ _ HQc1.out).sum; have := (HW2.out _ _ _ HQc2.out).sum; have := (HW3.out _ _ _ HQc3.out).sum; have := hwt.sum; omega)
    refine Calls.mono (by exact hput) ?_
    rintro e w99 h99
    have hre := HRc3.out
    subst hre
    unfold putP PostN at h99
    obtain ⟨rfl, h99⟩ := h99
    go_wp2
    go_ret
    exact ⟨rfl, h99⟩
end Go.Proofs.YtbejgachdhfakaaGreatDoor
/- A block. -/
namespace Go.Proofs.YtbejgachdhfakaaGreatDoor
open Go.RowKit

def DoesStmt (F : FW) (n : Nat) : Prop := ∀ (E : Env) (w : World) (v : Value) (kvs : List Value) (st : St), Par E w v kvs st → stmt F E.s n st ≠ .out → Calls Tryz.prog 99 #[ptr E.p] w (PostN E w v kvs (stmt F E.s n st))
set_option maxRecDepth 100000 in
set_option maxHeartbeats 2000000 in
theorem block1_any {F : FW} {n : Nat} (hS : ∀ m, m ≤ n → DoesStmt F m) {E : Env} {w w0 : World} {v v0 : Value} {kvs k0 : List Value} {st : St} (h : Par E w v kvs st) {b1 b2 : Nat} (hQ : QArgs E w0 v0 k0 b1 b2 [] [] w v kvs) (p1 : E.p < b1) (h12 : b1 ≠ b2)
    (hne : stmts F E.s n [] st ≠ .out) :
    Calls Tryz.prog 98 #[ptr b1, ptr b2] w (PostQ unitV E (fun ks => QArgs E w0 v0 k0 b1 b2 [] ks) (ZMov E w0 v0 k0) (stmts F E.s n [] st)) := by
  generalize hR : stmts F E.s n [] st = RES at hne ⊢
  have HR : Hid (stmts F E.s n [] st = RES) := hR
  have HP : Hid (Par E w v kvs st) := h
  have HQ : Hid (QArgs E w0 v0 k0 b1 b2 [] [] w v kvs) := hQ
  have HS : Hid _ := hS
  obtain ⟨i0, hi, hz0, hz1, hz2⟩ := info_parts info3
  have hpb := h.pb
  clear hR h hQ hS
  go_enter Tryz.func98, Tryz.ntmps98
  go_wp2_with fail
  go_loopw [2] (fun _ wr => ∃ (m : Nat) (ks : List Nat) (v' : Value) (k' : List Value) (st' : St), m ≤ n ∧ Hid (Par E wr v' k' st' ∧ QArgs E w0 v0 k0 b1 b2 [] ks wr v' k' ∧ stmts F E.s m ks st' = RES)) (fun _ wr => leftIn E.p wr)
  case atStart => exact ⟨n, [], v, kvs, st, Nat.le_refl _, HP.out, HQ.out, HR.out⟩
  case round =>
    clear HP HQ HR
    obtain ⟨m, ks, v1, k1, st1, hmn, hr⟩ := hrel
    obtain ⟨m, rfl⟩ : ∃ m', m = m' + 1 := by
      cases m with
      | zero => exact absurd (hr.out.2.2.symm.trans (by simp only [stmts])) hne
      | succ m => exact ⟨m, rfl⟩
    have hRE := hr.out.2.2
    simp only [stmts] at hRE
    obtain ⟨ka, kn, kc, hK, hB1, hO1, hg1, hkl⟩ := hr.out.2.1
    have d0 := hB1.cell 0 _ rfl
    have hH := has_at hr.out.1 [125]
    have H : Hid (Par E wr v1 k1 st1 ∧ KB E w0 v0 k0 b2 [] ka kn kc ks wr v1 k1 ∧ Box wr b1 [ptr E.p] ∧ Off b1 v1 k1 ∧ (∀ g, (Value.slice ka kn kc).ownBlock = some g → g ≠ b1) ∧ ks.length ≤ k1.length) := ⟨hr.out.1, hK, hB1, hO1, hg1, hkl⟩
    have hBX := fun W (hb : Below wr.heap.size wr W) => And.intro ((hB1.below hb).cell 0 _ rfl) ((hK.box.below hb).cell 0 _ rfl)
    have HBX : Hid _ := hBX
    clear hK hB1 hO1 hg1 hkl hr hBX
    cases hc : has E.s [125] st1
    · rw [hc] at hH hRE
      simp only [Bool.false_eq_true, if_false] at hRE
      have hsn : stmt F E.s m st1 ≠ .out := bind_ne (by rw [hRE]; exact hne)
      have HC : Hid (∀ W, Par E W v1 k1 st1 → Calls Tryz.prog 99 #[ptr E.p] W (PostN E W v1 k1 (stmt F E.s m st1))) := fun W hp => HS.out m (by omega) E W v1 k1 st1 hp hsn
      have HG : Hid (∀ a st', stmt F E.s m st1 = .ok a st' → st1.nodes.length < st'.nodes.length) := fun a st' hs => (grew_stmt F E.s m).2.1 _ _ _ hs
      have HW : Hid (∀ a st', stmt F E.s m st1 = .ok a st' → Went 0 st1 st') := fun a st' hs => (went_stmt F E.s m).2.2.1 _ _ _ hs
      generalize stmt F E.s m st1 = r at hRE HC HG HW hsn
      have HRE : Hid _ := hRE
      clear hRE
      go_wp2_with (go_at_call 91; refine Calls.mono (by exact hH) ?_; rintro e w2 ⟨rfl, hb2⟩; obtain ⟨x1, x2⟩ := HBX.out _ hb2; have hwd : Below wr.heap.size wr w2.drew := hb2.drew; have HPd : Hid _ := H.out.1.below hwd; have HKd : Hid _ := H.out.2.1.kept H.out.1 (.of_below hwd); have HMd : Hid _ := ((Kept.of_below (p := E.p) hwd).moved v1 k1))
      go_region_law (first | (refine step_call rfl 99 (.tmp 6) _ rfl (ptr E.p) (by first | (simp [Act.eval]; done) | (simp [Act.eval, Act.put]; done)) (by kernel_rfl) (by exact HC.out _ HPd.out) ?_; rintro e w3 h3; rcases r with ⟨a3, st3⟩ | ⟨c3, q3⟩ | _; rotate_left; (obtain ⟨rfl, v3, k3, hm3⟩ := h3; have hre := HRE.out; subst hre; exact ⟨rfl, rfl, v3, k3, H.out.2.1.mv.trans (HMd.out.trans hm3)⟩); (exact absurd rfl hsn); obtain ⟨rfl, v3, k3, hp3, hm3⟩ := h3; have hmm := HMd.out.trans hm3; have HK3 : Hid _ := H.out.2.1.moved H.out.1 hmm; have HP3 : Hid (Par E w3 v3 k3 st3) := hp3; have y2 := HK3.out.box.cell 0 _ rfl; have yl := HK3.out.box.lt; have HM3 : Hid (Moved E.p wr v1 k1 w3 v3 k3) := hmm; clear hp3 hm3 hmm) | (refine step_append_own rfl (.tmp 5) (.tmp 8) 44 rfl E.base 3 i0 (.int .i64 0) 1 8 Tryz.underlying44 hi hz0 hz1 hz2 rfl (by decide) (.slice ka kn kc) ks.length (ints ks) ?e1 ?e2 ⟨w3.heap.size, 0, none⟩ 1 1 [natV a3] ?e3 rfl ?e4 ?e5 ?e6 ?e7 ?e8 ?_; (case e1 => first | (simp [Act.eval]; done) | (simp [Act.eval, Act.put]; done)); (case e2 => exact HK3.out.row.alloc _); (case e3 => first | (simp [Act.eval]; done) | (simp [Act.eval, Act.put]; done)); (case e4 => exact cell_one_new w3 _ _); (case e5 => intro u hu; simp at hu; subst hu; rfl); (case e6 => have := H.out.2.2.2.2.2; have := H.out.1.nds.len; have := H.out.1.sum; unfold maxLen; omega); (case e7 => have := H.out.2.2.2.2.2; have := H.out.1.nds.len; have := H.out.1.sum; omega); (case e8 => have := HP3.out.bs; simp; omega); intro x4 w4 ho hg hs; obtain ⟨g4, d4, rfl, hK4, hP4, hgw, hgf⟩ := HK3.out.app HP3.out (W := w3.alloc (.cells #[natV a3] 3)) ((Below.refl _ _).alloc (Nat.le_refl _) _) (by simp) ho hg hs (n := 0) rfl; have hbe : w4.heap[b2]? = w3.heap[b2]? := hgw.block b2 yl (fun hc => (HK3.out.fr b2 hc.symm).2.1 rfl); have q7 := (World.cell?_of_block (w := w3) (a := ⟨b2, 0, none⟩) hbe).trans y2; have qf := (World.frozen?_of_block (w := w3) (a := ⟨b2, 0, none⟩) hbe).trans (HK3.out.box.fz 0); have HK4 : Hid _ := hK4; have HP4 : Hid _ := hP4; have HGW : Hid _ := And.intro hgw hgf; clear hK4 hP4 hgw hgf hbe ho hg hs))
      all_goals (try go_wp2_with fail)
      all_goals
        go_roundw
        case rel =>
          have B1 := H.out.2.2.1.moved HM3.out (by omega) H.out.2.2.2.1.1
          have O1 := H.out.2.2.2.1.moved H.out.2.2.1.lt HM3.out
          have hgb : g4 ≠ b1 := by
            rcases HGW.out.2 with rfl | hgf
            · have := B1.lt; simp; omega
            · exact H.out.2.2.2.2.1 g4 hgf
          refine ⟨m, ks ++ [a3], v3, k3, st3, by omega, HP4.out, ⟨_, _, _, HK4.out, ?_, O1, ?_, ?_⟩, HRE.out⟩
          · exact (B1.same (HGW.out.1.block b1 B1.lt (fun hc => H.out.2.2.2.2.1 b1 hc.symm rfl))).other h12 _
          · intro q hq
            simp [Value.ownBlock] at hq
            rw [← hq]; exact hgb
          · have e1 := HG.out a3 st3 rfl
            have e2 := H.out.1.nds.len
            have e3 := HP3.out.nds.len
            have e4 := H.out.2.2.2.2.2
            simp; omega
        case measure =>
          have h1 : st3.nodes.length + st3.toks.length + 0 ≤ st1.nodes.length + st1.toks.length := (HW.out a3 st3 rfl).sum
          have h2 := HG.out a3 st3 rfl
          show leftIn E.p _ < leftIn E.p _
          rw [left_par HP4.out, left_par H.out.1]
          omega
    · rw [hc] at hH hRE
      simp only [if_true] at hRE
      have HTK : Hid (∀ W, Par E W v1 k1 st1 → Calls Tryz.prog 43 #[ptr E.p, .string ⟨#[125]⟩] W (PostK natV E W v1 k1 (take E.s [125] st1))) := fun W hp => take_at hp
      generalize take E.s [125] st1 = r at hRE HTK
      have HRE : Hid _ := hRE
      clear hRE
      unfold PostK at HTK
      cases r with
      | out => exact absurd HRE.out.symm hne
      | err c q =>
        dsimp only at HTK
        go_wp2_with (first | (go_at_call 91; refine Calls.mono (by exact hH) ?_; rintro e w2 ⟨rfl, hb2⟩; obtain ⟨x1, x2⟩ := HBX.out _ hb2) | (go_at_call 43; refine Calls.mono (by exact HTK.out _ (H.out.1.below hb2)) ?_; rintro e w3 ⟨rfl, hk3⟩; unfold gaveUp))
        have hre := HRE.out
        subst hre
        exact ⟨rfl, rfl, v1, k1, (H.out.2.1.mv.below hb2).kept hk3⟩
      | ok a st2 =>
        dsimp only at HTK
        go_wp2_with (first | (go_at_call 91; refine Calls.mono (by exact hH) ?_; rintro e w2 ⟨rfl, hb2⟩; obtain ⟨x1, x2⟩ := HBX.out _ hb2) | (go_at_call 43; refine Calls.mono (by exact HTK.out _ (H.out.1.below hb2)) ?_; rintro e w3 ⟨rfl, hk3, hp3⟩))
        go_end0
        have hre := HRE.out
        subst hre
        have hkk : Kept E.p wr w3 := (Kept.of_below hb2).trans hk3
        exact ⟨rfl, v1, k1, hp3, ka, kn, kc, H.out.2.1.kept2 hpb hkk, H.out.2.2.1.kept hkk (by omega), H.out.2.2.2.1, H.out.2.2.2.2.1, H.out.2.2.2.2.2⟩
set_option maxRecDepth 100000 in
theorem block_any {F : FW} {n : Nat} (hS : ∀ m, m ≤ n → DoesStmt F m) : DoesBlock F (n + 1) := by
  intro E w v kvs st h hne
  simp only [block] at hne ⊢
  have hl := h.lt
  have hw := wb_below w E.p [.slice none 0 0] 44
  have B1 := wb_box1 w E.p [.slice none 0 0] 44
  have B2 := wb_box2 w E.p [.slice none 0 0] 44
  have hp := h.below hw
  have hm : Moved E.p w v kvs (WB w E.p [.slice none 0 0] 44) v kvs := (Kept.of_below hw).moved v kvs
  have e123 : (⟨#[123]⟩ : ByteArray).toList = [123] := by rw [Lib.toList_data]
  have hQ0 : QArgs E w v kvs w.heap.size (w.heap.size + 1) [] [] (WB w E.p [.slice none 0 0] 44) v kvs :=
    ⟨none, 0, 0, ⟨hm, h.off (by omega), B2, World.ownsRow_nil _ _ _ _, fun g hg => (by cases hg), by omega, h.lt⟩, B1, h.off (Nat.le_refl _), fun g hg => (by cases hg), Nat.zero_le _⟩
  have hO := opened_any hp ⟨#[123]⟩ (by rw [e123]; simp) 98 #[ptr w.heap.size, ptr (w.heap.size + 1)] (fun w => by kernel_rfl) (stmts F E.s n []) (fun ks => QArgs E w v kvs w.heap.size (w.heap.size + 1) [] ks) (ZMov E w v kvs)
    (fun ks w2 v2 k2 u hq => hq.kept2 h.pb ((Kept.refl _ _).setP u) (by omega)) (fun w1 hk => ⟨v, kvs, hm.kept hk⟩) (fun s1 a s2 hs => ((went_stmt F E.s n).2.1 [] s1 a s2 hs).opn) (by rw [e123]; exact bind_ne hne)
    (fun _ _ hu w1 hk hp1 => block1_any hS hp1 (hQ0.kept2 h.pb hk (by omega)) (by omega) (by omega) hu)
  rw [e123] at hO
  have hsum := h.sum
  have HS : Hid (∀ a st1, opened E.s [123] (stmts F E.s n []) st = .ok a st1 → st1.nodes.length + 1 + st1.toks.length ≤ 140000) := fun a st1 hs => by
    have := (went_opened (d := 1) (by simp) ((went_stmt F E.s n).2.1 []) hs).sum
    omega
  generalize opened E.s [123] (stmts F E.s n []) st = r at hO hne HS ⊢
  clear hp hm B1 B2 hw hS hQ0 h hsum
  have hmf := mf
  unfold PostQ at hO
  unfold PostN
  cases r with
  | out => exact absurd rfl hne
  | err c q =>
    dsimp only [Res.bind] at hO ⊢
    go_enter Tryz.func48, Tryz.ntmps48
    go_wp2_with (go_at_call 97; refine Calls.mono (by exact hO) ?_; rintro e w3 ⟨rfl, hz⟩; unfold gaveUp)
    exact ⟨rfl, rfl, hz⟩
  | ok a st1 =>
    dsimp only [Res.bind, putP] at hO ⊢
    go_enter Tryz.func48, Tryz.ntmps48
    go_wp2_with (go_at_call 97; refine Calls.mono (by exact hO) ?_; rintro e w3 ⟨rfl, v3, k3, hp3, ka, kn, kc, hK3, C1, _, _, _⟩; have x0 := C1.cell 0 _ rfl; have y0 := hK3.box.cell 0 _ rfl)
    have hput : Calls Tryz.prog 100 #[ptr E.p, .agg #[.int .u8 21, natV a.1, .string ⟨#[]⟩, .int .u8 0, .int .u8 0, .int .u64 0, .int .i64 0, .slice ka kn kc]] w3 (PostN E w v kvs (putP ⟨21, a.1, ⟨#[]⟩, 0, 0, 0, 0, a.2⟩ st1)) :=
      put_node hp3 hK3.mv ⟨21, a.1, ⟨#[]⟩, 0, 0, 0, 0, a.2⟩ ka kn kc hK3.row (fun g hg => ⟨(hK3.fr g hg).1, (hK3.fr g hg).2.2⟩) (HS.out a st1 rfl)
    refine hput.mono ?_
    rintro e w4 h4
    unfold putP PostN at h4
    obtain ⟨rfl, h4⟩ := h4
    go_wp2
    go_ret
    exact ⟨rfl, h4⟩
end Go.Proofs.YtbejgachdhfakaaGreatDoor
/- The else part. -/
namespace Go.Proofs.YtbejgachdhfakaaGreatDoor
open Go.RowKit

set_option maxRecDepth 100000 in
theorem else1_any {F : FW} {n : Nat} (hU : DoesIf F n) {E : Env} {w w0 : World} {v v0 : Value} {kvs k0 : List Value} {st : St} (pl : Nat) (h : Par E w v kvs st) (hM : Moved E.p w0 v0 k0 w v kvs) {b1 b2 : Nat} {c0 c2 c3 c4 c5 c6 kv : Value} (hb1 : Box w b1 [ptr E.p]) (hb2 : Box w b2 [c0, natV pl, c2, c3, c4, c5, c6, kv])
    (o1 : Off b1 v kvs) (o2 : Off b2 v kvs) (p1 : E.p < b1) (p2 : E.p < b2) (h12 : b1 ≠ b2) (g2 : w0.heap.size ≤ b2) (hne : ifP F E.s n pl st ≠ .out) :
    Calls Tryz.prog 166 #[ptr b1, ptr b2] w (PostQ unitV E (QNode E w0 v0 k0 b1 b2 [c0, natV pl, c2, c3, c4, c5, c6] (fun k => [k])) (ZMov E w0 v0 k0) (ifP F E.s n pl st)) := by
  have hc := hU E w v kvs st pl h hne
  have d0 := hb1.cell 0 _ rfl
  have d1 := hb2.cell 1 _ rfl
  generalize ifP F E.s n pl st = r at hc hne ⊢
  unfold PostN at hc
  unfold PostQ
  cases r with
  | out => exact absurd rfl hne
  | err c q =>
    dsimp only at hc ⊢
    go_enter Tryz.func166, Tryz.ntmps166
    go_wp2_with (go_at_call 139; refine hc.mono ?_; rintro e w1 ⟨rfl, v1, k1, hm1⟩; unfold gaveUp)
    exact ⟨rfl, rfl, v1, k1, hM.trans hm1⟩
  | ok k st' =>
    dsimp only at hc ⊢
    have H : Hid (Par E w v kvs st ∧ Moved E.p w0 v0 k0 w v kvs ∧ Box w b1 [ptr E.p] ∧ Box w b2 [c0, natV pl, c2, c3, c4, c5, c6, kv] ∧ Off b1 v kvs ∧ Off b2 v kvs) := ⟨h, hM, hb1, hb2, o1, o2⟩
    clear h hM hb1 hb2 o1 o2 hne hU
    go_enter Tryz.func166, Tryz.ntmps166
    go_wp2_with (go_at_call 139; refine hc.mono ?_; rintro e w1 ⟨rfl, v1, k1, hp1, hm1⟩; have B2 := H.out.2.2.2.1.moved hm1 (by omega) H.out.2.2.2.2.2.1; have d7 := B2.cell 7 _ rfl; have f7 := B2.fz 7; have l7 := B2.lt)
    go_end0
    have hm := H.out.2.1.trans hm1
    have := kids_laid (fun k : Nat => [k]) k hp1 hm (H.out.2.2.1.moved hm1 (by omega) H.out.2.2.2.2.1.1) (cs := [c0, natV pl, c2, c3, c4, c5, c6]) B2 (H.out.2.2.2.2.1.moved H.out.2.2.1.lt hm1) (H.out.2.2.2.2.2.moved H.out.2.2.2.1.lt hm1) p2 h12 g2 (by simp [maxLen]) (n := 7) rfl
    exact ⟨rfl, v1, k1, this⟩
set_option maxRecDepth 100000 in
set_option maxHeartbeats 1000000 in
theorem else_any {F : FW} {n : Nat} (hI : DoesIf F n) (hB : DoesBlock F n) : DoesElse F (n + 1) := by
  intro E w v kvs st h hne
  simp only [elseP] at hne ⊢
  have hl := h.lt
  have hwA : Below w.heap.size w (w.alloc (.cells #[ptr E.p] 121)) := (Below.refl _ _).alloc (Nat.le_refl _) _
  have hH := has_at (h.below hwA) [105, 102]
  have BA := Box.new w [ptr E.p] 121
  have HPA : Hid (Par E w v kvs st) := h
  have HBX : Hid (∀ W, Below (w.alloc (.cells #[ptr E.p] 121)).heap.size (w.alloc (.cells #[ptr E.p] 121)) W → Below w.heap.size w W ∧ Box W w.heap.size [ptr E.p]) := fun W hb => ⟨hwA.trans (hb.mono (by simp)), BA.below hb⟩
  have hmf := mf
  have g1 := fld1
  cases hc : has E.s [105, 102] st
  · rw [hc] at hH hne
    simp only [Bool.false_eq_true, if_false] at hne ⊢
    have HC : Hid (∀ W, Below w.heap.size w W → Calls Tryz.prog 48 #[ptr E.p] W (PostN E W v kvs (block F E.s n st))) := fun W hW => hB E W v kvs st (h.below hW) hne
    generalize block F E.s n st = r at HC hne ⊢
    clear h hI hB BA
    unfold PostN at HC ⊢
    cases r with
    | out => exact absurd rfl hne
    | err c q =>
      dsimp only at HC ⊢
      go_enter Tryz.func159, Tryz.ntmps159
      go_wp2_with (first | (go_at_call 91; refine Calls.mono (by exact hH) ?_; rintro e w1 ⟨rfl, hb1⟩; obtain ⟨hw1, B1⟩ := HBX.out _ hb1; have x0 := B1.cell 0 _ rfl) | (go_at_call 48; refine Calls.mono (by exact HC.out _ hw1) ?_; rintro e w2 ⟨rfl, v2, k2, hm2⟩; unfold gaveUp))
      exact ⟨rfl, rfl, v2, k2, ((Kept.of_below hw1).moved v kvs).trans hm2⟩
    | ok a st1 =>
      dsimp only at HC ⊢
      go_enter Tryz.func159, Tryz.ntmps159
      go_wp2_with (first | (go_at_call 91; refine Calls.mono (by exact hH) ?_; rintro e w1 ⟨rfl, hb1⟩; obtain ⟨hw1, B1⟩ := HBX.out _ hb1; have x0 := B1.cell 0 _ rfl) | (go_at_call 48; refine Calls.mono (by exact HC.out _ hw1) ?_; rintro e w2 ⟨rfl, v2, k2, hp2, hm2⟩))
      go_ret
      exact ⟨rfl, v2, k2, hp2, ((Kept.of_below hw1).moved v kvs).trans hm2⟩
  · rw [hc] at hH hne
    simp only [if_true] at hne ⊢
    have eif : (⟨#[105, 102]⟩ : ByteArray).toList = [105, 102] := by rw [Lib.toList_data]
    have HN : Hid (∀ W, Below w.heap.size w W → Calls Tryz.prog 23 #[ptr E.p] W fun e w' => e = .returned (.agg #[.int .u8 ((hd st).1 : Int), .int .i64 ((hd st).2.1 : Int), .int .i64 ((hd st).2.2 : Int)]) ∧ Below W.heap.size W w') := fun W hW => next_par (h.below hW)
    have HO : Hid (∀ w2 : World, Below w.heap.size w w2 → Box w2 w.heap.size [ptr E.p] → Calls Tryz.prog 97 #[ptr E.p, .string ⟨#[105, 102]⟩, .func (.func 166) #[] #[ptr w.heap.size, ptr w2.heap.size]] (w2.alloc (.cells #[.int .u8 21, natV (hd st).2.1, .string ⟨#[]⟩, .int .u8 0, .int .u8 0, .int .u64 0, .int .i64 0, .slice none 0 0] 46))
        (PostQ (fun a : Nat × Nat => natV a.1) E (fun a => QNode E w v kvs w.heap.size w2.heap.size [.int .u8 21, natV (hd st).2.1, .string ⟨#[]⟩, .int .u8 0, .int .u8 0, .int .u64 0, .int .i64 0] (fun k => [k]) a.2) (ZMov E w v kvs) (opened E.s [105, 102] (ifP F E.s n (hd st).2.1) st))) := by
      intro w2 hw2 hB1
      have hb : Below w2.heap.size w2 (w2.alloc (.cells #[.int .u8 21, natV (hd st).2.1, .string ⟨#[]⟩, .int .u8 0, .int .u8 0, .int .u64 0, .int .i64 0, .slice none 0 0] 46)) := (Below.refl _ _).alloc (Nat.le_refl _) _
      have B2 := Box.new w2 [.int .u8 21, natV (hd st).2.1, .string ⟨#[]⟩, .int .u8 0, .int .u8 0, .int .u64 0, .int .i64 0, .slice none 0 0] 46
      have hlt := hB1.lt
      have hsz := hw2.size
      have hp2 := (h.below hw2).below hb
      have hm2 : Moved E.p w v kvs (w2.alloc (.cells #[.int .u8 21, natV (hd st).2.1, .string ⟨#[]⟩, .int .u8 0, .int .u8 0, .int .u64 0, .int .i64 0, .slice none 0 0] 46)) v kvs := ((Kept.of_below hw2).moved v kvs).below hb
      have := opened_any hp2 ⟨#[105, 102]⟩ (by rw [eif]; simp) 166 #[ptr w.heap.size, ptr w2.heap.size] (fun w => by kernel_rfl) (ifP F E.s n (hd st).2.1) (QNode E w v kvs w.heap.size w2.heap.size [.int .u8 21, natV (hd st).2.1, .string ⟨#[]⟩, .int .u8 0, .int .u8 0, .int .u64 0, .int .i64 0] (fun k => [k])) (ZMov E w v kvs) (QNode.setP h.pb (by omega) (by omega)) (fun w1 hk => ⟨v, kvs, hm2.kept hk⟩)
        (fun s1 a s2 hs => ((went_stmt F E.s n).2.2.2.2.2.1 _ s1 a s2 hs).opn) (by rw [eif]; exact bind_ne hne)
        (fun _ _ hu w1 hk hp1 => else1_any hI (hd st).2.1 hp1 (hm2.kept hk) ((hB1.below hb).kept hk (by omega)) (B2.kept hk (by omega)) (h.off (Nat.le_refl _)) (h.off (by omega)) (by omega) (by omega) (by omega) (by omega) hu)
      rw [eif] at this
      exact this
    have hsum := h.sum
    have HS : Hid (∀ a st1, opened E.s [105, 102] (ifP F E.s n (hd st).2.1) st = .ok a st1 → st1.nodes.length + 1 + st1.toks.length ≤ 140000) := fun a st1 hs => by
      have := (went_opened (d := 0) (by simp) ((went_stmt F E.s n).2.2.2.2.2.1 _) hs).sum
      omega
    generalize opened E.s [105, 102] (ifP F E.s n (hd st).2.1) st = r at HO hne HS ⊢
    generalize (hd st).2.1 = pl at HO hne HN ⊢
    generalize (hd st).2.2 = y2 at HN
    generalize (hd st).1 = y1 at HN
    clear h hI hB BA hsum eif
    unfold PostQ at HO
    cases r with
    | out => exact absurd rfl hne
    | err c q =>
      unfold PostN
      dsimp only [Res.bind] at HO ⊢
      go_enter Tryz.func159, Tryz.ntmps159
      go_wp2_with (first | (go_at_call 91; refine Calls.mono (by exact hH) ?_; rintro e w1 ⟨rfl, hb1⟩; obtain ⟨hw1, B1⟩ := HBX.out _ hb1; have x0 := B1.cell 0 _ rfl) | (go_at_call 23; refine Calls.mono (by exact HN.out _ hw1) ?_; rintro e w2 ⟨rfl, hb2⟩; have hw2 := hw1.trans (hb2.mono hw1.size); have B1' := B1.below hb2; have x0' := B1'.cell 0 _ rfl; have xl := B1'.lt) | (go_at_call 97; refine Calls.mono (by exact HO.out _ hw2 B1') ?_; rintro e w3 ⟨rfl, hz⟩; unfold gaveUp))
      exact ⟨rfl, rfl, hz⟩
    | ok a st1 =>
      dsimp only [Res.bind] at HO ⊢
      go_enter Tryz.func159, Tryz.ntmps159
      go_wp2_with (first | (go_at_call 91; refine Calls.mono (by exact hH) ?_; rintro e w1 ⟨rfl, hb1⟩; obtain ⟨hw1, B1⟩ := HBX.out _ hb1; have x0 := B1.cell 0 _ rfl) | (go_at_call 23; refine Calls.mono (by exact HN.out _ hw1) ?_; rintro e w2 ⟨rfl, hb2⟩; have hw2 := hw1.trans (hb2.mono hw1.size); have B1' := B1.below hb2; have x0' := B1'.cell 0 _ rfl; have xl := B1'.lt) | (go_at_call 97; refine Calls.mono (by exact HO.out _ hw2 B1') ?_; rintro e w3 ⟨rfl, v3, k3, hp3, hm3, C1, o1, o2, ka, kn, kc, C2, hr, hgg⟩; have s0 := C1.cell 0 _ rfl; have z0 := C2.cell 0 _ rfl; have z1 := C2.cell 1 _ rfl; have z2 := C2.cell 2 _ rfl; have z3 := C2.cell 3 _ rfl; have z4 := C2.cell 4 _ rfl; have z5 := C2.cell 5 _ rfl; have z6 := C2.cell 6 _ rfl; have z7 := C2.cell 7 _ rfl))
      have hput : Calls Tryz.prog 100 #[ptr E.p, .agg #[.int .u8 21, natV pl, .string ⟨#[]⟩, .int .u8 0, .int .u8 0, .int .u64 0, .int .i64 0, .slice ka kn kc]] w3 (PostN E w v kvs (putP ⟨21, pl, ⟨#[]⟩, 0, 0, 0, 0, [a.2]⟩ st1)) :=
        put_node hp3 hm3 ⟨21, pl, ⟨#[]⟩, 0, 0, 0, 0, [a.2]⟩ ka kn kc hr (fun g hg => ⟨(hgg g hg).1, (hgg g hg).2.2.2⟩) (HS.out a st1 rfl)
      refine Calls.mono (by exact hput) ?_
      rintro e w4 h4
      unfold putP PostN at h4
      obtain ⟨rfl, h4⟩ := h4
      go_wp2
      go_ret
      exact ⟨rfl, h4⟩
end Go.Proofs.YtbejgachdhfakaaGreatDoor
