/- Statements that begin with a name. -/
import Derived.Test.YtbejgachdhfakaaGreatDoorGF
namespace Go.Proofs.YtbejgachdhfakaaGreatDoor
open Go.RowKit

def DoesNameSt (F : FW) (n : Nat) : Prop := ∀ (E : Env) (w : World) (v : Value) (kvs : List Value) (st : St), Par E w v kvs st → nameSt F E.s n st ≠ .out → Calls Tryz.prog 143 #[ptr E.p] w (PostN E w v kvs (nameSt F E.s n st))
set_option maxRecDepth 100000 in
set_option maxHeartbeats 4000000 in
theorem nameSt_any {F : FW} {n : Nat} (hX : DoesExpr F n) (hC : DoesCall F n) : DoesNameSt F (n + 1) := by
  intro E w v kvs st h hne
  have hl := h.lt
  have hpb := h.pb
  generalize hR : nameSt F E.s (n + 1) st = RES at hne ⊢
  simp only [nameSt] at hR
  have hw : Below w.heap.size w (w.alloc (.cells #[Value.int .u8 12, .int .i64 0, .string ⟨#[]⟩, .int .u8 0, .int .u8 0, .int .u64 0, .int .i64 0, .slice none 0 0] 46)) := (Below.refl _ _).alloc (Nat.le_refl _) _
  have hN := name_par (h.below hw)
  have HMA : Hid (Moved E.p w v kvs (w.alloc (.cells #[Value.int .u8 12, .int .i64 0, .string ⟨#[]⟩, .int .u8 0, .int .u8 0, .int .u64 0, .int .i64 0, .slice none 0 0] 46)) v kvs) := (Kept.of_below hw).moved v kvs
  have HOFF : Hid (Off w.heap.size v kvs) := h.off (Nat.le_refl _)
  have HX0 : Hid (∀ W V K st1, Par E W V K st1 → row F E.s n 1 st1 ≠ .out → Calls Tryz.prog 158 #[ptr E.p] W (PostN E W V K (row F E.s n 1 st1))) := fun W V K st1 hp h1 => hX E W V K st1 hp h1
  have hsum0 := h.sum
  obtain ⟨i0, hi, hz0, hz1, hz2⟩ := info_parts info3
  cases hnm : nameP E.s st with
  | out => rw [hnm] at hR; exact absurd hR.symm hne
  | err c q =>
    rw [hnm] at hN hR
    unfold PostK at hN
    dsimp only [Res.bind] at hN hR
    subst hR
    have HN : Hid _ := hN
    clear hN hX hC h
    go_enter Tryz.func143, Tryz.ntmps143
    go_wp2_with (go_at_call 44; refine Calls.mono (by exact HN.out) ?_; rintro e w1 ⟨rfl, hk1⟩; unfold gaveUp)
    exact ⟨rfl, rfl, v, kvs, HMA.out.kept hk1⟩
  | ok a st1 =>
    obtain ⟨nm, pl⟩ := a
    rw [hnm] at hN hR
    have hsum : st1.nodes.length + st1.toks.length + 1 ≤ 140000 := by
      have := (went_name hnm).sum
      omega
    unfold PostK at hN
    simp only [Res.bind] at hR
    dsimp only at hN
    have HN : Hid _ := hN
    have HH : Hid (∀ W, Par E W v kvs st1 → Calls Tryz.prog 91 #[ptr E.p, .string ⟨#[40]⟩] W fun e w' => e = .returned (.bool (has E.s [40] st1)) ∧ Below W.heap.size W w') := fun W hp => has_at hp [40]
    have HI : Hid (∀ W, Par E W v kvs st1 → Calls Tryz.prog 91 #[ptr E.p, .string ⟨#[91]⟩] W fun e w' => e = .returned (.bool (has E.s [91] st1)) ∧ Below W.heap.size W w') := fun W hp => has_at hp [91]
    have HCL : Hid (∀ W, Par E W v kvs st1 → call F E.s n pl nm st1 ≠ .out → Calls Tryz.prog 160 #[ptr E.p, natV pl, .string nm] W (PostN E W v kvs (call F E.s n pl nm st1))) := fun W hp h1 => hC E W v kvs st1 pl nm hp h1
    clear hN hX hC h hw hnm
    cases c1 : has E.s [40] st1
    · rw [c1] at HH hR
      simp only [Bool.false_eq_true, if_false] at hR
      cases c2 : has E.s [91] st1
      · rw [c2] at HI hR
        simp only [Bool.false_eq_true, if_false] at hR
        have HR1 : Hid _ := hR
        clear hR
        go_enter Tryz.func143, Tryz.ntmps143
        go_wp2_with (first | (go_at_call 91; have hh := HP2; clear hh; refine Calls.mono (by exact HI.out _ HP2.out) ?_; rintro e w3 ⟨rfl, hb3⟩; have HP3 : Hid (Par E w3 v kvs st1) := HP2.out.below hb3; have HM3 : Hid (Moved E.p w v kvs w3 v kvs) := HM2.out.below hb3; have B3 := B2.below hb3; have bl3 := B3.lt; have y0 := B3.cell 0 _ rfl; have yf0 := B3.fz 0; have y7 := B3.cell 7 _ rfl; have HKa : Hid (KB E w v kvs w.heap.size [Value.int .u8 12, natV pl, .string nm, .int .u8 0, .int .u8 0, .int .u64 0, .int .i64 0] none 0 0 [] w3 v kvs) := ⟨HM3.out, HOFF.out, B3, World.ownsRow_nil _ _ _ _, fun g hg => (by cases hg), Nat.le_refl _, hl⟩) | (go_at_call 91; refine Calls.mono (by exact HH.out _ HX.out.1) ?_; rintro e w2 ⟨rfl, hb2⟩; have HP2 : Hid (Par E w2 v kvs st1) := HX.out.1.below hb2; have HM2 : Hid (Moved E.p w v kvs w2 v kvs) := HX.out.2.1.below hb2; have B2 := HX.out.2.2.below hb2; have z0 := B2.cell 0 _ rfl; have z1 := B2.cell 1 _ rfl; have z2 := B2.cell 2 _ rfl; have z3 := B2.cell 3 _ rfl; have z4 := B2.cell 4 _ rfl; have z5 := B2.cell 5 _ rfl; have z6 := B2.cell 6 _ rfl; have z7 := B2.cell 7 _ rfl; have g00 := B2.fz 0; have bl2 := B2.lt) | (go_at_call 44; refine Calls.mono (by exact HN.out) ?_; rintro e w1 ⟨rfl, hk1, hp1⟩; have B := (Box.new w [Value.int .u8 12, .int .i64 0, .string ⟨#[]⟩, .int .u8 0, .int .u8 0, .int .u64 0, .int .i64 0, .slice none 0 0] 46).kept hk1 (by omega); have e1 := B.cell 1 _ rfl; have e2 := B.cell 2 _ rfl; have f1 := B.fz 1; have f2 := B.fz 2; have bl := B.lt; have HX : Hid (Par E ((w1.setCell ⟨w.heap.size, 2, none⟩ (.string nm)).setCell ⟨w.heap.size, 1, none⟩ (natV pl)) v kvs st1 ∧ Moved E.p w v kvs ((w1.setCell ⟨w.heap.size, 2, none⟩ (.string nm)).setCell ⟨w.heap.size, 1, none⟩ (natV pl)) v kvs ∧ Box ((w1.setCell ⟨w.heap.size, 2, none⟩ (.string nm)).setCell ⟨w.heap.size, 1, none⟩ (natV pl)) w.heap.size [Value.int .u8 12, natV pl, .string nm, .int .u8 0, .int .u8 0, .int .u64 0, .int .i64 0, .slice none 0 0]) := ⟨(hp1.setBox (b := w.heap.size) (by omega) HOFF.out 2 (.string nm)).setBox (b := w.heap.size) (by omega) HOFF.out 1 (natV pl), (((HMA.out.kept hk1).setBox (Nat.le_refl _) 2 _).setBox (Nat.le_refl _) 1 _), (B.set (j := 2) (by simp) (.string nm)).set (j := 1) (by simp) (natV pl)⟩; clear hp1) | (go_at_call 43; refine Calls.mono (by exact take_at HP3.out) ?_; rintro e w4 h4; rcases hq4 : take E.s [61] st1 with ⟨a4, st4⟩ | ⟨c4, q4⟩ | _; rotate_left; (rw [hq4] at h4; obtain ⟨rfl, hk4⟩ := h4; have hre := HR1.out; simp only [hq4] at hre; subst hre; exact ⟨rfl, rfl, v, kvs, HM3.out.kept hk4⟩); (exfalso; apply hne; have hre := HR1.out; simp only [hq4] at hre; exact hre.symm); rw [hq4] at h4; obtain ⟨rfl, hk4, hp4⟩ := h4; have HM4 : Hid (Moved E.p w v kvs w4 v kvs) := HM3.out.kept hk4; have hs4 := HR1.out; simp only [hq4] at hs4; have HRES4 : Hid _ := hs4; clear hs4; have HP4 : Hid (Par E w4 v kvs st4) := hp4; have HQ4 : Hid _ := hq4; clear hp4 hq4; have HKe : Hid (KB E w v kvs w.heap.size [Value.int .u8 12, natV pl, .string nm, .int .u8 0, .int .u8 0, .int .u64 0, .int .i64 0] none 0 0 [] w4 v kvs) := HKa.out.kept2 hpb hk4; have de7 := HKe.out.box.cell 7 _ rfl; have del := HKe.out.box.lt; skip))
        have hrn : row F E.s n 1 st4 ≠ .out := fun h0 => hne (by have := HRES4.out; rw [h0] at this; exact this.symm)
        go_cut [2] (fun t wr => t = .int .i64 0 ∧ ∃ (a5 : Nat) (st5 : St) (v5 : Value) (k5 : List Value) (ka5 : Option Addr) (kn5 kc5 : Nat), Hid (KB E w v kvs w.heap.size [Value.int .u8 12, natV pl, .string nm, .int .u8 0, .int .u8 0, .int .u64 0, .int .i64 0] ka5 kn5 kc5 ([] ++ [a5]) wr v5 k5 ∧ Par E wr v5 k5 st5 ∧ row F E.s n 1 st4 = .ok a5 st5 ∧ ((take E.s [59] st5).bind fun _ st4 => putP ⟨12, pl, nm, 0, 0, 0, 0, [a5]⟩ st4) = RES))
        case first =>
          go_region_law (first | (refine step_call rfl 158 (.tmp 48) _ rfl (ptr E.p) (by first | (simp [Act.eval]; done) | (simp [Act.eval, Act.put]; done)) (by kernel_rfl) (by exact HX0.out _ _ _ _ (HP4.out.below (Below.refl _ _).drew) hrn) ?_; rintro e w5 h5; rcases hq5 : row F E.s n 1 st4 with ⟨a5, st5⟩ | ⟨c5, q5⟩ | _; rotate_left; (rw [hq5] at h5; obtain ⟨rfl, v5, k5, hm5⟩ := h5; have hre := HRES4.out; simp only [hq5] at hre; subst hre; exact ⟨rfl, rfl, v5, k5, (HM4.out.kept (Kept.refl _ _).drew).trans hm5⟩); (exfalso; apply hne; have hre := HRES4.out; simp only [hq5] at hre; exact hre.symm); rw [hq5] at h5; obtain ⟨rfl, v5, k5, hp5, hm5⟩ := h5; have HMd5 : Hid (Moved E.p w4 v kvs w5 v5 k5) := ((Kept.refl _ _).drew.moved _ _).trans hm5; have HKa5 : Hid (KB E w v kvs w.heap.size [Value.int .u8 12, natV pl, .string nm, .int .u8 0, .int .u8 0, .int .u64 0, .int .i64 0] none 0 0 [] w5 v5 k5) := HKe.out.moved HP4.out HMd5.out; have x75 := HKa5.out.box.cell 7 _ rfl; have xl5 := HKa5.out.box.lt; have hs5 := HRES4.out; simp only [hq5] at hs5; have HRES5 : Hid _ := hs5; clear hs5; have HPa5 : Hid (Par E w5 v5 k5 st5) := hp5; have HQ5 : Hid _ := hq5; clear hp5 hq5 hm5) | (refine step_append_own rfl (.tmp 47) (.tmp 50) 44 rfl E.base 3 i0 (.int .i64 0) 1 8 Tryz.underlying44 hi hz0 hz1 hz2 rfl (by decide) (.slice none 0 0) ([] : List Nat).length (ints []) ?e1 ?e2 ⟨w5.heap.size, 0, none⟩ 1 1 [natV a5] ?e3 rfl ?e4 ?e5 ?e6 ?e7 ?e8 ?_; (case e1 => first | (simp [Act.eval]; done) | (simp [Act.eval, Act.put]; done)); (case e2 => exact HKa5.out.row.alloc _); (case e3 => first | (simp [Act.eval]; done) | (simp [Act.eval, Act.put]; done)); (case e4 => exact cell_one_new w5 _ _); (case e5 => intro u hu; simp at hu; subst hu; rfl); (case e6 => simp [maxLen]); (case e7 => simp); (case e8 => have := HPa5.out.bs; simp; omega); intro x5 y5 ho hg hs; obtain ⟨g5, d5, rfl, hK5, hP5, hgw, hgf⟩ := HKa5.out.app HPa5.out (W := w5.alloc (.cells #[natV a5] 3)) ((Below.refl _ _).alloc (Nat.le_refl _) _) (by simp) ho hg hs (n := 7) rfl; have hbe : y5.heap[w.heap.size]? = w5.heap[w.heap.size]? := hgw.block w.heap.size xl5 (fun hc => (HKa5.out.fr w.heap.size hc.symm).2.1 rfl); have q75 := (World.cell?_of_block (w := w5) (a := ⟨w.heap.size, 7, none⟩) hbe).trans x75; have qf5 := (World.frozen?_of_block (w := w5) (a := ⟨w.heap.size, 7, none⟩) hbe).trans (HKa5.out.box.fz 7); have HKb5 : Hid _ := hK5; have HPb5 : Hid _ := hP5; have HMb5 : Hid _ := hK5.mv; clear hK5 hP5 hgw hgf hbe ho hg hs))
          all_goals (go_wp2_with fail; go_meet; exact ⟨rfl, a5, st5, v5, k5, _, _, _, HKb5.out, HPb5.out, HQ5.out, HRES5.out⟩)
        case rest =>
        obtain ⟨rfl, a5, st5, v5, k5, ka5, kn5, kc5, hcut5⟩ := hcut
        have HKc5 : Hid (KB E w v kvs w.heap.size [Value.int .u8 12, natV pl, .string nm, .int .u8 0, .int .u8 0, .int .u64 0, .int .i64 0] ka5 kn5 kc5 ([] ++ [a5]) wc v5 k5) := hcut5.out.1
        have HPc5 : Hid (Par E wc v5 k5 st5) := hcut5.out.2.1
        have HMc5 : Hid (Moved E.p w v kvs wc v5 k5) := hcut5.out.1.mv
        have HQc5 : Hid (row F E.s n 1 st4 = .ok a5 st5) := hcut5.out.2.2.1
        have HRc5 : Hid (((take E.s [59] st5).bind fun _ st4 => putP ⟨12, pl, nm, 0, 0, 0, 0, [a5]⟩ st4) = RES) := hcut5.out.2.2.2
        have d75 := HKc5.out.box.cell 7 _ rfl
        have dl5 := HKc5.out.box.lt
        go_wp2_with (go_at_call 43; refine Calls.mono (by exact take_at HPc5.out) ?_; rintro e w6 h6; rcases hq6 : take E.s [59] st5 with ⟨a6, st6⟩ | ⟨c6, q6⟩ | _; rotate_left; (rw [hq6] at h6; obtain ⟨rfl, hk6⟩ := h6; have hre := HRc5.out; simp only [hq6, Res.bind] at hre; subst hre; exact ⟨rfl, rfl, v5, k5, HMc5.out.kept hk6⟩); (exfalso; apply hne; have hre := HRc5.out; simp only [hq6, Res.bind] at hre; exact hre.symm); rw [hq6] at h6; obtain ⟨rfl, hk6, hp6⟩ := h6; have HM6 : Hid (Moved E.p w v kvs w6 v5 k5) := HMc5.out.kept hk6; have hs6 := HRc5.out; simp only [hq6, Res.bind] at hs6; have HRES6 : Hid _ := hs6; clear hs6; have HP6 : Hid (Par E w6 v5 k5 st6) := hp6; have HQ6 : Hid _ := hq6; clear hp6 hq6; have HKf : Hid (KB E w v kvs w.heap.size [Value.int .u8 12, natV pl, .string nm, .int .u8 0, .int .u8 0, .int .u64 0, .int .i64 0] ka5 kn5 kc5 ([] ++ [a5]) w6 v5 k5) := HKc5.out.kept2 hpb hk6; have zz0 := HKf.out.box.cell 0 _ rfl; have zz1 := HKf.out.box.cell 1 _ rfl; have zz2 := HKf.out.box.cell 2 _ rfl; have zz3 := HKf.out.box.cell 3 _ rfl; have zz4 := HKf.out.box.cell 4 _ rfl; have zz5 := HKf.out.box.cell 5 _ rfl; have zz6 := HKf.out.box.cell 6 _ rfl; have zz7 := HKf.out.box.cell 7 _ rfl; skip)
        have hput : Calls Tryz.prog 100 #[ptr E.p, .agg #[Value.int .u8 12, natV pl, .string nm, .int .u8 0, .int .u8 0, .int .u64 0, .int .i64 0, .slice ka5 kn5 kc5]] w6 (PostN E w v kvs (putP ⟨12, pl, nm, 0, 0, 0, 0, [a5]⟩ st6)) :=
          put_node HP6.out HM6.out ⟨12, pl, nm, 0, 0, 0, 0, [a5]⟩ ka5 kn5 kc5 HKf.out.row (fun g hg => ⟨(HKf.out.fr g hg).1, (HKf.out.fr g hg).2.2⟩) (by have := (went_take (by simp) HQ4.out).sum; have := ((went_expr F E.s n).1 _ _ _ _ HQc5.out).sum; have := (went_take (by simp) HQ6.out).sum; omega)
        refine Calls.mono (by exact hput) ?_
        rintro e w99 h99
        have hre := HRES6.out
        subst hre
        unfold putP PostN at h99
        obtain ⟨rfl, h99⟩ := h99
        go_wp2
        go_ret
        exact ⟨rfl, h99⟩
      · rw [c2] at HI hR
        simp only [if_true] at hR
        have hgd : ∀ W, Par E W v kvs st1 → Good E.s (tl st1).toks := fun W hp => good_txs hp.good (by unfold has at c2; rw [eq_of_beq c2]; simp)
        have HPS : Hid (∀ W, Par E W v kvs st1 → Calls Tryz.prog 93 #[ptr E.p] W fun e w' => e = .returned (.int .i64 ((hd st1).2.1 : Int)) ∧ Kept E.p W w' ∧ Par E w' v kvs (tl st1)) := fun W hp => pass_par hp (hgd W hp)
        have hwt : Went 1 st1 (tl st1) := went_tl (has_ne c2 (by simp))
        have HR1 : Hid _ := hR
        clear hR hgd
        generalize (hd st1).2.1 = yy at HPS
        have hrn : row F E.s n 1 (tl st1) ≠ .out := fun h0 => hne (by have := HR1.out; rw [h0] at this; exact this.symm)
        go_enter Tryz.func143, Tryz.ntmps143
        go_wp2_with (first | (go_at_call 91; have hh := HP2; clear hh; refine Calls.mono (by exact HI.out _ HP2.out) ?_; rintro e w3 ⟨rfl, hb3⟩; have HP3 : Hid (Par E w3 v kvs st1) := HP2.out.below hb3; have HM3 : Hid (Moved E.p w v kvs w3 v kvs) := HM2.out.below hb3; have B3 := B2.below hb3; have bl3 := B3.lt; have y0 := B3.cell 0 _ rfl; have yf0 := B3.fz 0; have y7 := B3.cell 7 _ rfl) | (go_at_call 91; refine Calls.mono (by exact HH.out _ HX.out.1) ?_; rintro e w2 ⟨rfl, hb2⟩; have HP2 : Hid (Par E w2 v kvs st1) := HX.out.1.below hb2; have HM2 : Hid (Moved E.p w v kvs w2 v kvs) := HX.out.2.1.below hb2; have B2 := HX.out.2.2.below hb2; have z0 := B2.cell 0 _ rfl; have z1 := B2.cell 1 _ rfl; have z2 := B2.cell 2 _ rfl; have z3 := B2.cell 3 _ rfl; have z4 := B2.cell 4 _ rfl; have z5 := B2.cell 5 _ rfl; have z6 := B2.cell 6 _ rfl; have z7 := B2.cell 7 _ rfl; have g00 := B2.fz 0; have bl2 := B2.lt) | (go_at_call 44; refine Calls.mono (by exact HN.out) ?_; rintro e w1 ⟨rfl, hk1, hp1⟩; have B := (Box.new w [Value.int .u8 12, .int .i64 0, .string ⟨#[]⟩, .int .u8 0, .int .u8 0, .int .u64 0, .int .i64 0, .slice none 0 0] 46).kept hk1 (by omega); have e1 := B.cell 1 _ rfl; have e2 := B.cell 2 _ rfl; have f1 := B.fz 1; have f2 := B.fz 2; have bl := B.lt; have HX : Hid (Par E ((w1.setCell ⟨w.heap.size, 2, none⟩ (.string nm)).setCell ⟨w.heap.size, 1, none⟩ (natV pl)) v kvs st1 ∧ Moved E.p w v kvs ((w1.setCell ⟨w.heap.size, 2, none⟩ (.string nm)).setCell ⟨w.heap.size, 1, none⟩ (natV pl)) v kvs ∧ Box ((w1.setCell ⟨w.heap.size, 2, none⟩ (.string nm)).setCell ⟨w.heap.size, 1, none⟩ (natV pl)) w.heap.size [Value.int .u8 12, natV pl, .string nm, .int .u8 0, .int .u8 0, .int .u64 0, .int .i64 0, .slice none 0 0]) := ⟨(hp1.setBox (b := w.heap.size) (by omega) HOFF.out 2 (.string nm)).setBox (b := w.heap.size) (by omega) HOFF.out 1 (natV pl), (((HMA.out.kept hk1).setBox (Nat.le_refl _) 2 _).setBox (Nat.le_refl _) 1 _), (B.set (j := 2) (by simp) (.string nm)).set (j := 1) (by simp) (natV pl)⟩; clear hp1) | (go_at_call 93; refine Calls.mono (by exact HPS.out (w3.setCell ⟨w.heap.size, 0, none⟩ (.int .u8 13)) (HP3.out.setBox (by omega) HOFF.out 0 _)) ?_; rintro e w4 ⟨rfl, hk4, hp4⟩; have HP4 : Hid (Par E w4 v kvs (tl st1)) := hp4; have HM4 : Hid (Moved E.p w v kvs w4 v kvs) := (HM3.out.setBox (Nat.le_refl _) 0 _).kept hk4; have HKa : Hid (KB E w v kvs w.heap.size [Value.int .u8 13, natV pl, .string nm, .int .u8 0, .int .u8 0, .int .u64 0, .int .i64 0] none 0 0 [] w4 v kvs) := ⟨HM4.out, HOFF.out, by exact (B3.set (j := 0) (by simp) (.int .u8 13)).kept hk4 (by omega), World.ownsRow_nil _ _ _ _, fun g hg => (by cases hg), Nat.le_refl _, hl⟩; have da7 := HKa.out.box.cell 7 _ rfl; have dal := HKa.out.box.lt; clear hp4))
        go_cut [2] (fun t wr => t = .int .i64 0 ∧ ∃ (a5 : Nat) (st5 : St) (v5 : Value) (k5 : List Value) (ka5 : Option Addr) (kn5 kc5 : Nat), Hid (KB E w v kvs w.heap.size [Value.int .u8 13, natV pl, .string nm, .int .u8 0, .int .u8 0, .int .u64 0, .int .i64 0] ka5 kn5 kc5 ([] ++ [a5]) wr v5 k5 ∧ Par E wr v5 k5 st5 ∧ row F E.s n 1 (tl st1) = .ok a5 st5 ∧ ((take E.s [93] st5).bind fun _ st3 => (take E.s [61] st3).bind fun _ st4 => (row F E.s n 1 st4).bind fun v st5 => (take E.s [59] st5).bind fun _ st6 => putP ⟨13, pl, nm, 0, 0, 0, 0, [a5, v]⟩ st6) = RES))
        case first =>
          go_region_law (first | (refine step_call rfl 158 (.tmp 37) _ rfl (ptr E.p) (by first | (simp [Act.eval]; done) | (simp [Act.eval, Act.put]; done)) (by kernel_rfl) (by exact HX0.out _ _ _ _ (HP4.out.below (Below.refl _ _).drew) hrn) ?_; rintro e w5 h5; rcases hq5 : row F E.s n 1 (tl st1) with ⟨a5, st5⟩ | ⟨c5, q5⟩ | _; rotate_left; (rw [hq5] at h5; obtain ⟨rfl, v5, k5, hm5⟩ := h5; have hre := HR1.out; simp only [hq5] at hre; subst hre; exact ⟨rfl, rfl, v5, k5, (HM4.out.kept (Kept.refl _ _).drew).trans hm5⟩); (exfalso; apply hne; have hre := HR1.out; simp only [hq5] at hre; exact hre.symm); rw [hq5] at h5; obtain ⟨rfl, v5, k5, hp5, hm5⟩ := h5; have HMd5 : Hid (Moved E.p w4 v kvs w5 v5 k5) := ((Kept.refl _ _).drew.moved _ _).trans hm5; have HKa5 : Hid (KB E w v kvs w.heap.size [Value.int .u8 13, natV pl, .string nm, .int .u8 0, .int .u8 0, .int .u64 0, .int .i64 0] none 0 0 [] w5 v5 k5) := HKa.out.moved HP4.out HMd5.out; have x75 := HKa5.out.box.cell 7 _ rfl; have xl5 := HKa5.out.box.lt; have hs5 := HR1.out; simp only [hq5] at hs5; have HRES5 : Hid _ := hs5; clear hs5; have HPa5 : Hid (Par E w5 v5 k5 st5) := hp5; have HQ5 : Hid _ := hq5; clear hp5 hq5 hm5) | (refine step_append_own rfl (.tmp 36) (.tmp 39) 44 rfl E.base 3 i0 (.int .i64 0) 1 8 Tryz.underlying44 hi hz0 hz1 hz2 rfl (by decide) (.slice none 0 0) ([] : List Nat).length (ints []) ?e1 ?e2 ⟨w5.heap.size, 0, none⟩ 1 1 [natV a5] ?e3 rfl ?e4 ?e5 ?e6 ?e7 ?e8 ?_; (case e1 => first | (simp [Act.eval]; done) | (simp [Act.eval, Act.put]; done)); (case e2 => exact HKa5.out.row.alloc _); (case e3 => first | (simp [Act.eval]; done) | (simp [Act.eval, Act.put]; done)); (case e4 => exact cell_one_new w5 _ _); (case e5 => intro u hu; simp at hu; subst hu; rfl); (case e6 => simp [maxLen]); (case e7 => simp); (case e8 => have := HPa5.out.bs; simp; omega); intro x5 y5 ho hg hs; obtain ⟨g5, d5, rfl, hK5, hP5, hgw, hgf⟩ := HKa5.out.app HPa5.out (W := w5.alloc (.cells #[natV a5] 3)) ((Below.refl _ _).alloc (Nat.le_refl _) _) (by simp) ho hg hs (n := 7) rfl; have hbe : y5.heap[w.heap.size]? = w5.heap[w.heap.size]? := hgw.block w.heap.size xl5 (fun hc => (HKa5.out.fr w.heap.size hc.symm).2.1 rfl); have q75 := (World.cell?_of_block (w := w5) (a := ⟨w.heap.size, 7, none⟩) hbe).trans x75; have qf5 := (World.frozen?_of_block (w := w5) (a := ⟨w.heap.size, 7, none⟩) hbe).trans (HKa5.out.box.fz 7); have HKb5 : Hid _ := hK5; have HPb5 : Hid _ := hP5; have HMb5 : Hid _ := hK5.mv; clear hK5 hP5 hgw hgf hbe ho hg hs))
          all_goals (go_wp2_with fail; go_meet; exact ⟨rfl, a5, st5, v5, k5, _, _, _, HKb5.out, HPb5.out, HQ5.out, HRES5.out⟩)
        case rest =>
        obtain ⟨rfl, a5, st5, v5, k5, ka5, kn5, kc5, hcut5⟩ := hcut
        have HKc5 : Hid (KB E w v kvs w.heap.size [Value.int .u8 13, natV pl, .string nm, .int .u8 0, .int .u8 0, .int .u64 0, .int .i64 0] ka5 kn5 kc5 ([] ++ [a5]) wc v5 k5) := hcut5.out.1
        have HPc5 : Hid (Par E wc v5 k5 st5) := hcut5.out.2.1
        have HMc5 : Hid (Moved E.p w v kvs wc v5 k5) := hcut5.out.1.mv
        have HQc5 : Hid (row F E.s n 1 (tl st1) = .ok a5 st5) := hcut5.out.2.2.1
        have HRc5 : Hid (((take E.s [93] st5).bind fun _ st3 => (take E.s [61] st3).bind fun _ st4 => (row F E.s n 1 st4).bind fun v st5 => (take E.s [59] st5).bind fun _ st6 => putP ⟨13, pl, nm, 0, 0, 0, 0, [a5, v]⟩ st6) = RES) := hcut5.out.2.2.2
        have d75 := HKc5.out.box.cell 7 _ rfl
        have dl5 := HKc5.out.box.lt
        go_wp2_with (first | (go_at_call 43; have hh := HP6; clear hh; refine Calls.mono (by exact take_at HP6.out) ?_; rintro e w7 h7; rcases hq7 : take E.s [61] st6 with ⟨a7, st7⟩ | ⟨c7, q7⟩ | _; rotate_left; (rw [hq7] at h7; obtain ⟨rfl, hk7⟩ := h7; have hre := HRES6.out; simp only [hq7] at hre; subst hre; exact ⟨rfl, rfl, v5, k5, HM6.out.kept hk7⟩); (exfalso; apply hne; have hre := HRES6.out; simp only [hq7] at hre; exact hre.symm); rw [hq7] at h7; obtain ⟨rfl, hk7, hp7⟩ := h7; have HM7 : Hid (Moved E.p w v kvs w7 v5 k5) := HM6.out.kept hk7; have hs7 := HRES6.out; simp only [hq7] at hs7; have HRES7 : Hid _ := hs7; clear hs7; have HP7 : Hid (Par E w7 v5 k5 st7) := hp7; have HQ7 : Hid _ := hq7; clear hp7 hq7; have HKe : Hid (KB E w v kvs w.heap.size [Value.int .u8 13, natV pl, .string nm, .int .u8 0, .int .u8 0, .int .u64 0, .int .i64 0] ka5 kn5 kc5 ([] ++ [a5]) w7 v5 k5) := HKx.out.kept2 hpb hk7; have de7 := HKe.out.box.cell 7 _ rfl; have del := HKe.out.box.lt; skip) | (go_at_call 43; refine Calls.mono (by exact take_at HPc5.out) ?_; rintro e w6 h6; rcases hq6 : take E.s [93] st5 with ⟨a6, st6⟩ | ⟨c6, q6⟩ | _; rotate_left; (rw [hq6] at h6; obtain ⟨rfl, hk6⟩ := h6; have hre := HRc5.out; simp only [hq6, Res.bind] at hre; subst hre; exact ⟨rfl, rfl, v5, k5, HMc5.out.kept hk6⟩); (exfalso; apply hne; have hre := HRc5.out; simp only [hq6, Res.bind] at hre; exact hre.symm); rw [hq6] at h6; obtain ⟨rfl, hk6, hp6⟩ := h6; have HM6 : Hid (Moved E.p w v kvs w6 v5 k5) := HMc5.out.kept hk6; have hs6 := HRc5.out; simp only [hq6, Res.bind] at hs6; have HRES6 : Hid _ := hs6; clear hs6; have HP6 : Hid (Par E w6 v5 k5 st6) := hp6; have HQ6 : Hid _ := hq6; clear hp6 hq6; have HKx : Hid (KB E w v kvs w.heap.size [Value.int .u8 13, natV pl, .string nm, .int .u8 0, .int .u8 0, .int .u64 0, .int .i64 0] ka5 kn5 kc5 ([] ++ [a5]) w6 v5 k5) := HKc5.out.kept2 hpb hk6; skip))
        have hrn2 : row F E.s n 1 st7 ≠ .out := fun h0 => hne (by have := HRES7.out; rw [h0] at this; exact this.symm)
        go_cut [2] (fun t wr => t = .int .i64 0 ∧ ∃ (a8 : Nat) (st8 : St) (v8 : Value) (k8 : List Value) (ka8 : Option Addr) (kn8 kc8 : Nat), Hid (KB E w v kvs w.heap.size [Value.int .u8 13, natV pl, .string nm, .int .u8 0, .int .u8 0, .int .u64 0, .int .i64 0] ka8 kn8 kc8 (([] ++ [a5]) ++ [a8]) wr v8 k8 ∧ Par E wr v8 k8 st8 ∧ row F E.s n 1 st7 = .ok a8 st8 ∧ ((take E.s [59] st8).bind fun _ st6 => putP ⟨13, pl, nm, 0, 0, 0, 0, [a5, a8]⟩ st6) = RES))
        case first =>
          go_region_law (first | (refine step_call rfl 158 (.tmp 48) _ rfl (ptr E.p) (by first | (simp [Act.eval]; done) | (simp [Act.eval, Act.put]; done)) (by kernel_rfl) (by exact HX0.out _ _ _ _ (HP7.out.below (Below.refl _ _).drew) hrn2) ?_; rintro e w8 h8; rcases hq8 : row F E.s n 1 st7 with ⟨a8, st8⟩ | ⟨c8, q8⟩ | _; rotate_left; (rw [hq8] at h8; obtain ⟨rfl, v8, k8, hm8⟩ := h8; have hre := HRES7.out; simp only [hq8] at hre; subst hre; exact ⟨rfl, rfl, v8, k8, (HM7.out.kept (Kept.refl _ _).drew).trans hm8⟩); (exfalso; apply hne; have hre := HRES7.out; simp only [hq8] at hre; exact hre.symm); rw [hq8] at h8; obtain ⟨rfl, v8, k8, hp8, hm8⟩ := h8; have HMd8 : Hid (Moved E.p w7 v5 k5 w8 v8 k8) := ((Kept.refl _ _).drew.moved _ _).trans hm8; have HKa8 : Hid (KB E w v kvs w.heap.size [Value.int .u8 13, natV pl, .string nm, .int .u8 0, .int .u8 0, .int .u64 0, .int .i64 0] ka5 kn5 kc5 ([] ++ [a5]) w8 v8 k8) := HKe.out.moved HP7.out HMd8.out; have x78 := HKa8.out.box.cell 7 _ rfl; have xl8 := HKa8.out.box.lt; have hs8 := HRES7.out; simp only [hq8] at hs8; have HRES8 : Hid _ := hs8; clear hs8; have HPa8 : Hid (Par E w8 v8 k8 st8) := hp8; have HQ8 : Hid _ := hq8; clear hp8 hq8 hm8) | (refine step_append_own rfl (.tmp 47) (.tmp 50) 44 rfl E.base 3 i0 (.int .i64 0) 1 8 Tryz.underlying44 hi hz0 hz1 hz2 rfl (by decide) (.slice ka5 kn5 kc5) (([] ++ [a5]) : List Nat).length (ints ([] ++ [a5])) ?e1 ?e2 ⟨w8.heap.size, 0, none⟩ 1 1 [natV a8] ?e3 rfl ?e4 ?e5 ?e6 ?e7 ?e8 ?_; (case e1 => first | (simp [Act.eval]; done) | (simp [Act.eval, Act.put]; done)); (case e2 => exact HKa8.out.row.alloc _); (case e3 => first | (simp [Act.eval]; done) | (simp [Act.eval, Act.put]; done)); (case e4 => exact cell_one_new w8 _ _); (case e5 => intro u hu; simp at hu; subst hu; rfl); (case e6 => simp [maxLen]); (case e7 => simp); (case e8 => have := HPa8.out.bs; simp; omega); intro x8 y8 ho hg hs; obtain ⟨g8, d8, rfl, hK8, hP8, hgw, hgf⟩ := HKa8.out.app HPa8.out (W := w8.alloc (.cells #[natV a8] 3)) ((Below.refl _ _).alloc (Nat.le_refl _) _) (by simp) ho hg hs (n := 7) rfl; have hbe : y8.heap[w.heap.size]? = w8.heap[w.heap.size]? := hgw.block w.heap.size xl8 (fun hc => (HKa8.out.fr w.heap.size hc.symm).2.1 rfl); have q78 := (World.cell?_of_block (w := w8) (a := ⟨w.heap.size, 7, none⟩) hbe).trans x78; have qf8 := (World.frozen?_of_block (w := w8) (a := ⟨w.heap.size, 7, none⟩) hbe).trans (HKa8.out.box.fz 7); have HKb8 : Hid _ := hK8; have HPb8 : Hid _ := hP8; have HMb8 : Hid _ := hK8.mv; clear hK8 hP8 hgw hgf hbe ho hg hs))
          all_goals (go_wp2_with fail; go_meet; exact ⟨rfl, a8, st8, v8, k8, _, _, _, HKb8.out, HPb8.out, HQ8.out, HRES8.out⟩)
        case rest =>
        obtain ⟨rfl, a8, st8, v8, k8, ka8, kn8, kc8, hcut8⟩ := hcut
        have HKc8 : Hid (KB E w v kvs w.heap.size [Value.int .u8 13, natV pl, .string nm, .int .u8 0, .int .u8 0, .int .u64 0, .int .i64 0] ka8 kn8 kc8 (([] ++ [a5]) ++ [a8]) wc v8 k8) := hcut8.out.1
        have HPc8 : Hid (Par E wc v8 k8 st8) := hcut8.out.2.1
        have HMc8 : Hid (Moved E.p w v kvs wc v8 k8) := hcut8.out.1.mv
        have HQc8 : Hid (row F E.s n 1 st7 = .ok a8 st8) := hcut8.out.2.2.1
        have HRc8 : Hid (((take E.s [59] st8).bind fun _ st6 => putP ⟨13, pl, nm, 0, 0, 0, 0, [a5, a8]⟩ st6) = RES) := hcut8.out.2.2.2
        have d78 := HKc8.out.box.cell 7 _ rfl
        have dl8 := HKc8.out.box.lt
        go_wp2_with (go_at_call 43; refine Calls.mono (by exact take_at HPc8.out) ?_; rintro e w9 h9; rcases hq9 : take E.s [59] st8 with ⟨a9, st9⟩ | ⟨c9, q9⟩ | _; rotate_left; (rw [hq9] at h9; obtain ⟨rfl, hk9⟩ := h9; have hre := HRc8.out; simp only [hq9, Res.bind] at hre; subst hre; exact ⟨rfl, rfl, v8, k8, HMc8.out.kept hk9⟩); (exfalso; apply hne; have hre := HRc8.out; simp only [hq9, Res.bind] at hre; exact hre.symm); rw [hq9] at h9; obtain ⟨rfl, hk9, hp9⟩ := h9; have HM9 : Hid (Moved E.p w v kvs w9 v8 k8) := HMc8.out.kept hk9; have hs9 := HRc8.out; simp only [hq9, Res.bind] at hs9; have HRES9 : Hid _ := hs9; clear hs9; have HP9 : Hid (Par E w9 v8 k8 st9) := hp9; have HQ9 : Hid _ := hq9; clear hp9 hq9; have HKf : Hid (KB E w v kvs w.heap.size [Value.int .u8 13, natV pl, .string nm, .int .u8 0, .int .u8 0, .int .u64 0, .int .i64 0] ka8 kn8 kc8 (([] ++ [a5]) ++ [a8]) w9 v8 k8) := HKc8.out.kept2 hpb hk9; have zz0 := HKf.out.box.cell 0 _ rfl; have zz1 := HKf.out.box.cell 1 _ rfl; have zz2 := HKf.out.box.cell 2 _ rfl; have zz3 := HKf.out.box.cell 3 _ rfl; have zz4 := HKf.out.box.cell 4 _ rfl; have zz5 := HKf.out.box.cell 5 _ rfl; have zz6 := HKf.out.box.cell 6 _ rfl; have zz7 := HKf.out.box.cell 7 _ rfl; skip)
        have hput : Calls Tryz.prog 100 #[ptr E.p, .agg #[Value.int .u8 13, natV pl, .string nm, .int .u8 0, .int .u8 0, .int .u64 0, .int .i64 0, .slice ka8 kn8 kc8]] w9 (PostN E w v kvs (putP ⟨13, pl, nm, 0, 0, 0, 0, [a5, a8]⟩ st9)) :=
          put_node HP9.out HM9.out ⟨13, pl, nm, 0, 0, 0, 0, [a5, a8]⟩ ka8 kn8 kc8 HKf.out.row (fun g hg => ⟨(HKf.out.fr g hg).1, (HKf.out.fr g hg).2.2⟩) (by have := hwt.sum; have := ((went_expr F E.s n).1 _ _ _ _ HQc5.out).sum; have := (went_take (by simp) HQ6.out).sum; have := (went_take (by simp) HQ7.out).sum; have := ((went_expr F E.s n).1 _ _ _ _ HQc8.out).sum; have := (went_take (by simp) HQ9.out).sum; omega)
        refine Calls.mono (by exact hput) ?_
        rintro e w99 h99
        have hre := HRES9.out
        subst hre
        unfold putP PostN at h99
        obtain ⟨rfl, h99⟩ := h99
        go_wp2
        go_ret
        exact ⟨rfl, h99⟩
    · rw [c1] at HH hR
      simp only [if_true] at hR
      have HR1 : Hid _ := hR
      clear hR
      have hcn : call F E.s n pl nm st1 ≠ .out := fun h0 => hne (by have := HR1.out; rw [h0] at this; exact this.symm)
      go_enter Tryz.func143, Tryz.ntmps143
      go_wp2_with (first | (go_at_call 44; refine Calls.mono (by exact HN.out) ?_; rintro e w1 ⟨rfl, hk1, hp1⟩; have B := (Box.new w [Value.int .u8 12, .int .i64 0, .string ⟨#[]⟩, .int .u8 0, .int .u8 0, .int .u64 0, .int .i64 0, .slice none 0 0] 46).kept hk1 (by omega); have e1 := B.cell 1 _ rfl; have e2 := B.cell 2 _ rfl; have f1 := B.fz 1; have f2 := B.fz 2; have bl := B.lt; have HX : Hid (Par E ((w1.setCell ⟨w.heap.size, 2, none⟩ (.string nm)).setCell ⟨w.heap.size, 1, none⟩ (natV pl)) v kvs st1 ∧ Moved E.p w v kvs ((w1.setCell ⟨w.heap.size, 2, none⟩ (.string nm)).setCell ⟨w.heap.size, 1, none⟩ (natV pl)) v kvs ∧ Box ((w1.setCell ⟨w.heap.size, 2, none⟩ (.string nm)).setCell ⟨w.heap.size, 1, none⟩ (natV pl)) w.heap.size [Value.int .u8 12, natV pl, .string nm, .int .u8 0, .int .u8 0, .int .u64 0, .int .i64 0, .slice none 0 0]) := ⟨(hp1.setBox (b := w.heap.size) (by omega) HOFF.out 2 (.string nm)).setBox (b := w.heap.size) (by omega) HOFF.out 1 (natV pl), (((HMA.out.kept hk1).setBox (Nat.le_refl _) 2 _).setBox (Nat.le_refl _) 1 _), (B.set (j := 2) (by simp) (.string nm)).set (j := 1) (by simp) (natV pl)⟩; clear hp1) | (go_at_call 91; refine Calls.mono (by exact HH.out _ HX.out.1) ?_; rintro e w2 ⟨rfl, hb2⟩; have HP2 : Hid (Par E w2 v kvs st1) := HX.out.1.below hb2; have HM2 : Hid (Moved E.p w v kvs w2 v kvs) := HX.out.2.1.below hb2; have B2 := HX.out.2.2.below hb2; have z0 := B2.cell 0 _ rfl; have z1 := B2.cell 1 _ rfl; have z2 := B2.cell 2 _ rfl; have z3 := B2.cell 3 _ rfl; have z4 := B2.cell 4 _ rfl; have z5 := B2.cell 5 _ rfl; have z6 := B2.cell 6 _ rfl; have z7 := B2.cell 7 _ rfl; have g00 := B2.fz 0; have bl2 := B2.lt) | (go_at_call 160; refine Calls.mono (by exact HCL.out _ HP2.out hcn) ?_; rintro e w3 h3; rcases hq3 : call F E.s n pl nm st1 with ⟨a3, st3⟩ | ⟨c3, q3⟩ | _; rotate_left; (rw [hq3] at h3; obtain ⟨rfl, v3, k3, hm3⟩ := h3; have hre := HR1.out; simp only [hq3] at hre; subst hre; exact ⟨rfl, rfl, v3, k3, HM2.out.trans hm3⟩); (exfalso; apply hne; have hre := HR1.out; simp only [hq3] at hre; exact hre.symm); rw [hq3] at h3; obtain ⟨rfl, v3, k3, hp3, hm3⟩ := h3; have HM3 : Hid (Moved E.p w v kvs w3 v3 k3) := HM2.out.trans hm3; have hs3 := HR1.out; simp only [hq3] at hs3; have HRES3 : Hid _ := hs3; clear hs3; have HP3 : Hid (Par E w3 v3 k3 st3) := hp3; have HQ3 : Hid _ := hq3; clear hp3 hq3; have BB3 := B2.moved hm3 (by omega) HOFF.out.1; have y1 := BB3.cell 1 _ rfl; have O3 := HOFF.out.moved B2.lt hm3; skip) | (go_at_call 43; refine Calls.mono (by exact take_at HP3.out) ?_; rintro e w4 h4; rcases hq4 : take E.s [59] st3 with ⟨a4, st4⟩ | ⟨c4, q4⟩ | _; rotate_left; (rw [hq4] at h4; obtain ⟨rfl, hk4⟩ := h4; have hre := HRES3.out; simp only [hq4] at hre; subst hre; exact ⟨rfl, rfl, v3, k3, HM3.out.kept hk4⟩); (exfalso; apply hne; have hre := HRES3.out; simp only [hq4] at hre; exact hre.symm); rw [hq4] at h4; obtain ⟨rfl, hk4, hp4⟩ := h4; have HM4 : Hid (Moved E.p w v kvs w4 v3 k3) := HM3.out.kept hk4; have hs4 := HRES3.out; simp only [hq4] at hs4; have HRES4 : Hid _ := hs4; clear hs4; have HP4 : Hid (Par E w4 v3 k3 st4) := hp4; have HQ4 : Hid _ := hq4; clear hp4 hq4; have BB4 := BB3.kept hk4 (by omega); have y1' := BB4.cell 1 _ rfl; have yl4 := BB4.lt; skip))
      have hp5 : Below w4.heap.size w4 (w4.alloc (.cells (ints [a3]).toArray 3)) := (Below.refl _ _).alloc (Nat.le_refl _) _
      have hput : Calls Tryz.prog 100 #[ptr E.p, .agg #[.int .u8 20, natV pl, .string ⟨#[]⟩, .int .u8 0, .int .u8 0, .int .u64 0, .int .i64 0, .slice (some ⟨w4.heap.size, 0, none⟩) 1 1]] (w4.alloc (.cells (ints [a3]).toArray 3)) (PostN E w v kvs (putP ⟨20, pl, ⟨#[]⟩, 0, 0, 0, 0, [a3]⟩ st4)) :=
        put_node (HP4.out.below hp5) (HM4.out.below hp5) ⟨20, pl, ⟨#[]⟩, 0, 0, 0, 0, [a3]⟩ (some ⟨w4.heap.size, 0, none⟩) 1 1 (kid_new HP4.out.bs [a3] (by simp [maxLen])) (fun g' hg' => by
          simp [Value.ownBlock] at hg'
          subst hg'
          exact ⟨HM4.out.size, fun x hx hc => by have := (HP4.out.nds.blocks x hx _ hc).2; omega⟩) (by have := ((went_expr F E.s n).2.2.2.2.2.2.1 _ _ _ _ _ HQ3.out).sum; have := (went_take (by simp) HQ4.out).sum; omega)
      refine Calls.mono (by exact hput) ?_
      rintro e w99 h99
      have hre := HRES4.out
      subst hre
      unfold putP PostN at h99
      obtain ⟨rfl, h99⟩ := h99
      go_wp2
      go_ret
      exact ⟨rfl, h99⟩
end Go.Proofs.YtbejgachdhfakaaGreatDoor
/- Variables. -/
namespace Go.Proofs.YtbejgachdhfakaaGreatDoor
open Go.RowKit

/-- The contract of an array's size. -/
def DoesSize : Prop := ∀ (E : Env) (w : World) (v : Value) (kvs : List Value) (st : St), Par E w v kvs st → Calls Tryz.prog 164 #[ptr E.p] w (PostK natV E w v kvs (sizeP E.s st))
def arrP (s : ByteArray) (pl : Nat) (nm : ByteArray) (st1 : St) : Res Nat := (take s [91] st1).bind fun _ st2 => (sizeP s st2).bind fun z st3 => (take s [93] st3).bind fun _ st4 => (typeP s st4).bind fun t st5 => (take s [59] st5).bind fun _ st6 => putP ⟨11, pl, nm, t, 0, 0, z, []⟩ st6
set_option maxRecDepth 100000 in
set_option maxHeartbeats 2000000 in
theorem array_any (hZ : DoesSize) {E : Env} {w : World} {v : Value} {kvs : List Value} {st : St} (h : Par E w v kvs st) (pl : Nat) (nm : ByteArray) (hne : arrP E.s pl nm st ≠ .out) :
    Calls Tryz.prog 157 #[ptr E.p, .agg #[.int .u8 10, natV pl, .string nm, .int .u8 0, .int .u8 0, .int .u64 0, .int .i64 0, .slice none 0 0]] w (PostN E w v kvs (arrP E.s pl nm st)) := by
  have hsum := h.sum
  have hl := h.lt
  generalize hR : arrP E.s pl nm st = RES at hne ⊢
  unfold arrP at hR
  have HR0 : Hid _ := hR
  have hwA : Below w.heap.size w (w.alloc (.cells #[Value.int .u8 11, natV pl, .string nm, .int .u8 0, .int .u8 0, .int .u64 0, .int .i64 0, .slice none 0 0] 46)) := (Below.refl _ _).alloc (Nat.le_refl _) _
  have BA := Box.new w [Value.int .u8 11, natV pl, .string nm, .int .u8 0, .int .u8 0, .int .u64 0, .int .i64 0, .slice none 0 0] 46
  have HPA : Hid (Par E (w.alloc (.cells #[Value.int .u8 11, natV pl, .string nm, .int .u8 0, .int .u8 0, .int .u64 0, .int .i64 0, .slice none 0 0] 46)) v kvs st) := h.below hwA
  have HMA : Hid (Moved E.p w v kvs (w.alloc (.cells #[Value.int .u8 11, natV pl, .string nm, .int .u8 0, .int .u8 0, .int .u64 0, .int .i64 0, .slice none 0 0] 46)) v kvs) := (Kept.of_below hwA).moved v kvs
  have HOFF : Hid (Off w.heap.size v kvs) := h.off (Nat.le_refl _)
  have HSZ : Hid (∀ W st1, Par E W v kvs st1 → Calls Tryz.prog 164 #[ptr E.p] W (PostK natV E W v kvs (sizeP E.s st1))) := fun W st1 hp => hZ E W v kvs st1 hp
  have HTY : Hid (∀ W st1, Par E W v kvs st1 → Calls Tryz.prog 47 #[ptr E.p] W (PostK typV E W v kvs (typeP E.s st1))) := fun W st1 hp => type_par hp
  clear hR h hZ
  go_enter Tryz.func157, Tryz.ntmps157
  go_wp2_with (first | (go_at_call 43; have hh := HPs4; clear hh; refine Calls.mono (by exact take_at HPs4.out) ?_; rintro e w5 h5; rcases hq5 : take E.s [59] st4 with ⟨a5, st5⟩ | ⟨c5, q5⟩ | _; rotate_left; (rw [hq5] at h5; obtain ⟨rfl, hk5⟩ := h5; have hre := HRES4.out; simp only [hq5] at hre; subst hre; exact ⟨rfl, rfl, v, kvs, HMs4.out.kept hk5⟩); (exfalso; apply hne; have hre := HRES4.out; simp only [hq5] at hre; exact hre.symm); rw [hq5] at h5; obtain ⟨rfl, hk5, hp5⟩ := h5; have HM5 : Hid (Moved E.p w v kvs w5 v kvs) := HMs4.out.kept hk5; have hs5 := HRES4.out; simp only [hq5] at hs5; have HRES5 : Hid _ := hs5; clear hs5; have HP5 : Hid (Par E w5 v kvs st5) := hp5; have HQ5 : Hid _ := hq5; clear hp5 hq5; have B5 := B4.kept hk5 (by omega); have zz0 := B5.cell 0 _ rfl; have zz1 := B5.cell 1 _ rfl; have zz2 := B5.cell 2 _ rfl; have zz3 := B5.cell 3 _ rfl; have zz4 := B5.cell 4 _ rfl; have zz5 := B5.cell 5 _ rfl; have zz6 := B5.cell 6 _ rfl; have zz7 := B5.cell 7 _ rfl; skip) | (go_at_call 47; refine Calls.mono (by exact HTY.out _ _ HP3.out) ?_; rintro e w4 h4; rcases hq4 : typeP E.s st3 with ⟨a4, st4⟩ | ⟨c4, q4⟩ | _; rotate_left; (rw [hq4] at h4; obtain ⟨rfl, hk4⟩ := h4; have hre := HRES3.out; simp only [hq4] at hre; subst hre; exact ⟨rfl, rfl, v, kvs, HM3.out.kept hk4⟩); (exfalso; apply hne; have hre := HRES3.out; simp only [hq4] at hre; exact hre.symm); rw [hq4] at h4; obtain ⟨rfl, hk4, hp4⟩ := h4; have HM4 : Hid (Moved E.p w v kvs w4 v kvs) := HM3.out.kept hk4; have hs4 := HRES3.out; simp only [hq4] at hs4; have HRES4 : Hid _ := hs4; clear hs4; have HP4 : Hid (Par E w4 v kvs st4) := hp4; have HQ4 : Hid _ := hq4; clear hp4 hq4; have B4a := B3.kept hk4 (by omega); have s3 := B4a.cell 3 _ rfl; have f3 := B4a.fz 3; have bl4 := B4a.lt; have HPs4 : Hid (Par E (w4.setCell ⟨w.heap.size, 3, none⟩ (typV a4)) v kvs st4) := HP4.out.setBox (by omega) HOFF.out 3 _; have HMs4 : Hid (Moved E.p w v kvs (w4.setCell ⟨w.heap.size, 3, none⟩ (typV a4)) v kvs) := HM4.out.setBox (Nat.le_refl _) 3 _; have B4 : Box (w4.setCell ⟨w.heap.size, 3, none⟩ (typV a4)) w.heap.size [Value.int .u8 11, natV pl, .string nm, typV a4, .int .u8 0, .int .u64 0, natV a2, .slice none 0 0] := B4a.set (j := 3) (by simp) _; skip) | (go_at_call 43; have hh := HPs2; clear hh; refine Calls.mono (by exact take_at HPs2.out) ?_; rintro e w3 h3; rcases hq3 : take E.s [93] st2 with ⟨a3, st3⟩ | ⟨c3, q3⟩ | _; rotate_left; (rw [hq3] at h3; obtain ⟨rfl, hk3⟩ := h3; have hre := HRES2.out; simp only [hq3] at hre; subst hre; exact ⟨rfl, rfl, v, kvs, HMs2.out.kept hk3⟩); (exfalso; apply hne; have hre := HRES2.out; simp only [hq3] at hre; exact hre.symm); rw [hq3] at h3; obtain ⟨rfl, hk3, hp3⟩ := h3; have HM3 : Hid (Moved E.p w v kvs w3 v kvs) := HMs2.out.kept hk3; have hs3 := HRES2.out; simp only [hq3] at hs3; have HRES3 : Hid _ := hs3; clear hs3; have HP3 : Hid (Par E w3 v kvs st3) := hp3; have HQ3 : Hid _ := hq3; clear hp3 hq3; have B3 := B2.kept hk3 (by omega); skip) | (go_at_call 164; refine Calls.mono (by exact HSZ.out _ _ HP1.out) ?_; rintro e w2 h2; rcases hq2 : sizeP E.s st1 with ⟨a2, st2⟩ | ⟨c2, q2⟩ | _; rotate_left; (rw [hq2] at h2; obtain ⟨rfl, hk2⟩ := h2; have hre := HRES1.out; simp only [hq2] at hre; subst hre; exact ⟨rfl, rfl, v, kvs, HM1.out.kept hk2⟩); (exfalso; apply hne; have hre := HRES1.out; simp only [hq2] at hre; exact hre.symm); rw [hq2] at h2; obtain ⟨rfl, hk2, hp2⟩ := h2; have HM2 : Hid (Moved E.p w v kvs w2 v kvs) := HM1.out.kept hk2; have hs2 := HRES1.out; simp only [hq2] at hs2; have HRES2 : Hid _ := hs2; clear hs2; have HP2 : Hid (Par E w2 v kvs st2) := hp2; have HQ2 : Hid _ := hq2; clear hp2 hq2; have B2a := B1.kept hk2 (by omega); have s6a := B2a.cell 6 _ rfl; have f6a := B2a.fz 6; have bl2 := B2a.lt; have HPs2 : Hid (Par E (w2.setCell ⟨w.heap.size, 6, none⟩ (natV a2)) v kvs st2) := HP2.out.setBox (by omega) HOFF.out 6 _; have HMs2 : Hid (Moved E.p w v kvs (w2.setCell ⟨w.heap.size, 6, none⟩ (natV a2)) v kvs) := HM2.out.setBox (Nat.le_refl _) 6 _; have B2 : Box (w2.setCell ⟨w.heap.size, 6, none⟩ (natV a2)) w.heap.size [Value.int .u8 11, natV pl, .string nm, .int .u8 0, .int .u8 0, .int .u64 0, natV a2, .slice none 0 0] := B2a.set (j := 6) (by simp) _; skip) | (go_at_call 43; refine Calls.mono (by exact take_at HPA.out) ?_; rintro e w1 h1; rcases hq1 : take E.s [91] st with ⟨a1, st1⟩ | ⟨c1, q1⟩ | _; rotate_left; (rw [hq1] at h1; obtain ⟨rfl, hk1⟩ := h1; have hre := HR0.out; simp only [hq1, Res.bind] at hre; subst hre; exact ⟨rfl, rfl, v, kvs, HMA.out.kept hk1⟩); (exfalso; apply hne; have hre := HR0.out; simp only [hq1, Res.bind] at hre; exact hre.symm); rw [hq1] at h1; obtain ⟨rfl, hk1, hp1⟩ := h1; have HM1 : Hid (Moved E.p w v kvs w1 v kvs) := HMA.out.kept hk1; have hs1 := HR0.out; simp only [hq1, Res.bind] at hs1; have HRES1 : Hid _ := hs1; clear hs1; have HP1 : Hid (Par E w1 v kvs st1) := hp1; have HQ1 : Hid _ := hq1; clear hp1 hq1; have B1 := BA.kept hk1 (by omega); have s6 := B1.cell 6 _ rfl; have f6 := B1.fz 6; have bl1 := B1.lt; skip))
  have hput : Calls Tryz.prog 100 #[ptr E.p, .agg #[Value.int .u8 11, natV pl, .string nm, typV a4, .int .u8 0, .int .u64 0, natV a2, .slice none 0 0]] w5 (PostN E w v kvs (putP ⟨11, pl, nm, a4, 0, 0, a2, []⟩ st5)) :=
    put_node HP5.out HM5.out ⟨11, pl, nm, a4, 0, 0, a2, []⟩ none 0 0 (World.ownsRow_nil _ _ _ _) (fun g hg => (by cases hg)) (by have := (went_take (by simp) HQ1.out).sum; have := (went_size HQ2.out).sum; have := (went_take (by simp) HQ3.out).sum; have := (went_type HQ4.out).sum; have := (went_take (by simp) HQ5.out).sum; omega)
  refine Calls.mono (by exact hput) ?_
  rintro e w99 h99
  have hre := HRES5.out
  subst hre
  unfold putP PostN at h99
  obtain ⟨rfl, h99⟩ := h99
  go_wp2
  go_ret
  exact ⟨rfl, h99⟩
def DoesVar (F : FW) (n : Nat) : Prop := ∀ (E : Env) (w : World) (v : Value) (kvs : List Value) (st : St), Good E.s (tl st).toks → st.toks ≠ [] → Par E w v kvs st → varP F E.s n st ≠ .out → Calls Tryz.prog 138 #[ptr E.p] w (PostN E w v kvs (varP F E.s n st))
set_option maxRecDepth 100000 in
set_option maxHeartbeats 4000000 in
theorem var_any {F : FW} {n : Nat} (hX : DoesExpr F n) (hZ : DoesSize) : DoesVar F (n + 1) := by
  intro E w v kvs st hgd hn h hne
  have hsum := h.sum
  have hl := h.lt
  have hpb := h.pb
  have hPS := pass_par h hgd
  have hwt := went_tl hn
  generalize hR : varP F E.s (n + 1) st = RES at hne ⊢
  simp only [varP] at hR
  have HN : Hid (∀ W, Par E W v kvs (tl st) → Calls Tryz.prog 44 #[ptr E.p] W (PostK nameV E W v kvs (nameP E.s (tl st)))) := fun W hp => name_par hp
  have HX : Hid (∀ W st1, Par E W v kvs st1 → row F E.s n 1 st1 ≠ .out → Calls Tryz.prog 158 #[ptr E.p] W (PostN E W v kvs (row F E.s n 1 st1))) := fun W st1 hp h1 => hX E W v kvs st1 hp h1
  have HTY : Hid (∀ W st1, Par E W v kvs st1 → Calls Tryz.prog 47 #[ptr E.p] W (PostK typV E W v kvs (typeP E.s st1))) := fun W st1 hp => type_par hp
  generalize (hd st).2.1 = pl at hPS hR
  clear h hX hgd hn
  unfold PostK at HN
  cases hnm : nameP E.s (tl st) with
  | out => rw [hnm] at hR; exact absurd hR.symm hne
  | err c q =>
    rw [hnm] at HN hR
    dsimp only [Res.bind] at HN hR
    subst hR
    clear hnm
    go_enter Tryz.func138, Tryz.ntmps138
    go_wp2_with (first | (go_at_call 93; refine hPS.mono ?_; rintro e w1 ⟨rfl, hk1, hp1⟩; have hwA : Below w1.heap.size w1 (w1.alloc (.cells #[Value.int .u8 10, natV pl, .string ⟨#[]⟩, .int .u8 0, .int .u8 0, .int .u64 0, .int .i64 0, .slice none 0 0] 46)) := (Below.refl _ _).alloc (Nat.le_refl _) _; have BA := Box.new w1 [Value.int .u8 10, natV pl, .string ⟨#[]⟩, .int .u8 0, .int .u8 0, .int .u64 0, .int .i64 0, .slice none 0 0] 46; have HM1 : Hid (Moved E.p w v kvs w1 v kvs) := hk1.moved v kvs; have HP1 : Hid (Par E w1 v kvs (tl st)) := hp1; have HPA : Hid (Par E (w1.alloc (.cells #[Value.int .u8 10, natV pl, .string ⟨#[]⟩, .int .u8 0, .int .u8 0, .int .u64 0, .int .i64 0, .slice none 0 0] 46)) v kvs (tl st)) := hp1.below hwA; have HMA : Hid (Moved E.p w v kvs (w1.alloc (.cells #[Value.int .u8 10, natV pl, .string ⟨#[]⟩, .int .u8 0, .int .u8 0, .int .u64 0, .int .i64 0, .slice none 0 0] 46)) v kvs) := HM1.out.below hwA; have HOFF : Hid (Off w1.heap.size v kvs) := hp1.off (Nat.le_refl _); have hl1 := hp1.lt; have HSZ1 : Hid (w.heap.size ≤ w1.heap.size) := hk1.size; clear hp1) | (go_at_call 44; refine Calls.mono (by exact HN.out _ HPA.out) ?_; rintro e w2 ⟨rfl, hk2⟩; unfold gaveUp))
    exact ⟨rfl, rfl, v, kvs, HMA.out.kept hk2⟩
  | ok a st2 =>
    obtain ⟨nm, np⟩ := a
    rw [hnm] at HN hR
    simp only [Res.bind] at hR
    dsimp only at HN
    have HH : Hid (∀ W, Par E W v kvs st2 → Calls Tryz.prog 91 #[ptr E.p, .string ⟨#[91]⟩] W fun e w' => e = .returned (.bool (has E.s [91] st2)) ∧ Below W.heap.size W w') := fun W hp => has_at hp [91]
    cases c1 : has E.s [91] st2
    · rw [c1] at HH hR
      simp only [Bool.false_eq_true, if_false] at hR
      have HR2 : Hid _ := hR
      clear hR
      go_enter Tryz.func138, Tryz.ntmps138
      go_wp2_with (first | (go_at_call 43; have hh := HPs6; clear hh; refine Calls.mono (by exact take_at HPs6.out) ?_; rintro e w7 h7; rcases hq7 : take E.s [59] st6 with ⟨a7, st7⟩ | ⟨c7, q7⟩ | _; rotate_left; (rw [hq7] at h7; obtain ⟨rfl, hk7⟩ := h7; have hre := HRES6.out; simp only [hq7] at hre; subst hre; exact ⟨rfl, rfl, v6, k6, HMs6.out.kept hk7⟩); (exfalso; apply hne; have hre := HRES6.out; simp only [hq7] at hre; exact hre.symm); rw [hq7] at h7; obtain ⟨rfl, hk7, hp7⟩ := h7; have HM7 : Hid (Moved E.p w v kvs w7 v6 k6) := HMs6.out.kept hk7; have hs7 := HRES6.out; simp only [hq7] at hs7; have HRES7 : Hid _ := hs7; clear hs7; have HP7 : Hid (Par E w7 v6 k6 st7) := hp7; have HQ7 : Hid _ := hq7; clear hp7 hq7; have B7 := B6.kept hk7 (by omega); have yy0 := B7.cell 0 _ rfl; have yy1 := B7.cell 1 _ rfl; have yy2 := B7.cell 2 _ rfl; have yy3 := B7.cell 3 _ rfl; have yy4 := B7.cell 4 _ rfl; have yy5 := B7.cell 5 _ rfl; have yy6 := B7.cell 6 _ rfl; have yy7 := B7.cell 7 _ rfl; have HR7 : Hid _ := owns_kept HR6.out hk7 hpb; skip) | (go_at_call 158; refine Calls.mono (by exact HX.out _ _ HP5.out (fun h0 => hne (by have := HRES5.out; rw [h0] at this; exact this.symm))) ?_; rintro e w6 h6; rcases hq6 : row F E.s n 1 st5 with ⟨a6, st6⟩ | ⟨c6, q6⟩ | _; rotate_left; (rw [hq6] at h6; obtain ⟨rfl, v6, k6, hm6⟩ := h6; have hre := HRES5.out; simp only [hq6] at hre; subst hre; exact ⟨rfl, rfl, v6, k6, HM5.out.trans hm6⟩); (exfalso; apply hne; have hre := HRES5.out; simp only [hq6] at hre; exact hre.symm); rw [hq6] at h6; obtain ⟨rfl, v6, k6, hp6, hm6⟩ := h6; have HM6 : Hid (Moved E.p w v kvs w6 v6 k6) := HM5.out.trans hm6; have hs6 := HRES5.out; simp only [hq6] at hs6; have HRES6 : Hid _ := hs6; clear hs6; have HP6 : Hid (Par E w6 v6 k6 st6) := hp6; have HQ6 : Hid _ := hq6; clear hp6 hq6; have B6a := B5.moved hm6 (by omega) HOFF.out.1; have O6 := HOFF.out.moved B5.lt hm6; have s7 := B6a.cell 7 _ rfl; have f7 := B6a.fz 7; have bl6 := B6a.lt; have hz6 : (w6.setCell ⟨w1.heap.size, 7, none⟩ (.slice (some ⟨w6.heap.size, 0, none⟩) 1 1)).heap.size = w6.heap.size := (by simp [World.setCell]); have hb6 : Below (w6.setCell ⟨w1.heap.size, 7, none⟩ (.slice (some ⟨w6.heap.size, 0, none⟩) 1 1)).heap.size (w6.setCell ⟨w1.heap.size, 7, none⟩ (.slice (some ⟨w6.heap.size, 0, none⟩) 1 1)) ((w6.setCell ⟨w1.heap.size, 7, none⟩ (.slice (some ⟨w6.heap.size, 0, none⟩) 1 1)).alloc (.cells (ints [a6]).toArray 3)) := (Below.refl _ _).alloc (Nat.le_refl _) _; have HPs6 : Hid (Par E ((w6.setCell ⟨w1.heap.size, 7, none⟩ (.slice (some ⟨w6.heap.size, 0, none⟩) 1 1)).alloc (.cells (ints [a6]).toArray 3)) v6 k6 st6) := (HP6.out.setBox (by omega) O6 7 _).below hb6; have HMs6 : Hid (Moved E.p w v kvs ((w6.setCell ⟨w1.heap.size, 7, none⟩ (.slice (some ⟨w6.heap.size, 0, none⟩) 1 1)).alloc (.cells (ints [a6]).toArray 3)) v6 k6) := (HM6.out.setBox HSZ1.out 7 _).below hb6; have B6 : Box ((w6.setCell ⟨w1.heap.size, 7, none⟩ (.slice (some ⟨w6.heap.size, 0, none⟩) 1 1)).alloc (.cells (ints [a6]).toArray 3)) w1.heap.size [Value.int .u8 10, natV pl, (.string nm), (typV a4), .int .u8 0, .int .u64 0, .int .i64 0, .slice (some ⟨w6.heap.size, 0, none⟩) 1 1] := (B6a.set (j := 7) (by simp) _).below hb6; have HR6 : Hid (((w6.setCell ⟨w1.heap.size, 7, none⟩ (.slice (some ⟨w6.heap.size, 0, none⟩) 1 1)).alloc (.cells (ints [a6]).toArray 3)).ownsRow E.base 3 1 (.slice (some ⟨w6.heap.size, 0, none⟩) 1 1) 1 (ints [a6])) := (by have := kid_new (w := w6.setCell ⟨w1.heap.size, 7, none⟩ (.slice (some ⟨w6.heap.size, 0, none⟩) 1 1)) (base := E.base) (by rw [hz6]; exact HP6.out.bs) [a6] (by simp [maxLen]); rwa [hz6] at this); have HB6 : Hid (∀ x ∈ k6, x.ownBlock ≠ some w6.heap.size) := (fun x hx hc => by have := (HP6.out.nds.blocks x hx _ hc).2; omega); have HZ6 : Hid (w.heap.size ≤ w6.heap.size) := HM6.out.size; skip) | (go_at_call 43; refine Calls.mono (by exact take_at HPs4.out) ?_; rintro e w5 h5; rcases hq5 : take E.s [61] st4 with ⟨a5, st5⟩ | ⟨c5, q5⟩ | _; rotate_left; (rw [hq5] at h5; obtain ⟨rfl, hk5⟩ := h5; have hre := HRES4.out; simp only [hq5] at hre; subst hre; exact ⟨rfl, rfl, v, kvs, HMs4.out.kept hk5⟩); (exfalso; apply hne; have hre := HRES4.out; simp only [hq5] at hre; exact hre.symm); rw [hq5] at h5; obtain ⟨rfl, hk5, hp5⟩ := h5; have HM5 : Hid (Moved E.p w v kvs w5 v kvs) := HMs4.out.kept hk5; have hs5 := HRES4.out; simp only [hq5] at hs5; have HRES5 : Hid _ := hs5; clear hs5; have HP5 : Hid (Par E w5 v kvs st5) := hp5; have HQ5 : Hid _ := hq5; clear hp5 hq5; have B5 := B4.kept hk5 (by omega); have bl5 := B5.lt; skip) | (go_at_call 47; refine Calls.mono (by exact HTY.out _ _ HP3.out) ?_; rintro e w4 h4; rcases hq4 : typeP E.s st2 with ⟨a4, st4⟩ | ⟨c4, q4⟩ | _; rotate_left; (rw [hq4] at h4; obtain ⟨rfl, hk4⟩ := h4; have hre := HR2.out; simp only [hq4] at hre; subst hre; exact ⟨rfl, rfl, v, kvs, HM3.out.kept hk4⟩); (exfalso; apply hne; have hre := HR2.out; simp only [hq4] at hre; exact hre.symm); rw [hq4] at h4; obtain ⟨rfl, hk4, hp4⟩ := h4; have HM4 : Hid (Moved E.p w v kvs w4 v kvs) := HM3.out.kept hk4; have hs4 := HR2.out; simp only [hq4] at hs4; have HRES4 : Hid _ := hs4; clear hs4; have HP4 : Hid (Par E w4 v kvs st4) := hp4; have HQ4 : Hid _ := hq4; clear hp4 hq4; have B4a := B3.kept hk4 (by omega); have s3 := B4a.cell 3 _ rfl; have f3 := B4a.fz 3; have bl4 := B4a.lt; have HPs4 : Hid (Par E (w4.setCell ⟨w1.heap.size, 3, none⟩ (typV a4)) v kvs st4) := HP4.out.setBox (by omega) HOFF.out 3 _; have HMs4 : Hid (Moved E.p w v kvs (w4.setCell ⟨w1.heap.size, 3, none⟩ (typV a4)) v kvs) := HM4.out.setBox HSZ1.out 3 _; have B4 : Box (w4.setCell ⟨w1.heap.size, 3, none⟩ (typV a4)) w1.heap.size [Value.int .u8 10, natV pl, (.string nm), (typV a4), .int .u8 0, .int .u64 0, .int .i64 0, (Value.slice none 0 0)] := B4a.set (j := 3) (by simp) _; skip) | (go_at_call 91; refine Calls.mono (by exact HH.out _ HP2.out) ?_; rintro e w3 ⟨rfl, hb3⟩; have HP3 : Hid (Par E w3 v kvs st2) := HP2.out.below hb3; have HM3 : Hid (Moved E.p w v kvs w3 v kvs) := HM2.out.below hb3; have B3 := B2.below hb3; have zz0 := B3.cell 0 _ rfl; have zz1 := B3.cell 1 _ rfl; have zz2 := B3.cell 2 _ rfl; have zz3 := B3.cell 3 _ rfl; have zz4 := B3.cell 4 _ rfl; have zz5 := B3.cell 5 _ rfl; have zz6 := B3.cell 6 _ rfl; have zz7 := B3.cell 7 _ rfl; have bl3 := B3.lt) | (go_at_call 44; refine Calls.mono (by exact HN.out _ HPA.out) ?_; rintro e w2 ⟨rfl, hk2, hp2⟩; have B2a := BA.kept hk2 (by omega); have s2 := B2a.cell 2 _ rfl; have f2 := B2a.fz 2; have bl2 := B2a.lt; have HP2 : Hid (Par E (w2.setCell ⟨w1.heap.size, 2, none⟩ (.string nm)) v kvs st2) := hp2.setBox (by omega) HOFF.out 2 _; have HM2 : Hid (Moved E.p w v kvs (w2.setCell ⟨w1.heap.size, 2, none⟩ (.string nm)) v kvs) := (HMA.out.kept hk2).setBox HSZ1.out 2 _; have B2 : Box (w2.setCell ⟨w1.heap.size, 2, none⟩ (.string nm)) w1.heap.size [Value.int .u8 10, natV pl, (.string nm), .int .u8 0, .int .u8 0, .int .u64 0, .int .i64 0, (Value.slice none 0 0)] := B2a.set (j := 2) (by simp) _; clear hp2) | (go_at_call 93; refine hPS.mono ?_; rintro e w1 ⟨rfl, hk1, hp1⟩; have hwA : Below w1.heap.size w1 (w1.alloc (.cells #[Value.int .u8 10, natV pl, .string ⟨#[]⟩, .int .u8 0, .int .u8 0, .int .u64 0, .int .i64 0, .slice none 0 0] 46)) := (Below.refl _ _).alloc (Nat.le_refl _) _; have BA := Box.new w1 [Value.int .u8 10, natV pl, .string ⟨#[]⟩, .int .u8 0, .int .u8 0, .int .u64 0, .int .i64 0, .slice none 0 0] 46; have HM1 : Hid (Moved E.p w v kvs w1 v kvs) := hk1.moved v kvs; have HP1 : Hid (Par E w1 v kvs (tl st)) := hp1; have HPA : Hid (Par E (w1.alloc (.cells #[Value.int .u8 10, natV pl, .string ⟨#[]⟩, .int .u8 0, .int .u8 0, .int .u64 0, .int .i64 0, .slice none 0 0] 46)) v kvs (tl st)) := hp1.below hwA; have HMA : Hid (Moved E.p w v kvs (w1.alloc (.cells #[Value.int .u8 10, natV pl, .string ⟨#[]⟩, .int .u8 0, .int .u8 0, .int .u64 0, .int .i64 0, .slice none 0 0] 46)) v kvs) := HM1.out.below hwA; have HOFF : Hid (Off w1.heap.size v kvs) := hp1.off (Nat.le_refl _); have hl1 := hp1.lt; have HSZ1 : Hid (w.heap.size ≤ w1.heap.size) := hk1.size; clear hp1))
      have hput : Calls Tryz.prog 100 #[ptr E.p, .agg #[Value.int .u8 10, natV pl, .string nm, typV a4, .int .u8 0, .int .u64 0, .int .i64 0, .slice (some ⟨w6.heap.size, 0, none⟩) 1 1]] w7 (PostN E w v kvs (putP ⟨10, pl, nm, a4, 0, 0, 0, [a6]⟩ st7)) :=
        put_node HP7.out HM7.out ⟨10, pl, nm, a4, 0, 0, 0, [a6]⟩ (some ⟨w6.heap.size, 0, none⟩) 1 1 HR7.out (fun g hg => by simp [Value.ownBlock] at hg; subst hg; exact ⟨HZ6.out, HB6.out⟩) (by have := hwt.sum; have := (went_name hnm).sum; have := (went_type HQ4.out).sum; have := (went_take (by simp) HQ5.out).sum; have := ((went_expr F E.s n).1 _ _ _ _ HQ6.out).sum; have := (went_take (by simp) HQ7.out).sum; omega)
      refine Calls.mono (by exact hput) ?_
      rintro e w99 h99
      have hre := HRES7.out
      subst hre
      unfold putP PostN at h99
      obtain ⟨rfl, h99⟩ := h99
      go_wp2
      go_ret
      exact ⟨rfl, h99⟩
    · rw [c1] at HH hR
      simp only [if_true] at hR
      have hAR : arrP E.s pl nm st2 = RES := hR
      have HA : Hid (∀ W, Par E W v kvs st2 → Calls Tryz.prog 157 #[ptr E.p, .agg #[.int .u8 10, natV pl, .string nm, .int .u8 0, .int .u8 0, .int .u64 0, .int .i64 0, .slice none 0 0]] W (PostN E W v kvs RES)) := fun W hp => by
        have := array_any hZ hp pl nm (by rw [hAR]; exact hne)
        rw [hAR] at this
        exact this
      clear hR hAR hnm
      cases RES with
      | out => exact absurd rfl hne
      | err c q =>
        unfold PostN at HA ⊢
        dsimp only at HA ⊢
        go_enter Tryz.func138, Tryz.ntmps138
        go_wp2_with (first | (go_at_call 93; refine hPS.mono ?_; rintro e w1 ⟨rfl, hk1, hp1⟩; have hwA : Below w1.heap.size w1 (w1.alloc (.cells #[Value.int .u8 10, natV pl, .string ⟨#[]⟩, .int .u8 0, .int .u8 0, .int .u64 0, .int .i64 0, .slice none 0 0] 46)) := (Below.refl _ _).alloc (Nat.le_refl _) _; have BA := Box.new w1 [Value.int .u8 10, natV pl, .string ⟨#[]⟩, .int .u8 0, .int .u8 0, .int .u64 0, .int .i64 0, .slice none 0 0] 46; have HM1 : Hid (Moved E.p w v kvs w1 v kvs) := hk1.moved v kvs; have HP1 : Hid (Par E w1 v kvs (tl st)) := hp1; have HPA : Hid (Par E (w1.alloc (.cells #[Value.int .u8 10, natV pl, .string ⟨#[]⟩, .int .u8 0, .int .u8 0, .int .u64 0, .int .i64 0, .slice none 0 0] 46)) v kvs (tl st)) := hp1.below hwA; have HMA : Hid (Moved E.p w v kvs (w1.alloc (.cells #[Value.int .u8 10, natV pl, .string ⟨#[]⟩, .int .u8 0, .int .u8 0, .int .u64 0, .int .i64 0, .slice none 0 0] 46)) v kvs) := HM1.out.below hwA; have HOFF : Hid (Off w1.heap.size v kvs) := hp1.off (Nat.le_refl _); have hl1 := hp1.lt; have HSZ1 : Hid (w.heap.size ≤ w1.heap.size) := hk1.size; clear hp1) | (go_at_call 44; refine Calls.mono (by exact HN.out _ HPA.out) ?_; rintro e w2 ⟨rfl, hk2, hp2⟩; have B2a := BA.kept hk2 (by omega); have s2 := B2a.cell 2 _ rfl; have f2 := B2a.fz 2; have bl2 := B2a.lt; have HP2 : Hid (Par E (w2.setCell ⟨w1.heap.size, 2, none⟩ (.string nm)) v kvs st2) := hp2.setBox (by omega) HOFF.out 2 _; have HM2 : Hid (Moved E.p w v kvs (w2.setCell ⟨w1.heap.size, 2, none⟩ (.string nm)) v kvs) := (HMA.out.kept hk2).setBox HSZ1.out 2 _; have B2 : Box (w2.setCell ⟨w1.heap.size, 2, none⟩ (.string nm)) w1.heap.size [Value.int .u8 10, natV pl, (.string nm), .int .u8 0, .int .u8 0, .int .u64 0, .int .i64 0, (Value.slice none 0 0)] := B2a.set (j := 2) (by simp) _; clear hp2) | (go_at_call 91; refine Calls.mono (by exact HH.out _ HP2.out) ?_; rintro e w3 ⟨rfl, hb3⟩; have HP3 : Hid (Par E w3 v kvs st2) := HP2.out.below hb3; have HM3 : Hid (Moved E.p w v kvs w3 v kvs) := HM2.out.below hb3; have B3 := B2.below hb3; have zz0 := B3.cell 0 _ rfl; have zz1 := B3.cell 1 _ rfl; have zz2 := B3.cell 2 _ rfl; have zz3 := B3.cell 3 _ rfl; have zz4 := B3.cell 4 _ rfl; have zz5 := B3.cell 5 _ rfl; have zz6 := B3.cell 6 _ rfl; have zz7 := B3.cell 7 _ rfl; have bl3 := B3.lt) | (go_at_call 157; refine Calls.mono (by exact HA.out _ HP3.out) ?_; rintro e w4 ⟨rfl, v4, k4, hm4⟩; unfold gaveUp))
        exact ⟨rfl, rfl, v4, k4, HM3.out.trans hm4⟩
      | ok a st4 =>
        unfold PostN at HA ⊢
        dsimp only at HA ⊢
        go_enter Tryz.func138, Tryz.ntmps138
        go_wp2_with (first | (go_at_call 93; refine hPS.mono ?_; rintro e w1 ⟨rfl, hk1, hp1⟩; have hwA : Below w1.heap.size w1 (w1.alloc (.cells #[Value.int .u8 10, natV pl, .string ⟨#[]⟩, .int .u8 0, .int .u8 0, .int .u64 0, .int .i64 0, .slice none 0 0] 46)) := (Below.refl _ _).alloc (Nat.le_refl _) _; have BA := Box.new w1 [Value.int .u8 10, natV pl, .string ⟨#[]⟩, .int .u8 0, .int .u8 0, .int .u64 0, .int .i64 0, .slice none 0 0] 46; have HM1 : Hid (Moved E.p w v kvs w1 v kvs) := hk1.moved v kvs; have HP1 : Hid (Par E w1 v kvs (tl st)) := hp1; have HPA : Hid (Par E (w1.alloc (.cells #[Value.int .u8 10, natV pl, .string ⟨#[]⟩, .int .u8 0, .int .u8 0, .int .u64 0, .int .i64 0, .slice none 0 0] 46)) v kvs (tl st)) := hp1.below hwA; have HMA : Hid (Moved E.p w v kvs (w1.alloc (.cells #[Value.int .u8 10, natV pl, .string ⟨#[]⟩, .int .u8 0, .int .u8 0, .int .u64 0, .int .i64 0, .slice none 0 0] 46)) v kvs) := HM1.out.below hwA; have HOFF : Hid (Off w1.heap.size v kvs) := hp1.off (Nat.le_refl _); have hl1 := hp1.lt; have HSZ1 : Hid (w.heap.size ≤ w1.heap.size) := hk1.size; clear hp1) | (go_at_call 44; refine Calls.mono (by exact HN.out _ HPA.out) ?_; rintro e w2 ⟨rfl, hk2, hp2⟩; have B2a := BA.kept hk2 (by omega); have s2 := B2a.cell 2 _ rfl; have f2 := B2a.fz 2; have bl2 := B2a.lt; have HP2 : Hid (Par E (w2.setCell ⟨w1.heap.size, 2, none⟩ (.string nm)) v kvs st2) := hp2.setBox (by omega) HOFF.out 2 _; have HM2 : Hid (Moved E.p w v kvs (w2.setCell ⟨w1.heap.size, 2, none⟩ (.string nm)) v kvs) := (HMA.out.kept hk2).setBox HSZ1.out 2 _; have B2 : Box (w2.setCell ⟨w1.heap.size, 2, none⟩ (.string nm)) w1.heap.size [Value.int .u8 10, natV pl, (.string nm), .int .u8 0, .int .u8 0, .int .u64 0, .int .i64 0, (Value.slice none 0 0)] := B2a.set (j := 2) (by simp) _; clear hp2) | (go_at_call 91; refine Calls.mono (by exact HH.out _ HP2.out) ?_; rintro e w3 ⟨rfl, hb3⟩; have HP3 : Hid (Par E w3 v kvs st2) := HP2.out.below hb3; have HM3 : Hid (Moved E.p w v kvs w3 v kvs) := HM2.out.below hb3; have B3 := B2.below hb3; have zz0 := B3.cell 0 _ rfl; have zz1 := B3.cell 1 _ rfl; have zz2 := B3.cell 2 _ rfl; have zz3 := B3.cell 3 _ rfl; have zz4 := B3.cell 4 _ rfl; have zz5 := B3.cell 5 _ rfl; have zz6 := B3.cell 6 _ rfl; have zz7 := B3.cell 7 _ rfl; have bl3 := B3.lt) | (go_at_call 157; refine Calls.mono (by exact HA.out _ HP3.out) ?_; rintro e w4 ⟨rfl, v4, k4, hp4, hm4⟩))
        go_ret
        exact ⟨rfl, v4, k4, hp4, HM3.out.trans hm4⟩
end Go.Proofs.YtbejgachdhfakaaGreatDoor
/- A statement; all statements, by the fuel. -/
namespace Go.Proofs.YtbejgachdhfakaaGreatDoor
open Go.RowKit

set_option maxRecDepth 100000 in
set_option maxHeartbeats 1000000 in
theorem word_any {E : Env} {w : World} {v : Value} {kvs : List Value} {st : St} (hg : Good E.s (tl st).toks) (hn : st.toks ≠ []) (h : Par E w v kvs st) (kd : Nat) (RES : Res Nat) (hR : ((take E.s [59] (tl st)).bind fun _ st1 => putP ⟨kd, (hd st).2.1, ⟨#[]⟩, 0, 0, 0, 0, []⟩ st1) = RES) :
    Calls Tryz.prog 141 #[ptr E.p, .int .u8 (kd : Int)] w (PostN E w v kvs RES) := by
  have hPS := pass_par h hg
  have hwt := went_tl hn
  have hsum := h.sum
  generalize (hd st).2.1 = pl at hPS hR
  have HTK : Hid (∀ W, Par E W v kvs (tl st) → Calls Tryz.prog 43 #[ptr E.p, .string ⟨#[59]⟩] W (PostK natV E W v kvs (take E.s [59] (tl st)))) := fun W hp => take_at hp
  have HWT : Hid (∀ a st1, take E.s [59] (tl st) = .ok a st1 → Went 1 (tl st) st1) := fun a st1 hs => went_take (by simp) hs
  have hno : take E.s [59] (tl st) ≠ .out := by
    unfold take stop
    split
    · intro h; cases h
    · intro h; cases h
  generalize take E.s [59] (tl st) = r at HTK hR HWT hno
  unfold PostK at HTK
  clear h hg hn
  cases r with
  | out => exact absurd rfl hno
  | err c q =>
    simp only [Res.bind] at hR
    subst hR
    unfold PostN
    dsimp only at HTK ⊢
    go_enter Tryz.func141, Tryz.ntmps141
    go_wp2_with (first | (go_at_call 93; refine hPS.mono ?_; rintro e w1 ⟨rfl, hk1, hp1⟩) | (go_at_call 43; refine Calls.mono (by exact HTK.out _ hp1) ?_; rintro e w2 ⟨rfl, hk2⟩; unfold gaveUp))
    exact ⟨rfl, rfl, v, kvs, (hk1.trans hk2).moved v kvs⟩
  | ok a st1 =>
    simp only [Res.bind] at hR
    subst hR
    dsimp only at HTK ⊢
    go_enter Tryz.func141, Tryz.ntmps141
    go_wp2_with (first | (go_at_call 93; refine hPS.mono ?_; rintro e w1 ⟨rfl, hk1, hp1⟩) | (go_at_call 43; refine Calls.mono (by exact HTK.out _ hp1) ?_; rintro e w2 ⟨rfl, hk2, hp2⟩))
    have hput : Calls Tryz.prog 100 #[ptr E.p, .agg #[.int .u8 (kd : Int), natV pl, .string ⟨#[]⟩, .int .u8 0, .int .u8 0, .int .u64 0, .int .i64 0, .slice none 0 0]] w2 (PostN E w v kvs (putP ⟨kd, pl, ⟨#[]⟩, 0, 0, 0, 0, []⟩ st1)) :=
      put_node hp2 ((hk1.trans hk2).moved v kvs) ⟨kd, pl, ⟨#[]⟩, 0, 0, 0, 0, []⟩ none 0 0 (World.ownsRow_nil _ _ _ _) (fun g hg => (by cases hg)) (by have := hwt.sum; have := (HWT.out a st1 rfl).sum; omega)
    refine Calls.mono (by exact hput) ?_
    rintro e w99 h99
    unfold putP PostN at h99
    obtain ⟨rfl, h99⟩ := h99
    go_wp2
    go_ret
    exact ⟨rfl, h99⟩
set_option maxRecDepth 100000 in
set_option maxHeartbeats 4000000 in
theorem stmt_any {F : FW} {n : Nat} (hX : DoesExpr F n) (hB : DoesBlock F n) (hI : DoesIf F n) (hE : DoesExprSt F n) (hV : DoesVar F n) (hN : DoesNameSt F n) : DoesStmt F (n + 1) := by
  intro E w v kvs st h hne
  have hl := h.lt
  have hT := text_par h
  simp only [stmt] at hne ⊢
  have hhas : ∀ x, has E.s x st = ((txB E.s (hd st)).toList == x) := fun x => rfl
  by_cases c0 : has E.s [118, 97, 114] st = true
  · rw [if_pos c0] at hne ⊢
    have hgd : Good E.s (tl st).toks := good_txs h.good (by unfold has at c0; rw [eq_of_beq c0]; simp)
    have hn : st.toks ≠ [] := has_ne c0 (by simp)
    have t0 : ((txB E.s (hd st)).toList == [118, 97, 114]) = true := c0
    have HC : Hid (∀ W, Below w.heap.size w W → Calls Tryz.prog 138 #[ptr E.p] W (PostN E W v kvs (varP F E.s n st))) := fun W hW => hV E W v kvs st hgd hn (h.below hW) hne
    generalize txB E.s (hd st) = y at hT t0
    clear h hgd hn hX hB hI hE hV hN hhas c0
    generalize hr : varP F E.s n st = r at HC hne ⊢
    clear hr
    unfold PostN at HC ⊢
    cases r with
    | out => exact absurd rfl hne
    | err c q =>
      dsimp only at HC ⊢
      go_enter Tryz.func99, Tryz.ntmps99
      go_wp2_with (first | (go_at_call 95; refine Calls.mono (by exact hT) ?_; rintro e w1 ⟨rfl, hb1⟩) | (go_at_call 138; refine Calls.mono (by exact HC.out _ hb1) ?_; rintro e w9 ⟨rfl, v9, k9, hm9⟩; unfold gaveUp))
      exact ⟨rfl, rfl, v9, k9, ((Kept.of_below hb1).moved v kvs).trans hm9⟩
    | ok a st2 =>
      dsimp only at HC ⊢
      go_enter Tryz.func99, Tryz.ntmps99
      go_wp2_with (first | (go_at_call 95; refine Calls.mono (by exact hT) ?_; rintro e w1 ⟨rfl, hb1⟩) | (go_at_call 138; refine Calls.mono (by exact HC.out _ hb1) ?_; rintro e w9 ⟨rfl, v9, k9, hp9, hm9⟩))
      go_ret
      exact ⟨rfl, v9, k9, hp9, ((Kept.of_below hb1).moved v kvs).trans hm9⟩
  · rw [if_neg c0] at hne ⊢
    have t0 : ((txB E.s (hd st)).toList == [118, 97, 114]) = false := by simpa [hhas] using c0
    by_cases c1 : has E.s [105, 102] st = true
    · rw [if_pos c1] at hne ⊢
      have hgd : Good E.s (tl st).toks := good_txs h.good (by unfold has at c1; rw [eq_of_beq c1]; simp)
      have hn : st.toks ≠ [] := has_ne c1 (by simp)
      have t1 : ((txB E.s (hd st)).toList == [105, 102]) = true := c1
      have HPS : Hid (∀ W, Below w.heap.size w W → Calls Tryz.prog 93 #[ptr E.p] W fun e w' => e = .returned (.int .i64 ((hd st).2.1 : Int)) ∧ Kept E.p W w' ∧ Par E w' v kvs (tl st)) := fun W hW => pass_par (h.below hW) hgd
      have HC : Hid (∀ W, Par E W v kvs (tl st) → Calls Tryz.prog 139 #[ptr E.p, natV (hd st).2.1] W (PostN E W v kvs (ifP F E.s n (hd st).2.1 (tl st)))) := fun W hp => hI E W v kvs (tl st) _ hp hne
      generalize hr : ifP F E.s n (hd st).2.1 (tl st) = r at HC hne ⊢
      generalize (hd st).2.1 = pl at HPS HC
      generalize txB E.s (hd st) = y at hT t0 t1
      clear hr
      clear h hgd hn hX hB hI hE hV hN hhas c0 c1
      unfold PostN at HC ⊢
      cases r with
      | out => exact absurd rfl hne
      | err c q =>
        dsimp only at HC ⊢
        go_enter Tryz.func99, Tryz.ntmps99
        go_wp2_with (first | (go_at_call 95; refine Calls.mono (by exact hT) ?_; rintro e w1 ⟨rfl, hb1⟩) | (go_at_call 93; refine Calls.mono (by exact HPS.out _ hb1) ?_; rintro e w2 ⟨rfl, hk2, hp2⟩) | (go_at_call 139; refine Calls.mono (by exact HC.out _ hp2) ?_; rintro e w9 ⟨rfl, v9, k9, hm9⟩; unfold gaveUp))
        exact ⟨rfl, rfl, v9, k9, (((Kept.of_below hb1).trans hk2).moved v kvs).trans hm9⟩
      | ok a st2 =>
        dsimp only at HC ⊢
        go_enter Tryz.func99, Tryz.ntmps99
        go_wp2_with (first | (go_at_call 95; refine Calls.mono (by exact hT) ?_; rintro e w1 ⟨rfl, hb1⟩) | (go_at_call 93; refine Calls.mono (by exact HPS.out _ hb1) ?_; rintro e w2 ⟨rfl, hk2, hp2⟩) | (go_at_call 139; refine Calls.mono (by exact HC.out _ hp2) ?_; rintro e w9 ⟨rfl, v9, k9, hp9, hm9⟩))
        go_ret
        exact ⟨rfl, v9, k9, hp9, (((Kept.of_below hb1).trans hk2).moved v kvs).trans hm9⟩
    · rw [if_neg c1] at hne ⊢
      have t1 : ((txB E.s (hd st)).toList == [105, 102]) = false := by simpa [hhas] using c1
      by_cases c2 : has E.s [119, 104, 105, 108, 101] st = true
      · rw [if_pos c2] at hne ⊢
        have hgd : Good E.s (tl st).toks := good_txs h.good (by unfold has at c2; rw [eq_of_beq c2]; simp)
        have hn : st.toks ≠ [] := has_ne c2 (by simp)
        have t2 : ((txB E.s (hd st)).toList == [119, 104, 105, 108, 101]) = true := c2
        have HC : Hid (∀ W, Below w.heap.size w W → Calls Tryz.prog 140 #[ptr E.p] W (PostN E W v kvs ((row F E.s n 1 (tl st)).bind fun c st1 => (block F E.s n st1).bind fun b st2 => putP ⟨15, (hd st).2.1, ⟨#[]⟩, 0, 0, 0, 0, [c, b]⟩ st2))) := fun W hW => while_any hX hB hgd hn (h.below hW) _ hne rfl
        generalize txB E.s (hd st) = y at hT t0 t1 t2
        clear h hgd hn hX hB hI hE hV hN hhas c0 c1 c2
        generalize hr : ((row F E.s n 1 (tl st)).bind fun c st1 => (block F E.s n st1).bind fun b st2 => putP ⟨15, (hd st).2.1, ⟨#[]⟩, 0, 0, 0, 0, [c, b]⟩ st2) = r at HC hne ⊢
        clear hr
        unfold PostN at HC ⊢
        cases r with
        | out => exact absurd rfl hne
        | err c q =>
          dsimp only at HC ⊢
          go_enter Tryz.func99, Tryz.ntmps99
          go_wp2_with (first | (go_at_call 95; refine Calls.mono (by exact hT) ?_; rintro e w1 ⟨rfl, hb1⟩) | (go_at_call 140; refine Calls.mono (by exact HC.out _ hb1) ?_; rintro e w9 ⟨rfl, v9, k9, hm9⟩; unfold gaveUp))
          exact ⟨rfl, rfl, v9, k9, ((Kept.of_below hb1).moved v kvs).trans hm9⟩
        | ok a st2 =>
          dsimp only at HC ⊢
          go_enter Tryz.func99, Tryz.ntmps99
          go_wp2_with (first | (go_at_call 95; refine Calls.mono (by exact hT) ?_; rintro e w1 ⟨rfl, hb1⟩) | (go_at_call 140; refine Calls.mono (by exact HC.out _ hb1) ?_; rintro e w9 ⟨rfl, v9, k9, hp9, hm9⟩))
          go_ret
          exact ⟨rfl, v9, k9, hp9, ((Kept.of_below hb1).moved v kvs).trans hm9⟩
      · rw [if_neg c2] at hne ⊢
        have t2 : ((txB E.s (hd st)).toList == [119, 104, 105, 108, 101]) = false := by simpa [hhas] using c2
        by_cases c3 : has E.s [98, 114, 101, 97, 107] st = true
        · rw [if_pos c3] at hne ⊢
          have hgd : Good E.s (tl st).toks := good_txs h.good (by unfold has at c3; rw [eq_of_beq c3]; simp)
          have hn : st.toks ≠ [] := has_ne c3 (by simp)
          have t3 : ((txB E.s (hd st)).toList == [98, 114, 101, 97, 107]) = true := c3
          have HC : Hid (∀ W, Below w.heap.size w W → Calls Tryz.prog 141 #[ptr E.p, .int .u8 16] W (PostN E W v kvs ((take E.s [59] (tl st)).bind fun _ st1 => putP ⟨16, (hd st).2.1, ⟨#[]⟩, 0, 0, 0, 0, []⟩ st1))) := fun W hW => word_any hgd hn (h.below hW) 16 _ rfl
          generalize txB E.s (hd st) = y at hT t0 t1 t2 t3
          clear h hgd hn hX hB hI hE hV hN hhas c0 c1 c2 c3
          generalize hr : ((take E.s [59] (tl st)).bind fun _ st1 => putP ⟨16, (hd st).2.1, ⟨#[]⟩, 0, 0, 0, 0, []⟩ st1) = r at HC hne ⊢
          clear hr
          unfold PostN at HC ⊢
          cases r with
          | out => exact absurd rfl hne
          | err c q =>
            dsimp only at HC ⊢
            go_enter Tryz.func99, Tryz.ntmps99
            go_wp2_with (first | (go_at_call 95; refine Calls.mono (by exact hT) ?_; rintro e w1 ⟨rfl, hb1⟩) | (go_at_call 141; refine Calls.mono (by exact HC.out _ hb1) ?_; rintro e w9 ⟨rfl, v9, k9, hm9⟩; unfold gaveUp))
            exact ⟨rfl, rfl, v9, k9, ((Kept.of_below hb1).moved v kvs).trans hm9⟩
          | ok a st2 =>
            dsimp only at HC ⊢
            go_enter Tryz.func99, Tryz.ntmps99
            go_wp2_with (first | (go_at_call 95; refine Calls.mono (by exact hT) ?_; rintro e w1 ⟨rfl, hb1⟩) | (go_at_call 141; refine Calls.mono (by exact HC.out _ hb1) ?_; rintro e w9 ⟨rfl, v9, k9, hp9, hm9⟩))
            go_ret
            exact ⟨rfl, v9, k9, hp9, ((Kept.of_below hb1).moved v kvs).trans hm9⟩
        · rw [if_neg c3] at hne ⊢
          have t3 : ((txB E.s (hd st)).toList == [98, 114, 101, 97, 107]) = false := by simpa [hhas] using c3
          by_cases c4 : has E.s [99, 111, 110, 116, 105, 110, 117, 101] st = true
          · rw [if_pos c4] at hne ⊢
            have hgd : Good E.s (tl st).toks := good_txs h.good (by unfold has at c4; rw [eq_of_beq c4]; simp)
            have hn : st.toks ≠ [] := has_ne c4 (by simp)
            have t4 : ((txB E.s (hd st)).toList == [99, 111, 110, 116, 105, 110, 117, 101]) = true := c4
            have HC : Hid (∀ W, Below w.heap.size w W → Calls Tryz.prog 141 #[ptr E.p, .int .u8 17] W (PostN E W v kvs ((take E.s [59] (tl st)).bind fun _ st1 => putP ⟨17, (hd st).2.1, ⟨#[]⟩, 0, 0, 0, 0, []⟩ st1))) := fun W hW => word_any hgd hn (h.below hW) 17 _ rfl
            generalize txB E.s (hd st) = y at hT t0 t1 t2 t3 t4
            clear h hgd hn hX hB hI hE hV hN hhas c0 c1 c2 c3 c4
            generalize hr : ((take E.s [59] (tl st)).bind fun _ st1 => putP ⟨17, (hd st).2.1, ⟨#[]⟩, 0, 0, 0, 0, []⟩ st1) = r at HC hne ⊢
            clear hr
            unfold PostN at HC ⊢
            cases r with
            | out => exact absurd rfl hne
            | err c q =>
              dsimp only at HC ⊢
              go_enter Tryz.func99, Tryz.ntmps99
              go_wp2_with (first | (go_at_call 95; refine Calls.mono (by exact hT) ?_; rintro e w1 ⟨rfl, hb1⟩) | (go_at_call 141; refine Calls.mono (by exact HC.out _ hb1) ?_; rintro e w9 ⟨rfl, v9, k9, hm9⟩; unfold gaveUp))
              exact ⟨rfl, rfl, v9, k9, ((Kept.of_below hb1).moved v kvs).trans hm9⟩
            | ok a st2 =>
              dsimp only at HC ⊢
              go_enter Tryz.func99, Tryz.ntmps99
              go_wp2_with (first | (go_at_call 95; refine Calls.mono (by exact hT) ?_; rintro e w1 ⟨rfl, hb1⟩) | (go_at_call 141; refine Calls.mono (by exact HC.out _ hb1) ?_; rintro e w9 ⟨rfl, v9, k9, hp9, hm9⟩))
              go_ret
              exact ⟨rfl, v9, k9, hp9, ((Kept.of_below hb1).moved v kvs).trans hm9⟩
          · rw [if_neg c4] at hne ⊢
            have t4 : ((txB E.s (hd st)).toList == [99, 111, 110, 116, 105, 110, 117, 101]) = false := by simpa [hhas] using c4
            by_cases c5 : has E.s [114, 101, 116, 117, 114, 110] st = true
            · rw [if_pos c5] at hne ⊢
              have hgd : Good E.s (tl st).toks := good_txs h.good (by unfold has at c5; rw [eq_of_beq c5]; simp)
              have hn : st.toks ≠ [] := has_ne c5 (by simp)
              have t5 : ((txB E.s (hd st)).toList == [114, 101, 116, 117, 114, 110]) = true := c5
              have HC : Hid (∀ W, Below w.heap.size w W → Calls Tryz.prog 142 #[ptr E.p, .int .u8 18] W (PostN E W v kvs (exprP F E.s n 18 st))) := fun W hW => hE E W v kvs st 18 hgd hn (h.below hW) hne
              generalize txB E.s (hd st) = y at hT t0 t1 t2 t3 t4 t5
              clear h hgd hn hX hB hI hE hV hN hhas c0 c1 c2 c3 c4 c5
              generalize hr : exprP F E.s n 18 st = r at HC hne ⊢
              clear hr
              unfold PostN at HC ⊢
              cases r with
              | out => exact absurd rfl hne
              | err c q =>
                dsimp only at HC ⊢
                go_enter Tryz.func99, Tryz.ntmps99
                go_wp2_with (first | (go_at_call 95; refine Calls.mono (by exact hT) ?_; rintro e w1 ⟨rfl, hb1⟩) | (go_at_call 142; refine Calls.mono (by exact HC.out _ hb1) ?_; rintro e w9 ⟨rfl, v9, k9, hm9⟩; unfold gaveUp))
                exact ⟨rfl, rfl, v9, k9, ((Kept.of_below hb1).moved v kvs).trans hm9⟩
              | ok a st2 =>
                dsimp only at HC ⊢
                go_enter Tryz.func99, Tryz.ntmps99
                go_wp2_with (first | (go_at_call 95; refine Calls.mono (by exact hT) ?_; rintro e w1 ⟨rfl, hb1⟩) | (go_at_call 142; refine Calls.mono (by exact HC.out _ hb1) ?_; rintro e w9 ⟨rfl, v9, k9, hp9, hm9⟩))
                go_ret
                exact ⟨rfl, v9, k9, hp9, ((Kept.of_below hb1).moved v kvs).trans hm9⟩
            · rw [if_neg c5] at hne ⊢
              have t5 : ((txB E.s (hd st)).toList == [114, 101, 116, 117, 114, 110]) = false := by simpa [hhas] using c5
              by_cases c6 : has E.s [112, 114, 105, 110, 116] st = true
              · rw [if_pos c6] at hne ⊢
                have hgd : Good E.s (tl st).toks := good_txs h.good (by unfold has at c6; rw [eq_of_beq c6]; simp)
                have hn : st.toks ≠ [] := has_ne c6 (by simp)
                have t6 : ((txB E.s (hd st)).toList == [112, 114, 105, 110, 116]) = true := c6
                have HC : Hid (∀ W, Below w.heap.size w W → Calls Tryz.prog 142 #[ptr E.p, .int .u8 19] W (PostN E W v kvs (exprP F E.s n 19 st))) := fun W hW => hE E W v kvs st 19 hgd hn (h.below hW) hne
                generalize txB E.s (hd st) = y at hT t0 t1 t2 t3 t4 t5 t6
                clear h hgd hn hX hB hI hE hV hN hhas c0 c1 c2 c3 c4 c5 c6
                generalize hr : exprP F E.s n 19 st = r at HC hne ⊢
                clear hr
                unfold PostN at HC ⊢
                cases r with
                | out => exact absurd rfl hne
                | err c q =>
                  dsimp only at HC ⊢
                  go_enter Tryz.func99, Tryz.ntmps99
                  go_wp2_with (first | (go_at_call 95; refine Calls.mono (by exact hT) ?_; rintro e w1 ⟨rfl, hb1⟩) | (go_at_call 142; refine Calls.mono (by exact HC.out _ hb1) ?_; rintro e w9 ⟨rfl, v9, k9, hm9⟩; unfold gaveUp))
                  exact ⟨rfl, rfl, v9, k9, ((Kept.of_below hb1).moved v kvs).trans hm9⟩
                | ok a st2 =>
                  dsimp only at HC ⊢
                  go_enter Tryz.func99, Tryz.ntmps99
                  go_wp2_with (first | (go_at_call 95; refine Calls.mono (by exact hT) ?_; rintro e w1 ⟨rfl, hb1⟩) | (go_at_call 142; refine Calls.mono (by exact HC.out _ hb1) ?_; rintro e w9 ⟨rfl, v9, k9, hp9, hm9⟩))
                  go_ret
                  exact ⟨rfl, v9, k9, hp9, ((Kept.of_below hb1).moved v kvs).trans hm9⟩
              · rw [if_neg c6] at hne ⊢
                have t6 : ((txB E.s (hd st)).toList == [112, 114, 105, 110, 116]) = false := by simpa [hhas] using c6
                have HC : Hid (∀ W, Below w.heap.size w W → Calls Tryz.prog 143 #[ptr E.p] W (PostN E W v kvs (nameSt F E.s n st))) := fun W hW => hN E W v kvs st (h.below hW) hne
                generalize txB E.s (hd st) = y at hT t0 t1 t2 t3 t4 t5 t6
                clear h hX hB hI hE hV hN hhas c0 c1 c2 c3 c4 c5 c6
                generalize hr : nameSt F E.s n st = r at HC hne ⊢
                clear hr
                unfold PostN at HC ⊢
                cases r with
                | out => exact absurd rfl hne
                | err c q =>
                  dsimp only at HC ⊢
                  go_enter Tryz.func99, Tryz.ntmps99
                  go_wp2_with (first | (go_at_call 95; refine Calls.mono (by exact hT) ?_; rintro e w1 ⟨rfl, hb1⟩) | (go_at_call 143; refine Calls.mono (by exact HC.out _ hb1) ?_; rintro e w9 ⟨rfl, v9, k9, hm9⟩; unfold gaveUp))
                  exact ⟨rfl, rfl, v9, k9, ((Kept.of_below hb1).moved v kvs).trans hm9⟩
                | ok a st2 =>
                  dsimp only at HC ⊢
                  go_enter Tryz.func99, Tryz.ntmps99
                  go_wp2_with (first | (go_at_call 95; refine Calls.mono (by exact hT) ?_; rintro e w1 ⟨rfl, hb1⟩) | (go_at_call 143; refine Calls.mono (by exact HC.out _ hb1) ?_; rintro e w9 ⟨rfl, v9, k9, hp9, hm9⟩))
                  go_ret
                  exact ⟨rfl, v9, k9, hp9, ((Kept.of_below hb1).moved v kvs).trans hm9⟩
structure DoesS (F : FW) (n : Nat) : Prop where
  block : DoesBlock F n
  stmt : DoesStmt F n
  exprSt : DoesExprSt F n
  var : DoesVar F n
  ifs : DoesIf F n
  els : DoesElse F n
  nameSt : DoesNameSt F n
theorem does_stmt {F : FW} (hL : DoesLit F) (hZ : DoesSize) : ∀ n, DoesS F n := by
  intro n
  induction n using Nat.strongRecOn with
  | _ n ih =>
    match n, ih with
    | 0, _ => exact ⟨fun _ _ _ _ _ _ hne => absurd (by simp only [block]) hne, fun _ _ _ _ _ _ hne => absurd (by simp only [stmt]) hne, fun _ _ _ _ _ _ _ _ _ hne => absurd (by simp only [exprP]) hne, fun _ _ _ _ _ _ _ _ hne => absurd (by simp only [varP]) hne, fun _ _ _ _ _ _ _ hne => absurd (by simp only [ifP]) hne, fun _ _ _ _ _ _ hne => absurd (by simp only [elseP]) hne, fun _ _ _ _ _ _ hne => absurd (by simp only [nameSt]) hne⟩
    | n + 1, ih =>
      have hn := ih n (by omega)
      have hX := does_row hL n
      exact ⟨block_any (fun m hm => (ih m (by omega)).stmt), stmt_any hX hn.block hn.ifs hn.exprSt hn.var hn.nameSt, exprSt_any hX, var_any hX hZ, if_any hX hn.block hn.els, else_any hn.ifs hn.block, nameSt_any hX (does_expr hL n).call⟩
end Go.Proofs.YtbejgachdhfakaaGreatDoor
