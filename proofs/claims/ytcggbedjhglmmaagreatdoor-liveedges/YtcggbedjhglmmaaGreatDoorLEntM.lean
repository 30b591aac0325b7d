/- The flow's small steps: a block is met; variables enter, leave. -/
import Derived.Test.YtcggbedjhglmmaaGreatDoorLMemM
namespace Go.Proofs.YtcggbedjhglmmaaGreatDoor
open Go.RowKit

set_option maxRecDepth 100000 in
set_option maxHeartbeats 1000000 in
theorem fmeet_any {E : FEnv} {w : World} {wv mv : Value} {ss : List Slot} {f : Fl} (h : Fw E w wv mv ss f) {i : Nat} (hi : i < E.n) (hl : f.met.length ≤ 100000000) (hw : wAt f.into i < 2 ^ 64 ∧ wAt f.out i < 2 ^ 64) :
    Calls Tryz.prog 72 #[ptr E.F, .int .i64 (i : Int)] w fun e w' => e = .returned (.tuple #[]) ∧ ∃ mv' ss', Fw E w' wv mv' ss' (f.meet i) ∧ Kp ss ss' := by
  obtain ⟨b0, b1, b2, b3, b4, b5, b6, bf, hF⟩ := h.box
  obtain ⟨c1, c2, c3, c4, f1, f2, f3, f4⟩ := h.words hi
  have hor := or_wd hw.1 hw.2
  have hi' : (i : Int) < E.n := by omega
  have f6 := bf 6
  unfold rowN at b2 b3
  have HR : Hid (f.meet i = if wAt f.into i ||| wAt f.out i = 0 then { f with met := f.met ++ [i] } else f) := rfl
  obtain ⟨i0, hi0, hz0, hz1, hz2⟩ := info_parts infoI
  have HH : Hid (Fw E w wv mv ss f) := h
  by_cases h0 : wAt f.into i ||| wAt f.out i = 0
  · have HM : Hid (f.meet i = { f with met := f.met ++ [i] }) := by show _ = _; rw [HR.out, if_pos h0]
    rw [h0] at hor
    have HO : Hid (w.ownsRow E.w0.heap.size 3 1 mv f.met.length (f.met.map nmV)) := h.heap.own 6 _ h.s6
    have HS : Hid (E.w0.heap.size ≤ w.heap.size) := h.low.size
    clear HR h b0 b1 b4 b5 bf hF c1 c4 f1 f2 f3 f4 hw h0 hi
    generalize hF0 : E.F = F at *
    have HF : Hid (E.F = F) := hF0
    clear hF0
    generalize E.n = n at *
    generalize E.ig = ig at *
    generalize E.og = og at *
    generalize wAt f.into i = x at *
    generalize wAt f.out i = y at *
    generalize hml : f.met.length = ml at *
    go_enter Tryz.func72, Tryz.ntmps72
    go_wp2
    go_quiet (fail)
    go_wp2_with (at_builtin; go_loud (refine wpList_append_own_at _ rfl _ _ 22 rfl E.w0.heap.size 3 i0 (.int .i64 0) 1 8 Tryz.underlying22 hi0 hz0 hz1 hz2 rfl (by decide) _ ml (f.met.map nmV) rfl ?c0 ⟨_, 0, none⟩ 1 1 [nmV i] rfl rfl ?c1 ?c2 ?c3 ?c4 ?c5 ?_))
    case c0 => exact (owns_same HO.out (fun g _ => rfl)).alloc _
    case c1 => exact cell_one_new (w.drewN nq) (nmV i) 3
    case c2 => intro u hu; simp at hu; subst hu; rfl
    case c3 => unfold maxLen; omega
    case c4 => omega
    case c5 => have := HS.out; simp; omega
    intro v2 w2 ho hg2 _ hat
    obtain ⟨g2, cc2, rfl, _, _, _, _⟩ := own_form ho
    subst hml
    obtain ⟨ss', hF', hK', q6, z6⟩ := ((HH.out.drewN nq).alloc (.cells #[.int .i64 (i : Int)] 3)).pushMet (i := i) ho hg2 (by simpa using hat)
    rw [HF.out] at hF' q6 z6
    have HQ : Hid (∃ mv' ss', Fw E (w2.setCell ⟨F, 6, none⟩ (.slice (some ⟨g2, 0, none⟩) (f.met.length + 1) cc2)) wv mv' ss' (f.meet i) ∧ Kp ss ss') := ⟨_, ss', by rw [HM.out]; exact hF', hK'⟩
    clear hF' hK' ho hg2 hat HM
    go_wp2
    go_end0
    exact ⟨rfl, HQ.out⟩
  · have HM : Hid (f.meet i = f) := by show _ = _; rw [HR.out, if_neg h0]
    have hz := wd_zero (x := wAt f.into i ||| wAt f.out i)
    rw [decide_eq_false h0] at hz
    clear HR h b0 b1 b4 b5 b6 bf hF c1 c4 f1 f2 f3 f4 hw h0 hi
    generalize E.F = F at *
    generalize E.n = n at *
    generalize E.ig = ig at *
    generalize E.og = og at *
    generalize wAt f.into i = x at *
    generalize wAt f.out i = y at *
    generalize x ||| y = z at *
    go_enter Tryz.func72, Tryz.ntmps72
    go_wp2
    go_quiet (fail)
    go_wp2
    go_end0
    exact ⟨rfl, mv, ss, by rw [HM.out]; exact HH.out.drewN _, Kp.refl _⟩
end Go.Proofs.YtcggbedjhglmmaaGreatDoor
/- Variables enter a block, leave it. -/
namespace Go.Proofs.YtcggbedjhglmmaaGreatDoor
open Go.RowKit

structure Room (E : FEnv) (f : Fl) : Prop where
  met : f.met.length ≤ 100000000
  wt : f.wt.length ≤ 100000000
  ls : Words E.n f.sets
  li : Words E.n f.into
  lo : Words E.n f.out
  ln : Words E.n f.news
set_option maxRecDepth 100000 in
set_option maxHeartbeats 2000000 in
theorem fenter_any {E : FEnv} {w : World} {wv mv : Value} {ss : List Slot} {f : Fl} (h : Fw E w wv mv ss f) (hr : Room E f) {i x : Nat} (hi : i < E.n) (hx : x < 2 ^ 64) :
    Calls Tryz.prog 41 #[ptr E.F, .int .i64 (i : Int), .int .u64 (x : Int)] w fun e w' => e = .returned (.tuple #[]) ∧ ∃ wv' mv' ss', Fw E w' wv' mv' ss' (f.enter i x) ∧ Kp ss ss' := by
  obtain ⟨b0, b1, b2, b3, b4, b5, b6, bf, hF⟩ := h.box
  obtain ⟨c1, c2, c3, c4, f1, f2, f3, f4⟩ := h.words hi
  have hand := andN_wd hx (hr.li.2 i)
  have hi' : (i : Int) < E.n := by omega
  unfold rowN at b2
  have HR : Hid (f.enter i x = if andN x (wAt f.into i) = 0 then f else (f.meet i).more i (andN x (wAt f.into i))) := rfl
  have HH : Hid (Fw E w wv mv ss f) := h
  have hz := wd_zero (x := andN x (wAt f.into i))
  by_cases h0 : andN x (wAt f.into i) = 0
  · rw [decide_eq_true h0] at hz
    have HM : Hid (f.enter i x = f) := by show _ = _; rw [HR.out, if_pos h0]
    clear HR h b0 b1 b3 b4 b5 b6 bf hF c1 c3 c4 f1 f2 f3 f4 h0 hi hr
    generalize E.F = F at *
    generalize E.n = n at *
    generalize E.ig = ig at *
    generalize andN x (wAt f.into i) = v at *
    generalize wAt f.into i = y at *
    go_enter Tryz.func41, Tryz.ntmps41
    go_wp2
    refine bodyPost_ret (results_none rfl _ _ _) rfl ?_
    exact ⟨rfl, wv, mv, ss, by rw [HM.out]; exact HH.out, Kp.refl _⟩
  · rw [decide_eq_false h0] at hz
    have hvl : andN x (wAt f.into i) < 2 ^ 64 := andN_lt hx
    have HME : Hid _ := fmeet_any h hi hr.met ⟨hr.li.2 i, hr.lo.2 i⟩
    obtain ⟨m1, m2, m3, m4, m5⟩ := meet_f f i
    have HV : Hid (f.enter i x = (f.meet i).more i (andN x (wAt f.into i))) := by show _ = _; rw [HR.out, if_neg h0]
    have HMO : Hid ((f.meet i).more i (andN x (wAt f.into i)) = { f.meet i with wt := if wAt f.news i = 0 then (f.meet i).wt ++ [i] else (f.meet i).wt, news := (f.meet i).news.set i (wAt f.news i ||| andN x (wAt f.into i)), into := (f.meet i).into.set i (wAt f.into i ||| andN x (wAt f.into i)) }) := by
      show _ = _; unfold Fl.more; rw [m4, m2]
    have hon := or_wd (hr.ln.2 i) hvl
    have hoi := or_wd (hr.li.2 i) hvl
    obtain ⟨i0, hi0, hz0, hz1, hz2⟩ := info_parts infoI
    have HC : Hid (∀ w1 wv1 mv1 ss1 fx, Fw E w1 wv1 mv1 ss1 fx → fx.news = f.news → fx.into = f.into → (w1.cell? ⟨E.F, 4, none⟩ = some (.slice (some ⟨E.ng, 0, none⟩) E.n E.n) ∧ w1.cell? ⟨E.F, 5, none⟩ = some wv1 ∧ w1.frozen? ⟨E.F, 5, none⟩ = false ∧ w1.cell? ⟨E.ng, i, none⟩ = some (wd (wAt f.news i)) ∧ w1.frozen? ⟨E.ng, i, none⟩ = false) ∧
        ∀ u, ((w1.setCell ⟨E.ng, i, none⟩ (wd u)).cell? ⟨E.F, 2, none⟩ = some (.slice (some ⟨E.ig, 0, none⟩) E.n E.n) ∧ (w1.setCell ⟨E.ng, i, none⟩ (wd u)).cell? ⟨E.ig, i, none⟩ = some (wd (wAt f.into i)) ∧ (w1.setCell ⟨E.ng, i, none⟩ (wd u)).frozen? ⟨E.ig, i, none⟩ = false) ∧
          ∀ u2, ∃ ss2, Fw E ((w1.setCell ⟨E.ng, i, none⟩ (wd u)).setCell ⟨E.ig, i, none⟩ (wd u2)) wv1 mv1 ss2 { fx with news := fx.news.set i u, into := fx.into.set i u2 } ∧ Kp ss1 ss2) := by
      intro w1 wv1 mv1 ss1 fx hw hn1 hn2
      obtain ⟨_, _, d2, _, d4, d5, _, df, _⟩ := hw.box
      obtain ⟨_, _, _, e4, _, _, _, g4⟩ := hw.words hi
      rw [hn1] at e4
      refine ⟨⟨d4, d5, df 5, e4, g4⟩, fun u => ?_⟩
      obtain ⟨s1, hw1, k1⟩ := hw.setNews i u
      obtain ⟨_, _, p2, _, _, _, _, _, _⟩ := hw1.box
      obtain ⟨_, q2, _, _, _, r2, _, _⟩ := hw1.words hi
      dsimp only at q2
      rw [hn2] at q2
      refine ⟨⟨p2, q2, r2⟩, fun u2 => ?_⟩
      obtain ⟨s2, hw2, k2⟩ := hw1.setInto i u2
      exact ⟨s2, hw2, k1.trans k2⟩
    have HPW : Hid (∀ w1 wv1 mv1 ss1, Fw E w1 wv1 mv1 ss1 (f.meet i) → w1.ownsRow E.w0.heap.size 3 1 wv1 f.wt.length (f.wt.map nmV) ∧ E.w0.heap.size ≤ w1.heap.size ∧ ∀ w2 v2, w2.ownsRow E.w0.heap.size 3 1 v2 (f.wt.length + 1) (f.wt.map nmV ++ [nmV i]) → (w1.alloc (.cells #[.int .i64 (i : Int)] 3)).grownBy w2 wv1.ownBlock → (v2.ownBlock = wv1.ownBlock ∨ v2.ownBlock = some (w1.heap.size + 1)) → ∃ ss2, Fw E (w2.setCell ⟨E.F, 5, none⟩ v2) v2 mv1 ss2 { f.meet i with wt := (f.meet i).wt ++ [i] } ∧ Kp ss1 ss2 ∧ w2.cell? ⟨E.F, 5, none⟩ = some wv1 ∧ w2.frozen? ⟨E.F, 5, none⟩ = false) := by
      intro w1 wv1 mv1 ss1 hw
      have ho := hw.heap.own 5 _ hw.s5
      have ho' : w1.ownsRow E.w0.heap.size 3 1 wv1 (f.meet i).wt.length ((f.meet i).wt.map nmV) := ho
      refine ⟨by rw [m5] at ho'; exact ho', hw.low.size, fun w2 v2 h1 h2 h3 => ?_⟩
      exact (hw.alloc (.cells #[.int .i64 (i : Int)] 3)).pushWt (i := i) (by rw [m5]; exact h1) h2 (by simpa using h3)
    have hwl := hr.wt
    generalize hGW : f.wt.length = wl at *
    clear HR h b0 b1 b3 b4 b5 b6 bf hF c1 c3 c4 f1 f2 f3 f4 h0 hi hr hvl
    have hzn := wd_zero (x := wAt f.news i)
    by_cases hn0 : wAt f.news i = 0
    · rw [decide_eq_true hn0] at hzn
      have HFI : Hid ({ f.meet i with wt := if wAt f.news i = 0 then (f.meet i).wt ++ [i] else (f.meet i).wt, news := (f.meet i).news.set i (wAt f.news i ||| andN x (wAt f.into i)), into := (f.meet i).into.set i (wAt f.into i ||| andN x (wAt f.into i)) } = f.enter i x) := by
        show _ = _; rw [HV.out, HMO.out]
      rw [if_pos hn0] at HFI
      clear hn0 HV HMO
      generalize E.F = F at *
      generalize E.n = n at *
      generalize E.ig = ig at *
      generalize E.ng = ng at *
      generalize andN x (wAt f.into i) = v at *
      generalize wAt f.into i = y at *
      generalize wAt f.news i = z at *
      generalize z ||| v = zv at *
      generalize y ||| v = yv at *
      go_enter Tryz.func41, Tryz.ntmps41
      go_wp2_with (first
        | (go_at_call 72; go_loud (refine Calls.mono (by exact HME.out) ?_; rintro e w1 ⟨rfl, mv1, ss1, hF1, hK1⟩; obtain ⟨⟨k4, k5, kf5, kn, kfn⟩, _⟩ := HC.out _ _ _ _ _ hF1 m4 m2; obtain ⟨ho1, hs1, hp1⟩ := HPW.out _ _ _ _ hF1; have HO1 : Hid (w1.ownsRow E.w0.heap.size 3 1 wv wl (f.wt.map nmV)) := ho1; have HP1 : Hid _ := hp1; have HF1 : Hid _ := hF1; have HK1 : Hid _ := hK1; clear ho1 hp1 hF1 hK1 HME))
        | (at_builtin; go_loud (refine wpList_append_own_at _ rfl _ _ 22 rfl E.w0.heap.size 3 i0 (.int .i64 0) 1 8 Tryz.underlying22 hi0 hz0 hz1 hz2 rfl (by decide) _ wl (f.wt.map nmV) rfl (HO1.out.alloc _) ⟨_, 0, none⟩ 1 1 [nmV i] rfl rfl ?c1 ?c2 ?c3 ?c4 ?c5 ?_)))
      case c1 => exact cell_one_new w1 (nmV i) 3
      case c2 => intro u hu; simp at hu; subst hu; rfl
      case c3 => unfold maxLen; omega
      case c4 => omega
      case c5 => simp; omega
      intro v2 w2 ho hg2 _ hat
      obtain ⟨g2, cc2, rfl, _, _, _, _⟩ := own_form ho
      obtain ⟨ss2, hF2, hK2, q5, z5⟩ := HP1.out w2 _ ho hg2 (by simpa using hat)
      obtain ⟨⟨l4, _, _, ln, lfn⟩, hC2⟩ := HC.out _ _ _ _ _ hF2 m4 m2
      obtain ⟨⟨l2, li, lfi⟩, hC3⟩ := hC2 zv
      obtain ⟨ss3, hF3, hK3⟩ := hC3 yv
      have HQ : Hid (∃ wv' mv' ss', Fw E (((w2.setCell ⟨F, 5, none⟩ (.slice (some ⟨g2, 0, none⟩) (wl + 1) cc2)).setCell ⟨ng, i, none⟩ (wd zv)).setCell ⟨ig, i, none⟩ (wd yv)) wv' mv' ss' (f.enter i x) ∧ Kp ss ss') := ⟨_, _, ss3, by rw [← HFI.out]; exact hF3, (HK1.out.trans hK2).trans hK3⟩
      clear hF2 hK2 hC2 hC3 hF3 hK3 ho hg2 hat HC HPW HP1 HFI
      go_wp2
      go_end0
      exact ⟨rfl, HQ.out⟩
    · rw [decide_eq_false hn0] at hzn
      have HFI : Hid ({ f.meet i with wt := if wAt f.news i = 0 then (f.meet i).wt ++ [i] else (f.meet i).wt, news := (f.meet i).news.set i (wAt f.news i ||| andN x (wAt f.into i)), into := (f.meet i).into.set i (wAt f.into i ||| andN x (wAt f.into i)) } = f.enter i x) := by
        show _ = _; rw [HV.out, HMO.out]
      rw [if_neg hn0] at HFI
      clear hn0 HV HMO HPW
      generalize E.F = F at *
      generalize E.n = n at *
      generalize E.ig = ig at *
      generalize E.ng = ng at *
      generalize andN x (wAt f.into i) = v at *
      generalize wAt f.into i = y at *
      generalize wAt f.news i = z at *
      generalize z ||| v = zv at *
      generalize y ||| v = yv at *
      go_enter Tryz.func41, Tryz.ntmps41
      go_wp2_with (first
        | (go_at_call 72; go_loud (refine Calls.mono (by exact HME.out) ?_; rintro e w1 ⟨rfl, mv1, ss1, hF1, hK1⟩; obtain ⟨⟨k4, k5, kf5, kn, kfn⟩, hC2⟩ := HC.out _ _ _ _ _ hF1 m4 m2; obtain ⟨⟨l2, li, lfi⟩, hC3⟩ := hC2 zv; obtain ⟨ss3, hF3, hK3⟩ := hC3 yv; have HQ : Hid (∃ wv' mv' ss', Fw E ((w1.setCell ⟨ng, i, none⟩ (wd zv)).setCell ⟨ig, i, none⟩ (wd yv)) wv' mv' ss' (f.enter i x) ∧ Kp ss ss') := ⟨_, _, ss3, by rw [← HFI.out]; exact hF3, hK1.trans hK3⟩; clear hF1 hK1 HME hC2 hC3 hF3 hK3 HC HFI)))
      go_end0
      exact ⟨rfl, HQ.out⟩
theorem Room.meet {E : FEnv} {f : Fl} (h : Room E f) (i : Nat) (hm : f.met.length ≤ 99999999) : Room E (f.meet i) := by
  obtain ⟨m1, m2, m3, m4, m5⟩ := meet_f f i
  refine ⟨?_, by rw [m5]; exact h.wt, by rw [m1]; exact h.ls, by rw [m2]; exact h.li, by rw [m3]; exact h.lo, by rw [m4]; exact h.ln⟩
  unfold Fl.meet
  split
  · simp; omega
  · exact h.met
set_option maxRecDepth 100000 in
set_option maxHeartbeats 2000000 in
theorem fleave_any {E : FEnv} {w : World} {wv mv : Value} {ss : List Slot} {f : Fl} (h : Fw E w wv mv ss f) (hr : Room E f) (hm : f.met.length ≤ 99999999) {i x : Nat} (hi : i < E.n) (hx : x < 2 ^ 64) :
    Calls Tryz.prog 42 #[ptr E.F, .int .i64 (i : Int), .int .u64 (x : Int)] w fun e w' => e = .returned (.tuple #[]) ∧ ∃ wv' mv' ss', Fw E w' wv' mv' ss' (f.leave i x) ∧ Kp ss ss' := by
  have hi' : (i : Int) < E.n := by omega
  have HME : Hid _ := fmeet_any h hi hr.met ⟨hr.li.2 i, hr.lo.2 i⟩
  obtain ⟨m1, m2, m3, m4, m5⟩ := meet_f f i
  have hoo := or_wd (hr.lo.2 i) hx
  have han := andN_wd hx (hr.ls.2 i)
  have HR1 := hr.meet i hm
  have HC : Hid (∀ w1 wv1 mv1 ss1, Fw E w1 wv1 mv1 ss1 (f.meet i) → (w1.cell? ⟨E.F, 3, none⟩ = some (.slice (some ⟨E.og, 0, none⟩) E.n E.n) ∧ w1.cell? ⟨E.og, i, none⟩ = some (wd (wAt f.out i)) ∧ w1.frozen? ⟨E.og, i, none⟩ = false) ∧
      ((w1.setCell ⟨E.og, i, none⟩ (wd (wAt f.out i ||| x))).cell? ⟨E.F, 1, none⟩ = some (.slice (some ⟨E.sg, 0, none⟩) E.n E.n) ∧ (w1.setCell ⟨E.og, i, none⟩ (wd (wAt f.out i ||| x))).cell? ⟨E.sg, i, none⟩ = some (wd (wAt f.sets i))) ∧
      Calls Tryz.prog 41 #[ptr E.F, .int .i64 (i : Int), .int .u64 (andN x (wAt f.sets i) : Nat)] (w1.setCell ⟨E.og, i, none⟩ (wd (wAt f.out i ||| x))) fun e w' => e = .returned (.tuple #[]) ∧ ∃ wv' mv' ss', Fw E w' wv' mv' ss' (f.leave i x) ∧ Kp ss1 ss') := by
    intro w1 wv1 mv1 ss1 hw
    obtain ⟨_, _, _, d3, _, _, _, df, _⟩ := hw.box
    obtain ⟨_, _, e3, _, _, _, g3, _⟩ := hw.words hi
    rw [m3] at e3
    obtain ⟨s1, hw1, k1⟩ := hw.setOut i (wAt f.out i ||| x)
    obtain ⟨_, p1, _, _, _, _, _, _, _⟩ := hw1.box
    obtain ⟨q1, _, _, _, _, _, _, _⟩ := hw1.words hi
    dsimp only at q1
    rw [m1] at q1
    have e : { f.meet i with out := (f.meet i).out.set i (wAt f.out i ||| x) } = (f.meet i).outs i x := by unfold Fl.outs; rw [m3]
    rw [e] at hw1
    have hR : Room E ((f.meet i).outs i x) := ⟨HR1.met, HR1.wt, HR1.ls, HR1.li, by unfold Fl.outs; dsimp only; exact HR1.lo.set (or_lt64 (HR1.lo.2 i) hx), HR1.ln⟩
    refine ⟨⟨d3, e3, g3⟩, ⟨p1, q1⟩, (fenter_any hw1 hR hi (andN_lt hx)).mono ?_⟩
    rintro e w' ⟨he, wv', mv', s2, hf, hk⟩
    exact ⟨he, wv', mv', s2, hf, k1.trans hk⟩
  clear h hr hm hi HR1 m1 m2 m3 m4 m5
  generalize E.F = F at *
  generalize E.n = n at *
  generalize E.og = og at *
  generalize E.sg = sg at *
  generalize wAt f.out i = y at *
  generalize y ||| x = yx at *
  generalize andN x (wAt f.sets i) = v at *
  generalize wAt f.sets i = z at *
  go_enter Tryz.func42, Tryz.ntmps42
  go_wp2_with (first
    | (go_at_call 72; go_loud (refine Calls.mono (by exact HME.out) ?_; rintro e w1 ⟨rfl, mv1, ss1, hF1, hK1⟩; obtain ⟨⟨k3, ko, kfo⟩, ⟨l1, ls⟩, hcc⟩ := HC.out _ _ _ _ hF1; have HCC : Hid _ := hcc; have HK1 : Hid _ := hK1; clear hF1 hK1 hcc HC HME))
    | (go_at_call 41; go_loud (refine Calls.mono (by exact HCC.out) ?_; rintro e w2 ⟨rfl, wv2, mv2, ss2, hF2, hK2⟩; have HQ : Hid (∃ wv' mv' ss', Fw E w2 wv' mv' ss' (f.leave i x) ∧ Kp ss ss') := ⟨wv2, mv2, ss2, hF2, HK1.out.trans hK2⟩; clear hF2 hK2 HCC)))
  go_end0
  exact ⟨rfl, HQ.out⟩
end Go.Proofs.YtcggbedjhglmmaaGreatDoor
