/- The law FrontLeast: its run. -/
import Derived.Test.YtbbfnladoaimpaaDLstM
import Derived.Deep.DeepCutAuto
namespace Go.Proofs.Ytbbfnladoaimpaa
open Go.RowKit

theorem amongL_any (l : List Int) (x : Int) (v : Value) (w : World) (h : IntsAt w v l) : Calls Try.prog 23 #[v, .int .i64 x] w fun e w' => e = .returned (.bool (amongB l x)) ∧ w' = w := by
  obtain ⟨a, c, rfl, hll⟩ := h.form
  have HI : Hid (∀ i, i < l.length → _) := fun i hi => h.get (i := i) hi
  have HD : Hid (∀ i, i < l.length → _) := fun i hi => among_drop (l := l) (x := x) hi
  have HZ : Hid (amongB (l.drop l.length) x = false) := by show _ = _; rw [List.drop_length]; rfl
  obtain ⟨R, hR⟩ : ∃ R, R = amongB l x := ⟨_, rfl⟩
  rw [← hR]
  have HR : Hid (amongB (l.drop 0) x = R) := hR.symm
  obtain ⟨n, hn⟩ : ∃ n, n = l.length := ⟨_, rfl⟩
  rw [← hn] at HI HD HZ hll ⊢
  clear h hR hn
  go_enter Try.func23, Try.ntmps23
  go_wp2
  go_loopw [5] (fun vi wr => ∃ i : Nat, vi = .int .i64 i ∧ i ≤ n ∧ Hid (amongB (l.drop i) x = R ∧ wr = w)) (fun vi _ => n - (intOf vi).toNat)
  case atStart => exact ⟨0, rfl, by omega, HR.out, rfl⟩
  case round =>
    obtain ⟨i, rfl, hi, hr⟩ := hrel
    have hw := hr.out.2
    subst hw
    clear HR
    by_cases hin : i < n
    · obtain ⟨g, o, rfl, hg, c0⟩ := HI.out i hin
      have hin' : (i : Int) < n := by omega
      have HDD : Hid _ := HD.out i hin
      rw [hr.out.1] at HDD
      clear HI HD HZ
      generalize l.getD i 0 = y at *
      by_cases hy : y = x
      · subst hy
        have HX : Hid (R = true) := by show R = true; have h9 := HDD.out; simpa using h9
        clear HDD
        go_wp2
        go_ret
        exact ⟨ret_bool HX.out.symm, rfl⟩
      · have hyf : (y == x) = false := beq_false_of_ne hy
        have HX : Hid (R = amongB (l.drop (i + 1)) x) := by show R = amongB (l.drop (i + 1)) x; have h9 := HDD.out; simpa [hy] using h9
        clear HDD
        go_wp2
        go_roundw
        case rel => exact ⟨i + 1, by first | rfl | (congr 1; omega), by omega, HX.out.symm, by first | rfl | trivial⟩
        case measure => simp [intOf]; omega
    · obtain rfl : i = n := by omega
      have HX : Hid (false = R) := by have h9 := hr.out.1; rw [HZ.out] at h9; exact h9
      clear HI HD HZ
      go_wp2
      go_ret
      exact ⟨ret_bool HX.out, rfl⟩
/-- What stands still while it is looked through. -/
structure Lst (nx : List (List Int)) (P A B : List Int) (n : Nat) (fv pv av bv : Value) (w : World) : Prop where
  f : NetAt w fv (frontsL nx)
  p : IntsAt w pv P
  a : IntsAt w av A
  b : IntsAt w bv B
theorem Lst.below {nx : List (List Int)} {P A B : List Int} {n : Nat} {fv pv av bv : Value} {w w' : World} (h : Lst nx P A B n fv pv av bv w) (hb : Below w.heap.size w w') : Lst nx P A B n fv pv av bv w' := ⟨h.f.below hb, h.p.below hb, h.a.below hb, h.b.below hb⟩
theorem Lst.drew {nx : List (List Int)} {P A B : List Int} {n : Nat} {fv pv av bv : Value} {w : World} (h : Lst nx P A B n fv pv av bv w) (k : Nat) : Lst nx P A B n fv pv av bv (w.drewN k) := h.below (below_drewN (Below.refl _ _) k)
set_option maxRecDepth 100000 in
set_option maxHeartbeats 4000000 in
theorem least_run (nx : List (List Int)) (l : List Int) (xm : Int) (v lv : Value) (w : World) (h : NetAt w v nx) (hl : IntsAt w lv l) (hF : FrontsOk nx) (hJ : ∀ l', nx.length ≤ 60 → lensA nx ≤ 1200 → l'.length ≤ 200 → JoinsOk nx l') (hA : ∀ W, Calls Try.prog 9 #[] W fun e w' => e = .returned (.bool true) ∧ Below W.heap.size W w') :
    Calls Try.prog 7 #[v, lv, .int .i64 xm] w fun e w' => e = .returned (.bool true) ∧ Below w.heap.size w w' := by
  have HA : Hid _ := hA w
  have HF : Hid (∀ W, Below w.heap.size w W → _) := fun W hb => hF v W (h.below hb)
  have HG : Hid (∀ W, Below w.heap.size w W → _) := fun W hb => great_any nx v W (h.below hb)
  by_cases hM : May nx
  rotate_left
  · have HM : Hid (¬ May nx) := hM
    clear hF hA h hM hJ hl HG
    go_enter Try.func7, Try.ntmps7
    go_wp2_with (first
      | (go_at_call 9; go_loud (refine Calls.mono (by exact HA.out) ?_; rintro e w0 ⟨rfl, hb0⟩; have HB0 : Hid _ := hb0; clear hb0))
      | (go_at_call 10; go_loud (refine Calls.mono (by exact HF.out _ HB0.out) ?_; rintro e w1 ⟨_, ht1, hb1⟩; have he1 := ht1 HM.out; subst he1; have HB1 : Hid (Below w.heap.size w w1) := below_trans HB0.out hb1; clear ht1 hb1)))
    go_ret
    exact ⟨rfl, HB1.out⟩
  have HM : Hid (May nx) := hM
  obtain ⟨la, lc, rfl, hll⟩ := hl.form
  rcases hgr : greatB nx with _ | _
  rotate_left
  · rw [hgr] at HG
    clear hF hA h hM hJ hl hgr
    generalize l.length = ln at *
    go_enter Try.func7, Try.ntmps7
    go_wp2_with (first
      | (go_at_call 9; go_loud (refine Calls.mono (by exact HA.out) ?_; rintro e w0 ⟨rfl, hb0⟩; have HB0 : Hid _ := hb0; clear hb0))
      | (go_at_call 10; go_loud (refine Calls.mono (by exact HF.out _ HB0.out) ?_; rintro e w1 ⟨ht1, _, hb1⟩; obtain ⟨v1, rfl, ho1⟩ := ht1 HM.out; have HB1 : Hid (Below w.heap.size w w1) := below_trans HB0.out hb1; clear ht1 hb1 ho1))
      | (go_at_call 8; go_loud (refine Calls.mono (by exact HG.out _ HB1.out) ?_; rintro e w2 ⟨rfl, hw2⟩; have hw3 := hw2.symm; subst hw3)))
    go_ret
    exact ⟨rfl, HB1.out⟩
  rw [hgr] at HG
  obtain ⟨hn6, hl12⟩ := greatB_no hgr
  by_cases h60 : l.length ≤ 60
  rotate_left
  · have h60' : (60 : Int) < l.length := by omega
    clear hF hA h hM hJ hl hgr hn6 hl12
    generalize l.length = ln at *
    go_enter Try.func7, Try.ntmps7
    go_wp2_with (first
      | (go_at_call 9; go_loud (refine Calls.mono (by exact HA.out) ?_; rintro e w0 ⟨rfl, hb0⟩; have HB0 : Hid _ := hb0; clear hb0))
      | (go_at_call 10; go_loud (refine Calls.mono (by exact HF.out _ HB0.out) ?_; rintro e w1 ⟨ht1, _, hb1⟩; obtain ⟨v1, rfl, ho1⟩ := ht1 HM.out; have HB1 : Hid (Below w.heap.size w w1) := below_trans HB0.out hb1; clear ht1 hb1 ho1))
      | (go_at_call 8; go_loud (refine Calls.mono (by exact HG.out _ HB1.out) ?_; rintro e w2 ⟨rfl, hw2⟩; have hw3 := hw2.symm; subst hw3)))
    go_ret
    exact ⟨rfl, HB1.out⟩
  obtain ⟨va, vc, rfl, _⟩ := h.form
  obtain ⟨P, hP⟩ : ∃ P, P = picksL nx.length l := ⟨_, rfl⟩
  obtain ⟨y, hy⟩ : ∃ y, y = xm % (nx.length : Int) := ⟨_, rfl⟩
  have hPL : P.length = l.length := by rw [hP]; simp [picksL]
  have hPI : AllIn nx.length P := by rw [hP]; exact picks_in hM.1 l
  have hyI : 0 ≤ y ∧ y < (nx.length : Int) := by rw [hy]; exact ⟨Int.emod_nonneg xm (by have := hM.1; omega), Int.emod_lt_of_pos xm (by have := hM.1; omega)⟩
  have HNB : nx.length ≤ 140737488355328 := by omega
  obtain ⟨A, hAe⟩ : ∃ A, A = joinL nx fun a => (a : Int) ∈ P := ⟨_, rfl⟩
  obtain ⟨B, hBe⟩ : ∃ B, B = joinL nx fun a => (a : Int) ∈ P ++ [y] := ⟨_, rfl⟩
  have hAL : A.length ≤ nx.length := by rw [hAe]; exact join_len _ _
  have HJA : Hid (∀ (sv : Value) (W : World), Below w.heap.size w W → IntsAt W sv P → Calls Try.prog 13 #[.slice va nx.length vc, sv] W fun e w' => (∃ v', e = .returned (.tuple #[v', .int .i64 0]) ∧ IntsAt w' v' A) ∧ Below W.heap.size W w') := fun sv W hb hs => (hJ P hn6 hl12 (by omega) _ sv W (h.below hb) hs).mono fun e w' hh => by
    obtain ⟨v', e1, h1⟩ := hh.1 hM hPI
    exact ⟨⟨v', e1, by rw [hAe]; exact h1⟩, hh.2.2.2⟩
  have HJB : Hid (∀ (sv : Value) (W : World), Below w.heap.size w W → IntsAt W sv (P ++ [y]) → Calls Try.prog 13 #[.slice va nx.length vc, sv] W fun e w' => (∃ v', e = .returned (.tuple #[v', .int .i64 0]) ∧ IntsAt w' v' B) ∧ Below W.heap.size W w') := fun sv W hb hs => (hJ (P ++ [y]) hn6 hl12 (by simp; omega) _ sv W (h.below hb) hs).mono fun e w' hh => by
    obtain ⟨v', e1, h1⟩ := hh.1 hM (fun x hx => by
      rcases List.mem_append.1 hx with hx | hx
      · exact hPI x hx
      · simp at hx; subst hx; exact hyI)
    exact ⟨⟨v', e1, by rw [hBe]; exact h1⟩, hh.2.2.2⟩
  have HJC : Hid (∀ (sv : Value) (W : World), Below w.heap.size w W → IntsAt W sv (P ++ A) → Calls Try.prog 13 #[.slice va nx.length vc, sv] W fun e w' => (∃ v', e = .returned (.tuple #[v', .int .i64 0]) ∧ IntsAt w' v' A) ∧ Below W.heap.size W w') := fun sv W hb hs => (hJ (P ++ A) hn6 hl12 (by simp; omega) _ sv W (h.below hb) hs).mono fun e w' hh => by
    obtain ⟨v', e1, h1⟩ := hh.1 hM (fun x hx => by
      rcases List.mem_append.1 hx with hx | hx
      · exact hPI x hx
      · rw [hAe] at hx; exact join_in _ x hx)
    refine ⟨⟨v', e1, ?_⟩, hh.2.2.2⟩
    rw [hAe] at h1 ⊢
    rw [joins_both hM P] at h1
    exact h1
  have HPX : Hid (∀ W, Calls Try.prog 18 #[.int .i64 xm, .int .i64 (nx.length : Int)] W fun e w' => e = .returned (.int .i64 y) ∧ w' = W) := fun W => by rw [hy]; exact pick_any xm nx.length hM.1 HNB W
  have HPK : Hid (∀ x W, _) := fun x W => pick_any x nx.length hM.1 HNB W
  have HPT : Hid (∀ i, i < l.length → _) := fun i hi => picks_take (n := nx.length) (l := l) (i := i) hi
  have HPE : Hid (picksL nx.length (l.take l.length) = P) := by show _ = _; rw [List.take_length, hP]
  have HLI : Hid (∀ i, i < l.length → _) := fun i hi => hl.get (i := i) hi
  have HCP : Hid (∀ (sv : Value) (W : World), IntsAt W sv P → _) := fun sv W hs => copy_any P sv W hs (by omega)
  have G1 : Hid (∀ i, i < A.length → amongB B (A.getD i 0) = true) := fun i hi => by
    rw [hBe]
    refine join_more (P := P) (y := y) ?_
    rw [← hAe]; exact getD_mem hi
  have G2 : Hid (∀ i, i + 1 < A.length → A.getD i 0 < A.getD (i + 1) 0) := fun i hi => by rw [hAe] at hi ⊢; exact join_up hi
  have G3 : Hid (∀ i, i < A.length → NeedTo nx.length (fun k => (amongB P (k : Int) || amongB A (k : Int)) && amongB (frontL nx k) (A.getD i 0)) = true) := fun i hi => by
    refine need_true ?_
    have := join_need hM (P := P) (x := A.getD i 0) (by rw [← hAe]; exact getD_mem hi)
    rw [← hAe] at this
    exact this
  have G4 : Hid (∀ (a : Nat) (x : Int), (a : Int) ∈ P → x ∈ frontL nx a → amongB A x = true) := fun a x ha hx => by rw [hAe]; exact join_has ha hx
  have G5 : Hid (∀ i, i < P.length → ∃ t : Nat, P.getD i 0 = (t : Int) ∧ t < nx.length ∧ (t : Int) ∈ P) := fun i hi => by
    obtain ⟨h1, h2⟩ := hPI.get hi
    obtain ⟨t, ht⟩ : ∃ t : Nat, P.getD i 0 = (t : Int) := Int.eq_ofNat_of_zero_le h1
    exact ⟨t, ht, by omega, by rw [← ht]; exact getD_mem hi⟩
  have HFG : Hid (∀ a, a < nx.length → (frontsL nx).getD a [] = frontL nx a) := fun a ha => frontsL_get ha
  have HFL : Hid ((frontsL nx).length = nx.length) := frontsL_len nx
  have HSI : Hid _ := sameI_yes
  obtain ⟨n, hnn⟩ : ∃ n, n = nx.length := ⟨_, rfl⟩
  rw [← hnn] at HF HG HJA HJB HJC HPX HPK HPT HPE G3 G5 HFG HFL hn6 HNB hAL
  rw [← hnn]
  obtain ⟨ln, hln⟩ : ∃ ln, ln = l.length := ⟨_, rfl⟩
  rw [← hln] at HPT HPE HLI hll h60 hPL
  rw [← hln]
  clear hF hA h hM hJ hl hnn hln hP hy hPI hyI hAe hBe hgr hl12
  have h60' : ¬ (60 : Int) < ln := by omega
  obtain ⟨i0, hi0, hz0, hz1, hz2⟩ := info_parts infoI
  go_enter Try.func7, Try.ntmps7
  go_wp2_with (first
    | (go_at_call 9; go_loud (refine Calls.mono (by exact HA.out) ?_; rintro e w0 ⟨rfl, hb0⟩; have HB0 : Hid _ := hb0; clear hb0))
    | (go_at_call 10; go_loud (refine Calls.mono (by exact HF.out _ HB0.out) ?_; rintro e w1 ⟨ht1, _, hb1⟩; obtain ⟨v1, rfl, ho1⟩ := ht1 HM.out; have HN1 : Hid (NetAt w1 v1 (frontsL nx)) := ho1; have HB1 : Hid (Below w.heap.size w w1) := below_trans HB0.out hb1; obtain ⟨fa, fc, hfe, _⟩ := HN1.out.form; subst hfe; rw [HFL.out] at HN1; rw [HFL.out]; clear ht1 hb1 ho1))
    | (go_at_call 8; go_loud (refine Calls.mono (by exact HG.out _ HB1.out) ?_; rintro e w2 ⟨rfl, hw2⟩; have hw3 := hw2.symm; subst hw3)))
  clear HA HF HG HB0
  go_loopw [9, 10] (fun vs vi wr => ∃ (i : Nat) (s : List Int), vi = .int .i64 i ∧ i ≤ ln ∧ Hid (Below w1.heap.size w1 wr ∧ OwnI wr w1.heap.size vs s ∧ s = picksL n (l.take i) ∧ s.length = i)) (fun _ vi _ => ln - (intOf vi).toNat)
  case atStart => exact ⟨0, [], rfl, by omega, Below.refl _ _, World.ownsRow_nil _ _ _ _, rfl, rfl⟩
  case round =>
    obtain ⟨i, s, rfl, hi, hr⟩ := hrel
    by_cases hin : i < ln
    · have hin' : (i : Int) < ln := by omega
      obtain ⟨g, o, rfl, hg, c0⟩ := HLI.out i hin
      have hw1 : w.heap.size ≤ w1.heap.size := HB1.out.size
      have c0' : wr.cell? ⟨g, o + i, none⟩ = some (.int .i64 (l.getD i 0)) := (hr.out.1.cell (p := ⟨g, o + i, none⟩) (by show g < w1.heap.size; omega)).trans ((HB1.out.cell (p := ⟨g, o + i, none⟩) hg).trans c0)
      have HX : Hid (s ++ [l.getD i 0 % (n : Int)] = picksL n (l.take (i + 1))) := by show _ = _; rw [HPT.out i hin, hr.out.2.2.1]
      have HPI : Hid _ := HPK.out (l.getD i 0)
      have HOW : Hid (OwnI wr w1.heap.size _ s) := hr.out.2.1
      have HSL : Hid (s.length = i) := hr.out.2.2.2
      clear HLI HPT HPE HPK c0 HJA HJB HJC HPX HCP G1 G2 G3 G4 G5 HFG
      generalize l.getD i 0 % (n : Int) = z at *
      generalize l.getD i 0 = x at *
      go_wp2_with (first
        | (go_at_call 18; go_loud (refine Calls.mono (by exact HPI.out _) ?_; rintro e w2 ⟨rfl, hw2⟩; have hw3 := hw2.symm; subst hw3))
        | (at_builtin; go_loud (refine wpList_append_own_at _ rfl _ _ 29 rfl w1.heap.size 3 i0 (.int .i64 0) 1 8 Try.underlying29 hi0 hz0 hz1 hz2 rfl (by decide) _ s.length (s.map intV) rfl (HOW.out.alloc _) ⟨wr.heap.size, 0, none⟩ 1 1 [intV z] rfl rfl ?c1 ?c2 ?c3 ?c4 ?c5 ?_)))
      case c1 => exact cell_one_new wr (intV z) 3
      case c2 => intro u hu; simp at hu; subst hu; rfl
      case c3 => have := HSL.out; unfold maxLen; omega
      case c4 => have := HSL.out; omega
      case c5 => have := hr.out.1.size; simp; omega
      intro v2 w2 ho hg2 _ hat
      have HF2 : Hid (Below w1.heap.size w1 w2) := below_grown (below_alloc hr.out.1 (.cells #[intV z] 3)) hg2 (fun q hqq => (HOW.out.lt q hqq).1)
      have HOO : Hid (OwnI w2 w1.heap.size v2 (s ++ [z])) := by
        show World.ownsRow _ _ _ _ _ _ _
        simpa using ho
      clear ho hg2 hat
      go_wp2
      go_roundw
      case rel => exact ⟨i + 1, s ++ [z], by first | rfl | (congr 1; omega), by omega, HF2.out, HOO.out, HX.out, by simp [HSL.out]⟩
      case measure => simp [intOf]; omega
    · obtain rfl : i = ln := by omega
      have hse : s = P := by rw [hr.out.2.2.1, HPE.out]
      have HS : Hid (IntsAt wr u9 P) := by have h9 := OwnI.at' hr.out.2.1 (by have := hr.out.2.2.2; omega); rw [hse] at h9; exact h9
      have HB2 : Hid (Below w.heap.size w wr) := below_trans HB1.out hr.out.1
      have HN2 : Hid (NetAt wr (.slice fa n fc) (frontsL nx)) := HN1.out.below hr.out.1
      clear HLI HPT HPE HPK hr hse HN1 HB1
      generalize wr = w2 at *
      have HLY : Hid (∀ W : World, IntsAt (W.alloc (.cells #[.int .i64 y] 3)) (.slice (some ⟨W.heap.size, 0, none⟩) 1 1) [y]) := fun W => ints_lit W [y] (by simp)
      have S1 : True := trivial
      have S2 : True := trivial
      have S3 : True := trivial
      have S4 : True := trivial
      obtain ⟨pa, pc, hpe, _⟩ := HS.out.form
      rw [hPL] at hpe
      subst hpe
      go_wp2_with (first
        | (go_at_call 13; clear S1; go_loud (refine Calls.mono (by exact HJA.out _ _ HB2.out HS.out) ?_; rintro e w3 ⟨⟨av, rfl, ho3⟩, hb3⟩; have HA3 : Hid (IntsAt w3 av A) := ho3; have HB3 : Hid (Below w.heap.size w w3) := below_trans HB2.out hb3; have HS3 : Hid (IntsAt w3 (.slice pa i pc) P) := HS.out.below hb3; have HN3 : Hid (NetAt w3 (.slice fa n fc) (frontsL nx)) := HN2.out.below hb3; obtain ⟨aa, ac, hae, _⟩ := HA3.out.form; subst hae; clear ho3 hb3))
        | (go_at_call 22; clear S2; go_loud (refine Calls.mono (by exact HCP.out _ _ HS3.out) ?_; rintro e w4 ⟨cv, rfl, ho4, hb4⟩; have HC4 : Hid (OwnI w4 w3.heap.size cv P) := ho4; have HB4 : Hid (Below w3.heap.size w3 w4) := hb4; clear ho4 hb4))
        | (go_at_call 18; go_loud (refine Calls.mono (by exact HPX.out _) ?_; rintro e w5 ⟨rfl, hw5⟩; have hw6 := hw5.symm; subst hw6))
        | (at_builtin; clear S3; go_loud (refine wpList_append_row _ rfl _ _ rfl rfl w3.heap.size cv (.slice (some ⟨w4.heap.size, 0, none⟩) 1 1) P [y] rfl rfl ((show World.ownsRow w4 w3.heap.size 3 1 cv P.length (P.map intV) from HC4.out).alloc _) (HLY.out w4) ?l1 ?l2 ?_; (case l1 => simp; omega); (case l2 => have := HB4.out.size; simp; omega); intro dv w5 ho5 hg5; have HD5 : Hid (IntsAt w5 dv (P ++ [y])) := OwnI.at' ho5 (by simp; omega); have HB5 : Hid (Below w3.heap.size w3 w5) := below_grown (below_alloc HB4.out _) hg5 (fun q hq => (HC4.out.lt q hq).1); clear ho5 hg5))
        | (go_at_call 13; clear S4; go_loud (refine Calls.mono (by exact HJB.out _ _ (below_trans HB3.out HB5.out) HD5.out) ?_; rintro e w6 ⟨⟨bv, rfl, ho6⟩, hb6⟩; have HB6 : Hid (Below w3.heap.size w3 w6) := below_trans HB5.out hb6; have HBV : Hid (IntsAt w6 bv B) := ho6; clear ho6 hb6))
        | (go_at_call 22; go_loud (refine Calls.mono (by exact HCP.out _ _ (HS3.out.below HB6.out)) ?_; rintro e w7 ⟨ev, rfl, ho7, hb7⟩; have HC7 : Hid (OwnI w7 w6.heap.size ev P) := ho7; have HB7 : Hid (Below w6.heap.size w6 w7) := hb7; have HA7 : Hid (IntsAt w7 (.slice aa A.length ac) A) := (HA3.out.below HB6.out).below hb7; clear ho7 hb7))
        | (at_builtin; go_loud (refine wpList_append_row _ rfl _ _ rfl rfl w6.heap.size ev (.slice aa A.length ac) P A rfl rfl HC7.out HA7.out (by omega) HB7.out.size ?_; intro gv w8 ho8 hg8; have HD8 : Hid (IntsAt w8 gv (P ++ A)) := OwnI.at' ho8 (by simp; omega); have HB8 : Hid (Below w6.heap.size w6 w8) := below_grown HB7.out hg8 (fun q hq => (HC7.out.lt q hq).1); clear ho8 hg8))
        | (go_at_call 13; go_loud (refine Calls.mono (by exact HJC.out _ _ (below_trans (below_trans HB3.out HB6.out) HB8.out) HD8.out) ?_; rintro e w9 ⟨⟨hv, rfl, ho9⟩, hb9⟩; have HB9 : Hid (Below w6.heap.size w6 w9) := below_trans HB8.out hb9; have HHV : Hid (IntsAt w9 hv A) := ho9; clear ho9 hb9))
        | (go_at_call 15; go_loud (refine Calls.mono (by exact HSI.out _ _ _ _ ((HA3.out.below HB6.out).below HB9.out) HHV.out) ?_; rintro e w10 ⟨rfl, hd10⟩; have HB10 : Hid (Below w6.heap.size w6 w10) := below_trans HB9.out (below_of_drew hd10); clear hd10)))
      have HLS : Hid (Lst nx P A B n (.slice fa n fc) (.slice pa i pc) (.slice aa A.length ac) bv w10) := ⟨(HN3.out.below HB6.out).below HB10.out, (HS3.out.below HB6.out).below HB10.out, (HA3.out.below HB6.out).below HB10.out, HBV.out.below HB10.out⟩
      have HBZ : Hid (Below w.heap.size w w10) := below_trans (below_trans HB3.out HB6.out) HB10.out
      clear HJA HJB HJC HPX HCP HSI HS HS3 HN2 HN3 HA3 HB3 HC4 HB4 HD5 HB5 HB6 HBV HC7 HB7 HA7 HD8 HB8 HB9 HHV HB10 HB2 HLY
      obtain ⟨al, hal⟩ : ∃ al, al = A.length := ⟨_, rfl⟩
      rw [← hal] at HLS G1 G2 G3 hAL
      rw [← hal]
      have HAL : Hid (al = A.length) := hal
      clear hal
      go_loopg [16] al (fun gm vj wr => ∃ j : Nat, vj = .int .i64 j ∧ j + gm = al ∧ Hid (Lst nx P A B n (.slice fa n fc) (.slice pa i pc) (.slice aa al ac) bv wr ∧ Below w10.heap.size w10 wr))
      case atStart => exact ⟨0, rfl, by omega, HLS.out, Below.refl _ _⟩
      case round =>
        obtain ⟨j, rfl, hj, hr⟩ := hrel
        have HGK : Hid (j + gk = al) := hj
        clear HLS hj
        generalize wr = wo at *
        by_cases hjn : j < al
        · have hjn' : (j : Int) < al := by omega
          obtain ⟨ga, oa, ea, hga, ca⟩ := hr.out.1.a.get (i := j) (by rw [← HAL.out]; exact hjn)
          subst ea
          have HAB : Hid (∀ k, Calls Try.prog 23 #[bv, .int .i64 (A.getD j 0)] (wo.drewN k) fun e w' => e = .returned (.bool true) ∧ w' = wo.drewN k) := fun k => by
            have := amongL_any B (A.getD j 0) bv (wo.drewN k) (hr.out.1.drew k).b
            rw [G1.out j hjn] at this
            exact this
          have HG3 : Hid _ := G3.out j hjn
          have HUP : Hid (∀ j', j = j' + 1 → wo.cell? ⟨ga, oa + j', none⟩ = some (.int .i64 (A.getD j' 0)) ∧ A.getD j' 0 < A.getD j 0) := fun j' hj' => by
            obtain ⟨g2, o2, e2, _, c2⟩ := hr.out.1.a.get (i := j') (by rw [← HAL.out]; omega)
            cases e2
            refine ⟨c2, ?_⟩
            have := G2.out j' (by omega)
            rwa [← hj'] at this
          -- the first look, up to the loop over all nodes
          have HCUT : Hid (∀ (W : World), (∃ k, W = wo.drewN k) → Lst nx P A B n (.slice fa n fc) (.slice pa i pc) (.slice (some ⟨ga, oa, none⟩) al ac) bv W ∧ Below w10.heap.size w10 W ∧ W.cell? ⟨ga, oa + j, none⟩ = some (.int .i64 (A.getD j 0))) := fun W ⟨k, hk⟩ => by
            subst hk
            exact ⟨hr.out.1.drew k, below_drewN hr.out.2 k, ca⟩
          generalize A.getD j 0 = x at *
          go_upto_region 21 with (fail)
          go_cut [132] (fun v132 wq => v132 = .bool false ∧ Hid (∃ k, wq = wo.drewN k))
          case first =>
            rcases j with _ | j'
            · have ca0 : wo.cell? ⟨ga, oa, none⟩ = some (.int .i64 x) := by rw [Nat.add_zero] at ca; exact ca
              have hl0 : (0 : Int) < al := by omega
              go_quiet ((go_at_call 23; exact Calls.quiet_of_same (HAB.out _)))
              go_wp2_with (fail)
              go_meet
              exact ⟨rfl, _, rfl⟩
            · obtain ⟨cp, hlt⟩ := HUP.out j' rfl
              have hj0 : (0 : Int) < ((j' + 1 : Nat) : Int) := by omega
              have hsub : (((j' + 1 : Nat) : Int) - 1) = (j' : Int) := by omega
              have hle : ¬ x ≤ A.getD j' 0 := by omega
              have hjn3 : (j' : Int) < al := by omega
              generalize A.getD j' 0 = x' at *
              go_quiet ((go_at_call 23; exact Calls.quiet_of_same (HAB.out _)))
              go_wp2_with (fail)
              go_meet
              exact ⟨rfl, _, rfl⟩
          case rest =>
          obtain ⟨rfl, hcw⟩ := hcut
          obtain ⟨hlw, hbw, caw⟩ := HCUT.out wc hcw.out
          have HLW : Hid _ := hlw
          have HBW : Hid _ := hbw
          clear hlw hbw HCUT HAB HUP ca hcw hr
          generalize wc = wd at *
          go_wp2
          go_loopw [17, 18] (fun vm vk wr => ∃ (k : Nat) (m : Bool), vk = .int .i64 k ∧ k ≤ n ∧ vm = .bool m ∧ Hid (m = NeedTo k (fun k => (amongB P (k : Int) || amongB A (k : Int)) && amongB (frontL nx k) x) ∧ Lst nx P A B n (.slice fa n fc) (.slice pa i pc) (.slice (some ⟨ga, oa, none⟩) al ac) bv wr ∧ Below wd.heap.size wd wr)) (fun _ vk _ => n - (intOf vk).toNat)
          case atStart => exact ⟨0, false, rfl, by omega, rfl, rfl, HLW.out, Below.refl _ _⟩
          case round =>
            obtain ⟨k, m, rfl, hk, rfl, hq⟩ := hrel
            have HQW : Hid _ := hq.out.2.1
            have HQB : Hid _ := hq.out.2.2
            by_cases hkn : k < n
            · have hkn' : (k : Int) < n := by omega
              have HNS : Hid _ := need_succ k (fun k => (amongB P (k : Int) || amongB A (k : Int)) && amongB (frontL nx k) x)
              rw [← hq.out.1] at HNS
              have caq : wr.cell? ⟨ga, oa + j, none⟩ = some (.int .i64 x) := by
                have hgd : ga < wd.heap.size := by
                  rcases Nat.lt_or_ge ga wd.heap.size with h7 | h7
                  · exact h7
                  · simp [World.cell?, Array.getElem?_eq_none h7] at caw
                exact (hq.out.2.2.cell (p := ⟨ga, oa + j, none⟩) hgd).trans caw
              obtain ⟨gf, of', rf, cf, ef, hgf, cff, hIf⟩ := hq.out.2.1.f.get (i := k) (by rw [HFL.out]; exact hkn)
              subst ef
              rw [HFG.out k hkn] at cff hIf
              have H1 : Hid (∀ d, Calls Try.prog 23 #[.slice pa i pc, .int .i64 (k : Int)] (wr.drewN d) fun e w' => e = .returned (.bool (amongB P (k : Int))) ∧ w' = wr.drewN d) := fun d => amongL_any P (k : Int) _ (wr.drewN d) (HQW.out.drew d).p
              have H2 : Hid (∀ d, Calls Try.prog 23 #[.slice (some ⟨ga, oa, none⟩) al ac, .int .i64 (k : Int)] (wr.drewN d) fun e w' => e = .returned (.bool (amongB A (k : Int))) ∧ w' = wr.drewN d) := fun d => amongL_any A (k : Int) _ (wr.drewN d) (HQW.out.drew d).a
              have H3 : Hid (∀ d, Calls Try.prog 23 #[.slice rf (frontL nx k).length cf, .int .i64 x] (wr.drewN d) fun e w' => e = .returned (.bool (amongB (frontL nx k) x)) ∧ w' = wr.drewN d) := fun d => amongL_any (frontL nx k) x _ (wr.drewN d) (hIf.drew d)
              clear hq hIf
              generalize (frontL nx k).length = fl at *
              generalize amongB P (k : Int) = s1 at *
              generalize amongB A (k : Int) = s2 at *
              generalize amongB (frontL nx k) x = s3 at *
              cases m with
              | true =>
                have HX : Hid (true = NeedTo (k + 1) (fun k => (amongB P (k : Int) || amongB A (k : Int)) && amongB (frontL nx k) x)) := by show _ = _; rw [HNS.out]; rfl
                clear HNS H1 H2 H3
                go_wp2
                go_quiet (fail)
                go_wp2
                go_roundw
                case rel => exact ⟨k + 1, true, by first | rfl | (congr 1; omega), by omega, rfl, HX.out, HQW.out.drew _, below_drewN HQB.out _⟩
                case measure => simp [intOf]; omega
              | false =>
                have HX : Hid (((s1 || s2) && s3) = NeedTo (k + 1) (fun k => (amongB P (k : Int) || amongB A (k : Int)) && amongB (frontL nx k) x)) := by show _ = _; rw [HNS.out]; rfl
                clear HNS
                cases s1 with
                | true =>
                  go_wp2
                  go_quiet ((first | (go_at_call 23; with_reducible exact Calls.quiet_of_same (H1.out _)) | (go_at_call 23; with_reducible exact Calls.quiet_of_same (H3.out _))))
                  go_wp2
                  go_roundw
                  case rel => exact ⟨k + 1, s3, by first | rfl | (congr 1; omega), by omega, rfl, HX.out, HQW.out.drew _, below_drewN HQB.out _⟩
                  case measure => simp [intOf]; omega
                | false =>
                  cases s2 with
                  | true =>
                    go_wp2
                    go_quiet ((first | (go_at_call 23; with_reducible exact Calls.quiet_of_same (H1.out _)) | (go_at_call 23; with_reducible exact Calls.quiet_of_same (H2.out _)) | (go_at_call 23; with_reducible exact Calls.quiet_of_same (H3.out _))))
                    go_wp2
                    go_roundw
                    case rel => exact ⟨k + 1, s3, by first | rfl | (congr 1; omega), by omega, rfl, HX.out, HQW.out.drew _, below_drewN HQB.out _⟩
                    case measure => simp [intOf]; omega
                  | false =>
                    go_wp2
                    go_quiet ((first | (go_at_call 23; with_reducible exact Calls.quiet_of_same (H1.out _)) | (go_at_call 23; with_reducible exact Calls.quiet_of_same (H2.out _))))
                    go_wp2
                    go_roundw
                    case rel => exact ⟨k + 1, false, by first | rfl | (congr 1; omega), by omega, rfl, HX.out, HQW.out.drew _, below_drewN HQB.out _⟩
                    case measure => simp [intOf]; omega
            · obtain rfl : k = n := by omega
              have hmt : m = true := by rw [hq.out.1]; exact HG3.out
              subst hmt
              clear hq
              go_wp2
              go_roundg (gk - 1)
              case measure => have := HGK.out; omega
              case rel => exact ⟨j + 1, by first | rfl | (congr 1; omega), by have := HGK.out; omega, HQW.out, below_trans HBW.out HQB.out⟩
        · have hje : j = al := by have := HGK.out; omega
          subst hje
          have HLQ : Hid _ := hr.out.1
          have HBQ : Hid (Below w.heap.size w wo) := below_trans HBZ.out hr.out.2
          clear G1 G2 G3 hr HBZ HGK
          rw [hPL] at G5
          go_wp2
          go_loopw [19] (fun vj wr => ∃ q : Nat, vj = .int .i64 q ∧ q ≤ i ∧ Hid (wr = wo)) (fun vj _ => i - (intOf vj).toNat)
          case atStart => exact ⟨0, rfl, by omega, rfl⟩
          case round =>
            obtain ⟨q, rfl, hq, hs⟩ := hrel
            have hws := hs.out
            subst hws
            by_cases hqi : q < i
            · have hqi' : (q : Int) < i := by omega
              obtain ⟨t, et, htn, htP⟩ := G5.out q hqi
              have htn' : (t : Int) < n := by omega
              obtain ⟨gp, op, ep, hgp, cp⟩ := HLQ.out.p.get (i := q) (by rw [hPL]; exact hqi)
              subst ep
              rw [et] at cp
              obtain ⟨gf, of', rf, cf, ef, hgf, cff, hIf⟩ := HLQ.out.f.get (i := t) (by rw [HFL.out]; exact htn)
              subst ef
              rw [HFG.out t htn] at cff hIf
              have HRW : Hid (∀ k, k < (frontL nx t).length → _) := fun k hk => hIf.get (i := k) hk
              have hfl : (frontL nx t).length ≤ 140737488355328 := by obtain ⟨_, _, _, h9⟩ := hIf.form; exact h9
              have HIN : Hid (∀ k, k < (frontL nx t).length → Calls Try.prog 23 #[.slice aa j ac, .int .i64 ((frontL nx t).getD k 0)] wr fun e w' => e = .returned (.bool true) ∧ w' = wr) := fun k hk => by
                have := amongL_any A ((frontL nx t).getD k 0) _ wr HLQ.out.a
                rw [G4.out t _ htP (getD_mem hk)] at this
                exact this
              clear hIf et G5 G4
              obtain ⟨fl, hfl2⟩ : ∃ fl, fl = (frontL nx t).length := ⟨_, rfl⟩
              rw [← hfl2] at HRW hfl HIN cff
              clear hfl2
              go_wp2
              go_loopw [20] (fun vk wq => ∃ k : Nat, vk = .int .i64 k ∧ k ≤ fl ∧ Hid (wq = wr)) (fun vk _ => fl - (intOf vk).toNat)
              case atStart => exact ⟨0, rfl, by omega, rfl⟩
              case round =>
                obtain ⟨k, rfl, hk, hu⟩ := hrel
                have hwu := hu.out
                subst hwu
                by_cases hkf : k < fl
                · have hkf' : (k : Int) < fl := by omega
                  obtain ⟨gr, or, er, hgr, cr⟩ := HRW.out k hkf
                  subst er
                  have HC : Hid _ := HIN.out k hkf
                  clear HRW HIN
                  generalize (frontL nx t).getD k 0 = z at *
                  go_wp2_with (go_at_call 23; go_loud (refine Calls.mono (by exact HC.out) ?_; rintro e w5 ⟨rfl, hw5⟩; have hw6 := hw5.symm; subst hw6))
                  go_roundw
                  case rel => exact ⟨k + 1, by first | rfl | (congr 1; omega), by omega, by first | exact rfl | exact trivial⟩
                  case measure => simp [intOf]; omega
                · obtain rfl : k = fl := by omega
                  clear HRW HIN
                  go_wp2
                  go_roundw
                  case rel => exact ⟨q + 1, by first | rfl | (congr 1; omega), by omega, by first | exact rfl | exact trivial⟩
                  case measure => simp [intOf]; omega
            · obtain rfl : q = i := by omega
              clear G5 G4
              go_wp2
              go_ret
              exact ⟨rfl, HBQ.out⟩
end Go.Proofs.Ytbbfnladoaimpaa
