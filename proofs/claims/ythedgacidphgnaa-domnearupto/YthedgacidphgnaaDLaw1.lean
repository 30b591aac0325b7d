/- The laws DomTrees and DomOvers: their runs, given what the program's functions do. -/
import Derived.Test.YthedgacidphgnaaDAwk
import Derived.Test.YthedgacidphgnaaDGreat
namespace Go.Proofs.Ythedgacidphgnaa
open Go.RowKit

set_option maxRecDepth 100000 in
set_option maxHeartbeats 2000000 in
theorem trees_any (nx : List (List Int)) (v : Value) (w : World) (h : NetAt w v nx) (hT : nx.length ≤ 300 → lensA nx ≤ 3000 → TreeOk nx) (hA : ∀ W, Calls Try.prog 9 #[] W fun e w' => e = .returned (.bool true) ∧ Below W.heap.size W w') :
    Calls Try.prog 3 #[v] w fun e w' => e = .returned (.bool true) ∧ Below w.heap.size w w' := by
  have HG : Hid _ := great_any nx v w h
  have HA : Hid _ := hA
  have HTT : Hid (nx.length ≤ 300 → lensA nx ≤ 3000 → ∀ W, Below w.heap.size w W → _) := fun h1 h2 W hb => hT h1 h2 v W (h.below hb)
  have HRT : Hid (nx.length ≤ 300 → ∀ W, Below w.heap.size w W → _) := fun h1 W hb => rtree_any nx v W (h.below hb) (by omega)
  have HTL : Hid (nx.length ≤ 300 → (treeL nx).length ≤ 300) := fun h1 => by rw [treeL_len]; exact h1
  have HS : Hid (∀ (xs : List Int) (v1 v2 : Value) (W : World), IntsAt W v1 xs → IntsAt W v2 xs → Calls Try.prog 12 #[v1, v2] W fun e w' => e = .returned (.bool true) ∧ ∃ k, w' = W.drewN k) := fun xs v1 v2 W h1 h2 => by
    have := sameI_any xs xs v1 v2 W h1 h2
    rwa [decide_eq_true rfl] at this
  clear hT hA h
  rcases hb : greatB nx with _ | _
  · obtain ⟨h1, h2⟩ := greatB_no hb
    have HT1 : Hid _ := HTT.out h1 h2
    have HR1 : Hid _ := HRT.out h1
    have HL1 : Hid _ := HTL.out h1
    rw [hb] at HG
    clear hb h1 h2 HTT HRT HTL
    by_cases hM : May nx
    · have HM : Hid (May nx) := hM
      clear hM
      go_enter Try.func3, Try.ntmps3
      go_wp2_with (first
        | (go_at_call 8; go_loud (refine Calls.mono (by exact HG.out) ?_; rintro e w0 ⟨rfl, hw0⟩; have hw1 := hw0.symm; subst hw1))
        | (go_at_call 10; go_loud (refine Calls.mono (by exact HT1.out _ (Below.refl _ _)) ?_; rintro e w1 ⟨ht1, _, hb1⟩; obtain ⟨v1, rfl, ho1⟩ := ht1 HM.out; have HB1 : Hid (Below w.heap.size w w1) := hb1; have HI1 : Hid (IntsAt w1 v1 (treeL nx)) := OwnI.at' ho1 (by have := HL1.out; omega); clear ht1 ho1 hb1))
        | (go_at_call 11; go_loud (refine Calls.mono (by exact HR1.out _ HB1.out) ?_; rintro e w2 ⟨ht2, _, hb2⟩; obtain ⟨v2, rfl, ho2⟩ := ht2 HM.out; have HB2 : Hid (Below w.heap.size w w2) := below_trans HB1.out hb2; have HI2 : Hid (IntsAt w2 v2 (treeL nx)) := OwnI.at' ho2 (by have := HL1.out; omega); have HJ1 : Hid (IntsAt w2 v1 (treeL nx)) := HI1.out.below hb2; clear ht2 ho2 hb2))
        | (go_at_call 12; go_loud (refine Calls.mono (by exact HS.out _ _ _ _ HJ1.out HI2.out) ?_; rintro e w3 ⟨rfl, hd3⟩; have HB3 : Hid (Below w.heap.size w w3) := below_trans HB2.out (below_of_drew hd3); clear hd3))
        | (go_at_call 9; go_loud (refine Calls.mono (by exact HA.out _) ?_; rintro e w4 ⟨rfl, hb4⟩; have HB4 : Hid (Below w.heap.size w w4) := below_trans HB3.out hb4; clear hb4)))
      go_ret
      exact ⟨rfl, HB4.out⟩
    · have HM : Hid (¬ May nx) := hM
      have HE : Hid (∀ W : World, IntsAt W (.slice none 0 0) []) := fun W => row_nil W _
      clear hM
      go_enter Try.func3, Try.ntmps3
      go_wp2_with (first
        | (go_at_call 8; go_loud (refine Calls.mono (by exact HG.out) ?_; rintro e w0 ⟨rfl, hw0⟩; have hw1 := hw0.symm; subst hw1))
        | (go_at_call 10; go_loud (refine Calls.mono (by exact HT1.out _ (Below.refl _ _)) ?_; rintro e w1 ⟨_, ht1, hb1⟩; have he1 := ht1 HM.out; subst he1; have HB1 : Hid (Below w.heap.size w w1) := hb1; clear ht1 hb1))
        | (go_at_call 11; go_loud (refine Calls.mono (by exact HR1.out _ HB1.out) ?_; rintro e w2 ⟨_, ht2, hb2⟩; have he2 := ht2 HM.out; subst he2; have HB2 : Hid (Below w.heap.size w w2) := below_trans HB1.out hb2; clear ht2 hb2))
        | (go_at_call 12; go_loud (refine Calls.mono (by exact HS.out [] _ _ _ (HE.out _) (HE.out _)) ?_; rintro e w3 ⟨rfl, hd3⟩; have HB3 : Hid (Below w.heap.size w w3) := below_trans HB2.out (below_of_drew hd3); clear hd3))
        | (go_at_call 9; go_loud (refine Calls.mono (by exact HA.out _) ?_; rintro e w4 ⟨rfl, hb4⟩; have HB4 : Hid (Below w.heap.size w w4) := below_trans HB3.out hb4; clear hb4)))
      go_ret
      exact ⟨rfl, HB4.out⟩
  · rw [hb] at HG
    clear hb HTT HRT HTL
    go_enter Try.func3, Try.ntmps3
    go_wp2_with (first | (go_at_call 8; go_loud (refine Calls.mono (by exact HG.out) ?_; rintro e w0 ⟨rfl, hw0⟩; have hw1 := hw0.symm; subst hw1)) | (go_at_call 9; go_loud (refine Calls.mono (by exact HA.out _) ?_; rintro e w4 ⟨rfl, hb4⟩; have HB4 : Hid _ := hb4; clear hb4)))
    go_ret
    exact ⟨rfl, HB4.out⟩
set_option maxRecDepth 100000 in
set_option maxHeartbeats 2000000 in
theorem overs_any (t : List Int) (a b : Int) (v : Value) (w : World) (h : IntsAt w v t) (hO : OverOk) (hU : t.length ≤ 1200 → UnderOk t) (hA : ∀ W, Calls Try.prog 9 #[] W fun e w' => e = .returned (.bool true) ∧ Below W.heap.size W w') :
    Calls Try.prog 4 #[v, .int .i64 a, .int .i64 b] w fun e w' => e = .returned (.bool true) ∧ Below w.heap.size w w' := by
  have HA : Hid _ := hA
  obtain ⟨ta, tc, rfl, hll⟩ := h.form
  have HO : Hid (∀ (x y : Int) (W : World), Below w.heap.size w W → Calls Try.prog 13 #[.slice ta t.length tc, .int .i64 x, .int .i64 y] W fun e w' => e = .returned (.bool (overL t x y)) ∧ ∃ k, w' = W.drewN k) := fun x y W hb => hO t x y _ W (h.below hb)
  have HP : Hid (∀ (x y : Int) (W : World), Below w.heap.size w W → Calls Try.prog 14 #[.slice ta t.length tc, .int .i64 x, .int .i64 y] W fun e w' => e = .returned (.bool (overL t x y)) ∧ w' = W) := fun x y W hb => rover_any t x y _ W (h.below hb)
  have HU : Hid (t.length ≤ 1200 → ∀ (W : World), Below w.heap.size w W → _) := fun h1 W hb => hU h1 _ W (h.below hb)
  have HV : Hid (t.length ≤ 1200 → ∀ (W : World), Below w.heap.size w W → Calls Try.prog 17 #[.slice ta t.length tc] W fun e w' => ∃ v', e = .returned v' ∧ NetAt w' v' (underT t) ∧ Below W.heap.size W w') := fun h1 W hb => (runder_any t _ W (h.below hb) (by omega)).mono fun e w' hh => by
    obtain ⟨kvs, e1, hr, hb2⟩ := hh
    exact ⟨_, e1, hr.at' (by omega) (fun r hr2 => by have := lens_mem hr2; have := lens_underT t; omega), hb2⟩
  have HS : Hid (∀ (xs : List (List Int)) (v1 v2 : Value) (W : World), NetAt W v1 xs → NetAt W v2 xs → Calls Try.prog 15 #[v1, v2] W fun e w' => e = .returned (.bool true) ∧ ∃ k, w' = W.drewN k) := fun xs v1 v2 W h1 h2 => by
    have := sameR_any xs xs v1 v2 W h1 h2
    rwa [decide_eq_true rfl] at this
  clear hA hO hU h
  obtain ⟨n, hn⟩ : ∃ n, n = t.length := ⟨_, rfl⟩
  rw [← hn] at HO HP HU HV hll
  rw [← hn]
  clear hn
  by_cases h12 : n ≤ 1200
  · have h12' : ¬ (1200 : Int) < n := by omega
    have HU1 : Hid _ := HU.out h12
    have HV1 : Hid _ := HV.out h12
    have HO1 : Hid _ := HO.out a b
    have HO2 : Hid _ := HO.out b a
    have HP1 : Hid _ := HP.out a b
    have HP2 : Hid _ := HP.out b a
    clear HU HV HO HP
    generalize overL t a b = r1 at *
    generalize overL t b a = r2 at *
    have S1 : True := trivial
    have S2 : True := trivial
    have e1 : (r1 == r1) = true := by cases r1 <;> rfl
    have e2 : (r2 == r2) = true := by cases r2 <;> rfl
    go_enter Try.func4, Try.ntmps4
    go_wp2_with (first
      | (go_at_call 13; clear S1; go_loud (refine Calls.mono (by exact HO1.out _ (Below.refl _ _)) ?_; rintro e w1 ⟨rfl, hd1⟩; have HB1 : Hid (Below w.heap.size w w1) := below_of_drew hd1; clear hd1))
      | (go_at_call 14; clear S2; go_loud (refine Calls.mono (by exact HP1.out _ HB1.out) ?_; rintro e w2 ⟨rfl, hw2⟩; subst hw2))
      | (go_at_call 13; go_loud (refine Calls.mono (by exact HO2.out _ HB1.out) ?_; rintro e w3 ⟨rfl, hd3⟩; have HB3 : Hid (Below w.heap.size w w3) := below_trans HB1.out (below_of_drew hd3); clear hd3))
      | (go_at_call 14; go_loud (refine Calls.mono (by exact HP2.out _ HB3.out) ?_; rintro e w4 ⟨rfl, hw4⟩; subst hw4))
      | (go_at_call 16; go_loud (refine Calls.mono (by exact HU1.out _ HB3.out) ?_; rintro e w5 ⟨v5, rfl, hn5, hb5⟩; have HN5 : Hid _ := hn5; have HB5 : Hid (Below w.heap.size w w5) := below_trans HB3.out hb5; clear hn5 hb5))
      | (go_at_call 17; go_loud (refine Calls.mono (by exact HV1.out _ HB5.out) ?_; rintro e w6 ⟨v6, rfl, hn6, hb6⟩; have HN6 : Hid _ := hn6; have HM5 : Hid _ := HN5.out.below hb6; have HB6 : Hid (Below w.heap.size w w6) := below_trans HB5.out hb6; clear hn6 hb6))
      | (go_at_call 15; go_loud (refine Calls.mono (by exact HS.out _ _ _ _ HM5.out HN6.out) ?_; rintro e w7 ⟨rfl, hd7⟩; have HB7 : Hid (Below w.heap.size w w7) := below_trans HB6.out (below_of_drew hd7); clear hd7))
      | (go_at_call 9; go_loud (refine Calls.mono (by exact HA.out _) ?_; rintro e w8 ⟨rfl, hb8⟩; have HB8 : Hid (Below w.heap.size w w8) := below_trans HB7.out hb8; clear hb8)))
    go_ret
    exact ⟨rfl, HB8.out⟩
  · have h12' : (1200 : Int) < n := by omega
    clear HU HV HO HP
    go_enter Try.func4, Try.ntmps4
    go_wp2_with (go_at_call 9; go_loud (refine Calls.mono (by exact HA.out _) ?_; rintro e w8 ⟨rfl, hb8⟩; have HB8 : Hid _ := hb8; clear hb8))
    go_ret
    exact ⟨rfl, HB8.out⟩
end Go.Proofs.Ythedgacidphgnaa
