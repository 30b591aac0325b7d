/- What is fixed (11); the laws FrontFronts and FrontJoins: their runs, given what the program's functions do. -/
import Derived.Test.YtbbfnladoaimpaaDNetM
import Derived.Test.YtbbfnladoaimpaaDGreatM
namespace Go.Proofs.Ytbbfnladoaimpaa
open Go.RowKit

def FrontsOk (nx : List (List Int)) : Prop := ∀ (v : Value) (w : World), NetAt w v nx → Calls Try.prog 10 #[v] w fun e w' => (May nx → ∃ v', e = .returned (.tuple #[v', .int .i64 0]) ∧ NetAt w' v' (frontsL nx)) ∧ (¬ May nx → e = .returned (.tuple #[.slice none 0 0, .int .i64 4])) ∧ Below w.heap.size w w'
def JoinsOk (nx : List (List Int)) (l : List Int) : Prop := ∀ (v lv : Value) (w : World), NetAt w v nx → IntsAt w lv l → Calls Try.prog 13 #[v, lv] w fun e w' => (May nx → AllIn nx.length l → ∃ v', e = .returned (.tuple #[v', .int .i64 0]) ∧ IntsAt w' v' (joinL nx fun a => (a : Int) ∈ l)) ∧ (May nx → ¬ AllIn nx.length l → e = .returned (.tuple #[.slice none 0 0, .int .i64 2])) ∧ (¬ May nx → e = .returned (.tuple #[.slice none 0 0, .int .i64 4])) ∧ Below w.heap.size w w'
theorem sameI_yes (xs : List Int) (v1 v2 : Value) (W : World) (h1 : IntsAt W v1 xs) (h2 : IntsAt W v2 xs) : Calls Try.prog 15 #[v1, v2] W fun e w' => e = .returned (.bool true) ∧ ∃ k, w' = W.drewN k := by
  have := sameI_any xs xs v1 v2 W h1 h2
  rwa [decide_eq_true rfl] at this
theorem sameR_yes (xs : List (List Int)) (v1 v2 : Value) (W : World) (h1 : NetAt W v1 xs) (h2 : NetAt W v2 xs) : Calls Try.prog 12 #[v1, v2] W fun e w' => e = .returned (.bool true) ∧ ∃ k, w' = W.drewN k := by
  have := sameR_any xs xs v1 v2 W h1 h2
  rwa [decide_eq_true rfl] at this
def frObjs (N : Nat) : List Obj := [.cells #[intV 3] 3, .cells #[intV 3] 3, .cells #[intV 1] 3, .cells #[.slice none 0 0, sl N 1, sl (N + 1) 1, sl (N + 2) 1, .slice none 0 0, .slice none 0 0] 29]
theorem fr_lit (w : World) : NetAt (allocs w (frObjs w.heap.size)) (sl (w.heap.size + 3) 6) [[], [3], [3], [1], [], []] := by
  have g := fun k o (h : (frObjs w.heap.size)[k]? = some o) => allocs_get (frObjs w.heap.size) w k o h
  refine ⟨[.slice none 0 0, sl w.heap.size 1, sl (w.heap.size + 1) 1, sl (w.heap.size + 2) 1, .slice none 0 0, .slice none 0 0], rfl, row_lit (t := 29) 6 (g 3 _ rfl) (by omega), fun i r kv hr hk => ?_⟩
  rcases i with _ | _ | _ | _ | _ | _ | i
  · cases hr; cases hk; exact row_nil _ _
  · cases hr; cases hk; exact row_lit (t := 3) 1 (g 0 _ rfl) (by omega)
  · cases hr; cases hk; exact row_lit (t := 3) 1 (g 1 _ rfl) (by omega)
  · cases hr; cases hk; exact row_lit (t := 3) 1 (g 2 _ rfl) (by omega)
  · cases hr; cases hk; exact row_nil _ _
  · cases hr; cases hk; exact row_nil _ _
  · simp at hr
set_option maxRecDepth 100000 in
set_option maxHeartbeats 2000000 in
theorem awakeM_any (hF : FrontsOk netM) (hJ : JoinsOk netM [2]) (w : World) : Calls Try.prog 9 #[] w fun e w' => e = .returned (.bool true) ∧ Below w.heap.size w w' := by
  have HF : Hid (∀ (v : Value) (W : World), NetAt W v netM → Calls Try.prog 10 #[v] W fun e w' => (∃ v', e = .returned (.tuple #[v', .int .i64 0]) ∧ NetAt w' v' [[], [3], [3], [1], [], []]) ∧ Below W.heap.size W w') := fun v W h => (hF v W h).mono fun e w' hh => by
    obtain ⟨v', e1, h2⟩ := hh.1 netM_may
    rw [netM_fronts] at h2
    exact ⟨⟨v', e1, h2⟩, hh.2.2⟩
  have HJ : Hid (∀ (v lv : Value) (W : World), NetAt W v netM → IntsAt W lv [2] → Calls Try.prog 13 #[v, lv] W fun e w' => (∃ v', e = .returned (.tuple #[v', .int .i64 0]) ∧ IntsAt w' v' [1, 3]) ∧ Below W.heap.size W w') := fun v lv W h hl => (hJ v lv W h hl).mono fun e w' hh => by
    obtain ⟨v', e1, h2⟩ := hh.1 netM_may (by intro x hx; simp at hx; subst hx; decide)
    rw [netM_joins] at h2
    exact ⟨⟨v', e1, h2⟩, hh.2.2.2⟩
  have HN : Hid (∀ W, _) := fun W => netM_any W
  have HL2 : Hid (∀ W : World, IntsAt (W.alloc (.cells #[.int .i64 2] 3)) (.slice (some ⟨W.heap.size, 0, none⟩) 1 1) [2]) := fun W => ints_lit W [2] (by decide)
  have HL3 : Hid (∀ W : World, IntsAt (W.alloc (.cells #[.int .i64 1, .int .i64 3] 3)) (.slice (some ⟨W.heap.size, 0, none⟩) 2 2) [1, 3]) := fun W => ints_lit W [1, 3] (by decide)
  have HFL : Hid (∀ W : World, NetAt ((((W.alloc (.cells #[.int .i64 3] 3)).alloc (.cells #[.int .i64 3] 3)).alloc (.cells #[.int .i64 1] 3)).alloc (.cells #[.slice none 0 0, .slice (some ⟨W.heap.size, 0, none⟩) 1 1, .slice (some ⟨W.heap.size + 1, 0, none⟩) 1 1, .slice (some ⟨W.heap.size + 2, 0, none⟩) 1 1, .slice none 0 0, .slice none 0 0] 29)) (.slice (some ⟨W.heap.size + 3, 0, none⟩) 6 6) [[], [3], [3], [1], [], []]) := fun W => fr_lit W
  have HSI : Hid _ := sameI_yes
  have HSR : Hid _ := sameR_yes
  have S1 : True := trivial
  clear hF hJ
  go_enter Try.func9, Try.ntmps9
  go_wp2_with (first
    | (go_at_call 16; clear S1; go_loud (refine Calls.mono (by exact HN.out _) ?_; rintro e w0 ⟨v0, rfl, hn0, hb0⟩; have HN0 : Hid _ := hn0; have HB0 : Hid _ := hb0; clear hn0 hb0))
    | (go_at_call 10; go_loud (refine Calls.mono (by exact HF.out _ _ HN0.out) ?_; rintro e w1 ⟨⟨v1, rfl, hi1⟩, hb1⟩; have HI1 : Hid _ := hi1; have HB1 : Hid (Below w.heap.size w w1) := below_trans HB0.out hb1; clear hi1 hb1))
    | (go_at_call 16; go_loud (refine Calls.mono (by exact HN.out _) ?_; rintro e w2 ⟨v2, rfl, hn2, hb2⟩; have HN2 : Hid _ := hn2; have HB2 : Hid (Below w.heap.size w w2) := below_trans HB1.out hb2; have HI2 : Hid (NetAt w2 v1 [[], [3], [3], [1], [], []]) := HI1.out.below hb2; clear hn2 hb2))
    | (go_at_call 13; go_loud (refine Calls.mono (by exact HJ.out _ _ _ (HN2.out.below (below_alloc (Below.refl _ _) _)) (HL2.out w2)) ?_; rintro e w3 ⟨⟨v3, rfl, hi3⟩, hb3⟩; have HI3 : Hid _ := hi3; have HA3 : Hid (Below w2.heap.size w2 w3) := below_trans (below_alloc (Below.refl _ _) _) hb3; clear hi3 hb3))
    | (go_at_call 12; go_loud (refine Calls.mono (by exact HSR.out _ _ _ _ ((HI2.out.below HA3.out).below (below_alloc (below_alloc (below_alloc (below_alloc (Below.refl _ _) _) _) _) _)) (HFL.out w3)) ?_; rintro e w4 ⟨rfl, hd4⟩; have HA4 : Hid (Below w3.heap.size w3 w4) := below_trans (below_alloc (below_alloc (below_alloc (below_alloc (Below.refl _ _) _) _) _) _) (below_of_drew hd4); clear hd4))
    | (go_at_call 15; go_loud (refine Calls.mono (by exact HSI.out _ _ _ _ ((HI3.out.below HA4.out).below (below_alloc (Below.refl _ _) _)) (HL3.out w4)) ?_; rintro e w5 ⟨rfl, hd5⟩; have HA5 : Hid (Below w4.heap.size w4 w5) := below_trans (below_alloc (Below.refl _ _) _) (below_of_drew hd5); clear hd5)))
  go_ret
  exact ⟨rfl, below_trans (below_trans (below_trans HB2.out HA3.out) HA4.out) HA5.out⟩
set_option maxRecDepth 100000 in
set_option maxHeartbeats 2000000 in
theorem fronts_run (nx : List (List Int)) (v : Value) (w : World) (h : NetAt w v nx) (hF : nx.length ≤ 60 → lensA nx ≤ 1200 → FrontsOk nx) (hA : ∀ W, Calls Try.prog 9 #[] W fun e w' => e = .returned (.bool true) ∧ Below W.heap.size W w') :
    Calls Try.prog 3 #[v] w fun e w' => e = .returned (.bool true) ∧ Below w.heap.size w w' := by
  have HG : Hid _ := great_any nx v w h
  have HA : Hid _ := hA
  have HTT : Hid (nx.length ≤ 60 → lensA nx ≤ 1200 → ∀ W, Below w.heap.size w W → _) := fun h1 h2 W hb => hF h1 h2 v W (h.below hb)
  have HRT : Hid (nx.length ≤ 60 → ∀ W, Below w.heap.size w W → _) := fun h1 W hb => rfronts_any nx v W (h.below hb) (by omega)
  have HTL : Hid (nx.length ≤ 60 → (frontsL nx).length ≤ 140737488355328 ∧ ∀ r ∈ frontsL nx, r.length ≤ 140737488355328) := fun h1 => ⟨by rw [frontsL_len]; omega, fun r hr => by have := fronts_small r hr; omega⟩
  have HS : Hid _ := sameR_yes
  clear hF hA h
  rcases hb : greatB nx with _ | _
  · obtain ⟨h1, h2⟩ := greatB_no hb
    have HT1 : Hid _ := HTT.out h1 h2
    have HR1 : Hid _ := HRT.out h1
    have HL1 : Hid _ := HTL.out h1
    rw [hb] at HG
    clear hb h1 h2 HTT HRT HTL
    by_cases hM : May nx
    · have HM : Hid (May nx) := hM
      clear hM
      go_enter Try.func3, Try.ntmps3
      go_wp2_with (first
        | (go_at_call 8; go_loud (refine Calls.mono (by exact HG.out) ?_; rintro e w0 ⟨rfl, hw0⟩; have hw1 := hw0.symm; subst hw1))
        | (go_at_call 10; go_loud (refine Calls.mono (by exact HT1.out _ (Below.refl _ _)) ?_; rintro e w1 ⟨ht1, _, hb1⟩; obtain ⟨v1, rfl, ho1⟩ := ht1 HM.out; have HB1 : Hid (Below w.heap.size w w1) := hb1; have HI1 : Hid (NetAt w1 v1 (frontsL nx)) := ho1; clear ht1 ho1 hb1))
        | (go_at_call 11; go_loud (refine Calls.mono (by exact HR1.out _ HB1.out) ?_; rintro e w2 ⟨ht2, _, hb2⟩; obtain ⟨v2, rfl, ho2⟩ := ht2 HM.out; have HB2 : Hid (Below w.heap.size w w2) := below_trans HB1.out hb2; have HI2 : Hid (NetAt w2 v2 (frontsL nx)) := ho2.at' HL1.out.1 HL1.out.2; have HJ1 : Hid (NetAt w2 v1 (frontsL nx)) := HI1.out.below hb2; clear ht2 ho2 hb2))
        | (go_at_call 12; go_loud (refine Calls.mono (by exact HS.out _ _ _ _ HJ1.out HI2.out) ?_; rintro e w3 ⟨rfl, hd3⟩; have HB3 : Hid (Below w.heap.size w w3) := below_trans HB2.out (below_of_drew hd3); clear hd3))
        | (go_at_call 9; go_loud (refine Calls.mono (by exact HA.out _) ?_; rintro e w4 ⟨rfl, hb4⟩; have HB4 : Hid (Below w.heap.size w w4) := below_trans HB3.out hb4; clear hb4)))
      go_ret
      exact ⟨rfl, HB4.out⟩
    · have HM : Hid (¬ May nx) := hM
      have HE : Hid (∀ W : World, NetAt W (.slice none 0 0) []) := fun W => ⟨[], rfl, row_nil W _, fun i r kv h => by simp at h⟩
      clear hM
      go_enter Try.func3, Try.ntmps3
      go_wp2_with (first
        | (go_at_call 8; go_loud (refine Calls.mono (by exact HG.out) ?_; rintro e w0 ⟨rfl, hw0⟩; have hw1 := hw0.symm; subst hw1))
        | (go_at_call 10; go_loud (refine Calls.mono (by exact HT1.out _ (Below.refl _ _)) ?_; rintro e w1 ⟨_, ht1, hb1⟩; have he1 := ht1 HM.out; subst he1; have HB1 : Hid (Below w.heap.size w w1) := hb1; clear ht1 hb1))
        | (go_at_call 11; go_loud (refine Calls.mono (by exact HR1.out _ HB1.out) ?_; rintro e w2 ⟨_, ht2, hb2⟩; have he2 := ht2 HM.out; subst he2; have HB2 : Hid (Below w.heap.size w w2) := below_trans HB1.out hb2; clear ht2 hb2))
        | (go_at_call 12; go_loud (refine Calls.mono (by exact HS.out [] _ _ _ (HE.out _) (HE.out _)) ?_; rintro e w3 ⟨rfl, hd3⟩; have HB3 : Hid (Below w.heap.size w w3) := below_trans HB2.out (below_of_drew hd3); clear hd3))
        | (go_at_call 9; go_loud (refine Calls.mono (by exact HA.out _) ?_; rintro e w4 ⟨rfl, hb4⟩; have HB4 : Hid (Below w.heap.size w w4) := below_trans HB3.out hb4; clear hb4)))
      go_ret
      exact ⟨rfl, HB4.out⟩
  · rw [hb] at HG
    clear hb HTT HRT HTL
    go_enter Try.func3, Try.ntmps3
    go_wp2_with (first | (go_at_call 8; go_loud (refine Calls.mono (by exact HG.out) ?_; rintro e w0 ⟨rfl, hw0⟩; have hw1 := hw0.symm; subst hw1)) | (go_at_call 9; go_loud (refine Calls.mono (by exact HA.out _) ?_; rintro e w4 ⟨rfl, hb4⟩; have HB4 : Hid _ := hb4; clear hb4)))
    go_ret
    exact ⟨rfl, HB4.out⟩
theorem join_len (nx : List (List Int)) (F : Nat → Prop) : (joinL nx F).length ≤ nx.length := nodesL_len _ _
set_option maxRecDepth 100000 in
set_option maxHeartbeats 2000000 in
theorem joins_run (nx : List (List Int)) (l : List Int) (v lv : Value) (w : World) (h : NetAt w v nx) (hl : IntsAt w lv l) (hJ : nx.length ≤ 60 → lensA nx ≤ 1200 → l.length ≤ 600 → JoinsOk nx l) (hA : ∀ W, Calls Try.prog 9 #[] W fun e w' => e = .returned (.bool true) ∧ Below W.heap.size W w') :
    Calls Try.prog 4 #[v, lv] w fun e w' => e = .returned (.bool true) ∧ Below w.heap.size w w' := by
  obtain ⟨la, lc, rfl, hll⟩ := hl.form
  have HG : Hid _ := great_any nx v w h
  have HA : Hid _ := hA
  have HTT : Hid (nx.length ≤ 60 → lensA nx ≤ 1200 → l.length ≤ 600 → ∀ W, Below w.heap.size w W → _) := fun h1 h2 h3 W hb => hJ h1 h2 h3 v _ W (h.below hb) (hl.below hb)
  have HRT : Hid (nx.length ≤ 60 → ∀ W, Below w.heap.size w W → _) := fun h1 W hb => rjoins_any nx l v _ W (h.below hb) (hl.below hb) (by omega)
  have HTL : Hid (nx.length ≤ 60 → (joinL nx fun a => (a : Int) ∈ l).length ≤ 140737488355328) := fun h1 => by have := join_len nx (fun a => (a : Int) ∈ l); omega
  have HS : Hid _ := sameI_yes
  have HE : Hid (∀ W : World, IntsAt W (.slice none 0 0) []) := fun W => row_nil W _
  clear hJ hA h hl
  obtain ⟨ln, hln⟩ : ∃ ln, ln = l.length := ⟨_, rfl⟩
  rw [← hln] at HTT HRT hll
  rw [← hln]
  clear hln
  rcases hb : greatB nx with _ | _
  · obtain ⟨h1, h2⟩ := greatB_no hb
    rw [hb] at HG
    by_cases h6 : ln ≤ 600
    · have h6' : ¬ (600 : Int) < ln := by omega
      have HT1 : Hid _ := HTT.out h1 h2 h6
      have HR1 : Hid _ := HRT.out h1
      have HL1 : Hid _ := HTL.out h1
      clear hb h1 h2 HTT HRT HTL
      by_cases hM : May nx
      · by_cases hI : AllIn nx.length l
        · have HM : Hid (May nx) := hM
          have HIN : Hid (AllIn nx.length l) := hI
          clear hM hI
          go_enter Try.func4, Try.ntmps4
          go_wp2_with (first
            | (go_at_call 8; go_loud (refine Calls.mono (by exact HG.out) ?_; rintro e w0 ⟨rfl, hw0⟩; have hw1 := hw0.symm; subst hw1))
            | (go_at_call 13; go_loud (refine Calls.mono (by exact HT1.out _ (Below.refl _ _)) ?_; rintro e w1 ⟨ht1, _, _, hb1⟩; obtain ⟨v1, rfl, ho1⟩ := ht1 HM.out HIN.out; have HB1 : Hid (Below w.heap.size w w1) := hb1; have HI1 : Hid (IntsAt w1 v1 (joinL nx fun a => (a : Int) ∈ l)) := ho1; clear ht1 ho1 hb1))
            | (go_at_call 14; go_loud (refine Calls.mono (by exact HR1.out _ HB1.out) ?_; rintro e w2 ⟨ht2, _, _, hb2⟩; obtain ⟨v2, rfl, ho2⟩ := ht2 HM.out HIN.out; have HB2 : Hid (Below w.heap.size w w2) := below_trans HB1.out hb2; have HI2 : Hid (IntsAt w2 v2 (joinL nx fun a => (a : Int) ∈ l)) := OwnI.at' ho2 HL1.out; have HJ1 : Hid (IntsAt w2 v1 (joinL nx fun a => (a : Int) ∈ l)) := HI1.out.below hb2; clear ht2 ho2 hb2))
            | (go_at_call 15; go_loud (refine Calls.mono (by exact HS.out _ _ _ _ HJ1.out HI2.out) ?_; rintro e w3 ⟨rfl, hd3⟩; have HB3 : Hid (Below w.heap.size w w3) := below_trans HB2.out (below_of_drew hd3); clear hd3))
            | (go_at_call 9; go_loud (refine Calls.mono (by exact HA.out _) ?_; rintro e w4 ⟨rfl, hb4⟩; have HB4 : Hid (Below w.heap.size w w4) := below_trans HB3.out hb4; clear hb4)))
          go_ret
          exact ⟨rfl, HB4.out⟩
        · have HM : Hid (May nx) := hM
          have HIN : Hid (¬ AllIn nx.length l) := hI
          clear hM hI
          go_enter Try.func4, Try.ntmps4
          go_wp2_with (first
            | (go_at_call 8; go_loud (refine Calls.mono (by exact HG.out) ?_; rintro e w0 ⟨rfl, hw0⟩; have hw1 := hw0.symm; subst hw1))
            | (go_at_call 13; go_loud (refine Calls.mono (by exact HT1.out _ (Below.refl _ _)) ?_; rintro e w1 ⟨_, ht1, _, hb1⟩; have he1 := ht1 HM.out HIN.out; subst he1; have HB1 : Hid (Below w.heap.size w w1) := hb1; clear ht1 hb1))
            | (go_at_call 14; go_loud (refine Calls.mono (by exact HR1.out _ HB1.out) ?_; rintro e w2 ⟨_, ht2, _, hb2⟩; have he2 := ht2 HM.out HIN.out; subst he2; have HB2 : Hid (Below w.heap.size w w2) := below_trans HB1.out hb2; clear ht2 hb2))
            | (go_at_call 15; go_loud (refine Calls.mono (by exact HS.out [] _ _ _ (HE.out _) (HE.out _)) ?_; rintro e w3 ⟨rfl, hd3⟩; have HB3 : Hid (Below w.heap.size w w3) := below_trans HB2.out (below_of_drew hd3); clear hd3))
            | (go_at_call 9; go_loud (refine Calls.mono (by exact HA.out _) ?_; rintro e w4 ⟨rfl, hb4⟩; have HB4 : Hid (Below w.heap.size w w4) := below_trans HB3.out hb4; clear hb4)))
          go_ret
          exact ⟨rfl, HB4.out⟩
      · have HM : Hid (¬ May nx) := hM
        clear hM
        go_enter Try.func4, Try.ntmps4
        go_wp2_with (first
          | (go_at_call 8; go_loud (refine Calls.mono (by exact HG.out) ?_; rintro e w0 ⟨rfl, hw0⟩; have hw1 := hw0.symm; subst hw1))
          | (go_at_call 13; go_loud (refine Calls.mono (by exact HT1.out _ (Below.refl _ _)) ?_; rintro e w1 ⟨_, _, ht1, hb1⟩; have he1 := ht1 HM.out; subst he1; have HB1 : Hid (Below w.heap.size w w1) := hb1; clear ht1 hb1))
          | (go_at_call 14; go_loud (refine Calls.mono (by exact HR1.out _ HB1.out) ?_; rintro e w2 ⟨_, _, ht2, hb2⟩; have he2 := ht2 HM.out; subst he2; have HB2 : Hid (Below w.heap.size w w2) := below_trans HB1.out hb2; clear ht2 hb2))
          | (go_at_call 15; go_loud (refine Calls.mono (by exact HS.out [] _ _ _ (HE.out _) (HE.out _)) ?_; rintro e w3 ⟨rfl, hd3⟩; have HB3 : Hid (Below w.heap.size w w3) := below_trans HB2.out (below_of_drew hd3); clear hd3))
          | (go_at_call 9; go_loud (refine Calls.mono (by exact HA.out _) ?_; rintro e w4 ⟨rfl, hb4⟩; have HB4 : Hid (Below w.heap.size w w4) := below_trans HB3.out hb4; clear hb4)))
        go_ret
        exact ⟨rfl, HB4.out⟩
    · have h6' : (600 : Int) < ln := by omega
      clear hb HTT HRT HTL
      go_enter Try.func4, Try.ntmps4
      go_wp2_with (first | (go_at_call 8; go_loud (refine Calls.mono (by exact HG.out) ?_; rintro e w0 ⟨rfl, hw0⟩; have hw1 := hw0.symm; subst hw1)) | (go_at_call 9; go_loud (refine Calls.mono (by exact HA.out _) ?_; rintro e w4 ⟨rfl, hb4⟩; have HB4 : Hid _ := hb4; clear hb4)))
      go_ret
      exact ⟨rfl, HB4.out⟩
  · rw [hb] at HG
    clear hb HTT HRT HTL
    go_enter Try.func4, Try.ntmps4
    go_wp2_with (first | (go_at_call 8; go_loud (refine Calls.mono (by exact HG.out) ?_; rintro e w0 ⟨rfl, hw0⟩; have hw1 := hw0.symm; subst hw1)) | (go_at_call 9; go_loud (refine Calls.mono (by exact HA.out _) ?_; rintro e w4 ⟨rfl, hb4⟩; have HB4 : Hid _ := hb4; clear hb4)))
    go_ret
    exact ⟨rfl, HB4.out⟩
end Go.Proofs.Ytbbfnladoaimpaa
