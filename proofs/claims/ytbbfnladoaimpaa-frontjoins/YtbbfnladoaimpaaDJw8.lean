/- The program's Joins, whole. -/
import Derived.Test.YtbbfnladoaimpaaDJw7
namespace Go.Proofs.Ytbbfnladoaimpaa
open Go.RowKit

set_option maxRecDepth 100000 in
set_option maxHeartbeats 1000000 in
theorem joins_no (nx : List (List Int)) (l : List Int) (v lv : Value) (w : World) (hN : NetAt w v nx) (hL : IntsAt w lv l) (hmay : ¬ May nx) (hb1 : nx.length ≤ 2000000) (hb2 : ∀ r ∈ nx, r.length ≤ 2000000) :
    Calls Try.prog 13 #[v, lv] w fun e w' => e = .returned (.tuple #[.slice none 0 0, .int .i64 4]) ∧ Below w.heap.size w w' := by
  obtain ⟨a, c, rfl, hll⟩ := hN.form
  obtain ⟨la, lc, rfl, _⟩ := hL.form
  obtain ⟨wa, hwa⟩ : ∃ wa, wa = w.alloc (.cells #[.slice a nx.length c] 22) := ⟨_, rfl⟩
  have hBa : Below w.heap.size w wa := by rw [hwa]; exact below_alloc (Below.refl _ _) _
  have HT : Hid _ := (tree_ok hb1 hb2) _ wa (hN.below hBa)
  have HB : Hid _ := hBa
  have HM : Hid _ := hmay
  clear hN hL hmay hb2 hBa
  go_enter Try.func13, Try.ntmps13
  go_wp2_with (go_at_call 17; go_loud (rw [← hwa]; refine Calls.mono (by exact HT.out) ?_; rintro e w1 ⟨_, ht, hb1w⟩; have he := ht HM.out; subst he; have HB1 : Hid (Below wa.heap.size wa w1) := hb1w; clear ht hb1w))
  go_ret2
  exact ⟨rfl, below_trans HB.out HB1.out⟩
set_option maxRecDepth 100000 in
set_option maxHeartbeats 1000000 in
theorem joins_arg (nx : List (List Int)) (l : List Int) (v lv : Value) (w : World) (hN : NetAt w v nx) (hL : IntsAt w lv l) (hmay : May nx) (hA : ¬ AllIn nx.length l) (hb1 : nx.length ≤ 2000000) (hb2 : ∀ r ∈ nx, r.length ≤ 2000000) :
    Calls Try.prog 13 #[v, lv] w fun e w' => e = .returned (.tuple #[.slice none 0 0, .int .i64 2]) ∧ Below w.heap.size w w' := by
  obtain ⟨a, c, rfl, hll⟩ := hN.form
  obtain ⟨la, lc, hlv, _⟩ := hL.form
  obtain ⟨wa, hwa⟩ : ∃ wa, wa = w.alloc (.cells #[.slice a nx.length c] 22) := ⟨_, rfl⟩
  have hBa : Below w.heap.size w wa := by rw [hwa]; exact below_alloc (Below.refl _ _) _
  have hsa : w.heap.size < wa.heap.size := by rw [hwa]; simp
  have hca : wa.cell? ⟨w.heap.size, 0, none⟩ = some (.slice a nx.length c) := by
    rw [hwa]
    exact (Box.new w [.slice a nx.length c] 22).cell 0 _ rfl
  have HT : Hid _ := (tree_ok hb1 hb2) _ wa (hN.below hBa)
  have HC : Hid (∀ w1, Below wa.heap.size wa w1 → Calls Try.prog 31 #[lv, .func (.func 30) #[] #[ptr w.heap.size]] w1 fun e w' => e = .returned (.bool true) ∧ w' = w1) := fun w1 hb => by
    have h9 := contains_any nx.length w.heap.size a c l lv w1 ((hb.cell (p := ⟨w.heap.size, 0, none⟩) hsa).trans hca) ((hL.below hBa).below hb)
    rw [dec_false hA] at h9
    exact h9
  have HB : Hid _ := hBa
  have HM : Hid _ := hmay
  subst hlv
  clear hN hL hmay hb2 hBa hca hA
  go_enter Try.func13, Try.ntmps13
  go_wp2_with (first
    | (go_at_call 17; go_loud (rw [← hwa]; refine Calls.mono (by exact HT.out) ?_; rintro e w1 ⟨ht, _, hb1w⟩; obtain ⟨tv, rfl, ho⟩ := ht HM.out; obtain ⟨ta, tc, htv⟩ := own_slice ho; subst htv; have HB1 : Hid (Below wa.heap.size wa w1) := hb1w; clear ht ho hb1w))
    | (go_at_call 31; go_loud (refine Calls.mono (by exact HC.out w1 HB1.out) ?_; rintro e w2 ⟨rfl, rfl⟩)))
  go_ret2
  exact ⟨rfl, below_trans HB.out HB1.out⟩
set_option maxRecDepth 100000 in
set_option maxHeartbeats 1000000 in
theorem joins_yes (nx : List (List Int)) (l : List Int) (v lv : Value) (w : World) (hN : NetAt w v nx) (hL : IntsAt w lv l) (hmay : May nx) (hA : AllIn nx.length l) (hb1 : nx.length ≤ 2000000) (hb2 : ∀ r ∈ nx, r.length ≤ 2000000) :
    Calls Try.prog 13 #[v, lv] w fun e w' => (∃ v', e = .returned (.tuple #[v', .int .i64 0]) ∧ IntsAt w' v' (joinL nx fun a => (a : Int) ∈ l)) ∧ Below w.heap.size w w' := by
  obtain ⟨a, c, rfl, hll⟩ := hN.form
  obtain ⟨la, lc, hlv, _⟩ := hL.form
  obtain ⟨wa, hwa⟩ : ∃ wa, wa = w.alloc (.cells #[.slice a nx.length c] 22) := ⟨_, rfl⟩
  have hBa : Below w.heap.size w wa := by rw [hwa]; exact below_alloc (Below.refl _ _) _
  have hsa : w.heap.size < wa.heap.size := by rw [hwa]; simp
  have hca : wa.cell? ⟨w.heap.size, 0, none⟩ = some (.slice a nx.length c) := by
    rw [hwa]
    exact (Box.new w [.slice a nx.length c] 22).cell 0 _ rfl
  have HT : Hid _ := (tree_ok hb1 hb2) _ wa (hN.below hBa)
  have HC : Hid (∀ w1, Below wa.heap.size wa w1 → Calls Try.prog 31 #[lv, .func (.func 30) #[] #[ptr w.heap.size]] w1 fun e w' => e = .returned (.bool false) ∧ w' = w1) := fun w1 hb => by
    have h9 := contains_any nx.length w.heap.size a c l lv w1 ((hb.cell (p := ⟨w.heap.size, 0, none⟩) hsa).trans hca) ((hL.below hBa).below hb)
    rw [dec_true hA] at h9
    exact h9
  have HCC : Hid (∀ w1, Below wa.heap.size wa w1 → w1.cell? ⟨w.heap.size, 0, none⟩ = some (.slice a nx.length c)) := fun w1 hb => (hb.cell (p := ⟨w.heap.size, 0, none⟩) hsa).trans hca
  have HJ : Hid (∀ w1 tv, Below wa.heap.size wa w1 → IntsAt w1 tv (treeL nx) → _) := fun w1 tv hb hT => joined_any nx hmay hb1 hb2 l hA (.slice a nx.length c) tv lv w1 ((hN.below hBa).below hb) hT ((hL.below hBa).below hb)
  have HTL : Hid ((treeL nx).length ≤ 140737488355328) := by show _ ≤ _; rw [treeL_len]; omega
  have HB : Hid _ := hBa
  have HM : Hid _ := hmay
  subst hlv
  clear hN hL hmay hb2 hBa hca hA
  go_enter Try.func13, Try.ntmps13
  go_wp2_with (first
    | (go_at_call 17; go_loud (rw [← hwa]; refine Calls.mono (by exact HT.out) ?_; rintro e w1 ⟨ht, _, hb1w⟩; obtain ⟨tv, rfl, ho⟩ := ht HM.out; obtain ⟨ta, tc, htv⟩ := own_slice ho; subst htv; have HI1 : Hid _ := OwnI.at' ho HTL.out; have HB1 : Hid (Below wa.heap.size wa w1) := hb1w; have c1 := HCC.out w1 hb1w; clear ht ho hb1w))
    | (go_at_call 31; go_loud (refine Calls.mono (by exact HC.out w1 HB1.out) ?_; rintro e w2 ⟨rfl, hw2⟩; have hw3 := hw2.symm; subst hw3; clear hw2))
    | (go_at_call 32; go_loud (refine Calls.mono (by exact HJ.out w1 _ HB1.out HI1.out) ?_; rintro e w3 ⟨v3, rfl, hv3, hb3⟩; have HV3 : Hid _ := hv3; have HB3 : Hid (Below w1.heap.size w1 w3) := hb3; clear hv3 hb3)))
  go_ret2
  exact ⟨⟨_, rfl, HV3.out⟩, below_trans (below_trans HB.out HB1.out) HB3.out⟩
theorem joins_ok {nx : List (List Int)} {l : List Int} (hb1 : nx.length ≤ 2000000) (hb2 : ∀ r ∈ nx, r.length ≤ 2000000) : JoinsOk nx l := fun v lv w hN hL => by
  by_cases hm : May nx
  · by_cases hA : AllIn nx.length l
    · exact (joins_yes nx l v lv w hN hL hm hA hb1 hb2).mono fun e w' hh => ⟨fun _ _ => hh.1, fun _ h => absurd hA h, fun h => absurd hm h, hh.2⟩
    · exact (joins_arg nx l v lv w hN hL hm hA hb1 hb2).mono fun e w' hh => ⟨fun _ h => absurd h hA, fun _ _ => hh.1, fun h => absurd hm h, hh.2⟩
  · exact (joins_no nx l v lv w hN hL hm hb1 hb2).mono fun e w' hh => ⟨fun h => absurd h hm, fun h => absurd h hm, fun _ => hh.1, hh.2⟩
end Go.Proofs.Ytbbfnladoaimpaa
