/- A flow with nothing in it (live.newFlow). -/
import Derived.Test.YtcggbedjhglmmaaDoorLTell
import Derived.Test.YtcggbedjhglmmaaDoorLRegM
namespace Go.Proofs.YtcggbedjhglmmaaDoor
open Go.RowKit

theorem infoU64 : (Tryd.prog.info? 44).map (fun i => (i.zero, i.size, i.bytes)) = some (some (.int .u64 0), 1, 8) := by kernel_rfl
theorem make_words (n : Nat) (hn : n ≤ 1000000) (W : World) : (Instr.makeSlice 67 (.int .i64 (n : Int)) (.int .i64 (n : Int))).run Tryd.prog W = .ok (rowN W.heap.size n) (W.alloc (.cells (madeCells #[.int .u64 0] n) 44)) := by
  obtain ⟨i, hi, hz, hs, hb⟩ := info_parts infoU64
  have hr := run_make (P := Tryd.prog) W 67 44 i _ Tryd.underlying67 hi hz .i64 .i64 n n (by omega) (Int.le_refl _) (by rw [hb]; omega) (by omega)
  simp only [Int.toNat_natCast, hs, Nat.mul_one] at hr
  exact hr
abbrev wZ (W : World) (n : Nat) : World := W.alloc (.cells (madeCells #[.int .u64 0] n) 44)
set_option maxRecDepth 100000 in
theorem newrow_any (W : World) (B n c : Nat) (a : Option Addr) (hn : n ≤ 1000000) (hc : W.cell? ⟨B, 0, none⟩ = some (.slice a n c)) :
    Calls Tryd.prog 22 #[ptr B] W fun e w' => e = .returned (rowN W.heap.size n) ∧ w' = wZ W n := by
  have hm := make_words n hn W
  go_enter Tryd.func22, Tryd.ntmps22
  go_wp2
  go_ret
  exact ⟨rfl, rfl⟩
set_option maxRecDepth 100000 in
set_option maxHeartbeats 4000000 in
theorem newflow_any (w : World) (n c : Nat) (a : Option Addr) (hn : n ≤ 1000000) :
    Calls Tryd.prog 11 #[.slice a n c] w fun e w' => ∃ W, Below w.heap.size w W ∧ e = .returned (ptr (W.heap.size + 4)) ∧ w'.heap = ((wZ (wZ (wZ (wZ W n) n) n) n).alloc (.cells #[.slice a n c, rowN W.heap.size n, rowN (W.heap.size + 1) n, rowN (W.heap.size + 2) n, rowN (W.heap.size + 3) n, .slice none 0 0, .slice none 0 0] 70)).heap ∧ Below w.heap.size w w' := by
  have HC : Hid (∀ W, Below (w.alloc (.cells #[.slice a n c] 37)).heap.size (w.alloc (.cells #[.slice a n c] 37)) W → Calls Tryd.prog 22 #[ptr w.heap.size] W fun e w' => e = .returned (rowN W.heap.size n) ∧ w' = wZ W n) := fun W hW => newrow_any W w.heap.size n c a hn (((Box.new w [.slice a n c] 37).below hW).cell 0 _ rfl)
  clear hn
  go_enter Tryd.func11, Tryd.ntmps11
  go_wp2
  have k3 : (w.alloc (.cells #[.slice a n c] 37)).drew.cell? ⟨w.heap.size, 0, none⟩ = some (.slice a n c) := (Box.new w [.slice a n c] 37).cell 0 _ rfl
  refine wp_region_late (fun w' => w'.cell? ⟨w.heap.size, 0, none⟩ = some (.slice a n c)) (fun _ => false) (by kernel_rfl) k3 (fun hHeld => ?_)
  refine wpAnyL_take 0 (v := ?_) rfl (by kernel_rfl) (by kernel_rfl) (by kernel_rfl) (by kernel_rfl) (fun _ _ _ h => h) hHeld (Or.inl ⟨by rfl, ?_⟩) ?_
  rotate_left 1
  · (intro w hSw; (try dsimp only at hSw); first | (go_simp; done) | (go_simp; with_reducible rfl))
  simp only [Act.put, List.setIfInBounds_toArray]
  refine wpAnyL_take 1 (v := ?_) rfl (by kernel_rfl) (by kernel_rfl) (by kernel_rfl) (by kernel_rfl) (fun _ _ _ h => h) hHeld (Or.inl ⟨by rfl, ?_⟩) ?_
  rotate_left 1
  · (intro w hSw; (try dsimp only at hSw); first | (go_simp; done) | (go_simp; with_reducible rfl))
  simp only [Act.put]
  refine wpAnyL_take 3 (v := ?_) rfl (by kernel_rfl) (by kernel_rfl) (by kernel_rfl) (by kernel_rfl) (fun _ _ _ h => h) hHeld (Or.inl ⟨by rfl, ?_⟩) ?_
  rotate_left 1
  · (intro w hSw; (try dsimp only at hSw); first | (go_simp; done) | (go_simp; with_reducible rfl))
  simp only [Act.put]
  refine wpAnyL_take 5 (v := ?_) rfl (by kernel_rfl) (by kernel_rfl) (by kernel_rfl) (by kernel_rfl) (fun _ _ _ h => h) hHeld (Or.inl ⟨by rfl, ?_⟩) ?_
  rotate_left 1
  · (intro w hSw; (try dsimp only at hSw); first | (go_simp; done) | (go_simp; with_reducible rfl))
  simp only [Act.put]
  refine wpAnyL_take 7 (v := ?_) rfl (by kernel_rfl) (by kernel_rfl) (by kernel_rfl) (by kernel_rfl) (fun _ _ _ h => h) hHeld (Or.inl ⟨by rfl, ?_⟩) ?_
  rotate_left 1
  · (intro w hSw; (try dsimp only at hSw); first | (go_simp; done) | (go_simp; with_reducible rfl))
  simp only [Act.put]
  have HC2 : Hid (∀ W', Below (w.alloc (.cells #[.slice a n c] 37)).drew.heap.size (w.alloc (.cells #[.slice a n c] 37)).drew W' → Calls Tryd.prog 22 #[ptr w.heap.size] W' fun e w' => e = .returned (rowN W'.heap.size n) ∧ w' = wZ W' n) := fun W' hW' => HC.out W' (below_trans (below_drew (Below.refl _ _)) hW')
  have hBW : Below w.heap.size w (w.alloc (.cells #[.slice a n c] 37)).drew := below_drew (below_alloc (Below.refl _ _) _)
  have hlt : w.heap.size < (w.alloc (.cells #[.slice a n c] 37)).drew.heap.size := by show w.heap.size < (w.alloc (.cells #[.slice a n c] 37)).heap.size; simp
  clear HC hHeld
  generalize (w.alloc (.cells #[.slice a n c] 37)).drew = W at *
  have HK : Hid (∀ W', Below W.heap.size W W' → W'.cell? ⟨w.heap.size, 0, none⟩ = some (.slice a n c)) := fun W' hW' => (hW'.cell (p := ⟨w.heap.size, 0, none⟩) hlt).trans k3
  have HBW : Hid _ := hBW
  have hb1 : Below W.heap.size W (wZ W n) := below_alloc (Below.refl _ _) _
  have hb2 : Below W.heap.size W (wZ (wZ W n) n) := below_alloc hb1 _
  have hb3 : Below W.heap.size W (wZ (wZ (wZ W n) n) n) := below_alloc hb2 _
  have hb4 : Below W.heap.size W (wZ (wZ (wZ (wZ W n) n) n) n) := below_alloc hb3 _
  have HB : Hid (Below W.heap.size W (wZ W n) ∧ Below W.heap.size W (wZ (wZ W n) n) ∧ Below W.heap.size W (wZ (wZ (wZ W n) n) n) ∧ Below W.heap.size W (wZ (wZ (wZ (wZ W n) n) n) n)) := ⟨hb1, hb2, hb3, hb4⟩
  have hs1 : (wZ W n).heap.size = W.heap.size + 1 := by simp
  have hs2 : (wZ (wZ W n) n).heap.size = W.heap.size + 2 := by simp
  have hs3 : (wZ (wZ (wZ W n) n) n).heap.size = W.heap.size + 3 := by simp
  have hs4 : (wZ (wZ (wZ (wZ W n) n) n) n).heap.size = W.heap.size + 4 := by simp
  have HC3 : Hid ((Calls Tryd.prog 22 #[ptr w.heap.size] W fun e w' => e = .returned (rowN W.heap.size n) ∧ w' = wZ W n) ∧ (Calls Tryd.prog 22 #[ptr w.heap.size] (wZ W n) fun e w' => e = .returned (rowN (W.heap.size + 1) n) ∧ w' = wZ (wZ W n) n) ∧ (Calls Tryd.prog 22 #[ptr w.heap.size] (wZ (wZ W n) n) fun e w' => e = .returned (rowN (W.heap.size + 2) n) ∧ w' = wZ (wZ (wZ W n) n) n) ∧ (Calls Tryd.prog 22 #[ptr w.heap.size] (wZ (wZ (wZ W n) n) n) fun e w' => e = .returned (rowN (W.heap.size + 3) n) ∧ w' = wZ (wZ (wZ (wZ W n) n) n) n)) := by
    refine ⟨HC2.out W (Below.refl _ _), ?_, ?_, ?_⟩
    · have := HC2.out _ hb1; rw [hs1] at this; exact this
    · have := HC2.out _ hb2; rw [hs2] at this; exact this
    · have := HC2.out _ hb3; rw [hs3] at this; exact this
  unfold rowN at HC3
  clear HC2 hb1 hb2 hb3 hb4 hs1 hs2 hs3 k3 hBW
  obtain ⟨W1, hW1⟩ : ∃ W1, W1 = wZ W n := ⟨_, rfl⟩
  rw [← hW1] at HC3 HB hs4
  obtain ⟨W2, hW2⟩ : ∃ W2, W2 = wZ W1 n := ⟨_, rfl⟩
  rw [← hW2] at HC3 HB hs4
  obtain ⟨W3, hW3⟩ : ∃ W3, W3 = wZ W2 n := ⟨_, rfl⟩
  rw [← hW3] at HC3 HB hs4
  obtain ⟨W4, hW4⟩ : ∃ W4, W4 = wZ W3 n := ⟨_, rfl⟩
  rw [← hW4] at HC3 HB hs4
  have HE : Hid (W4 = wZ (wZ (wZ (wZ W n) n) n) n) := by show _ = _; rw [hW4, hW3, hW2, hW1]
  have HS4 : Hid _ := hs4
  clear hW1 hW2 hW3 hW4 hs4
  refine wpAnyL_one 2 (by kernel_rfl) rfl (fun K hK0 => ?_)
  have hK : Shut _ := hK0
  clear hK0
  go_simp
  refine Calls.mono (by exact HC3.out.1) ?_
  rintro e w2 ⟨rfl, rfl⟩
  dsimp only
  refine hK.out _ _ (fun _ => HK.out _ HB.out.1) ?_
  clear hK K
  refine wpAnyL_one 4 (by kernel_rfl) rfl (fun K hK0 => ?_)
  have hK : Shut _ := hK0
  clear hK0
  go_simp
  refine Calls.mono (by exact HC3.out.2.1) ?_
  rintro e w2 ⟨rfl, rfl⟩
  dsimp only
  refine hK.out _ _ (fun _ => HK.out _ HB.out.2.1) ?_
  clear hK K
  refine wpAnyL_one 6 (by kernel_rfl) rfl (fun K hK0 => ?_)
  have hK : Shut _ := hK0
  clear hK0
  go_simp
  refine Calls.mono (by exact HC3.out.2.2.1) ?_
  rintro e w2 ⟨rfl, rfl⟩
  dsimp only
  refine hK.out _ _ (fun _ => HK.out _ HB.out.2.2.1) ?_
  clear hK K
  refine wpAnyL_one 8 (by kernel_rfl) rfl (fun K hK0 => ?_)
  have hK : Shut _ := hK0
  clear hK0
  go_simp
  refine Calls.mono (by exact HC3.out.2.2.2) ?_
  rintro e w2 ⟨rfl, rfl⟩
  dsimp only
  refine hK.out _ _ (fun _ => HK.out _ HB.out.2.2.2) ?_
  clear hK K
  refine wpAnyL_one 9 (by kernel_rfl) rfl (fun K hK0 => ?_)
  have hK : Shut _ := hK0
  clear hK0
  go_simp
  refine hK.out _ _ (fun _ => HK.out _ HB.out.2.2.2) ?_
  clear hK K
  refine wpAnyL_one 10 (by kernel_rfl) rfl (fun K hK0 => ?_)
  have hK : Shut _ := hK0
  clear hK0
  go_simp
  refine hK.out _ _ (fun _ => HK.out _ (below_alloc HB.out.2.2.2 _)) ?_
  clear hK K
  refine wpAnyL_one 11 (by kernel_rfl) rfl (fun K hK0 => ?_)
  have hK : Shut _ := hK0
  clear hK0
  go_simp
  refine hK.out _ _ (fun _ => HK.out _ (below_alloc HB.out.2.2.2 _)) ?_
  clear hK K
  refine wpAnyL_done (by kernel_rfl) ?_
  go_wp2
  go_ret
  refine ⟨W, HBW.out, ?_, ?_, below_alloc (below_trans HBW.out HB.out.2.2.2) _⟩
  · first | rfl | (rw [HS4.out]; rfl)
  · rw [HE.out]; rfl
end Go.Proofs.YtcggbedjhglmmaaDoor
