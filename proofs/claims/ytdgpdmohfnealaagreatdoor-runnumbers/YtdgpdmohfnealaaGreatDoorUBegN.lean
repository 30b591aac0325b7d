/- A graph is called for the first time: the walk. -/
import Derived.Test.YtdgpdmohfnealaaGreatDoorULateM
namespace Go.Proofs.YtdgpdmohfnealaaGreatDoor
open Go.RowKit

/-- One of two may come up. -/
theorem wpAnyL_two {P : Program} {ops : Array Oper} {Q : Exit → Act → World → Prop} {S : World → Prop} {late : Nat → Bool} {n : Nat} {l : Array Bool} {a : Act} {w : World} (i j : Nat) {o o2 : Oper} (hr : Region.ready .any ops l = [i, j]) (ho : ops[i]? = some o) (ho2 : ops[j]? = some o2)
    (h : ∀ K : Act → World → Prop, (∀ a w, (late i = false → S w) → wpAnyL P ops Q S late n (l.setIfInBounds i true) a w → K a w) → if Region.wanted o (yielded ops a.tmps) = true then Oper.wp P o a w K Q else K (a.put o.dst undef) w)
    (h2 : ∀ K : Act → World → Prop, (∀ a w, (late j = false → S w) → wpAnyL P ops Q S late n (l.setIfInBounds j true) a w → K a w) → if Region.wanted o2 (yielded ops a.tmps) = true then Oper.wp P o2 a w K Q else K (a.put o2.dst undef) w) : wpAnyL P ops Q S late (n + 1) l a w := by
  refine ⟨fun h0 => (by rw [hr] at h0; cases h0), fun k hk => ?_⟩
  rw [hr] at hk
  simp at hk
  rcases hk with rfl | rfl
  · exact wpOp_step ho (fun K hK => h K fun a w h1 h2 => hK a w ⟨h1, h2⟩)
  · exact wpOp_step ho2 (fun K hK => h2 K fun a w h1 h2 => hK a w ⟨h1, h2⟩)

theorem make_news (n : Nat) (hn : n ≤ 2000000) (W : World) : (Instr.makeSlice 34 (.int .i64 (n : Int)) (.int .i64 (n : Int))).run Tryz.prog W = .ok (newV W.heap.size n) (W.alloc (.cells (madeCells #[.int .i64 0] n) 3)) := by
  obtain ⟨i0, hi0, hz0, hz1, hz2⟩ := info_parts infoI
  have hr := run_make (P := Tryz.prog) W 34 3 i0 (.int .i64 0) Tryz.underlying34 hi0 hz0 .i64 .i64 n n (by omega) (Int.le_refl _) (by rw [hz2]; omega) (by omega)
  simp only [Int.toNat_natCast, hz1, Nat.mul_one] at hr
  exact hr
set_option maxRecDepth 100000 in
set_option maxHeartbeats 8000000 in
theorem begin_new_walk {bs B C f n qc pg po pl cn cc dep kl kc rl rc ac pn pc vn vc an ac2 bn bc ba bo : Nat} {fl : List Value} {ca ka ra aa pa va aa2 : Option Addr} {nm : ByteArray} {rs : Int} {b : Bool} {w : World} {Aq : World → Nat → World → Prop} {Q0 Q1 : World → Prop} {R : Nat → World → Prop} {Q : World → Prop}
    (b0 : w.cell? ⟨B, 0, none⟩ = some (.slice (some ⟨pg, po, none⟩) n qc)) (b2 : w.cell? ⟨B, 2, none⟩ = some (.int .i64 (dep : Int))) (b3 : w.cell? ⟨B, 3, none⟩ = some (.slice (some ⟨C, 0, none⟩) pl pl)) (b4 : w.cell? ⟨B, 4, none⟩ = some (.slice ca cn cc)) (hd : (cn : Int) < dep) (hf : (f : Int) < n) (hfp : (f : Int) < pl)
    (k1 : w.cell? ⟨C, f * 2 + 1, none⟩ = some (.slice none 0 0))
    (hpg : pg < w.heap.size) (hC : C < w.heap.size) (hB : B < w.heap.size) (hBC : ¬ B = C) (hpC : ¬ pg = C)
    (g0 : w.cell? ⟨pg, po + f * 6, none⟩ = some (.string nm)) (g1 : w.cell? ⟨pg, po + f * 6 + 1, none⟩ = some (.slice pa pn pc)) (g2 : w.cell? ⟨pg, po + f * 6 + 2, none⟩ = some (.int .u8 rs)) (g3 : w.cell? ⟨pg, po + f * 6 + 3, none⟩ = some (.slice va vn vc)) (g4 : w.cell? ⟨pg, po + f * 6 + 4, none⟩ = some (.slice aa2 an ac2)) (g5 : w.cell? ⟨pg, po + f * 6 + 5, none⟩ = some (.slice (some ⟨ba, bo, none⟩) bn bc))
    (hvn : (vn : Int) ≤ 1000000) (han : (an : Int) ≤ 1000000)
    (HAh : Hid (∀ W, Below w.heap.size w W → Calls Tryz.prog 30 #[.agg #[.string nm, .slice pa pn pc, .int .u8 rs, .slice va vn vc, .slice aa2 an ac2, .slice (some ⟨ba, bo, none⟩) bn bc]] W fun e w' => ∃ a, e = .returned (newV a bn) ∧ Below W.heap.size W w' ∧ Aq W a w'))
    (HX1 : Hid (∀ W w1 a, Below w.heap.size w W → Below W.heap.size W w1 → Aq W a w1 → Q0 (((w1.alloc (.cells (madeCells #[.int .i64 0] (vn + an)) 3)).setCell ⟨C, f * 2, none⟩ (newV a bn)).setCell ⟨C, f * 2 + 1, none⟩ (newV w1.heap.size (vn + an)))))
    (HX2 : Hid (∀ W w1 a, Below w.heap.size w W → Below (W.alloc (.cells (madeCells #[.int .i64 0] (vn + an)) 3)).heap.size (W.alloc (.cells (madeCells #[.int .i64 0] (vn + an)) 3)) w1 → Aq (W.alloc (.cells (madeCells #[.int .i64 0] (vn + an)) 3)) a w1 → Q0 ((w1.setCell ⟨C, f * 2, none⟩ (newV a bn)).setCell ⟨C, f * 2 + 1, none⟩ (newV W.heap.size (vn + an)))))
    (HZ : Hid (∀ w5, Q0 w5 → w5.cell? ⟨B, 0, none⟩ = some (.slice (some ⟨pg, po, none⟩) n qc) ∧ w5.cell? ⟨B, 4, none⟩ = some (.slice ca cn cc) ∧ w5.cell? ⟨B, 5, none⟩ = some (.slice ka kl kc) ∧ w5.cell? ⟨B, 6, none⟩ = some (.slice ra rl rc) ∧
      (∀ k ob, ((w5.drewN k).alloc ob).cell? ⟨B, 4, none⟩ = some (.slice ca cn cc)) ∧ (∀ k, (w5.drewN k).ownsRow bs 76 5 (.slice ca cn cc) cn fl) ∧ bs ≤ w5.heap.size ∧
      (∀ k ob w2 cv', w2.ownsRow bs 76 5 cv' (cn + 1) (fl ++ [.int .i64 (f : Int), .int .i64 0, .int .i64 0, .int .i64 (kl : Int), .int .i64 (rl : Int)]) → ((w5.drewN k).alloc ob).grownBy w2 (Value.slice ca cn cc).ownBlock → (cv'.ownBlock = (Value.slice ca cn cc).ownBlock ∨ cv'.ownBlock = some ((w5.drewN k).alloc ob).heap.size) → w2.cell? ⟨B, 4, none⟩ = some (.slice ca cn cc) ∧ w2.frozen? ⟨B, 4, none⟩ = false ∧ Q1 (w2.setCell ⟨B, 4, none⟩ cv'))))
    (fzC : w.frozen? ⟨C, f * 2, none⟩ = false ∧ w.frozen? ⟨C, f * 2 + 1, none⟩ = false)
    (k0 : w.cell? ⟨C, f * 2, none⟩ = some (.slice none 0 0))
    (hcn : Hid (cn ≤ 1000000000))
    (H1 : Hid (∀ w1, Q1 w1 → ∃ (c1 : Option Addr) (cc1 dp : Nat), w1.cell? ⟨B, 4, none⟩ = some (.slice c1 (cn + 1) cc1) ∧ w1.cell? ⟨B, 13, none⟩ = some (.int .i64 (dp : Int)) ∧ w1.frozen? ⟨B, 13, none⟩ = false ∧ ∀ k, R 0 ((w1.drewN k).setCell ⟨B, 13, none⟩ (.int .i64 (max (dp : Int) ((cn : Int) + 1)))) ∧ ((w1.drewN k).setCell ⟨B, 13, none⟩ (.int .i64 (max (dp : Int) ((cn : Int) + 1)))).cell? ⟨pg, po + f * 6 + 1, none⟩ = some (.slice pa pn pc)))
    (hpb : (pn : Int) ≤ 1000000000)
    (HR : Hid (∀ i wq, i < pn → R i wq → ∃ (pgg poo v ag ao : Nat) (x : Int), pa = some ⟨pgg, poo, none⟩ ∧ aa = some ⟨ag, ao, none⟩ ∧ wq.cell? ⟨pgg, poo + i, none⟩ = some (.int .i64 (v : Int)) ∧ wq.cell? ⟨ag, ao + i, none⟩ = some (.int .u64 x) ∧ ∀ W k, W = wq.drewN k → Calls Tryz.prog 31 #[ptr B, .int .i64 (v : Int), .int .u64 x] W fun e w' => e = .returned (.tuple #[]) ∧ R (i + 1) w'))
    (HE : Hid (∀ wq, R pn wq → ∀ W k, W = wq.drewN k → Calls Tryz.prog 32 #[ptr B] W fun e w' => e = .returned (.bool b) ∧ Q w')) :
    Calls Tryz.prog 16 #[ptr B, .int .i64 (f : Int), .slice aa pn ac] w fun e w' => e = .returned (.bool b) ∧ Q w' := by
  have hnil : ∀ W, (binOp .eql 34 (.slice none 0 0) (.slice none 0 0)).run Tryz.prog W = .ok (.bool true) W := fun W => by
    rw [Lib.run_eql_slice_nil W 34 3 _ _ _ _ _ Tryz.underlying34]
    rfl
  obtain ⟨i0, hi0, hz0, hz1, hz2⟩ := info_parts infoCl
  go_enter Tryz.func16, Tryz.ntmps16
  go_wp2
  go_quiet (fail)
  go_wp2
  go_cut [] (fun wx => Hid (Q0 wx))
  case first =>
    clear HZ H1 HR HE hcn hpb hz1 hz2 hz0 hi0 hnil
    refine wp_region_late (fun w' => w'.cell? ⟨B, 3, none⟩ = some (.slice (some ⟨C, 0, none⟩) pl pl) ∧ w'.cell? ⟨pg, po + f * 6, none⟩ = some (.string nm) ∧ w'.cell? ⟨pg, po + f * 6 + 1, none⟩ = some (.slice pa pn pc) ∧ w'.cell? ⟨pg, po + f * 6 + 2, none⟩ = some (.int .u8 rs) ∧ w'.cell? ⟨pg, po + f * 6 + 3, none⟩ = some (.slice va vn vc) ∧ w'.cell? ⟨pg, po + f * 6 + 4, none⟩ = some (.slice aa2 an ac2) ∧ w'.cell? ⟨pg, po + f * 6 + 5, none⟩ = some (.slice (some ⟨ba, bo, none⟩) bn bc)) (fun _ => false) (by kernel_rfl) (by refine ⟨b3, ?_⟩; exact ⟨g0, g1, g2, g3, g4, g5⟩) (fun hHeld => ?_)
    refine wpAnyL_take 0 (v := ?_) rfl (by kernel_rfl) (by kernel_rfl) (by kernel_rfl) (by kernel_rfl) (fun _ _ _ h => h) hHeld (Or.inl ⟨by kernel_rfl, ?_⟩) ?_
    rotate_left 1
    · (intro w hSw; (try dsimp only at hSw); (try obtain ⟨s0, s1, s2, s3, s4, s5, s6⟩ := hSw); first | (go_simp; done) | (go_simp; with_reducible rfl))
    simp only [Act.put, List.setIfInBounds_toArray]
    refine wpAnyL_take 1 (v := ?_) rfl (by kernel_rfl) (by kernel_rfl) (by kernel_rfl) (by kernel_rfl) (fun _ _ _ h => h) hHeld (Or.inl ⟨by kernel_rfl, ?_⟩) ?_
    rotate_left 1
    · (intro w hSw; (try dsimp only at hSw); (try obtain ⟨s0, s1, s2, s3, s4, s5, s6⟩ := hSw); first | (go_simp; done) | (go_simp; with_reducible rfl))
    simp only [Act.put]
    refine wpAnyL_take 2 (v := ?_) rfl (by kernel_rfl) (by kernel_rfl) (by kernel_rfl) (by kernel_rfl) (fun _ _ _ h => h) hHeld (Or.inl ⟨by kernel_rfl, ?_⟩) ?_
    rotate_left 1
    · (intro w hSw; (try dsimp only at hSw); (try obtain ⟨s0, s1, s2, s3, s4, s5, s6⟩ := hSw); first | (go_simp; done) | (go_simp; with_reducible rfl))
    simp only [Act.put]
    refine wpAnyL_take 3 (v := ?_) rfl (by kernel_rfl) (by kernel_rfl) (by kernel_rfl) (by kernel_rfl) (fun _ _ _ h => h) hHeld (Or.inl ⟨by kernel_rfl, ?_⟩) ?_
    rotate_left 1
    · (intro w hSw; (try dsimp only at hSw); (try obtain ⟨s0, s1, s2, s3, s4, s5, s6⟩ := hSw); first | (go_simp; done) | (go_simp; with_reducible rfl))
    simp only [Act.put]
    refine wpAnyL_take 4 (v := ?_) rfl (by kernel_rfl) (by kernel_rfl) (by kernel_rfl) (by kernel_rfl) (fun _ _ _ h => h) hHeld (Or.inl ⟨by kernel_rfl, ?_⟩) ?_
    rotate_left 1
    · (intro w hSw; (try dsimp only at hSw); (try obtain ⟨s0, s1, s2, s3, s4, s5, s6⟩ := hSw); first | (go_simp; done) | (go_simp; with_reducible rfl))
    simp only [Act.put]
    refine wpAnyL_take 5 (v := ?_) rfl (by kernel_rfl) (by kernel_rfl) (by kernel_rfl) (by kernel_rfl) (fun _ _ _ h => h) hHeld (Or.inl ⟨by kernel_rfl, ?_⟩) ?_
    rotate_left 1
    · (intro w hSw; (try dsimp only at hSw); (try obtain ⟨s0, s1, s2, s3, s4, s5, s6⟩ := hSw); first | (go_simp; done) | (go_simp; with_reducible rfl))
    simp only [Act.put]
    refine wpAnyL_take 6 (v := ?_) rfl (by kernel_rfl) (by kernel_rfl) (by kernel_rfl) (by kernel_rfl) (fun _ _ _ h => h) hHeld (Or.inl ⟨by kernel_rfl, ?_⟩) ?_
    rotate_left 1
    · (intro w hSw; (try dsimp only at hSw); (try obtain ⟨s0, s1, s2, s3, s4, s5, s6⟩ := hSw); first | (go_simp; done) | (go_simp; with_reducible rfl))
    simp only [Act.put]
    refine wpAnyL_take 7 (v := ?_) rfl (by kernel_rfl) (by kernel_rfl) (by kernel_rfl) (by kernel_rfl) (fun _ _ _ h => h) hHeld (Or.inl ⟨by kernel_rfl, ?_⟩) ?_
    rotate_left 1
    · (intro w hSw; (try dsimp only at hSw); (try obtain ⟨s0, s1, s2, s3, s4, s5, s6⟩ := hSw); first | (go_simp; done) | (go_simp; with_reducible rfl))
    simp only [Act.put]
    refine wpAnyL_take 9 (v := ?_) rfl (by kernel_rfl) (by kernel_rfl) (by kernel_rfl) (by kernel_rfl) (fun _ _ _ h => h) hHeld (Or.inl ⟨by kernel_rfl, ?_⟩) ?_
    rotate_left 1
    · (intro w hSw; (try dsimp only at hSw); (try obtain ⟨s0, s1, s2, s3, s4, s5, s6⟩ := hSw); first | (go_simp; done) | (go_simp; with_reducible rfl))
    simp only [Act.put]
    refine wpAnyL_take 10 (v := ?_) rfl (by kernel_rfl) (by kernel_rfl) (by kernel_rfl) (by kernel_rfl) (fun _ _ _ h => h) hHeld (Or.inl ⟨by kernel_rfl, ?_⟩) ?_
    rotate_left 1
    · (intro w hSw; (try dsimp only at hSw); (try obtain ⟨s0, s1, s2, s3, s4, s5, s6⟩ := hSw); first | (go_simp; done) | (go_simp; with_reducible rfl))
    simp only [Act.put]
    refine wpAnyL_take 11 (v := ?_) rfl (by kernel_rfl) (by kernel_rfl) (by kernel_rfl) (by kernel_rfl) (fun _ _ _ h => h) hHeld (Or.inl ⟨by kernel_rfl, ?_⟩) ?_
    rotate_left 1
    · (intro w hSw; (try dsimp only at hSw); (try obtain ⟨s0, s1, s2, s3, s4, s5, s6⟩ := hSw); first | (go_simp; done) | (go_simp; with_reducible rfl))
    simp only [Act.put]
    refine wpAnyL_take 12 (v := ?_) rfl (by kernel_rfl) (by kernel_rfl) (by kernel_rfl) (by kernel_rfl) (fun _ _ _ h => h) hHeld (Or.inl ⟨by kernel_rfl, ?_⟩) ?_
    rotate_left 1
    · (intro w hSw; (try dsimp only at hSw); (try obtain ⟨s0, s1, s2, s3, s4, s5, s6⟩ := hSw); first | (go_simp; done) | (go_simp; with_reducible rfl))
    simp only [Act.put]
    refine wpAnyL_take 13 (v := ?_) rfl (by kernel_rfl) (by kernel_rfl) (by kernel_rfl) (by kernel_rfl) (fun _ _ _ h => h) hHeld (Or.inl ⟨by kernel_rfl, ?_⟩) ?_
    rotate_left 1
    · (intro w hSw; (try dsimp only at hSw); (try obtain ⟨s0, s1, s2, s3, s4, s5, s6⟩ := hSw); first | (go_simp; done) | (go_simp; with_reducible rfl))
    simp only [Act.put]
    refine wpAnyL_take 14 (v := ?_) rfl (by kernel_rfl) (by kernel_rfl) (by kernel_rfl) (by kernel_rfl) (fun _ _ _ h => h) hHeld (Or.inl ⟨by kernel_rfl, ?_⟩) ?_
    rotate_left 1
    · (intro w hSw; (try dsimp only at hSw); (try obtain ⟨s0, s1, s2, s3, s4, s5, s6⟩ := hSw); first | (go_simp; done) | (go_simp; with_reducible rfl))
    simp only [Act.put]
    refine wpAnyL_take 15 (v := ?_) rfl (by kernel_rfl) (by kernel_rfl) (by kernel_rfl) (by kernel_rfl) (fun _ _ _ h => h) hHeld (Or.inl ⟨by kernel_rfl, ?_⟩) ?_
    rotate_left 1
    · (intro w hSw; (try dsimp only at hSw); (try obtain ⟨s0, s1, s2, s3, s4, s5, s6⟩ := hSw); first | (go_simp; done) | (go_simp; with_reducible rfl))
    simp only [Act.put]
    refine wpAnyL_take 16 (v := ?_) rfl (by kernel_rfl) (by kernel_rfl) (by kernel_rfl) (by kernel_rfl) (fun _ _ _ h => h) hHeld (Or.inl ⟨by kernel_rfl, ?_⟩) ?_
    rotate_left 1
    · (intro w hSw; (try dsimp only at hSw); (try obtain ⟨s0, s1, s2, s3, s4, s5, s6⟩ := hSw); first | (go_simp; done) | (go_simp; with_reducible rfl))
    simp only [Act.put]
    refine wpAnyL_take 17 (v := ?_) rfl (by kernel_rfl) (by kernel_rfl) (by kernel_rfl) (by kernel_rfl) (fun _ _ _ h => h) hHeld (Or.inl ⟨by kernel_rfl, ?_⟩) ?_
    rotate_left 1
    · (intro w hSw; (try dsimp only at hSw); (try obtain ⟨s0, s1, s2, s3, s4, s5, s6⟩ := hSw); first | (go_simp; done) | (go_simp; with_reducible rfl))
    simp only [Act.put]
    refine wpAnyL_take 18 (v := ?_) rfl (by kernel_rfl) (by kernel_rfl) (by kernel_rfl) (by kernel_rfl) (fun _ _ _ h => h) hHeld (Or.inl ⟨by kernel_rfl, ?_⟩) ?_
    rotate_left 1
    · (intro w hSw; (try dsimp only at hSw); (try obtain ⟨s0, s1, s2, s3, s4, s5, s6⟩ := hSw); first | (go_simp; done) | (go_simp; with_reducible rfl))
    simp only [Act.put]
    refine wpAnyL_take 19 (v := ?_) rfl (by kernel_rfl) (by kernel_rfl) (by kernel_rfl) (by kernel_rfl) (fun _ _ _ h => h) hHeld (Or.inl ⟨by kernel_rfl, ?_⟩) ?_
    rotate_left 1
    · (intro w hSw; (try dsimp only at hSw); (try obtain ⟨s0, s1, s2, s3, s4, s5, s6⟩ := hSw); first | (go_simp; done) | (go_simp; with_reducible rfl))
    simp only [Act.put]
    have hmk : ∀ W, (Instr.makeSlice 34 (.int .i64 (IntKind.i64.wrap ((vn : Int) + an))) (.int .i64 (IntKind.i64.wrap ((vn : Int) + an)))).run Tryz.prog W = .ok (newV W.heap.size (vn + an)) (W.alloc (.cells (madeCells #[.int .i64 0] (vn + an)) 3)) := fun W => by
      rw [show IntKind.i64.wrap ((vn : Int) + an) = ((vn + an : Nat) : Int) by rw [IntKind.wrap_i64]; omega]
      exact make_news (vn + an) (by omega) W
    clear hHeld
    have HS : Hid (∀ W, Below w.heap.size w W → (fun w' => w'.cell? ⟨B, 3, none⟩ = some (.slice (some ⟨C, 0, none⟩) pl pl) ∧ w'.cell? ⟨pg, po + f * 6, none⟩ = some (.string nm) ∧ w'.cell? ⟨pg, po + f * 6 + 1, none⟩ = some (.slice pa pn pc) ∧ w'.cell? ⟨pg, po + f * 6 + 2, none⟩ = some (.int .u8 rs) ∧ w'.cell? ⟨pg, po + f * 6 + 3, none⟩ = some (.slice va vn vc) ∧ w'.cell? ⟨pg, po + f * 6 + 4, none⟩ = some (.slice aa2 an ac2) ∧ w'.cell? ⟨pg, po + f * 6 + 5, none⟩ = some (.slice (some ⟨ba, bo, none⟩) bn bc)) W) := fun W hW => ⟨(hW.cell (p := ⟨B, 3, none⟩) hB).trans b3, (hW.cell (p := ⟨pg, po + f * 6, none⟩) hpg).trans g0, (hW.cell (p := ⟨pg, po + f * 6 + 1, none⟩) hpg).trans g1, (hW.cell (p := ⟨pg, po + f * 6 + 2, none⟩) hpg).trans g2, (hW.cell (p := ⟨pg, po + f * 6 + 3, none⟩) hpg).trans g3, (hW.cell (p := ⟨pg, po + f * 6 + 4, none⟩) hpg).trans g4, (hW.cell (p := ⟨pg, po + f * 6 + 5, none⟩) hpg).trans g5⟩
    have HSC : Hid (∀ W, Below w.heap.size w W → ∀ u v, (fun w' => w'.cell? ⟨B, 3, none⟩ = some (.slice (some ⟨C, 0, none⟩) pl pl) ∧ w'.cell? ⟨pg, po + f * 6, none⟩ = some (.string nm) ∧ w'.cell? ⟨pg, po + f * 6 + 1, none⟩ = some (.slice pa pn pc) ∧ w'.cell? ⟨pg, po + f * 6 + 2, none⟩ = some (.int .u8 rs) ∧ w'.cell? ⟨pg, po + f * 6 + 3, none⟩ = some (.slice va vn vc) ∧ w'.cell? ⟨pg, po + f * 6 + 4, none⟩ = some (.slice aa2 an ac2) ∧ w'.cell? ⟨pg, po + f * 6 + 5, none⟩ = some (.slice (some ⟨ba, bo, none⟩) bn bc)) ((W.setCell ⟨C, f * 2, none⟩ u).setCell ⟨C, f * 2 + 1, none⟩ v)) := fun W hW u v => by
      obtain ⟨s0, s1, s2, s3, s4, s5, s6⟩ := HS.out W hW
      have e : ∀ g j, ¬ g = C → ((W.setCell ⟨C, f * 2, none⟩ u).setCell ⟨C, f * 2 + 1, none⟩ v).cell? ⟨g, j, none⟩ = W.cell? ⟨g, j, none⟩ := fun g j hg => (World.cell?_of_block (a := ⟨g, j, none⟩) (Below.heap_setCell _ _ _ _ hg)).trans (World.cell?_of_block (a := ⟨g, j, none⟩) (Below.heap_setCell _ _ _ _ hg))
      exact ⟨(e _ _ hBC).trans s0, (e _ _ hpC).trans s1, (e _ _ hpC).trans s2, (e _ _ hpC).trans s3, (e _ _ hpC).trans s4, (e _ _ hpC).trans s5, (e _ _ hpC).trans s6⟩
    have HDR : Hid (Below w.heap.size w w.drew) := below_drew (Below.refl _ _)
    have HDRN : Hid (∀ k, Below w.heap.size w (w.drewN k)) := fun k => below_drewN (Below.refl _ _) k
    have HC : Hid (∀ W, Below w.heap.size w W → W.cell? ⟨C, f * 2, none⟩ = some (.slice none 0 0) ∧ W.cell? ⟨C, f * 2 + 1, none⟩ = some (.slice none 0 0) ∧ W.frozen? ⟨C, f * 2, none⟩ = false ∧ W.frozen? ⟨C, f * 2 + 1, none⟩ = false) := fun W hW => ⟨(hW.cell (p := ⟨C, f * 2, none⟩) hC).trans k0, (hW.cell (p := ⟨C, f * 2 + 1, none⟩) hC).trans k1, (World.frozen?_of_block (a := ⟨C, f * 2, none⟩) (hW.block C hC)).trans fzC.1, (World.frozen?_of_block (a := ⟨C, f * 2 + 1, none⟩) (hW.block C hC)).trans fzC.2⟩
    clear b0 b2 b3 b4 g0 g1 g2 g3 g4 g5 k0 k1 fzC
    refine wpAnyL_two 8 20 (by kernel_rfl) rfl rfl (fun K hK0 => ?_) (fun K hK0 => ?_)
    · have hK : Shut _ := hK0
      clear hK0
      go_simp
      refine Calls.mono (by exact HAh.out _ (HDRN.out (nq + 1))) ?_
      rintro e w2 ⟨a, rfl, hb0, hq0⟩
      have HB2 : Hid (Below w.heap.size w w2) := below_trans (HDRN.out (nq + 1)) hb0
      have HQ0 : Hid _ := HX1.out _ w2 a (HDRN.out (nq + 1)) hb0 hq0
      clear hb0 hq0 HX1 HX2 HAh
      dsimp only
      refine hK.out _ _ (fun _ => HS.out _ HB2.out) ?_
      clear hK K
      refine wpAnyL_one 20 (by kernel_rfl) rfl (fun K hK0 => ?_)
      have hK : Shut _ := hK0
      clear hK0
      go_simp
      refine hK.out _ _ (fun _ => HS.out _ (below_alloc HB2.out _)) ?_
      clear hK K
      refine wpAnyL_one 21 (by kernel_rfl) rfl (fun K hK0 => ?_)
      have hK : Shut _ := hK0
      clear hK0
      go_simp
      refine hK.out _ _ (fun _ => HS.out _ (below_alloc HB2.out _)) ?_
      clear hK K
      refine wpAnyL_one 22 (by kernel_rfl) rfl (fun K hK0 => ?_)
      have hK : Shut _ := hK0
      clear hK0
      go_simp
      refine hK.out _ _ (fun _ => HS.out _ (below_alloc HB2.out _)) ?_
      clear hK K
      obtain ⟨q1, q2, q3, q4⟩ := HC.out (w2.alloc (.cells (madeCells #[.int .i64 0] (vn + an)) 3)) (below_alloc HB2.out _)
      refine wpAnyL_one 23 (by kernel_rfl) rfl (fun K hK0 => ?_)
      have hK : Shut _ := hK0
      clear hK0
      go_simp
      refine hK.out _ _ (fun _ => HSC.out _ (below_alloc HB2.out _) _ _) ?_
      clear hK K
      refine wpAnyL_done (by kernel_rfl) ?_
      go_wp2_with fail
      go_meet
      exact HQ0
    · have hK : Shut _ := hK0
      clear hK0
      go_simp
      refine hK.out _ _ (fun _ => HS.out _ (below_alloc (HDRN.out (nq + 1)) _)) ?_
      clear hK K
      refine wpAnyL_one 8 (by kernel_rfl) rfl (fun K hK0 => ?_)
      have hK : Shut _ := hK0
      clear hK0
      go_simp
      refine Calls.mono (by exact HAh.out _ (below_alloc (HDRN.out (nq + 1)) _)) ?_
      rintro e w2 ⟨a, rfl, hb0, hq0⟩
      have HB2 : Hid (Below w.heap.size w w2) := below_trans (below_alloc (HDRN.out (nq + 1)) _) hb0
      have HQ0 : Hid _ := HX2.out _ w2 a (HDRN.out (nq + 1)) hb0 hq0
      clear hb0 hq0 HX1 HX2 HAh
      dsimp only
      refine hK.out _ _ (fun _ => HS.out _ HB2.out) ?_
      clear hK K
      refine wpAnyL_one 21 (by kernel_rfl) rfl (fun K hK0 => ?_)
      have hK : Shut _ := hK0
      clear hK0
      go_simp
      refine hK.out _ _ (fun _ => HS.out _ HB2.out) ?_
      clear hK K
      refine wpAnyL_one 22 (by kernel_rfl) rfl (fun K hK0 => ?_)
      have hK : Shut _ := hK0
      clear hK0
      go_simp
      refine hK.out _ _ (fun _ => HS.out _ HB2.out) ?_
      clear hK K
      obtain ⟨q1, q2, q3, q4⟩ := HC.out w2 HB2.out
      refine wpAnyL_one 23 (by kernel_rfl) rfl (fun K hK0 => ?_)
      have hK : Shut _ := hK0
      clear hK0
      go_simp
      refine hK.out _ _ (fun _ => HSC.out _ HB2.out _ _) ?_
      clear hK K
      refine wpAnyL_done (by kernel_rfl) ?_
      go_wp2_with fail
      go_meet
      exact HQ0
  case rest =>
  obtain ⟨b0', b4'', b5, b6, b4', ho0, hbs0, hx0⟩ := HZ.out wc hcut.out
  have HO : Hid _ := ho0
  have hbs : Hid _ := hbs0
  have HX : Hid _ := hx0
  clear ho0 hbs0 hx0 HZ hcut HAh HX1 HX2 b0 b2 b3 b4 g0 g1 g2 g3 g4 g5 k0 k1 fzC hpg hC hB hBC hpC hvn han
  generalize wc = w5 at *
  have b40 : ∀ ob, (w5.alloc ob).cell? ⟨B, 4, none⟩ = some (.slice ca cn cc) := fun ob => b4' 0 ob
  go_wp2
  go_cut [] (fun wx => Hid (Q1 wx))
  case first =>
    go_region_law (refine step_append_own rfl (.tmp 64) (.tmp 77) 61 rfl bs 76 i0 (.agg #[.int .i64 0, .int .i64 0, .int .i64 0, .int .i64 0, .int .i64 0]) 5 40 Tryz.underlying61 hi0 hz0 hz1 hz2 rfl (by decide) (.slice ca cn cc) cn fl ?e1 ?e2 ⟨w5.heap.size, 0, none⟩ 1 1 [.int .i64 (f : Int), .int .i64 0, .int .i64 0, .int .i64 (kl : Int), .int .i64 (rl : Int)] ?e3 rfl ?e4 ?e5 ?e6 ?e7 ?e8 ?_; (case e1 => simp [Act.eval]); (case e2 => exact (HO.out _).alloc _); (case e3 => simp [Act.eval]); (case e4 => exact cells5_new rfl _ _ _ _ _ _); (case e5 => intro u hu; simp at hu; rcases hu with rfl | rfl | rfl | rfl | rfl <;> rfl); (case e6 => have := hcn.out; unfold maxLen; omega); (case e7 => have := hcn.out; omega); (case e8 => have := hbs.out; simp; omega); intro v2 w2 ho hg2 hat; obtain ⟨g2, cc2, rfl, _, _, _, _⟩ := own_form ho; obtain ⟨q1, q2, hq10⟩ := HX.out _ _ w2 _ ho hg2 hat; have HQ1 : Hid (Q1 _) := hq10; clear ho hg2 hat hq10)
    all_goals (go_wp2_with fail; go_meet; exact HQ1)
  case rest =>
  obtain ⟨c1, cc1, dp, e4, e13, f13, hr00⟩ := H1.out wc hcut.out
  have HR0 : Hid _ := hr00
  clear hr00 H1 HX HO hcut b0' b4'' b4' b40 b5 b6
  go_wp2
  refine wp_region_last 15 _ rfl rfl (by kernel_rfl) (by kernel_rfl) (by kernel_rfl) (by kernel_rfl) (by kernel_rfl) (by kernel_rfl) ?_
  simp only [List.take_succ_cons, List.take_zero]
  repeat (go_big_quiet_step (fail))
  refine wpQuiet_nil ?_
  intro _ hw'
  obtain ⟨nq, hw''⟩ := hw'
  subst hw''
  intro K hK
  go_simp
  refine hK _ _ ?_
  clear hK K
  obtain ⟨hr1, ep'⟩ := HR0.out nq
  generalize (wc.drewN nq).setCell ⟨B, 13, none⟩ (.int .i64 (max (dp : Int) ((cn : Int) + 1))) = w5 at *
  have HR1 : Hid _ := hr1
  clear hr1 HR0 e4 e13 f13
  go_wp2
  go_loopw [101] (fun vi wq => ∃ i : Nat, vi = .int .i64 i ∧ i ≤ pn ∧ Hid (R i wq)) (fun vi _ => pn - (intOf vi).toNat)
  case atStart => exact ⟨0, rfl, by omega, HR1⟩
  case round =>
    obtain ⟨i, rfl, hi, hr⟩ := hrel
    clear HR1 ep'
    by_cases hin : i < pn
    · obtain ⟨pgg, poo, v, ag, ao, x, rfl, rfl, cp, cx, hset⟩ := HR.out i wr hin hr.out
      have hin' : (i : Int) < pn := by omega
      have HT : Hid _ := hset
      clear hset HR HE hr
      go_wp2_with (go_at_call 31; refine Calls.mono (HT.out _ 0 rfl) ?_; rintro e w6 ⟨rfl, hr2⟩; have HR2 : Hid _ := hr2; clear hr2)
      go_roundw
      case rel => exact ⟨i + 1, by first | rfl | (congr 1; omega), by omega, HR2⟩
      case measure => simp [intOf]; omega
    · obtain rfl : i = pn := by omega
      have HS : Hid _ := HE.out wr hr.out
      clear HE HR
      go_wp2_with (go_at_call 32; refine Calls.mono (HS.out _ 0 rfl) ?_; rintro e w6 ⟨rfl, hq⟩)
      go_ret
      exact ⟨rfl, hq⟩
end Go.Proofs.YtdgpdmohfnealaaGreatDoor
