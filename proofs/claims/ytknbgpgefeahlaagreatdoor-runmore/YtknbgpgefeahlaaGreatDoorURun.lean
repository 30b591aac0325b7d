/- The runner's loops: the walk. -/
import Derived.Test.YtknbgpgefeahlaaGreatDoorUHOkM
import Derived.Test.YtknbgpgefeahlaaGreatDoorULateM
import Derived.WalkMore
namespace Go.Proofs.YtknbgpgefeahlaaGreatDoor
open Go.RowKit

theorem least_ex {p : Nat → Prop} (h : ∃ k, p k) : ∃ k, p k ∧ ∀ j, p j → k ≤ j := by
  obtain ⟨k, hk⟩ := h
  induction k using Nat.strongRecOn with
  | _ k ih =>
    by_cases h : ∃ j, j < k ∧ p j
    · obtain ⟨j, hj, hp⟩ := h; exact ih j hj hp
    · exact ⟨k, hk, fun j hj => Nat.le_of_not_lt fun hc => h ⟨j, hc, hj⟩⟩
noncomputable def leastN (p : Nat → Prop) : Nat := open Classical in if h : ∃ k, p k ∧ ∀ j, p j → k ≤ j then Classical.choose h else 0
theorem leastN_of {p : Nat → Prop} (h : ∃ k, p k) : p (leastN p) ∧ ∀ j, p j → leastN p ≤ j := by
  have h2 := least_ex h
  unfold leastN
  rw [dif_pos h2]
  exact Classical.choose_spec h2
/-- Where the last call and its block lie. -/
structure Cx where
  cb : Nat
  m : Nat
  tg : Nat
  tb : Nat
  bg : Nat
  bo : Nat
  bn : Nat
  bc : Nat
  il : Nat
  ic : Nat
  ia : Option Addr
noncomputable def muR (N : Nat) (G : Nat → Cx → World → Prop) (w : World) : Nat := leastN fun k => ∃ n x, G n x w ∧ N - n = k
theorem muR_of {N : Nat} {G : Nat → Cx → World → Prop} {w : World} (h : ∃ n x, G n x w) : ∃ n x, G n x w ∧ muR N G w = N - n := by
  obtain ⟨n, x, h1⟩ := h
  obtain ⟨⟨n2, x2, h2, h3⟩, _⟩ := leastN_of (p := fun k => ∃ n x, G n x w ∧ N - n = k) ⟨_, n, x, h1, rfl⟩
  exact ⟨n2, x2, h2, h3.symm⟩
theorem muR_le {N : Nat} {G : Nat → Cx → World → Prop} {w : World} {n : Nat} {x : Cx} (h : G n x w) : muR N G w ≤ N - n :=
  (leastN_of (p := fun k => ∃ n x, G n x w ∧ N - n = k) ⟨_, n, x, h, rfl⟩).2 _ ⟨n, x, h, rfl⟩
set_option maxRecDepth 100000 in
set_option maxHeartbeats 4000000 in
theorem run_walk {B pg po np qc f N : Nat} {av : Value} {w : World} {G : Nat → Cx → World → Prop} {Qn : Nat → World → Prop} {Qe : World → Prop} {bs : Nat → Bool} {b0 : Bool}
    (HS : Hid (∀ W k, W = w.drewN k → Calls Tryz.prog 24 #[ptr B, .int .i64 (f : Int), av] W fun e w' => e = .returned (.bool b0) ∧ (b0 = true → ∃ x, G 0 x w') ∧ (b0 = false → Qe w')))
    (HN : Hid (∀ n x w, G n x w → (∀ W k, W = w.drewN k → Calls Tryz.prog 25 #[ptr B] W fun e w' => e = .returned (.pointer (some ⟨x.cb, x.m * 5, none⟩)) ∧ ∃ k, w' = W.drewN k) ∧
      w.cell? ⟨B, 0, none⟩ = some (.slice (some ⟨pg, po, none⟩) np qc) ∧ w.cell? ⟨x.cb, x.m * 5, none⟩ = some (.int .i64 (x.tg : Int)) ∧ w.cell? ⟨x.cb, x.m * 5 + 1, none⟩ = some (.int .i64 (x.tb : Int)) ∧ w.cell? ⟨pg, po + x.tg * 6 + 5, none⟩ = some (.slice (some ⟨x.bg, x.bo, none⟩) x.bn x.bc) ∧ (x.tg : Int) < np ∧ (x.tb : Int) < x.bn ∧ n < N))
    (HB : Hid (∀ n x w, G n x w → ∃ nx : Nat, w.cell? ⟨x.cb, x.m * 5 + 2, none⟩ = some (.int .i64 (nx : Int)) ∧ w.frozen? ⟨x.cb, x.m * 5 + 2, none⟩ = false ∧ w.cell? ⟨x.bg, x.bo + x.tb * 6, none⟩ = some (.slice x.ia x.il x.ic) ∧ (nx : Int) ≤ 1000000 ∧
      ((nx : Int) < x.il → ∃ (ig io : Nat) (k : Int), x.ia = some ⟨ig, io, none⟩ ∧ (∀ j, ((w.drewN j).setCell ⟨x.cb, x.m * 5 + 2, none⟩ (.int .i64 ((nx : Int) + 1))).cell? ⟨ig, io + nx * 6, none⟩ = some (.int .u8 k)) ∧
        (((k != 9) = true ∧ ∀ W j i, W = (((w.drewN j).setCell ⟨x.cb, x.m * 5 + 2, none⟩ (.int .i64 ((nx : Int) + 1))).drewN i) → Calls Tryz.prog 26 #[ptr B, .pointer (some ⟨ig, io + nx * 6, none⟩)] W fun e w' => e = .returned (.tuple #[]) ∧ G (n + 1) x w') ∨
         (k = 9 ∧ ∃ (rf : Int) (rv : Value), (∀ j, ((w.drewN j).setCell ⟨x.cb, x.m * 5 + 2, none⟩ (.int .i64 ((nx : Int) + 1))).cell? ⟨ig, io + nx * 6 + 5, none⟩ = some (.int .i64 rf)) ∧ (∀ j, ((w.drewN j).setCell ⟨x.cb, x.m * 5 + 2, none⟩ (.int .i64 ((nx : Int) + 1))).cell? ⟨ig, io + nx * 6 + 3, none⟩ = some rv) ∧
          ∀ W j i, W = (((w.drewN j).setCell ⟨x.cb, x.m * 5 + 2, none⟩ (.int .i64 ((nx : Int) + 1))).drewN i) → Calls Tryz.prog 27 #[ptr B, rv] W fun e w' => ∃ wv, e = .returned wv ∧ w'.cell? ⟨ig, io + nx * 6 + 5, none⟩ = some (.int .i64 rf) ∧ w'.cell? ⟨ig, io + nx * 6 + 3, none⟩ = some rv ∧ ∀ W i, W = w'.drewN i → Calls Tryz.prog 24 #[ptr B, .int .i64 rf, wv] W fun e w3 => e = .returned (.bool (bs n)) ∧ w3.cell? ⟨ig, io + nx * 6 + 5, none⟩ = some (.int .i64 rf) ∧ w3.cell? ⟨ig, io + nx * 6 + 3, none⟩ = some rv ∧ Qn n w3))) ∧
      (¬ (nx : Int) < x.il → ∀ W j, W = w.drewN j → Calls Tryz.prog 28 #[ptr B, .pointer (some ⟨x.bg, x.bo + x.tb * 6 + 1, none⟩)] W fun e w' => e = .returned (.bool (bs n)) ∧ Qn n w')))
    (HD : Hid (∀ n x w k, G n x w → G n x (w.drewN k)))
    (HQ : Hid (∀ n w, Qn n w → (bs n = true → ∃ x, G (n + 1) x w) ∧ (bs n = false → Qe w))) :
    Calls Tryz.prog 16 #[ptr B, .int .i64 (f : Int), av] w fun e w' => e = .returned (.tuple #[]) ∧ Qe w' := by
  cases b0 with
  | false =>
    go_enter Tryz.func16, Tryz.ntmps16
    go_wp2
    go_step3
    go_wp2_with (go_at_call 24; refine Calls.mono (HS.out _ 0 rfl) ?_; rintro e w1 ⟨rfl, _, hq⟩)
    rw [Exit.noGoto_ret]
    refine bodyPost_ret (results_none rfl _ _ _) rfl ?_
    exact ⟨rfl, hq trivial⟩
  | true =>
    go_enter Tryz.func16, Tryz.ntmps16
    go_wp2
    go_step3
    go_wp2_with (go_at_call 24; refine Calls.mono (HS.out _ 0 rfl) ?_; rintro e w1 ⟨rfl, hq, _⟩)
    have HG : Hid _ := hq trivial
    clear hq HS
    go_step3
    go_wp2
    go_loopw [] (fun wr => Hid (∃ n x, G n x wr)) (fun wr => muR N G wr)
    case atStart => obtain ⟨x, hx⟩ := HG.out; exact ⟨0, x, hx⟩
    case round =>
      clear HG
      obtain ⟨n, x, hG, hmu⟩ := muR_of (N := N) hrel.out
      obtain ⟨hnow, c0, c1, c2, c3, htg, htb, hnN⟩ := HN.out n x wr hG
      have HG0 : Hid _ := hG
      have HMU : Hid _ := hmu
      have HNOW : Hid _ := hnow
      have HNN : Hid _ := hnN
      clear hG hmu hnow hnN hrel
      obtain ⟨cb, m, tg, tb, bg, bo, bn, bc, il, ic, ia⟩ := x
      dsimp only at c0 c1 c2 c3 htg htb
      generalize wr = wo at *
      go_wp2_with (go_at_call 25; refine Calls.mono (HNOW.out _ 0 rfl) ?_; rintro e w2 ⟨rfl, kq, rfl⟩)
      go_quiet (fail)
      go_wp2
      clear c0 c1 c2 c3 htg htb HNOW
      go_loopw [] (fun wr => Hid (∃ n2, n ≤ n2 ∧ G n2 ⟨cb, m, tg, tb, bg, bo, bn, bc, il, ic, ia⟩ wr)) (fun wr => muR N (fun n2 x w => (n ≤ n2 ∧ x = ⟨cb, m, tg, tb, bg, bo, bn, bc, il, ic, ia⟩) ∧ G n2 x w) wr)
      case atStart => exact ⟨n, Nat.le_refl _, HD.out _ _ _ _ (by first | exact HG0.out | exact HD.out _ _ _ _ HG0.out)⟩
      case round =>
        clear HG0
        obtain ⟨n2, x2, ⟨⟨hn2, rfl⟩, hG2⟩, hmu2⟩ := muR_of (N := N) (G := fun n2 x w => (n ≤ n2 ∧ x = ⟨cb, m, tg, tb, bg, bo, bn, bc, il, ic, ia⟩) ∧ G n2 x w) (by obtain ⟨n2, h1, h2⟩ := hrel.out; exact ⟨n2, _, ⟨h1, rfl⟩, h2⟩)
        obtain ⟨nx, d0, df, d1, hnx, hA, hBn⟩ := HB.out n2 _ wr hG2
        dsimp only at d0 df d1 hA hBn
        have HMU2 : Hid _ := hmu2
        have HN2 : Hid (n ≤ n2) := hn2
        have HN3 : Hid (n2 < N) := (HN.out n2 _ wr hG2).2.2.2.2.2.2.2
        clear hmu2 hn2 hrel hG2
        by_cases hlt : (nx : Int) < il
        · obtain ⟨ig, io, k, rfl, e0, hcase⟩ := hA hlt
          rcases hcase with ⟨hk, hdo⟩ | ⟨rfl, rf, rv, e5, e3, hrd⟩
          · have HDO : Hid _ := hdo
            clear hA hBn hdo
            go_wp2
            go_quiet (fail)
            go_wp2
            go_quiet (fail)
            go_wp2_with (go_at_call 26; refine Calls.mono (by exact HDO.out _ _ 0 rfl) ?_; rintro e w2 ⟨rfl, hq⟩; have HG3 : Hid _ := hq; clear hq)
            go_roundw
            case rel => exact ⟨n2 + 1, by have := HN2.out; omega, HG3.out⟩
            case measure =>
              have := muR_le (N := N) (G := fun n2 x w => (n ≤ n2 ∧ x = ⟨cb, m, tg, tb, bg, bo, bn, bc, il, ic, some ⟨ig, io, none⟩⟩) ∧ G n2 x w) (n := n2 + 1) (x := ⟨cb, m, tg, tb, bg, bo, bn, bc, il, ic, some ⟨ig, io, none⟩⟩) (w := w2) ⟨⟨by have := HN2.out; omega, rfl⟩, HG3.out⟩
              rw [HMU2.out]
              have := HN3.out
              omega
          · have HRD : Hid _ := hrd
            clear hA hBn hrd
            go_wp2
            go_quiet (fail)
            go_wp2
            go_quiet (fail)
            go_wp2
            refine wp_region_late (fun w' => w'.cell? ⟨ig, io + nx * 6 + 5, none⟩ = some (.int .i64 rf) ∧ w'.cell? ⟨ig, io + nx * 6 + 3, none⟩ = some rv) (fun _ => false) (by kernel_rfl) ⟨e5 _, e3 _⟩ (fun hHeld => ?_)
            refine wpAnyL_take 0 (v := ?_) rfl (by kernel_rfl) (by kernel_rfl) (by kernel_rfl) (by kernel_rfl) (fun _ _ _ h => h) hHeld (Or.inl ⟨by kernel_rfl, ?_⟩) ?_
            rotate_left 1
            · (intro w hSw; (try dsimp only at hSw); (try obtain ⟨s0, s1⟩ := hSw); first | (go_simp; done) | (go_simp; with_reducible rfl))
            simp only [Act.put, List.setIfInBounds_toArray]
            refine wpAnyL_take 1 (v := ?_) rfl (by kernel_rfl) (by kernel_rfl) (by kernel_rfl) (by kernel_rfl) (fun _ _ _ h => h) hHeld (Or.inl ⟨by kernel_rfl, ?_⟩) ?_
            rotate_left 1
            · (intro w hSw; (try dsimp only at hSw); (try obtain ⟨s0, s1⟩ := hSw); first | (go_simp; done) | (go_simp; with_reducible rfl))
            simp only [Act.put]
            refine wpAnyL_take 2 (v := ?_) rfl (by kernel_rfl) (by kernel_rfl) (by kernel_rfl) (by kernel_rfl) (fun _ _ _ h => h) hHeld (Or.inl ⟨by kernel_rfl, ?_⟩) ?_
            rotate_left 1
            · (intro w hSw; (try dsimp only at hSw); (try obtain ⟨s0, s1⟩ := hSw); first | (go_simp; done) | (go_simp; with_reducible rfl))
            simp only [Act.put]
            refine wpAnyL_take 3 (v := ?_) rfl (by kernel_rfl) (by kernel_rfl) (by kernel_rfl) (by kernel_rfl) (fun _ _ _ h => h) hHeld (Or.inl ⟨by kernel_rfl, ?_⟩) ?_
            rotate_left 1
            · (intro w hSw; (try dsimp only at hSw); (try obtain ⟨s0, s1⟩ := hSw); first | (go_simp; done) | (go_simp; with_reducible rfl))
            simp only [Act.put]
            refine wpAnyL_take 4 (v := ?_) rfl (by kernel_rfl) (by kernel_rfl) (by kernel_rfl) (by kernel_rfl) (fun _ _ _ h => h) hHeld (Or.inl ⟨by kernel_rfl, ?_⟩) ?_
            rotate_left 1
            · (intro w hSw; (try dsimp only at hSw); (try obtain ⟨s0, s1⟩ := hSw); first | (go_simp; done) | (go_simp; with_reducible rfl))
            simp only [Act.put]
            refine wpAnyL_take 5 (v := ?_) rfl (by kernel_rfl) (by kernel_rfl) (by kernel_rfl) (by kernel_rfl) (fun _ _ _ h => h) hHeld (Or.inl ⟨by kernel_rfl, ?_⟩) ?_
            rotate_left 1
            · (intro w hSw; (try dsimp only at hSw); (try obtain ⟨s0, s1⟩ := hSw); first | (go_simp; done) | (go_simp; with_reducible rfl))
            simp only [Act.put]
            refine wpAnyL_take 6 (v := ?_) rfl (by kernel_rfl) (by kernel_rfl) (by kernel_rfl) (by kernel_rfl) (fun _ _ _ h => h) hHeld (Or.inl ⟨by kernel_rfl, ?_⟩) ?_
            rotate_left 1
            · (intro w hSw; (try dsimp only at hSw); (try obtain ⟨s0, s1⟩ := hSw); first | (go_simp; done) | (go_simp; with_reducible rfl))
            simp only [Act.put]
            refine wpAnyL_take 7 (v := ?_) rfl (by kernel_rfl) (by kernel_rfl) (by kernel_rfl) (by kernel_rfl) (fun _ _ _ h => h) hHeld (Or.inl ⟨by kernel_rfl, ?_⟩) ?_
            rotate_left 1
            · (intro w hSw; (try dsimp only at hSw); (try obtain ⟨s0, s1⟩ := hSw); first | (go_simp; done) | (go_simp; with_reducible rfl))
            simp only [Act.put]
            refine wpAnyL_take 8 (v := ?_) rfl (by kernel_rfl) (by kernel_rfl) (by kernel_rfl) (by kernel_rfl) (fun _ _ _ h => h) hHeld (Or.inl ⟨by kernel_rfl, ?_⟩) ?_
            rotate_left 1
            · (intro w hSw; (try dsimp only at hSw); (try obtain ⟨s0, s1⟩ := hSw); first | (go_simp; done) | (go_simp; with_reducible rfl))
            simp only [Act.put]
            refine wpAnyL_take 9 (v := ?_) rfl (by kernel_rfl) (by kernel_rfl) (by kernel_rfl) (by kernel_rfl) (fun _ _ _ h => h) hHeld (Or.inl ⟨by kernel_rfl, ?_⟩) ?_
            rotate_left 1
            · (intro w hSw; (try dsimp only at hSw); (try obtain ⟨s0, s1⟩ := hSw); first | (go_simp; done) | (go_simp; with_reducible rfl))
            simp only [Act.put]
            clear hHeld e5 e3 e0
            cases hb : bs n2 with
            | false =>
              rw [hb] at HRD
              refine wpAnyL_one 10 (by kernel_rfl) rfl (fun K hK0 => ?_)
              have hK : Shut _ := hK0
              clear hK0
              go_simp
              refine Calls.mono (by exact HRD.out _ _ 1 rfl) ?_
              rintro e w2 ⟨wv, rfl, s5, s3, hbg⟩
              have HBG : Hid _ := hbg
              clear hbg HRD
              dsimp only
              refine hK.out _ _ (fun _ => ⟨s5, s3⟩) ?_
              clear hK K s5 s3
              refine wpAnyL_one 11 (by kernel_rfl) rfl (fun K hK0 => ?_)
              have hK : Shut _ := hK0
              clear hK0
              go_simp
              refine Calls.mono (by exact HBG.out _ 0 rfl) ?_
              rintro e w3 ⟨rfl, s5, s3, hq⟩
              have HQN : Hid _ := hq
              have HSC : Hid (_ ∧ _) := ⟨s5, s3⟩
              clear hq HBG s5 s3
              dsimp only
              refine hK.out _ _ (fun _ => HSC.out) ?_
              clear hK K
              refine wpAnyL_one 12 (by kernel_rfl) rfl (fun K hK0 => ?_)
              have hK : Shut _ := hK0
              clear hK0
              go_simp
              refine hK.out _ _ (fun _ => HSC.out) ?_
              clear hK K
              refine wpAnyL_done (by kernel_rfl) ?_
              go_wp2
              rw [Exit.noGoto_normal]
              go_end0
              exact ⟨rfl, (HQ.out _ _ HQN.out).2 hb⟩
            | true =>
              rw [hb] at HRD
              refine wpAnyL_one 10 (by kernel_rfl) rfl (fun K hK0 => ?_)
              have hK : Shut _ := hK0
              clear hK0
              go_simp
              refine Calls.mono (by exact HRD.out _ _ 1 rfl) ?_
              rintro e w2 ⟨wv, rfl, s5, s3, hbg⟩
              have HBG : Hid _ := hbg
              clear hbg HRD
              dsimp only
              refine hK.out _ _ (fun _ => ⟨s5, s3⟩) ?_
              clear hK K s5 s3
              refine wpAnyL_one 11 (by kernel_rfl) rfl (fun K hK0 => ?_)
              have hK : Shut _ := hK0
              clear hK0
              go_simp
              refine Calls.mono (by exact HBG.out _ 0 rfl) ?_
              rintro e w3 ⟨rfl, s5, s3, hq⟩
              have HQN : Hid _ := hq
              have HSC : Hid (_ ∧ _) := ⟨s5, s3⟩
              clear hq HBG s5 s3
              dsimp only
              refine hK.out _ _ (fun _ => HSC.out) ?_
              clear hK K
              refine wpAnyL_one 12 (by kernel_rfl) rfl (fun K hK0 => ?_)
              have hK : Shut _ := hK0
              clear hK0
              go_simp
              refine hK.out _ _ (fun _ => HSC.out) ?_
              clear hK K
              refine wpAnyL_done (by kernel_rfl) ?_
              go_wp2
              obtain ⟨x3, hx3⟩ := (HQ.out _ _ HQN.out).1 hb
              refine ⟨⟨_, x3, hx3⟩, ?_⟩
              have := muR_le (N := N) hx3
              rw [HMU.out]
              have := HN3.out
              have := HN2.out
              omega
        · have HEN : Hid _ := hBn (by omega)
          clear hA hBn
          cases hb : bs n2 with
          | false =>
            rw [hb] at HEN
            go_wp2
            go_quiet (fail)
            go_wp2_with (go_at_call 28; refine Calls.mono (by exact HEN.out _ _ rfl) ?_; rintro e w2 ⟨rfl, hq⟩)
            rw [Exit.noGoto_normal]
            go_end0
            exact ⟨rfl, (HQ.out _ _ hq).2 hb⟩
          | true =>
            rw [hb] at HEN
            go_wp2
            go_quiet (fail)
            go_wp2_with (go_at_call 28; refine Calls.mono (by exact HEN.out _ _ rfl) ?_; rintro e w2 ⟨rfl, hq⟩)
            obtain ⟨x3, hx3⟩ := (HQ.out _ _ hq).1 hb
            refine ⟨⟨_, x3, hx3⟩, ?_⟩
            have := muR_le (N := N) hx3
            rw [HMU.out]
            have := HN3.out
            have := HN2.out
            omega
end Go.Proofs.YtknbgpgefeahlaaGreatDoor
