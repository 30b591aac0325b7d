/- The law's run: more steps, a greater depth. -/
import Derived.Test.YtknbgpgefeahlaaGreatDoorUAwk3M
import Derived.Test.YtknbgpgefeahlaaGreatDoorGLibM
import Derived.Test.YtknbgpgefeahlaaGreatDoorURunGM
namespace Go.Proofs.YtknbgpgefeahlaaGreatDoor
open Go.RowKit

abbrev trL (sv : Value) (o : Out) : List Value := [sv, .int .u8 o.fin, .int .u64 o.val, .int .u8 o.trap, .int .i64 (o.st : Int), .int .i64 (o.dp : Int)]
set_option maxRecDepth 100000 in
set_option maxHeartbeats 8000000 in
theorem more_any {P : List Gr} {ppv : Value} {f : Int} {av : Value} {xs : List Int} {st mo dp : Int} {w : World} (hp : GrsAt w ppv P) (hP : PartsAt w) (ha : WordsAt w av xs) (hw : ∀ v, Sc.word (xs.getD v 0)) :
    Calls Tryz.prog 4 #[ppv, .int .i64 f, av, .int .i64 st, .int .i64 mo, .int .i64 dp] w fun e w' => e = .returned (.bool true) ∧ Below w.heap.size w w' := by
  have hbits := bits_at hp
  obtain ⟨s, hs⟩ : ∃ s : Nat, st % 800 = (s : Int) := Int.eq_ofNat_of_zero_le (Int.emod_nonneg _ (by omega))
  obtain ⟨m, hm⟩ : ∃ m : Nat, mo % 800 = (m : Int) := Int.eq_ofNat_of_zero_le (Int.emod_nonneg _ (by omega))
  obtain ⟨d, hd⟩ : ∃ d : Nat, dp % 60 = (d : Int) := Int.eq_ofNat_of_zero_le (Int.emod_nonneg _ (by omega))
  have hs8 : s < 800 := by have := Int.emod_lt_of_pos st (show (0 : Int) < 800 by omega); omega
  have hm8 : m < 800 := by have := Int.emod_lt_of_pos mo (show (0 : Int) < 800 by omega); omega
  have hd6 : d < 60 := by have := Int.emod_lt_of_pos dp (show (0 : Int) < 60 by omega); omega
  have HP1 : Hid (∀ W, Calls Tryz.prog 10 #[.int .i64 st, .int .i64 800] W fun e w' => e = .returned (.int .i64 (s : Int)) ∧ w' = W) := fun W => by rw [← hs]; exact pick_any st 800 (by omega) (by omega) W
  have HP2 : Hid (∀ W, Calls Tryz.prog 10 #[.int .i64 mo, .int .i64 800] W fun e w' => e = .returned (.int .i64 (m : Int)) ∧ w' = W) := fun W => by rw [← hm]; exact pick_any mo 800 (by omega) (by omega) W
  have HP3 : Hid (∀ W, Calls Tryz.prog 10 #[.int .i64 dp, .int .i64 60] W fun e w' => e = .returned (.int .i64 (d : Int)) ∧ w' = W) := fun W => by rw [← hd]; exact pick_any dp 60 (by omega) (by omega) W
  have HAW : Hid (∀ W, Below w.heap.size w W → Calls Tryz.prog 6 #[] W fun e w' => e = .returned (.bool true) ∧ Below W.heap.size W w') := fun W hW => awake_any W (hP.below hW)
  have HGR : Hid (∀ W, Below w.heap.size w W → Calls Tryz.prog 5 #[ppv] W fun e w' => ∃ b, e = .returned (.bool b) ∧ Hid (b = false → ∀ i, i < P.length → FitG (P.getD i default)) ∧ Below W.heap.size W w') := fun W hW => great8_any P ppv W (hp.below hW)
  have HRUN : Hid ((∀ i, i < P.length → FitG (P.getD i default)) → ∀ W lim dep, Below w.heap.size w W → lim ≤ 600000 → dep ≤ 1800 → Calls Tryz.prog 7 #[ppv, .int .i64 f, av, .int .i64 ((lim : Nat) : Int), .int .i64 ((dep : Nat) : Int)] W fun e w' => ∃ sv, e = .returned (.tuple #[.agg (outArr sv (outR P f xs lim dep)), .int .i64 (outR P f xs lim dep).err]) ∧ Below W.heap.size W w' ∧ w'.ownsRow W.heap.size 56 2 sv (outR P f xs lim dep).sh.length (flat shCells (outR P f xs lim dep).sh) ∧ ShowsAt w' sv (outR P f xs lim dep).sh) := fun hF W lim dep hW hl hdp => run_out (hp.below hW) (hP.below hW) hF hl hdp (ha.below hW) hw
  have HPL : Hid ((∀ i, i < P.length → FitG (P.getD i default)) → _) := fun hF => out_more (f := f) (xs := xs) hF hbits hw (lim := s) (lim' := s + m) (dep := d) (dep' := d + m) (by omega) (by omega)
  obtain ⟨aa, ac, rfl, _⟩ := ha.form
  have hs8' : (s : Int) < 800 := by omega
  have hm8' : (m : Int) < 800 := by omega
  have hd6' : (d : Int) < 60 := by omega
  clear hp hP ha hw hbits hs hm hd
  have T1 : True := trivial
  have T2 : True := trivial
  go_enter Tryz.func4, Tryz.ntmps4
  by_cases hx : (400 : Int) < xs.length
  · go_wp2_with (first
      | (go_at_call 6; refine Calls.mono (by exact HAW.out _ (Below.refl _ _)) ?_; rintro e w1 ⟨rfl, hb⟩; have HB1 : Hid (Below w.heap.size w w1) := hb; clear hb)
      | (go_at_call 5; refine Calls.mono (by exact HGR.out _ HB1.out) ?_; rintro e w2 ⟨b, rfl, _, hb⟩; have HB2 : Hid (Below w.heap.size w w2) := below_trans HB1.out hb; clear hb; cases b))
    · go_wp2
      go_ret
      exact ⟨rfl, HB2.out⟩
    · go_wp2
      go_ret
      exact ⟨rfl, HB2.out⟩
  · go_wp2_with (first
      | (go_at_call 6; refine Calls.mono (by exact HAW.out _ (Below.refl _ _)) ?_; rintro e w1 ⟨rfl, hb⟩; have HB1 : Hid (Below w.heap.size w w1) := hb; clear hb)
      | (go_at_call 5; refine Calls.mono (by exact HGR.out _ HB1.out) ?_; rintro e w2 ⟨b, rfl, hf, hb⟩; have HB2 : Hid (Below w.heap.size w w2) := below_trans HB1.out hb; have HF : Hid (Hid (b = false → ∀ i, i < P.length → FitG (P.getD i default))) := hf; clear hb hf; cases b))
    · have hF : ∀ i, i < P.length → FitG (P.getD i default) := by first | exact HF.out.out rfl | exact HF.out.out trivial
      have HR : Hid _ := HRUN.out hF
      have HM : Hid _ := HPL.out hF
      clear HRUN HPL hF HF HGR HAW
      have T0 : True := trivial
      have T0 : True := trivial
      have T3 : True := trivial
      have T4 : True := trivial
      have T5 : True := trivial
      have T6 : True := trivial
      have HRA : Hid (∀ W, Below w.heap.size w W → Calls Tryz.prog 7 #[ppv, .int .i64 f, .slice aa xs.length ac, .int .i64 (s : Int), .int .i64 (d : Int)] W fun e w' => ∃ xa xn xc, e = .returned (.tuple #[.agg (outArr (.slice xa xn xc) (outR P f xs s d)), .int .i64 (outR P f xs s d).err]) ∧ Below W.heap.size W w' ∧ ShowsAt w' (.slice xa xn xc) (outR P f xs s d).sh) := fun W hW => by
        refine (HR.out W s d hW (by omega) (by omega)).mono ?_
        rintro e w' ⟨sv, rfl, hb, _, hs⟩
        obtain ⟨xa, xc, rfl, _, _⟩ := show_form hs
        exact ⟨xa, _, xc, rfl, hb, hs⟩
      have HRB : Hid (∀ W, Below w.heap.size w W → Calls Tryz.prog 7 #[ppv, .int .i64 f, .slice aa xs.length ac, .int .i64 ((s : Int) + m), .int .i64 ((d : Int) + m)] W fun e w' => ∃ xa xn xc, e = .returned (.tuple #[.agg (outArr (.slice xa xn xc) (outR P f xs (s + m) (d + m))), .int .i64 (outR P f xs s d).err]) ∧ Below W.heap.size W w' ∧ ShowsAt w' (.slice xa xn xc) (outR P f xs (s + m) (d + m)).sh) := fun W hW => by
        have h := HR.out W (s + m) (d + m) hW (by omega) (by omega)
        rw [Int.natCast_add, Int.natCast_add] at h
        refine h.mono ?_
        rintro e w' ⟨sv, rfl, hb, _, hs⟩
        obtain ⟨xa, xc, rfl, _, _⟩ := show_form hs
        rw [HM.out.1]
        exact ⟨xa, _, xc, rfl, hb, hs⟩
      have HRC : Hid ((outR P f xs s d).st ≤ s → (outR P f xs s d).dp ≤ d → ∀ W, Below w.heap.size w W → Calls Tryz.prog 7 #[ppv, .int .i64 f, .slice aa xs.length ac, .int .i64 ((outR P f xs s d).st : Int), .int .i64 ((outR P f xs s d).dp : Int)] W fun e w' => ∃ xa xn xc, e = .returned (.tuple #[.agg (outArr (.slice xa xn xc) (outR P f xs (outR P f xs s d).st (outR P f xs s d).dp)), .int .i64 (outR P f xs (outR P f xs s d).st (outR P f xs s d).dp).err]) ∧ Below W.heap.size W w' ∧ ShowsAt w' (.slice xa xn xc) (outR P f xs (outR P f xs s d).st (outR P f xs s d).dp).sh) := fun q1 q2 W hW => by
        refine (HR.out W _ _ hW (by omega) (by omega)).mono ?_
        rintro e w' ⟨sv, rfl, hb, _, hs⟩
        obtain ⟨xa, xc, rfl, _, _⟩ := show_form hs
        exact ⟨xa, _, xc, rfl, hb, hs⟩
      obtain ⟨-, hcase⟩ := HM.out
      clear HR HM
      unfold outArr at HRA HRB HRC
      generalize outR P f xs s d = oa at *
      generalize outR P f xs (s + m) (d + m) = ob at *
      obtain ⟨ea, sha, fa, va, ta, sa, da⟩ := oa
      obtain ⟨eb, shb, fb, vb, tb, sb, db⟩ := ob
      dsimp only at HRA HRB HRC hcase
      rcases hcase with ⟨he, hoa⟩ | ⟨rfl, p1, p2, p3, p4, p5, hfin⟩
      · injection hoa with e0 e1 e2 e3 e4 e5 e6
        subst e1 e2 e3 e4 e5 e6
        clear e0
        have he1 : (ea != 0) = true := by simpa using he
        have HSZ : Hid (∀ W v, ShowsAt W v [] → Calls Tryz.prog 9 #[.agg #[v, .int .u8 0, .int .u64 0, .int .u8 0, .int .i64 0, .int .i64 0], .agg #[.slice none 0 0, .int .u8 0, .int .u64 0, .int .u8 0, .int .i64 0, .int .i64 0]] W fun e w' => e = .returned (.bool true) ∧ Below W.heap.size W w') := fun W v hv => sameTr_yes [] v _ _ _ _ _ _ W hv (shows_nil W)
        clear HRC he
        rw [show ((0 : Nat) : Int) = 0 from rfl] at HRA
        go_wp2_with (first
          | (go_at_call 10; clear T1; refine Calls.mono (by exact HP1.out _) ?_; rintro e w3 ⟨rfl, rfl⟩)
          | (go_at_call 10; clear T2; refine Calls.mono (by exact HP2.out _) ?_; rintro e w3 ⟨rfl, rfl⟩)
          | (go_at_call 10; refine Calls.mono (by exact HP3.out _) ?_; rintro e w3 ⟨rfl, rfl⟩)
          | (go_at_call 7; clear T3; refine Calls.mono (by exact HRA.out _ HB2.out) ?_; rintro e w4 ⟨xa, xn, xc, rfl, hb, hs⟩; have HB4 : Hid (Below w.heap.size w w4) := below_trans HB2.out hb; have HSA : Hid (ShowsAt w4 (.slice xa xn xc) []) := hs; clear hb hs)
          | (go_at_call 7; clear T4; refine Calls.mono (by exact HRB.out _ (below_alloc HB4.out _)) ?_; rintro e w5 ⟨ya, yn, yc, rfl, hb, hs⟩; have HB5 : Hid (Below w.heap.size w w5) := below_trans (below_alloc HB4.out _) hb; have HSA5 : Hid (ShowsAt w5 (.slice xa xn xc) []) := HSA.out.below (below_trans (below_alloc (Below.refl _ _) _) hb); have HSB : Hid (ShowsAt w5 (.slice ya yn yc) shb) := hs; have hbox := (Box.new w4 [.slice xa xn xc, .int .u8 0, .int .u64 0, .int .u8 0, .int .i64 0, .int .i64 0] 31).below hb; have HBX : Hid (Box w5 w4.heap.size [.slice xa xn xc, .int .u8 0, .int .u64 0, .int .u8 0, .int .i64 0, .int .i64 0]) := hbox; have hbx : ∀ ob, Box (w5.alloc ob) w4.heap.size [.slice xa xn xc, .int .u8 0, .int .u64 0, .int .u8 0, .int .i64 0, .int .i64 0] := fun ob => hbox.below (below_alloc (Below.refl _ _) ob); have k0 := fun ob => (hbx ob).cell 0 _ rfl; have k1 := fun ob => (hbx ob).cell 1 _ rfl; have k2 := fun ob => (hbx ob).cell 2 _ rfl; have k3 := fun ob => (hbx ob).cell 3 _ rfl; have k4 := fun ob => (hbx ob).cell 4 _ rfl; have k5 := fun ob => (hbx ob).cell 5 _ rfl; clear hb hs hbox hbx)
          | (go_at_call 9; refine Calls.mono (by exact HSZ.out _ _ (HSA5.out.below (below_alloc (Below.refl _ _) _))) ?_; rintro e w7 ⟨rfl, hb⟩; have HB7 : Hid (Below w.heap.size w w7) := below_trans (below_alloc HB5.out _) hb; clear hb))
        go_ret
        exact ⟨rfl, HB7.out⟩
      have HBG : Hid (∀ W v1 v2, ShowsAt W v1 sha → ShowsAt W v2 shb → Calls Tryz.prog 11 #[v1, v2] W fun e w' => e = .returned (.bool true) ∧ ∃ k, w' = W.drewN k) := fun W v1 v2 h1 h2 => begins_yes sha shb p1 v1 v2 W h1 h2
      have q2 : ¬ (sb : Int) < sa := by omega
      have q3 : ¬ (db : Int) < da := by omega
      have q4 : ¬ (s : Int) < sa := by omega
      have q5 : ¬ (d : Int) < da := by omega
      have HRC2 := HRC.out p4 p5
      clear HRC p1 p2 p3 p4 p5
      rcases hfin with ⟨rfl, rfl⟩ | ⟨rfl, rfl⟩ | ⟨hf12, hob, hoc⟩
      · clear HRC2
        go_wp2_with (first
          | (go_at_call 10; clear T1; refine Calls.mono (by exact HP1.out _) ?_; rintro e w3 ⟨rfl, rfl⟩)
          | (go_at_call 10; clear T2; refine Calls.mono (by exact HP2.out _) ?_; rintro e w3 ⟨rfl, rfl⟩)
          | (go_at_call 10; refine Calls.mono (by exact HP3.out _) ?_; rintro e w3 ⟨rfl, rfl⟩)
          | (go_at_call 7; clear T3; refine Calls.mono (by exact HRA.out _ HB2.out) ?_; rintro e w4 ⟨xa, xn, xc, rfl, hb, hs⟩; have HB4 : Hid (Below w.heap.size w w4) := below_trans HB2.out hb; have HSA : Hid (ShowsAt w4 (.slice xa xn xc) sha) := hs; clear hb hs)
          | (go_at_call 7; clear T4; refine Calls.mono (by exact HRB.out _ (below_alloc HB4.out _)) ?_; rintro e w5 ⟨ya, yn, yc, rfl, hb, hs⟩; have HB5 : Hid (Below w.heap.size w w5) := below_trans (below_alloc HB4.out _) hb; have HSA5 : Hid (ShowsAt w5 (.slice xa xn xc) sha) := HSA.out.below (below_trans (below_alloc (Below.refl _ _) _) hb); have HSB : Hid (ShowsAt w5 (.slice ya yn yc) shb) := hs; have hbox := (Box.new w4 [.slice xa xn xc, .int .u8 3, .int .u64 va, .int .u8 ta, .int .i64 (sa : Int), .int .i64 (da : Int)] 31).below hb; have HBX : Hid (Box w5 w4.heap.size [.slice xa xn xc, .int .u8 3, .int .u64 va, .int .u8 ta, .int .i64 (sa : Int), .int .i64 (da : Int)]) := hbox; have hbx : ∀ ob, Box (w5.alloc ob) w4.heap.size [.slice xa xn xc, .int .u8 3, .int .u64 va, .int .u8 ta, .int .i64 (sa : Int), .int .i64 (da : Int)] := fun ob => hbox.below (below_alloc (Below.refl _ _) ob); have k0 := fun ob => (hbx ob).cell 0 _ rfl; have k1 := fun ob => (hbx ob).cell 1 _ rfl; have k2 := fun ob => (hbx ob).cell 2 _ rfl; have k3 := fun ob => (hbx ob).cell 3 _ rfl; have k4 := fun ob => (hbx ob).cell 4 _ rfl; have k5 := fun ob => (hbx ob).cell 5 _ rfl; clear hb hs hbox hbx)
          | (go_at_call 11; refine Calls.mono (by exact HBG.out _ _ _ (HSA5.out.below (below_alloc (Below.refl _ _) _)) (HSB.out.below (below_alloc (Below.refl _ _) _))) ?_; rintro e w6 ⟨rfl, kq, rfl⟩))
        go_ret
        exact ⟨rfl, below_drewN (below_alloc HB5.out _) _⟩
      · clear HRC2
        go_wp2_with (first
          | (go_at_call 10; clear T1; refine Calls.mono (by exact HP1.out _) ?_; rintro e w3 ⟨rfl, rfl⟩)
          | (go_at_call 10; clear T2; refine Calls.mono (by exact HP2.out _) ?_; rintro e w3 ⟨rfl, rfl⟩)
          | (go_at_call 10; refine Calls.mono (by exact HP3.out _) ?_; rintro e w3 ⟨rfl, rfl⟩)
          | (go_at_call 7; clear T3; refine Calls.mono (by exact HRA.out _ HB2.out) ?_; rintro e w4 ⟨xa, xn, xc, rfl, hb, hs⟩; have HB4 : Hid (Below w.heap.size w w4) := below_trans HB2.out hb; have HSA : Hid (ShowsAt w4 (.slice xa xn xc) sha) := hs; clear hb hs)
          | (go_at_call 7; clear T4; refine Calls.mono (by exact HRB.out _ (below_alloc HB4.out _)) ?_; rintro e w5 ⟨ya, yn, yc, rfl, hb, hs⟩; have HB5 : Hid (Below w.heap.size w w5) := below_trans (below_alloc HB4.out _) hb; have HSA5 : Hid (ShowsAt w5 (.slice xa xn xc) sha) := HSA.out.below (below_trans (below_alloc (Below.refl _ _) _) hb); have HSB : Hid (ShowsAt w5 (.slice ya yn yc) shb) := hs; have hbox := (Box.new w4 [.slice xa xn xc, .int .u8 4, .int .u64 va, .int .u8 ta, .int .i64 (sa : Int), .int .i64 (da : Int)] 31).below hb; have HBX : Hid (Box w5 w4.heap.size [.slice xa xn xc, .int .u8 4, .int .u64 va, .int .u8 ta, .int .i64 (sa : Int), .int .i64 (da : Int)]) := hbox; have hbx : ∀ ob, Box (w5.alloc ob) w4.heap.size [.slice xa xn xc, .int .u8 4, .int .u64 va, .int .u8 ta, .int .i64 (sa : Int), .int .i64 (da : Int)] := fun ob => hbox.below (below_alloc (Below.refl _ _) ob); have k0 := fun ob => (hbx ob).cell 0 _ rfl; have k1 := fun ob => (hbx ob).cell 1 _ rfl; have k2 := fun ob => (hbx ob).cell 2 _ rfl; have k3 := fun ob => (hbx ob).cell 3 _ rfl; have k4 := fun ob => (hbx ob).cell 4 _ rfl; have k5 := fun ob => (hbx ob).cell 5 _ rfl; clear hb hs hbox hbx)
          | (go_at_call 11; refine Calls.mono (by exact HBG.out _ _ _ (HSA5.out.below (below_alloc (Below.refl _ _) _)) (HSB.out.below (below_alloc (Below.refl _ _) _))) ?_; rintro e w6 ⟨rfl, kq, rfl⟩))
        go_ret
        exact ⟨rfl, below_drewN (below_alloc HB5.out _) _⟩
      · injection hob.symm with e0 e1 e2 e3 e4 e5 e6
        subst e1 e2 e3 e4 e5 e6
        clear e0
        rw [hoc] at HRC2
        have HRC : Hid _ := HRC2
        have HSM : Hid (∀ W v1 v2, ShowsAt W v1 sha → ShowsAt W v2 sha → Calls Tryz.prog 9 #[.agg #[v1, .int .u8 fa, .int .u64 va, .int .u8 ta, .int .i64 (sa : Int), .int .i64 (da : Int)], .agg #[v2, .int .u8 fa, .int .u64 va, .int .u8 ta, .int .i64 (sa : Int), .int .i64 (da : Int)]] W fun e w' => e = .returned (.bool true) ∧ Below W.heap.size W w') := fun W v1 v2 h1 h2 => sameTr_yes sha v1 v2 _ _ _ _ _ W h1 h2
        clear HRC2 hoc
        rcases hf12 with rfl | rfl
        · clear T0
          go_wp2_with (first
            | (go_at_call 10; clear T1; refine Calls.mono (by exact HP1.out _) ?_; rintro e w3 ⟨rfl, rfl⟩)
            | (go_at_call 10; clear T2; refine Calls.mono (by exact HP2.out _) ?_; rintro e w3 ⟨rfl, rfl⟩)
            | (go_at_call 10; refine Calls.mono (by exact HP3.out _) ?_; rintro e w3 ⟨rfl, rfl⟩)
            | (go_at_call 7; clear T3; refine Calls.mono (by exact HRA.out _ HB2.out) ?_; rintro e w4 ⟨xa, xn, xc, rfl, hb, hs⟩; have HB4 : Hid (Below w.heap.size w w4) := below_trans HB2.out hb; have HSA : Hid (ShowsAt w4 (.slice xa xn xc) sha) := hs; clear hb hs)
            | (go_at_call 7; clear T4; refine Calls.mono (by exact HRB.out _ (below_alloc HB4.out _)) ?_; rintro e w5 ⟨ya, yn, yc, rfl, hb, hs⟩; have HB5 : Hid (Below w.heap.size w w5) := below_trans (below_alloc HB4.out _) hb; have HSA5 : Hid (ShowsAt w5 (.slice xa xn xc) sha) := HSA.out.below (below_trans (below_alloc (Below.refl _ _) _) hb); have HSB : Hid (ShowsAt w5 (.slice ya yn yc) sha) := hs; have hbox := (Box.new w4 [.slice xa xn xc, .int .u8 1, .int .u64 va, .int .u8 ta, .int .i64 (sa : Int), .int .i64 (da : Int)] 31).below hb; have HBX : Hid (Box w5 w4.heap.size [.slice xa xn xc, .int .u8 1, .int .u64 va, .int .u8 ta, .int .i64 (sa : Int), .int .i64 (da : Int)]) := hbox; have hbx : ∀ ob, Box (w5.alloc ob) w4.heap.size [.slice xa xn xc, .int .u8 1, .int .u64 va, .int .u8 ta, .int .i64 (sa : Int), .int .i64 (da : Int)] := fun ob => hbox.below (below_alloc (Below.refl _ _) ob); have k0 := fun ob => (hbx ob).cell 0 _ rfl; have k1 := fun ob => (hbx ob).cell 1 _ rfl; have k2 := fun ob => (hbx ob).cell 2 _ rfl; have k3 := fun ob => (hbx ob).cell 3 _ rfl; have k4 := fun ob => (hbx ob).cell 4 _ rfl; have k5 := fun ob => (hbx ob).cell 5 _ rfl; clear hb hs hbox hbx)
            | (go_at_call 11; refine Calls.mono (by exact HBG.out _ _ _ (HSA5.out.below (below_alloc (Below.refl _ _) _)) (HSB.out.below (below_alloc (Below.refl _ _) _))) ?_; rintro e w6 ⟨rfl, kq, rfl⟩)
            | (go_at_call 9; clear T5; refine Calls.mono (by exact HSM.out _ _ _ (HSA5.out.below (below_drewN (below_alloc (Below.refl _ _) _) _)) (HSB.out.below (below_drewN (below_alloc (Below.refl _ _) _) _))) ?_; rintro e w7 ⟨rfl, hb⟩; clear k0 k1 k2 k3 k4 k5; have HB7 : Hid (Below w.heap.size w w7) := below_trans (below_drewN (below_alloc HB5.out _) _) hb; have HSA7 : Hid (ShowsAt w7 (.slice xa xn xc) sha) := HSA5.out.below (below_trans (below_drewN (below_alloc (Below.refl _ _) _) _) hb); have hbox := HBX.out.below (below_trans (below_drewN (below_alloc (Below.refl _ _) _) _) hb); have HBX7 : Hid (Box w7 w4.heap.size [.slice xa xn xc, .int .u8 1, .int .u64 va, .int .u8 ta, .int .i64 (sa : Int), .int .i64 (da : Int)]) := hbox; have k0 := hbox.cell 0 _ rfl; have k1 := hbox.cell 1 _ rfl; have k2 := hbox.cell 2 _ rfl; have k3 := hbox.cell 3 _ rfl; have k4 := hbox.cell 4 _ rfl; have k5 := hbox.cell 5 _ rfl; clear hb hbox)
            | (go_at_call 7; clear T6; refine Calls.mono (by exact HRC.out _ HB7.out) ?_; rintro e w8 ⟨za, zn, zc, rfl, hb, hs⟩; clear k0 k1 k2 k3 k4 k5; have HB8 : Hid (Below w.heap.size w w8) := below_trans HB7.out hb; have HSA8 : Hid (ShowsAt w8 (.slice xa xn xc) sha) := HSA7.out.below hb; have HSC : Hid (ShowsAt w8 (.slice za zn zc) sha) := hs; have hbox := HBX7.out.below hb; have hbx : ∀ ob, Box (w8.alloc ob) w4.heap.size [.slice xa xn xc, .int .u8 1, .int .u64 va, .int .u8 ta, .int .i64 (sa : Int), .int .i64 (da : Int)] := fun ob => hbox.below (below_alloc (Below.refl _ _) ob); have k0 := fun ob => (hbx ob).cell 0 _ rfl; have k1 := fun ob => (hbx ob).cell 1 _ rfl; have k2 := fun ob => (hbx ob).cell 2 _ rfl; have k3 := fun ob => (hbx ob).cell 3 _ rfl; have k4 := fun ob => (hbx ob).cell 4 _ rfl; have k5 := fun ob => (hbx ob).cell 5 _ rfl; clear hb hs hbox hbx)
            | (go_at_call 9; refine Calls.mono (by exact HSM.out _ _ _ (HSA8.out.below (below_alloc (Below.refl _ _) _)) (HSC.out.below (below_alloc (Below.refl _ _) _))) ?_; rintro e w9 ⟨rfl, hb⟩; have HB9 : Hid (Below w.heap.size w w9) := below_trans (below_alloc HB8.out _) hb; clear hb))
          go_ret
          exact ⟨rfl, HB9.out⟩
        · clear T0
          go_wp2_with (first
            | (go_at_call 10; clear T1; refine Calls.mono (by exact HP1.out _) ?_; rintro e w3 ⟨rfl, rfl⟩)
            | (go_at_call 10; clear T2; refine Calls.mono (by exact HP2.out _) ?_; rintro e w3 ⟨rfl, rfl⟩)
            | (go_at_call 10; refine Calls.mono (by exact HP3.out _) ?_; rintro e w3 ⟨rfl, rfl⟩)
            | (go_at_call 7; clear T3; refine Calls.mono (by exact HRA.out _ HB2.out) ?_; rintro e w4 ⟨xa, xn, xc, rfl, hb, hs⟩; have HB4 : Hid (Below w.heap.size w w4) := below_trans HB2.out hb; have HSA : Hid (ShowsAt w4 (.slice xa xn xc) sha) := hs; clear hb hs)
            | (go_at_call 7; clear T4; refine Calls.mono (by exact HRB.out _ (below_alloc HB4.out _)) ?_; rintro e w5 ⟨ya, yn, yc, rfl, hb, hs⟩; have HB5 : Hid (Below w.heap.size w w5) := below_trans (below_alloc HB4.out _) hb; have HSA5 : Hid (ShowsAt w5 (.slice xa xn xc) sha) := HSA.out.below (below_trans (below_alloc (Below.refl _ _) _) hb); have HSB : Hid (ShowsAt w5 (.slice ya yn yc) sha) := hs; have hbox := (Box.new w4 [.slice xa xn xc, .int .u8 2, .int .u64 va, .int .u8 ta, .int .i64 (sa : Int), .int .i64 (da : Int)] 31).below hb; have HBX : Hid (Box w5 w4.heap.size [.slice xa xn xc, .int .u8 2, .int .u64 va, .int .u8 ta, .int .i64 (sa : Int), .int .i64 (da : Int)]) := hbox; have hbx : ∀ ob, Box (w5.alloc ob) w4.heap.size [.slice xa xn xc, .int .u8 2, .int .u64 va, .int .u8 ta, .int .i64 (sa : Int), .int .i64 (da : Int)] := fun ob => hbox.below (below_alloc (Below.refl _ _) ob); have k0 := fun ob => (hbx ob).cell 0 _ rfl; have k1 := fun ob => (hbx ob).cell 1 _ rfl; have k2 := fun ob => (hbx ob).cell 2 _ rfl; have k3 := fun ob => (hbx ob).cell 3 _ rfl; have k4 := fun ob => (hbx ob).cell 4 _ rfl; have k5 := fun ob => (hbx ob).cell 5 _ rfl; clear hb hs hbox hbx)
            | (go_at_call 11; refine Calls.mono (by exact HBG.out _ _ _ (HSA5.out.below (below_alloc (Below.refl _ _) _)) (HSB.out.below (below_alloc (Below.refl _ _) _))) ?_; rintro e w6 ⟨rfl, kq, rfl⟩)
            | (go_at_call 9; clear T5; refine Calls.mono (by exact HSM.out _ _ _ (HSA5.out.below (below_drewN (below_alloc (Below.refl _ _) _) _)) (HSB.out.below (below_drewN (below_alloc (Below.refl _ _) _) _))) ?_; rintro e w7 ⟨rfl, hb⟩; clear k0 k1 k2 k3 k4 k5; have HB7 : Hid (Below w.heap.size w w7) := below_trans (below_drewN (below_alloc HB5.out _) _) hb; have HSA7 : Hid (ShowsAt w7 (.slice xa xn xc) sha) := HSA5.out.below (below_trans (below_drewN (below_alloc (Below.refl _ _) _) _) hb); have hbox := HBX.out.below (below_trans (below_drewN (below_alloc (Below.refl _ _) _) _) hb); have HBX7 : Hid (Box w7 w4.heap.size [.slice xa xn xc, .int .u8 2, .int .u64 va, .int .u8 ta, .int .i64 (sa : Int), .int .i64 (da : Int)]) := hbox; have k0 := hbox.cell 0 _ rfl; have k1 := hbox.cell 1 _ rfl; have k2 := hbox.cell 2 _ rfl; have k3 := hbox.cell 3 _ rfl; have k4 := hbox.cell 4 _ rfl; have k5 := hbox.cell 5 _ rfl; clear hb hbox)
            | (go_at_call 7; clear T6; refine Calls.mono (by exact HRC.out _ HB7.out) ?_; rintro e w8 ⟨za, zn, zc, rfl, hb, hs⟩; clear k0 k1 k2 k3 k4 k5; have HB8 : Hid (Below w.heap.size w w8) := below_trans HB7.out hb; have HSA8 : Hid (ShowsAt w8 (.slice xa xn xc) sha) := HSA7.out.below hb; have HSC : Hid (ShowsAt w8 (.slice za zn zc) sha) := hs; have hbox := HBX7.out.below hb; have hbx : ∀ ob, Box (w8.alloc ob) w4.heap.size [.slice xa xn xc, .int .u8 2, .int .u64 va, .int .u8 ta, .int .i64 (sa : Int), .int .i64 (da : Int)] := fun ob => hbox.below (below_alloc (Below.refl _ _) ob); have k0 := fun ob => (hbx ob).cell 0 _ rfl; have k1 := fun ob => (hbx ob).cell 1 _ rfl; have k2 := fun ob => (hbx ob).cell 2 _ rfl; have k3 := fun ob => (hbx ob).cell 3 _ rfl; have k4 := fun ob => (hbx ob).cell 4 _ rfl; have k5 := fun ob => (hbx ob).cell 5 _ rfl; clear hb hs hbox hbx)
            | (go_at_call 9; refine Calls.mono (by exact HSM.out _ _ _ (HSA8.out.below (below_alloc (Below.refl _ _) _)) (HSC.out.below (below_alloc (Below.refl _ _) _))) ?_; rintro e w9 ⟨rfl, hb⟩; have HB9 : Hid (Below w.heap.size w w9) := below_trans (below_alloc HB8.out _) hb; clear hb))
          go_ret
          exact ⟨rfl, HB9.out⟩
    · go_wp2
      go_ret
      exact ⟨rfl, HB2.out⟩
end Go.Proofs.YtknbgpgefeahlaaGreatDoor
/- A list of words that comes in. -/
namespace Go.Proofs.YtknbgpgefeahlaaGreatDoor
open Go.RowKit Go.ChangeShapes

theorem slU : Tryz.prog.underlying 23 = some (.slice 28) := by kernel_rfl
theorem bzU : 0 < Tryz.prog.bytesOf 28 := by rw [show Tryz.prog.bytesOf 28 = 8 by kernel_rfl]; omega
theorem words_of {H : Type} {enc : TypeId × Value → H} {w : World} {spare : Nat → Bool} {held : Bool} {fuel : Nat} {cs : List Value} {x : DataW H × List MemPlace} (h : DataW.trod enc Tryz.prog w 0 spare held fuel 23 cs = some x) (hw : ∀ n ∈ x.1.weights Tryz.prog 23, n ≤ reachBytes) :
    ∃ (v : Value) (l : List Int), cs = [v] ∧ WordsAt w v l ∧ ∀ i, Sc.word (l.getD i 0) := by
  obtain ⟨v, css, m, e1, hr, hq⟩ := row_of slU (show Tryz.prog.cellsOf 28 = 1 by kernel_rfl) (by omega) bzU h hw
  obtain ⟨l, h1, h2, h3⟩ := flat_pick (fun z => [Value.int .u64 z]) (fun z => Sc.word z) css fun c hm => by
    obtain ⟨_, y, hy, _⟩ := hq c hm
    obtain ⟨z, hz, _, hwf⟩ := DataW.trod_int Tryz.underlying28 hy
    refine ⟨z, hz, ?_⟩
    have hb := (Lit.wf_int_iff .u64 z).1 hwf
    have hb1 : (0 : Int) ≤ z := hb.1
    have hb2 : z ≤ (18446744073709551615 : Int) := hb.2
    exact ⟨hb1, by show z < 18446744073709551616; omega⟩
  rw [h1, h2, flat_one] at hr
  refine ⟨v, l, e1, hr, fun i => ?_⟩
  by_cases hi : i < l.length
  · rw [List.getD_eq_getElem?_getD, List.getElem?_eq_getElem hi]
    exact h3 _ (List.getElem_mem _)
  · rw [List.getD_eq_getElem?_getD, List.getElem?_eq_none (by omega)]
    exact ⟨by decide, by decide⟩
end Go.Proofs.YtknbgpgefeahlaaGreatDoor
