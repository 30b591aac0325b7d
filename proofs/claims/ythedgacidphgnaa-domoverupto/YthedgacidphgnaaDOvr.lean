/- The law DomOver: its run, given what the program's functions do. -/
import Derived.Test.YthedgacidphgnaaDNear
import Derived.Deep.DeepCutAuto
namespace Go.Proofs.Ythedgacidphgnaa
open Go.RowKit

theorem overL_refl {t : List Int} {a : Nat} (h : a < t.length) : overL t (a : Int) (a : Int) = true := by
  unfold overL
  rw [if_pos ⟨⟨by omega, by omega⟩, by omega, by omega⟩]
  exact overF_eq t _ _
theorem ovr_chain {nx : List (List Int)} (h : May nx) {a b c : Nat} (ha : a < nx.length) (hb : b < nx.length) (hc : c < nx.length) (h1 : overL (treeL nx) (a : Int) (c : Int) = true) (h2 : overL (treeL nx) (b : Int) (c : Int) = true) : overL (treeL nx) (a : Int) (b : Int) = true ∨ overL (treeL nx) (b : Int) (a : Int) = true := by
  by_cases hr : Rch nx noneS c
  · rw [overL_is h ha hr] at h1
    rw [overL_is h hb hr] at h2
    have o1 := dec_iff.1 h1
    have o2 := dec_iff.1 h2
    rw [overL_is h ha o2.1, overL_is h hb o1.1]
    rcases o1.chain o2 with h3 | h3
    · exact .inl (dec_true h3)
    · exact .inr (dec_true h3)
  · rw [overL_none h ha hc hr] at h1
    rw [overL_none h hb hc hr] at h2
    have e1 : a = c := by simpa using h1
    have e2 : b = c := by simpa using h2
    subst e1; subst e2
    exact .inl (overL_refl (by rw [treeL_len]; exact ha))
theorem ovr_anti {nx : List (List Int)} (h : May nx) {a b : Nat} (ha : a < nx.length) (hb : b < nx.length) (h1 : overL (treeL nx) (a : Int) (b : Int) = true) (h2 : overL (treeL nx) (b : Int) (a : Int) = true) : a = b := by
  by_cases hr : Rch nx noneS b
  · rw [overL_is h ha hr] at h1
    have o1 := dec_iff.1 h1
    rw [overL_is h hb o1.1] at h2
    exact o1.anti (dec_iff.1 h2)
  · rw [overL_none h ha hb hr] at h1
    simpa using h1
theorem ovr_is {nx : List (List Int)} (h : May nx) {a b : Nat} (hra : Rch nx noneS a) (hrb : Rch nx noneS b) : (a = b → overL (treeL nx) (a : Int) (b : Int) = true) ∧ (a ≠ b → overL (treeL nx) (a : Int) (b : Int) = !dec (Rch nx (· = a) b)) := by
  rw [overL_is h (hra.lt h) hrb]
  refine ⟨fun e => dec_true ⟨hra, hrb, .inl e⟩, fun hn => ?_⟩
  by_cases hx : Rch nx (· = a) b
  · rw [dec_true hx, dec_false fun ho => ho.2.2.elim hn (fun h9 => h9 hx)]; rfl
  · rw [dec_false hx, dec_true ⟨hra, hrb, .inr hx⟩]; rfl
theorem ovr_none {nx : List (List Int)} (h : May nx) {b : Nat} (hb : b < nx.length) (hr : ¬ Rch nx noneS b) : (treeL nx).getD b 0 = -1 := by
  rw [treeL_get hb]
  exact (near_is h b).uniq (near_none hr)
theorem ovr_entry {nx : List (List Int)} (h : May nx) : (treeL nx).getD 0 0 = -1 := by
  rw [treeL_get h.1]
  exact (near_is h 0).uniq (near_entry nx)
theorem ovr_some {nx : List (List Int)} (h : May nx) {b : Nat} (hr : Rch nx noneS b) (h0 : b ≠ 0) : (∃ k : Nat, (treeL nx).getD b 0 = (k : Int)) ∧ overL (treeL nx) 0 (b : Int) = true := by
  refine ⟨?_, ?_⟩
  · rw [treeL_get (hr.lt h)]
    rcases near_is h b with ⟨k, e, _⟩ | ⟨_, hn⟩
    · exact ⟨k, e⟩
    · exact absurd (Ov.entry hr) (hn 0 (fun e => h0 e.symm))
  · have := overL_is h h.1 hr
    rw [show ((0 : Nat) : Int) = 0 from rfl] at this
    rw [this]
    exact dec_true (.entry hr)
theorem pick_nat (x : Int) {n : Nat} (hn : 1 ≤ n) : ∃ k : Nat, x % (n : Int) = (k : Int) ∧ k < n := by
  have h1 := Int.emod_nonneg x (b := (n : Int)) (by omega)
  have h2 := Int.emod_lt_of_pos x (b := (n : Int)) (by omega)
  obtain ⟨k, hk⟩ : ∃ k : Nat, x % (n : Int) = (k : Int) := Int.eq_ofNat_of_zero_le h1
  exact ⟨k, hk, by omega⟩
set_option maxRecDepth 100000 in
set_option maxHeartbeats 4000000 in
theorem over_any (nx : List (List Int)) (xa xb xc : Int) (v : Value) (w : World) (h : NetAt w v nx) (hT : TreeOk nx) (hO : OverOk) (hA : ∀ W, Calls Try.prog 9 #[] W fun e w' => e = .returned (.bool true) ∧ Below W.heap.size W w') :
    Calls Try.prog 6 #[v, .int .i64 xa, .int .i64 xb, .int .i64 xc] w fun e w' => e = .returned (.bool true) ∧ Below w.heap.size w w' := by
  have HA : Hid _ := hA w
  have HT : Hid (∀ W, Below w.heap.size w W → _) := fun W hb => hT v W (h.below hb)
  by_cases hM : May nx
  rotate_left
  · have HM : Hid (¬ May nx) := hM
    clear hT hO hA h hM
    go_enter Try.func6, Try.ntmps6
    go_wp2_with (first
      | (go_at_call 9; go_loud (refine Calls.mono (by exact HA.out) ?_; rintro e w0 ⟨rfl, hb0⟩; have HB0 : Hid _ := hb0; clear hb0))
      | (go_at_call 10; go_loud (refine Calls.mono (by exact HT.out _ HB0.out) ?_; rintro e w1 ⟨_, ht1, hb1⟩; have he1 := ht1 HM.out; subst he1; have HB1 : Hid (Below w.heap.size w w1) := below_trans HB0.out hb1; clear ht1 hb1)))
    go_ret
    exact ⟨rfl, HB1.out⟩
  have HM : Hid (May nx) := hM
  have HNB : nx.length ≤ 140737488355328 := by obtain ⟨_, _, _, hl⟩ := h.form; exact hl
  have HTB : Hid ((treeL nx).length ≤ 140737488355328) := by show _ ≤ _; rw [treeL_len]; exact HNB
  have HLT : Hid ((treeL nx).length = nx.length) := treeL_len nx
  by_cases hn2 : nx.length ≤ 2000
  rotate_left
  · obtain ⟨va, vc, rfl, _⟩ := h.form
    have hn2' : (2000 : Int) < nx.length := by omega
    clear hT hO hA h hM
    generalize nx.length = n at *
    go_enter Try.func6, Try.ntmps6
    go_wp2_with (first
      | (go_at_call 9; go_loud (refine Calls.mono (by exact HA.out) ?_; rintro e w0 ⟨rfl, hb0⟩; have HB0 : Hid _ := hb0; clear hb0))
      | (go_at_call 10; go_loud (refine Calls.mono (by exact HT.out _ HB0.out) ?_; rintro e w1 ⟨ht1, _, hb1⟩; obtain ⟨v1, rfl, ho1⟩ := ht1 HM.out; have HB1 : Hid (Below w.heap.size w w1) := below_trans HB0.out hb1; clear ht1 hb1 ho1)))
    go_ret
    exact ⟨rfl, HB1.out⟩
  obtain ⟨A, hA1, hAn⟩ := pick_nat xa (n := nx.length) hM.1
  obtain ⟨B, hB1, hBn⟩ := pick_nat xb (n := nx.length) hM.1
  obtain ⟨C, hC1, hCn⟩ := pick_nat xc (n := nx.length) hM.1
  have HP1 : Hid (∀ W, _) := fun W => pick_any xa nx.length hM.1 HNB W
  have HP2 : Hid (∀ W, _) := fun W => pick_any xb nx.length hM.1 HNB W
  have HP3 : Hid (∀ W, _) := fun W => pick_any xc nx.length hM.1 HNB W
  rw [hA1] at HP1
  rw [hB1] at HP2
  rw [hC1] at HP3
  have HW1 : Hid (∀ W, Below w.heap.size w W → _) := fun W hb => without_any nx v (-1) noneS (fun i => ⟨fun h => h.elim, fun h => by omega⟩) W (h.below hb) hM (by omega)
  have HW2 : Hid (∀ W, Below w.heap.size w W → _) := fun W hb => without_any nx v (A : Int) (· = A) (fun i => ⟨fun h => by rw [h], fun h => by omega⟩) W (h.below hb) hM (by omega)
  have HO : Hid _ := hO
  have HRG : Hid (∀ S j, j < nx.length → (reachL nx S).getD j false = dec (Rch nx S j)) := fun S j hj => reachL_get hj false
  have G1 : Hid (Rch nx noneS A → Rch nx noneS B → _) := fun h1 h2 => ovr_is hM h1 h2
  have G2 : Hid (¬ Rch nx noneS B → _) := fun h1 => ovr_none hM hBn h1
  have G3 : Hid (Rch nx noneS B → B ≠ 0 → _) := fun h1 h2 => ovr_some hM h1 h2
  have G4 : Hid _ := ovr_chain hM hAn hBn hCn
  have G5 : Hid _ := ovr_anti hM hAn hBn
  have G6 : Hid _ := ovr_entry hM
  have hn0 : 0 < nx.length := hM.1
  obtain ⟨va, vc, rfl, _⟩ := h.form
  obtain ⟨n, hnn⟩ : ∃ n, n = nx.length := ⟨_, rfl⟩
  rw [← hnn] at HP1 HP2 HP3 HW1 HW2 HRG HT hAn hBn hCn HLT HNB hn2 hn0
  rw [← hnn]
  clear hT hO hA h hM hnn hA1 hB1 hC1
  generalize treeL nx = T at *
  have hn2' : ¬ (2000 : Int) < n := by omega
  have S1 : True := trivial
  have S2 : True := trivial
  have S3 : True := trivial
  go_enter Try.func6, Try.ntmps6
  go_upto_region 9 with (first
    | (go_at_call 9; go_loud (refine Calls.mono (by exact HA.out) ?_; rintro e w0 ⟨rfl, hb0⟩; have HB0 : Hid _ := hb0; clear hb0))
    | (go_at_call 10; go_loud (refine Calls.mono (by exact HT.out _ HB0.out) ?_; rintro e w1 ⟨ht1, _, hb1⟩; obtain ⟨v1, rfl, ho1⟩ := ht1 HM.out; have HI1 : Hid (IntsAt w1 v1 T) := OwnI.at' ho1 HTB.out; have HB1 : Hid (Below w.heap.size w w1) := below_trans HB0.out hb1; clear ht1 hb1 ho1))
    | (go_at_call 18; clear S1; go_loud (refine Calls.mono (by exact HP1.out _) ?_; rintro e w2 ⟨rfl, hw2⟩; have hw3 := hw2.symm; subst hw3))
    | (go_at_call 18; clear S2; go_loud (refine Calls.mono (by exact HP2.out _) ?_; rintro e w2 ⟨rfl, hw2⟩; have hw3 := hw2.symm; subst hw3))
    | (go_at_call 18; go_loud (refine Calls.mono (by exact HP3.out _) ?_; rintro e w2 ⟨rfl, hw2⟩; have hw3 := hw2.symm; subst hw3))
    | (go_at_call 19; clear S3; go_loud (refine Calls.mono (by exact HW1.out _ HB1.out) ?_; rintro e w3 ⟨rfl, ho3, hb3⟩; have HO3 : Hid (OwnZ w3 w1.heap.size w1.heap.size n (reachL nx noneS)) := ho3; have HB3 : Hid (Below w.heap.size w w3) := below_trans HB1.out hb3; have HI3 : Hid (IntsAt w3 v1 T) := HI1.out.below hb3; clear ho3 hb3))
    | (go_at_call 19; go_loud (refine Calls.mono (by exact HW2.out _ HB3.out) ?_; rintro e w4 ⟨rfl, ho4, hb4⟩; have HL4 : Hid (OwnZ w4 w3.heap.size w3.heap.size n (reachL nx (· = A))) := ho4; have HO4 : Hid (OwnZ w4 w1.heap.size w1.heap.size n (reachL nx noneS)) := owns_below HO3.out hb4; have HB4 : Hid (Below w.heap.size w w4) := below_trans HB3.out hb4; have HI4 : Hid (IntsAt w4 v1 T) := HI3.out.below hb4; obtain ⟨ta, tc, hte, _⟩ := HI4.out.form; subst hte; rw [HLT.out] at HI4; rw [HLT.out]; clear ho4 hb4 HI1 HI3 HO3)))
  obtain ⟨gt, ot, hta, hgt, ct0⟩ := HI4.out.get (i := 0) (by rw [HLT.out]; exact hn0)
  subst hta
  rw [G6.out, Nat.add_zero] at ct0
  have hAn' : (A : Int) < n := by omega
  have hBn' : (B : Int) < n := by omega
  have hn0' : (0 : Int) < n := by omega
  have HTI : Hid (∀ W i, Below w4.heap.size w4 W → i < n → W.cell? ⟨gt, ot + i, none⟩ = some (.int .i64 (T.getD i 0))) := fun W i hb hi => by
    obtain ⟨g2, o2, e2, _, c2⟩ := HI4.out.get (i := i) (by rw [HLT.out]; exact hi)
    cases e2
    exact (hb.cell (p := ⟨gt, ot + i, none⟩) hgt).trans c2
  have HAI : Hid (∀ W i, Below w4.heap.size w4 W → i < n → W.cell? ⟨w1.heap.size, i, none⟩ = some (.int .i64 (b2i (dec (Rch nx noneS i))))) := fun W i hb hi => by
    rw [(hb.cell (p := ⟨w1.heap.size, i, none⟩) HO4.out.lt'.2), HO4.out.at' hi false, HRG.out _ _ hi]
  have HLI : Hid (∀ W i, Below w4.heap.size w4 W → i < n → W.cell? ⟨w3.heap.size, i, none⟩ = some (.int .i64 (b2i (dec (Rch nx (· = A) i))))) := fun W i hb hi => by
    rw [(hb.cell (p := ⟨w3.heap.size, i, none⟩) HL4.out.lt'.2), HL4.out.at' hi false, HRG.out _ _ hi]
  have HOV : Hid (∀ W (x y : Int), Below w4.heap.size w4 W → Calls Try.prog 13 #[.slice (some ⟨gt, ot, none⟩) n tc, .int .i64 x, .int .i64 y] W fun e w' => e = .returned (.bool (overL T x y)) ∧ Below w4.heap.size w4 w') := fun W x y hb => (HO.out T x y _ W (HI4.out.below hb)).mono fun e w' hh => ⟨hh.1, below_trans hb (below_of_drew hh.2)⟩
  clear HA HT HP1 HP2 HP3 HW1 HW2 HO HI4 HO4 HL4 HRG HB0 HB1 HB3 G6
  go_upto_region 11 with (fail)
  have a0 := HAI.out w4 A (Below.refl _ _) hAn
  have b0 := HAI.out w4 B (Below.refl _ _) hBn
  have l0 := HLI.out w4 B (Below.refl _ _) hBn
  have HV1 : Hid _ := HOV.out w4 (A : Int) (B : Int) (Below.refl _ _)
  go_cut [93] (fun v93 wr => v93 = .bool false ∧ Hid (Below w4.heap.size w4 wr))
  case first =>
    by_cases hra : Rch nx noneS A
    rotate_left
    · rw [dec_false hra, show b2i false = 0 from rfl] at a0
      go_wp2_with (fail)
      go_meet
      exact ⟨rfl, Below.refl _ _⟩
    rw [dec_true hra, show b2i true = 1 from rfl] at a0
    by_cases hrb : Rch nx noneS B
    rotate_left
    · rw [dec_false hrb, show b2i false = 0 from rfl] at b0
      go_wp2_with (fail)
      go_meet
      exact ⟨rfl, Below.refl _ _⟩
    rw [dec_true hrb, show b2i true = 1 from rfl] at b0
    by_cases hab : A = B
    · rw [(G1.out hra hrb).1 hab] at HV1
      subst hab
      go_wp2_with (go_at_call 13; go_loud (refine Calls.mono (by exact HV1.out) ?_; rintro e w5 ⟨rfl, hb5⟩; have HB5 : Hid _ := hb5; clear hb5))
      go_meet
      exact ⟨rfl, HB5.out⟩
    · rw [(G1.out hra hrb).2 hab] at HV1
      have habf : ((A : Int) == (B : Int)) = false := beq_false_of_ne (by omega)
      have habn : ¬ (A : Int) = (B : Int) := by omega
      have HLW : Hid (∀ W, Below w4.heap.size w4 W → W.cell? ⟨w3.heap.size, B, none⟩ = _) := fun W hb => HLI.out W B hb hBn
      clear l0
      rcases hx : dec (Rch nx (· = A) B) with _ | _
      · rw [hx] at HV1 HLW
        rw [show b2i false = 0 from rfl] at HLW
        go_wp2_with (go_at_call 13; go_loud (refine Calls.mono (by exact HV1.out) ?_; rintro e w5 ⟨rfl, hb5⟩; have l5 := HLW.out w5 hb5; have HB5 : Hid _ := hb5; clear hb5))
        go_meet
        exact ⟨rfl, HB5.out⟩
      · rw [hx] at HV1 HLW
        rw [show b2i true = 1 from rfl] at HLW
        go_wp2_with (go_at_call 13; go_loud (refine Calls.mono (by exact HV1.out) ?_; rintro e w5 ⟨rfl, hb5⟩; have l5 := HLW.out w5 hb5; have HB5 : Hid _ := hb5; clear hb5))
        go_meet
        exact ⟨rfl, HB5.out⟩
  case rest =>
  obtain ⟨rfl, hc11⟩ := hcut
  generalize wc = w5 at *
  have b5 := HAI.out w5 B hc11.out hBn
  have t5 := HTI.out w5 B hc11.out hBn
  have HV5 : Hid _ := HOV.out w5 0 (B : Int) hc11.out
  clear a0 b0 l0 HV1 ct0
  go_upto_region 13 with (fail)
  go_cut [129] (fun v129 wr => v129 = .bool false ∧ Hid (Below w4.heap.size w4 wr))
  case first =>
    by_cases hrb : Rch nx noneS B
    rotate_left
    · rw [dec_false hrb, show b2i false = 0 from rfl] at b5
      rw [G2.out hrb] at t5
      go_wp2_with (fail)
      go_meet
      exact ⟨rfl, hc11.out⟩
    rw [dec_true hrb, show b2i true = 1 from rfl] at b5
    by_cases hB0 : B = 0
    · subst hB0
      go_wp2_with (fail)
      go_meet
      exact ⟨rfl, hc11.out⟩
    · have hB0' : ((B : Int) != 0) = true := bne_iff_ne.2 (by omega)
      obtain ⟨⟨k, ek⟩, eo⟩ := G3.out hrb hB0
      rw [ek] at t5
      rw [eo] at HV5
      have hk0 : ¬ (k : Int) < 0 := by omega
      go_wp2_with (go_at_call 13; go_loud (refine Calls.mono (by exact HV5.out) ?_; rintro e w6 ⟨rfl, hb6⟩; have HB6 : Hid _ := hb6; clear hb6))
      go_meet
      exact ⟨rfl, HB6.out⟩
  case rest =>
  obtain ⟨rfl, hc13⟩ := hcut
  generalize wc = w6 at *
  clear b5 t5 HV5 hc11 HAI HTI HLI G1 G2 G3
  obtain ⟨p1, hp1⟩ : ∃ p, p = overL T (A : Int) (B : Int) := ⟨_, rfl⟩
  obtain ⟨p2, hp2⟩ : ∃ p, p = overL T (B : Int) (A : Int) := ⟨_, rfl⟩
  obtain ⟨p3, hp3⟩ : ∃ p, p = overL T (A : Int) (C : Int) := ⟨_, rfl⟩
  obtain ⟨p4, hp4⟩ : ∃ p, p = overL T (B : Int) (C : Int) := ⟨_, rfl⟩
  have V1 : Hid (∀ W, Below w4.heap.size w4 W → _) := fun W hb => HOV.out W (A : Int) (B : Int) hb
  have V2 : Hid (∀ W, Below w4.heap.size w4 W → _) := fun W hb => HOV.out W (B : Int) (A : Int) hb
  have V3 : Hid (∀ W, Below w4.heap.size w4 W → _) := fun W hb => HOV.out W (A : Int) (C : Int) hb
  have V4 : Hid (∀ W, Below w4.heap.size w4 W → _) := fun W hb => HOV.out W (B : Int) (C : Int) hb
  rw [← hp1] at V1 G4 G5
  rw [← hp2] at V2 G4 G5
  rw [← hp3] at V3 G4
  rw [← hp4] at V4 G4
  clear hp1 hp2 hp3 hp4 HOV
  go_upto_region 15 with (fail)
  go_cut [153] (fun v153 wr => v153 = .bool false ∧ Hid (Below w4.heap.size w4 wr))
  case first =>
    have S1 : True := trivial
    have S2 : True := trivial
    have S3 : True := trivial
    cases p3 with
    | false =>
      go_wp2_with (go_at_call 13; go_loud (refine Calls.mono (by exact V3.out _ hc13.out) ?_; rintro e w7 ⟨rfl, hb7⟩; have HB7 : Hid _ := hb7; clear hb7))
      go_meet
      exact ⟨rfl, HB7.out⟩
    | true =>
      cases p4 with
      | false =>
        go_wp2_with (first
          | (go_at_call 13; clear S1; go_loud (refine Calls.mono (by exact V3.out _ hc13.out) ?_; rintro e w7 ⟨rfl, hb7⟩; have HB7 : Hid _ := hb7; clear hb7))
          | (go_at_call 13; go_loud (refine Calls.mono (by exact V4.out _ HB7.out) ?_; rintro e w8 ⟨rfl, hb8⟩; have HB8 : Hid _ := hb8; clear hb8)))
        go_meet
        exact ⟨rfl, HB8.out⟩
      | true =>
        cases p1 with
        | true =>
          go_wp2_with (first
            | (go_at_call 13; clear S1; go_loud (refine Calls.mono (by exact V3.out _ hc13.out) ?_; rintro e w7 ⟨rfl, hb7⟩; have HB7 : Hid _ := hb7; clear hb7))
            | (go_at_call 13; clear S2; go_loud (refine Calls.mono (by exact V4.out _ HB7.out) ?_; rintro e w8 ⟨rfl, hb8⟩; have HB8 : Hid _ := hb8; clear hb8))
            | (go_at_call 13; go_loud (refine Calls.mono (by exact V1.out _ HB8.out) ?_; rintro e w9 ⟨rfl, hb9⟩; have HB9 : Hid _ := hb9; clear hb9)))
          go_meet
          exact ⟨rfl, HB9.out⟩
        | false =>
          have hp2 : p2 = true := by
            rcases G4.out rfl rfl with h9 | h9
            · cases h9
            · exact h9
          subst hp2
          go_wp2_with (first
            | (go_at_call 13; clear S1; go_loud (refine Calls.mono (by exact V3.out _ hc13.out) ?_; rintro e w7 ⟨rfl, hb7⟩; have HB7 : Hid _ := hb7; clear hb7))
            | (go_at_call 13; clear S2; go_loud (refine Calls.mono (by exact V4.out _ HB7.out) ?_; rintro e w8 ⟨rfl, hb8⟩; have HB8 : Hid _ := hb8; clear hb8))
            | (go_at_call 13; clear S3; go_loud (refine Calls.mono (by exact V1.out _ HB8.out) ?_; rintro e w9 ⟨rfl, hb9⟩; have HB9 : Hid _ := hb9; clear hb9))
            | (go_at_call 13; go_loud (refine Calls.mono (by exact V2.out _ HB9.out) ?_; rintro e w10 ⟨rfl, hb10⟩; have HB10 : Hid _ := hb10; clear hb10)))
          go_meet
          exact ⟨rfl, HB10.out⟩
  case rest =>
  obtain ⟨rfl, hc15⟩ := hcut
  generalize wc = w7 at *
  clear hc13 V3 V4 G4
  have S1 : True := trivial
  cases p1 with
  | false =>
    go_wp2_with (go_at_call 13; go_loud (refine Calls.mono (by exact V1.out _ hc15.out) ?_; rintro e w8 ⟨rfl, hb8⟩; have HB8 : Hid _ := hb8; clear hb8))
    go_ret
    exact ⟨rfl, below_trans HB4.out HB8.out⟩
  | true =>
    cases p2 with
    | false =>
      go_wp2_with (first
        | (go_at_call 13; clear S1; go_loud (refine Calls.mono (by exact V1.out _ hc15.out) ?_; rintro e w8 ⟨rfl, hb8⟩; have HB8 : Hid _ := hb8; clear hb8))
        | (go_at_call 13; go_loud (refine Calls.mono (by exact V2.out _ HB8.out) ?_; rintro e w9 ⟨rfl, hb9⟩; have HB9 : Hid _ := hb9; clear hb9)))
      go_ret
      exact ⟨rfl, below_trans HB4.out HB9.out⟩
    | true =>
      have hab := G5.out rfl rfl
      subst hab
      go_wp2_with (first
        | (go_at_call 13; clear S1; go_loud (refine Calls.mono (by exact V1.out _ hc15.out) ?_; rintro e w8 ⟨rfl, hb8⟩; have HB8 : Hid _ := hb8; clear hb8))
        | (go_at_call 13; go_loud (refine Calls.mono (by exact V2.out _ HB8.out) ?_; rintro e w9 ⟨rfl, hb9⟩; have HB9 : Hid _ := hb9; clear hb9)))
      go_ret
      exact ⟨rfl, below_trans HB4.out HB9.out⟩
end Go.Proofs.Ythedgacidphgnaa
