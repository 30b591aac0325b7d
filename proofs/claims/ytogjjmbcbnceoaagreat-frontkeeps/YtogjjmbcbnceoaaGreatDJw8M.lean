/- The program's joined. -/
import Derived.Test.YtogjjmbcbnceoaaGreatDJi
namespace Go.Proofs.YtogjjmbcbnceoaaGreat
open Go.RowKit

def seenTo (l : List Int) (i : Nat) (x : Nat) : Prop := ∃ j, j < i ∧ l[j]? = some (x : Int)
theorem seen_zero (l : List Int) (x : Nat) : False ↔ seenTo l 0 x := ⟨fun h => h.elim, fun ⟨j, h, _⟩ => by omega⟩
theorem seen_next {l : List Int} {i y : Nat} (h : l[i]? = some (y : Int)) (x : Nat) : (seenTo l i x ∨ x = y) ↔ seenTo l (i + 1) x := by
  constructor
  · rintro (⟨j, h1, h2⟩ | rfl)
    · exact ⟨j, by omega, h2⟩
    · exact ⟨i, by omega, h⟩
  · rintro ⟨j, h1, h2⟩
    by_cases e : j = i
    · subst e
      rw [h] at h2
      right
      cases h2
      rfl
    · exact .inl ⟨j, by omega, h2⟩
theorem seen_all {l : List Int} (x : Nat) : seenTo l l.length x ↔ (x : Int) ∈ l := ⟨fun ⟨_, _, h⟩ => List.mem_of_getElem? h, fun h => by
  obtain ⟨j, hj⟩ := List.getElem?_of_mem h
  exact ⟨j, (List.getElem?_eq_some_iff.1 hj).1, hj⟩⟩
set_option maxRecDepth 100000 in
set_option maxHeartbeats 4000000 in
theorem joined_any (nx : List (List Int)) (hmay : May nx) (hb1 : nx.length ≤ 2000000) (hb2 : ∀ r ∈ nx, r.length ≤ 2000000) (l : List Int) (hl : AllIn nx.length l) (v tv lv : Value) (w : World) (hN : NetAt w v nx) (hT : IntsAt w tv (treeL nx)) (hL : IntsAt w lv l) :
    Calls Tryz.prog 45 #[v, tv, lv] w fun e w' => ∃ v', e = .returned v' ∧ OwnI w' w.heap.size v' (joinL nx fun a => (a : Int) ∈ l) ∧ Below w.heap.size w w' := by
  obtain ⟨va, vc, rfl, _⟩ := hN.form
  obtain ⟨ta, tc, rfl, _⟩ := hT.form
  obtain ⟨la, lc, rfl, hll⟩ := hL.form
  rw [treeL_len] at hT ⊢
  obtain ⟨wa, hwa⟩ : ∃ wa, wa = w.alloc (.cells #[.slice va nx.length vc] 22) := ⟨_, rfl⟩
  have hBa : Below w.heap.size w wa := by rw [hwa]; exact below_alloc (Below.refl _ _) _
  have hsa : wa.heap.size = w.heap.size + 1 := by rw [hwa]; simp
  have HCA : Hid (wa.cell? ⟨w.heap.size, 0, none⟩ = some (.slice va nx.length vc)) := by
    show _ = _
    rw [hwa]
    exact (Box.new w [.slice va nx.length vc] 22).cell 0 _ rfl
  have HU : Hid _ := under_ok (t := treeL nx) (by rw [treeL_len]; omega) _ wa (hT.below hBa)
  have HD : Hid (∀ (w2 : World) (uv : Value), NetAt w2 uv (undL nx) → _) := fun w2 uv h => depths_any nx hmay hb1 (w2.alloc (.cells #[uv] 22)) uv (h.below (below_alloc (Below.refl _ _) _))
  have hmm := @run_makeMap Tryz.prog
  have hmk := run_make_row' (P := Tryz.prog) 53 4 (.bool false) 1 Tryz.underlying53 infoB rfl .i64 .i64 nx.length (by omega) (by omega)
  have hsf := fun (a : Addr) (fn : Fn) (f c : Array Value) (m : Mode) (w : World) => run_store Tryz.prog w a (.func fn f c) m rfl
  have HBA : Hid _ := hBa
  have HSA : Hid _ := hsa
  have HB1 : Hid (nx.length ≤ 2000000) := hb1
  have HB2 : Hid _ := hb2
  have HLI : Hid _ := hl
  obtain ⟨n, hnn⟩ : ∃ n, n = nx.length := ⟨_, rfl⟩
  have HNN : Hid _ := hnn
  rw [← hnn] at hwa HU hmk hb1 HD HCA HB1
  rw [← hnn]
  have HN : Hid (NetAt w (.slice va n vc) nx) := by rw [hnn]; exact hN
  have HL : Hid (IntsAt w (.slice la l.length lc) l) := hL
  have HM : Hid (May nx) := hmay
  clear hN hT hL hmay hnn hBa hb2 hl hsa
  go_enter Tryz.func45, Tryz.ntmps45
  go_wp2_with (first
    | (go_at_call 10; go_loud (rw [← hwa]; refine Calls.mono (by exact HU.out) ?_; rintro e w2 ⟨uv, rfl, hu2, hb2w⟩; obtain ⟨ua, uc, huv, _⟩ := hu2.form; rw [underT_len, treeL_len, ← HNN.out] at huv; subst huv; have HU2 : Hid (NetAt w2 (.slice ua n uc) (undL nx)) := hu2; have HBU : Hid (Below wa.heap.size wa w2) := hb2w; clear hu2 hb2w))
    | (go_at_call 85; go_loud (refine Calls.mono (by exact HD.out _ _ HU2.out) ?_; rintro e w4 ⟨D, rfl, hd1, hd2, hd3⟩; have HD1 : Hid ((w2.alloc (.cells #[.slice ua n uc] 22)).heap.size ≤ D) := hd1; have HD2 : Hid (w4.ownsRow (w2.alloc (.cells #[.slice ua n uc] 22)).heap.size 3 1 (slV D n) n ((depL nx).map intV)) := hd2; have HD3 : Hid (Below (w2.alloc (.cells #[.slice ua n uc] 22)).heap.size (w2.alloc (.cells #[.slice ua n uc] 22)) w4) := hd3; clear hd1 hd2 hd3)))
  obtain ⟨W1, hW1⟩ : ∃ W1, W1 = w4.alloc (.cells #[slV D n] 23) := ⟨_, rfl⟩
  have hs1 : W1.heap.size = w4.heap.size + 1 := by rw [hW1]; simp
  have hbW : Below w4.heap.size w4 W1 := by rw [hW1]; exact below_alloc (Below.refl _ _) _
  have hb24 : Below w2.heap.size w2 w4 := by
    have h9 := HD3.out
    exact below_trans (below_alloc (Below.refl _ w2) _) h9
  have hba4 : Below wa.heap.size wa W1 := below_trans (below_trans HBU.out hb24) hbW
  have hbw1 : Below w.heap.size w W1 := below_trans HBA.out hba4
  have hDl : D < w4.heap.size := (HD2.out.lt D rfl).2
  have h24 : w2.heap.size < w4.heap.size := by
    have h9 := HD3.out.size
    simp at h9
    omega
  have c3 : W1.cell? ⟨w.heap.size, 0, none⟩ = some (.slice va n vc) := (hba4.cell (p := ⟨w.heap.size, 0, none⟩) (show w.heap.size < wa.heap.size by have := HSA.out; omega)).trans HCA.out
  have c7 : W1.cell? ⟨w2.heap.size, 0, none⟩ = some (.slice ua n uc) := by
    have h1 := (Box.new w2 [.slice ua n uc] 22)
    have h2 := (h1.below HD3.out).below hbW
    exact h2.cell 0 _ rfl
  have c8 : W1.cell? ⟨w4.heap.size, 0, none⟩ = some (slV D n) := by
    rw [hW1]
    exact (Box.new w4 [slV D n] 23).cell 0 _ rfl
  have hw2a : wa.heap.size ≤ w2.heap.size := HBU.out.size
  have hcD : ∀ x, x < nx.length → W1.cell? ⟨D, x, none⟩ = some (.int .i64 (dep nx x)) := fun x hx => by
    have h1 : w4.cell? ⟨D, x, none⟩ = some (.int .i64 (dep nx x)) := by
      rw [HD2.out.cellAt x (by rw [HNN.out]; omega), ← depL_get hx]
      exact map_get (getD_some (by rw [depL_len]; exact hx))
    exact (hbW.cell (p := ⟨D, x, none⟩) hDl).trans h1
  obtain ⟨W3, hW3⟩ : ∃ W3, W3 = wW3 W1 := ⟨_, rfl⟩
  have hWg : ((w4.alloc (.cells #[.slice (some ⟨D, 0, none⟩) n n] 23)).alloc (.map #[] 0)).alloc (.cells #[.map (some (w4.heap.size + 1))] 128) = W3 := by
    rw [hW3]
    show _ = (W1.alloc (.map #[] 0)).alloc (.cells #[.map (some W1.heap.size)] 128)
    rw [hs1, hW1]
  have hb13 : Below W1.heap.size W1 W3 := by rw [hW3]; exact below_alloc (below_alloc (Below.refl _ _) _) _
  have k3 : W3.cell? ⟨w.heap.size, 0, none⟩ = some (.slice va n vc) := (hb13.cell (p := ⟨w.heap.size, 0, none⟩) (show w.heap.size < W1.heap.size by have := HSA.out; omega)).trans c3
  have hs3 : W3.heap.size = W1.heap.size + 2 := by rw [hW3]; exact wW3_size W1
  have hwW : w.heap.size < W3.heap.size := by have := HSA.out; omega
  have HIN : Hid (∀ (wr w0 : World) (gw gg gj b10 b11 b12 : Nat), R4 W3 wr n true true true true true true true true true (slV gw n) (slV gg n) (slV gj n) (ptr b10) (ptr b11) (ptr b12) b10 b11 b12 → w0 = wr.alloc (.cells #[.func (.func 86) #[] #[ptr b10, ptr w4.heap.size, ptr (w4.heap.size + 1 + 1)]] 89) → JE nx W1 w0 (w4.heap.size + 1) gw gg gj w.heap.size w2.heap.size w4.heap.size (w4.heap.size + 1 + 1) b10 b11 b12 wr.heap.size D (.slice va n vc) (.slice ua n uc) ∧ JM w0 w0 (w4.heap.size + 1) gw gg gj n (List.replicate n false) (List.replicate n false) (List.replicate n false) (List.replicate n nilV) (List.replicate n []) nilV [] nilV []) := fun wr w0 gw gg gj b10 b11 b12 h1 h2 => by
    rw [hW3] at h1
    have h9 := joined_init (nx := nx) (w0 := w0) (b3 := w.heap.size) (b7 := w2.heap.size) (b8 := w4.heap.size) (D := D) (v := .slice va n vc) (uv := .slice ua n uc) HNN.out h1 (by rw [hs1]; exact h2) (by have := HSA.out; omega) (by omega) (by omega) (by omega) c3 c7 c8 (HN.out.below hbw1) ((HU2.out.below hb24).below hbW) hcD
    rw [hs1] at h9
    exact h9
  have HBW1 : Hid _ := hbw1
  have HS1 : Hid (W1.heap.size = w4.heap.size + 1) := hs1
  have HWS : Hid _ := HSA.out
  rw [hWg]
  clear c3 c7 c8 hcD hW1 hs1 hbW hb24 hba4 hbw1 hDl h24 HD1 HD2 HD3 HU2 HBU HU HD hW3 hWg hb13 hs3 hwa hw2a HCA
  refine wp_region_late (fun w' => w'.cell? ⟨w.heap.size, 0, none⟩ = some (.slice va n vc)) (fun _ => false) (by kernel_rfl) k3 (fun hHeld => ?_)
  refine wpAnyL_take 0 (v := ?_) rfl (by kernel_rfl) (by kernel_rfl) (by kernel_rfl) (by kernel_rfl) (fun _ _ _ h => h) hHeld (Or.inl ⟨by rfl, ?_⟩) ?_
  rotate_left 1
  · (intro w hSw; (try dsimp only at hSw); first | (go_simp; done) | (go_simp; with_reducible rfl))
  simp only [Act.put, List.setIfInBounds_toArray]
  refine wpAnyL_take 1 (v := ?_) rfl (by kernel_rfl) (by kernel_rfl) (by kernel_rfl) (by kernel_rfl) (fun _ _ _ h => h) hHeld (Or.inl ⟨by rfl, ?_⟩) ?_
  rotate_left 1
  · (intro w hSw; (try dsimp only at hSw); first | (go_simp; done) | (go_simp; with_reducible rfl))
  simp only [Act.put]
  refine wpAnyL_take 3 (v := ?_) rfl (by kernel_rfl) (by kernel_rfl) (by kernel_rfl) (by kernel_rfl) (fun _ _ _ h => h) hHeld (Or.inl ⟨by rfl, ?_⟩) ?_
  rotate_left 1
  · (intro w hSw; (try dsimp only at hSw); first | (go_simp; done) | (go_simp; with_reducible rfl))
  simp only [Act.put]
  refine wpAnyL_take 4 (v := ?_) rfl (by kernel_rfl) (by kernel_rfl) (by kernel_rfl) (by kernel_rfl) (fun _ _ _ h => h) hHeld (Or.inl ⟨by rfl, ?_⟩) ?_
  rotate_left 1
  · (intro w hSw; (try dsimp only at hSw); first | (go_simp; done) | (go_simp; with_reducible rfl))
  simp only [Act.put]
  refine wpAnyL_take 6 (v := ?_) rfl (by kernel_rfl) (by kernel_rfl) (by kernel_rfl) (by kernel_rfl) (fun _ _ _ h => h) hHeld (Or.inl ⟨by rfl, ?_⟩) ?_
  rotate_left 1
  · (intro w hSw; (try dsimp only at hSw); first | (go_simp; done) | (go_simp; with_reducible rfl))
  simp only [Act.put]
  refine wpAnyL_take 7 (v := ?_) rfl (by kernel_rfl) (by kernel_rfl) (by kernel_rfl) (by kernel_rfl) (fun _ _ _ h => h) hHeld (Or.inl ⟨by rfl, ?_⟩) ?_
  rotate_left 1
  · (intro w hSw; (try dsimp only at hSw); first | (go_simp; done) | (go_simp; with_reducible rfl))
  simp only [Act.put]
  refine wpAnyL_inv (fun L a wr => ∃ (y2 y5 y8 y9 y10 y11 y12 y13 y14 : Bool) (x28 x31 x34 x10 x11 x12 : Value) (c10 c11 c12 : Nat), L = #[true, true, y2, true, true, y5, true, true, y8, y9, y10, y11, y12, y13, y14] ∧ a = (⟨#[.slice va n vc, .slice ta n tc, .slice la l.length lc, ptr w.heap.size, undef, undef, .slice none 0 0, ptr w2.heap.size, ptr w4.heap.size, ptr (w4.heap.size + 1 + 1), x10, x11, x12, undef, undef, undef, undef, undef, undef, undef, undef, .slice ta n tc, .slice ua n uc, .slice ua n uc, slV D n, .map (some (w4.heap.size + 1)), .slice va n vc, .int .i64 (n : Int), x28, .slice va n vc, .int .i64 (n : Int), x31, .slice va n vc, .int .i64 (n : Int), x34, undef, undef, undef, undef, undef, undef, undef, undef, undef, undef, undef, undef, undef, undef, undef, undef, undef, undef, undef, undef, undef, undef, undef, undef, undef, undef, undef, undef, undef, undef, undef, undef, undef, undef, undef, undef, undef, undef, undef, undef, undef, undef, undef], []⟩ : Act) ∧ R4 W3 wr n y2 y5 y8 y9 y10 y11 y12 y13 y14 x28 x31 x34 x10 x11 x12 c10 c11 c12) ?hS ?hsz (by kernel_rfl) ?hend ?hstep 9 _ _ _ ?hI (by kernel_rfl)
  case hS =>
    rintro L a wr ⟨y2, y5, y8, y9, y10, y11, y12, y13, y14, x28, x31, x34, x10, x11, x12, c10, c11, c12, rfl, rfl, hR⟩
    exact (hR.bel.cell (p := ⟨w.heap.size, 0, none⟩) hwW).trans k3
  case hsz =>
    rintro L a wr ⟨y2, y5, y8, y9, y10, y11, y12, y13, y14, x28, x31, x34, x10, x11, x12, c10, c11, c12, rfl, rfl, hR⟩
    rfl
  case hI => exact ⟨false, false, false, false, false, false, false, false, false, undef, undef, undef, undef, undef, undef, 0, 0, 0, rfl, rfl, (R4.start W3 n _ _ _ _ _ _).drewN⟩
  case hstep =>
    rintro i o L a wr ho ⟨y2, y5, y8, y9, y10, y11, y12, y13, y14, x28, x31, x34, x10, x11, x12, c10, c11, c12, rfl, rfl, hR⟩ hu hd K hK0
    clear HIN HM HN HL
    rcases i with _ | _ | _ | _ | _ | _ | _ | _ | _ | _ | _ | _ | _ | _ | _ | i
    · exfalso; simp at hu
    · exfalso; simp at hu
    · cases ho
      have hy : y2 = false := hu
      subst hy
      have HR2 : Hid _ := hR.make0 HB1.out
      have hK : Shut _ := hK0
      clear hK0 hd hR
      go_simp
      refine hK.out _ _ ?_
      exact ⟨true, y5, y8, y9, y10, y11, y12, y13, y14, _, x31, x34, x10, x11, x12, c10, c11, c12, rfl, rfl, HR2.out⟩
    · exfalso; simp at hu
    · exfalso; simp at hu
    · cases ho
      have hy : y5 = false := hu
      subst hy
      have HR2 : Hid _ := hR.make1 HB1.out
      have hK : Shut _ := hK0
      clear hK0 hd hR
      go_simp
      refine hK.out _ _ ?_
      exact ⟨y2, true, y8, y9, y10, y11, y12, y13, y14, x28, _, x34, x10, x11, x12, c10, c11, c12, rfl, rfl, HR2.out⟩
    · exfalso; simp at hu
    · exfalso; simp at hu
    · cases ho
      have hy : y8 = false := hu
      subst hy
      have HR2 : Hid _ := hR.make2 HB1.out
      have hK : Shut _ := hK0
      clear hK0 hd hR
      go_simp
      refine hK.out _ _ ?_
      exact ⟨y2, y5, true, y9, y10, y11, y12, y13, y14, x28, x31, _, x10, x11, x12, c10, c11, c12, rfl, rfl, HR2.out⟩
    · cases ho
      have hy : y9 = false := hu
      subst hy
      have hz : y12 = false := by
        rcases e : y12 with _ | _
        · rfl
        · have := hR.j12 e
          cases this
      subst hz
      have HR2 : Hid _ := hR.box0
      have hK : Shut _ := hK0
      clear hK0 hd hR
      go_simp
      refine hK.out _ _ ?_
      exact ⟨y2, y5, y8, true, y10, y11, false, y13, y14, x28, x31, x34, _, x11, x12, _, c11, c12, rfl, rfl, HR2.out⟩
    · cases ho
      have hy : y10 = false := hu
      subst hy
      have hz : y13 = false := by
        rcases e : y13 with _ | _
        · rfl
        · have := hR.j13 e
          cases this
      subst hz
      have HR2 : Hid _ := hR.box1
      have hK : Shut _ := hK0
      clear hK0 hd hR
      go_simp
      refine hK.out _ _ ?_
      exact ⟨y2, y5, y8, y9, true, y11, y12, false, y14, x28, x31, x34, x10, _, x12, c10, _, c12, rfl, rfl, HR2.out⟩
    · cases ho
      have hy : y11 = false := hu
      subst hy
      have hz : y14 = false := by
        rcases e : y14 with _ | _
        · rfl
        · have := hR.j14 e
          cases this
      subst hz
      have HR2 : Hid _ := hR.box2
      have hK : Shut _ := hK0
      clear hK0 hd hR
      go_simp
      refine hK.out _ _ ?_
      exact ⟨y2, y5, y8, y9, y10, true, y12, y13, false, x28, x31, x34, x10, x11, _, c10, c11, _, rfl, rfl, HR2.out⟩
    · cases ho
      have hy : y12 = false := hu
      subst hy
      have h9 : y9 = true := hd { on := 9, ground := .data } (by simp) rfl
      have h2 : y2 = true := hd { on := 2, ground := .data } (by simp) rfl
      subst h9
      subst h2
      obtain ⟨gx, hgx⟩ := hR.v2 rfl
      subst hgx
      have hcx := hR.v9 rfl
      subst hcx
      obtain ⟨hc1, hc2⟩ := hR.cell0
      have HR2 : Hid _ := hR.fill0
      have hK : Shut _ := hK0
      clear hK0 hd hR
      go_simp
      refine hK.out _ _ ?_
      exact ⟨true, y5, y8, true, y10, y11, true, y13, y14, _, x31, x34, _, x11, x12, c10, c11, c12, rfl, rfl, HR2.out⟩
    · cases ho
      have hy : y13 = false := hu
      subst hy
      have h9 : y10 = true := hd { on := 10, ground := .data } (by simp) rfl
      have h2 : y5 = true := hd { on := 5, ground := .data } (by simp) rfl
      subst h9
      subst h2
      obtain ⟨gx, hgx⟩ := hR.v5 rfl
      subst hgx
      have hcx := hR.v10 rfl
      subst hcx
      obtain ⟨hc1, hc2⟩ := hR.cell1
      have HR2 : Hid _ := hR.fill1
      have hK : Shut _ := hK0
      clear hK0 hd hR
      go_simp
      refine hK.out _ _ ?_
      exact ⟨y2, true, y8, y9, true, y11, y12, true, y14, x28, _, x34, x10, _, x12, c10, c11, c12, rfl, rfl, HR2.out⟩
    · cases ho
      have hy : y14 = false := hu
      subst hy
      have h9 : y11 = true := hd { on := 11, ground := .data } (by simp) rfl
      have h2 : y8 = true := hd { on := 8, ground := .data } (by simp) rfl
      subst h9
      subst h2
      obtain ⟨gx, hgx⟩ := hR.v8 rfl
      subst hgx
      have hcx := hR.v11 rfl
      subst hcx
      obtain ⟨hc1, hc2⟩ := hR.cell2
      have HR2 : Hid _ := hR.fill2
      have hK : Shut _ := hK0
      clear hK0 hd hR
      go_simp
      refine hK.out _ _ ?_
      exact ⟨y2, y5, true, y9, y10, true, y12, y13, true, x28, x31, _, x10, x11, _, c10, c11, c12, rfl, rfl, HR2.out⟩
    · exfalso; simp at ho
  case hend =>
    rintro L a w5 ⟨y2, y5, y8, y9, y10, y11, y12, y13, y14, x28, x31, x34, x10, x11, x12, c10, c11, c12, rfl, rfl, hR⟩ hall
    have q2 : y2 = true := hall 2 (by decide)
    have q5 : y5 = true := hall 5 (by decide)
    have q8 : y8 = true := hall 8 (by decide)
    have q9 : y9 = true := hall 9 (by decide)
    have q10 : y10 = true := hall 10 (by decide)
    have q11 : y11 = true := hall 11 (by decide)
    have q12 : y12 = true := hall 12 (by decide)
    have q13 : y13 = true := hall 13 (by decide)
    have q14 : y14 = true := hall 14 (by decide)
    subst q2 q5 q8 q9 q10 q11 q12 q13 q14
    obtain ⟨gw, hx28⟩ := hR.v2 rfl
    obtain ⟨gg, hx31⟩ := hR.v5 rfl
    obtain ⟨gj, hx34⟩ := hR.v8 rfl
    have hx10 := hR.v9 rfl
    have hx11 := hR.v10 rfl
    have hx12 := hR.v11 rfl
    subst hx28 hx31 hx34 hx10 hx11 hx12
    obtain ⟨w0, hw0⟩ : ∃ w0, w0 = w5.alloc (.cells #[.func (.func 86) #[] #[ptr c10, ptr w4.heap.size, ptr (w4.heap.size + 1 + 1)]] 89) := ⟨_, rfl⟩
    obtain ⟨hE, hJ0⟩ := HIN.out w5 w0 gw gg gj c10 c11 c12 hR hw0
    have HE : Hid (JE nx W1 w0 (w4.heap.size + 1) gw gg gj w.heap.size w2.heap.size w4.heap.size (w4.heap.size + 1 + 1) c10 c11 c12 w5.heap.size D (.slice va n vc) (.slice ua n uc)) := hE
    have HJ0 : Hid (JM w0 w0 (w4.heap.size + 1) gw gg gj n (List.replicate n false) (List.replicate n false) (List.replicate n false) (List.replicate n nilV) (List.replicate n []) nilV [] nilV []) := hJ0
    have HI0 : Hid (JI nx (seenTo l 0) (n : Int) [] [] [] (List.replicate n false) (List.replicate n false) (List.replicate n false) (List.replicate n [])) := by
      have h9 := (JI.start nx).cast (seen_zero l)
      rw [← HNN.out] at h9
      exact h9
    have HW0 : Hid _ := hw0
    clear hE hJ0 hall hR HIN hmk hmm hHeld hw0
    have HBQ : Hid (∀ (wq : World) (wt gn jn : List Bool) (kvs : List Value) (rows : List (List Int)) (pv : Value) (pd : List Int) (qv : Value) (qd : List Int), JM w0 wq (w4.heap.size + 1) gw gg gj n wt gn jn kvs rows pv pd qv qd → Below w.heap.size w wq) := fun wq wt gn jn kvs rows pv pd qv qd h => below_trans HBW1.out (h.bel HE.out.bel HE.out.o1 HE.out.o2 HE.out.o3 HE.out.o4)
    have HBX : Hid (∀ (wq : World) (wt gn jn : List Bool) (kvs : List Value) (rows : List (List Int)) (pv : Value) (pd : List Int) (qv : Value) (qd : List Int), JM w0 wq (w4.heap.size + 1) gw gg gj n wt gn jn kvs rows pv pd qv qd → wq.cell? ⟨w.heap.size, 0, none⟩ = some (.slice va n vc) ∧ wq.cell? ⟨w4.heap.size + 1 + 1, 0, none⟩ = some (.map (some (w4.heap.size + 1))) ∧ wq.cell? ⟨c12, 0, none⟩ = some (.slice (some ⟨gj, 0, none⟩) n n) ∧ wq.cell? ⟨w5.heap.size, 0, none⟩ = some (.func (.func 86) #[] #[ptr c10, ptr w4.heap.size, ptr (w4.heap.size + 1 + 1)])) := fun wq wt gn jn kvs rows pv pd qv qd h => ⟨((h.bel HE.out.bel HE.out.o1 HE.out.o2 HE.out.o3 HE.out.o4).cell (p := ⟨w.heap.size, 0, none⟩) HE.out.l3).trans HE.out.c3, h.cell HE.out.f9 HE.out.c9, by have h9 := h.cell HE.out.f12 HE.out.c12; rw [← HNN.out] at h9; exact h9, h.cell HE.out.f13 HE.out.c13⟩
    have HWT : Hid (∀ (wq : World) (wt gn jn : List Bool) (kvs : List Value) (rows : List (List Int)) (pv : Value) (pd : List Int) (qv : Value) (qd : List Int) (x : Nat), JM w0 wq (w4.heap.size + 1) gw gg gj n wt gn jn kvs rows pv pd qv qd → (∀ k, (rows.getD k []).length ≤ nx.length) → x < n → Calls Tryz.prog 86 #[.int .i64 (x : Int), ptr c10, ptr w4.heap.size, ptr (w4.heap.size + 1 + 1)] wq fun e w' => e = .returned (.tuple #[]) ∧ ∃ kvs', JM w0 w' (w4.heap.size + 1) gw gg gj n (waitW (depL nx) wt x) gn jn kvs' (waitR (depL nx) wt rows x) pv pd qv qd) := fun wq wt gn jn kvs rows pv pd qv qd x h hk hx => by
      have h8 : JM w0 wq (w4.heap.size + 1) gw gg gj nx.length wt gn jn kvs rows pv pd qv qd := by rw [← HNN.out]; exact h
      have h9 := wait_any nx HM.out (by rw [← HNN.out]; exact HB1.out) HE.out h8 (fun k => Nat.le_trans (hk k) (by rw [← HNN.out]; exact HB1.out)) (x := x) (by rw [← HNN.out]; exact hx)
      rw [← HNN.out] at h9
      exact h9
    have HGT : Hid (∀ (wq : World) (wt gn jn : List Bool) (kvs : List Value) (rows : List (List Int)) (pv : Value) (pdm : List Int) (qv : Value) (qd : List Int) (F : Nat → Prop) (d : Int) (P : List Nat) (x : Nat) (pd : List Int), JM w0 wq (w4.heap.size + 1) gw gg gj n wt gn jn kvs rows pv pdm qv qd → JI nx F d P P ((x : Int) :: pd) wt gn jn rows → Calls Tryz.prog 87 #[.int .i64 (x : Int), ptr w2.heap.size, ptr c11, ptr w.heap.size, ptr w4.heap.size, ptr c12, ptr w5.heap.size] wq fun e w' => e = .returned (.tuple #[]) ∧ ∃ wt' gn' jn' kvs' rows' qv' qd', JM w0 w' (w4.heap.size + 1) gw gg gj n wt' gn' jn' kvs' rows' pv pdm qv' qd' ∧ JI nx F d (x :: P) (x :: P) pd wt' gn' jn' rows') := fun wq wt gn jn kvs rows pv pdm qv qd F d P x pd h hJ => by
      have h8 : JM w0 wq (w4.heap.size + 1) gw gg gj nx.length wt gn jn kvs rows pv pdm qv qd := by rw [← HNN.out]; exact h
      have h9 := gatherJ_any nx HM.out (by rw [← HNN.out]; exact HB1.out) HB2.out HE.out h8 hJ
      rw [← HNN.out] at h9
      exact h9
    have HLC : Hid (∀ i, i < l.length → ∃ g o x, la = some ⟨g, o, none⟩ ∧ g < w.heap.size ∧ w.cell? ⟨g, o + i, none⟩ = some (.int .i64 (x : Nat)) ∧ l[i]? = some (x : Int) ∧ x < n) := fun i hi => by
      obtain ⟨g, o, e1, e2, e3⟩ := HL.out.get (i := i) hi
      have h2 := HLI.out _ (getD_mem hi)
      obtain ⟨x, hx⟩ : ∃ x : Nat, l.getD i 0 = (x : Int) := Int.eq_ofNat_of_zero_le h2.1
      rw [hx] at e3 h2
      exact ⟨g, o, x, e1, e2, e3, by rw [getD_some hi, hx], by rw [HNN.out]; exact Int.ofNat_lt.1 h2.2⟩
    have HEND : Hid (∀ (d : Int) (P : List Nat) (wt gn jn : List Bool) (rows : List (List Int)), JI nx (seenTo l l.length) d P P [] wt gn jn rows → (∀ k, rows.getD k [] = []) → nodesL n (fun i => jn.getD i false = true) = joinL nx fun a => (a : Int) ∈ l) := fun d P wt gn jn rows h he => by
      unfold joinL
      rw [HNN.out]
      refine nodesL_congr fun b _ => ?_
      have h9 := (h.cast (seen_all (l := l))).final HM.out he b
      exact h9
    have hpos : 0 < n := by rw [HNN.out]; exact HM.out.1
    have HSM : Hid (∀ (F : Nat → Prop) (d : Int) (P Dn : List Nat) (pd : List Int) (wt gn jn : List Bool) (rows : List (List Int)), JI nx F d P Dn pd wt gn jn rows → ∀ k, (rows.getD k []).length ≤ nx.length) := fun F d P Dn pd wt gn jn rows h k => h.small HM.out k
    have HBG : Hid (∀ (F : Nat → Prop) (wt gn jn : List Bool) (rows : List (List Int)), JI nx F (n : Int) [] [] [] wt gn jn rows → JI nx F ((n : Int) - 1) [] [] [] wt gn jn rows) := fun F wt gn jn rows h => by
      have h9 := h
      rw [HNN.out] at h9 ⊢
      exact h9.begin HM.out
    obtain ⟨m, hm⟩ : ∃ m, m = l.length := ⟨_, rfl⟩
    have HLM : Hid _ := hm
    rw [← hm] at HLC HEND hll ⊢
    clear hm k3 hwW
    go_wp2
    rw [← HW0.out]
    clear hsf
    go_loopw [39] (fun vi wr => ∃ (i : Nat) (wt : List Bool) (kvs : List Value) (rows : List (List Int)), vi = .int .i64 i ∧ i ≤ m ∧ Hid (JM w0 wr (w4.heap.size + 1) gw gg gj n wt (List.replicate n false) (List.replicate n false) kvs rows nilV [] nilV [] ∧ JI nx (seenTo l i) (n : Int) [] [] [] wt (List.replicate n false) (List.replicate n false) rows)) (fun vi _ => m - (intOf vi).toNat)
    case atStart => exact ⟨0, _, _, _, rfl, by omega, HJ0.out, HI0.out⟩
    case round =>
      obtain ⟨i, wt, kvs, rows, rfl, hi, hq⟩ := hrel
      clear HJ0 HI0
      obtain ⟨k3, k9, k12, k13⟩ := HBX.out _ _ _ _ _ _ _ _ _ _ hq.out.1
      by_cases him : i < m
      · have him' : (i : Int) < m := by omega
        obtain ⟨gl, ol, x, rfl, hgl, cl, hx, hxn⟩ := HLC.out i him
        have cl' : wr.cell? ⟨gl, ol + i, none⟩ = some (.int .i64 (x : Int)) := ((HBQ.out _ _ _ _ _ _ _ _ _ _ hq.out.1).cell (p := ⟨gl, ol + i, none⟩) hgl).trans cl
        have HCA : Hid _ := HWT.out wr _ _ _ _ _ _ _ _ _ x hq.out.1 (HSM.out _ _ _ _ _ _ _ _ _ hq.out.2) hxn
        have HJS : Hid (JI nx (seenTo l (i + 1)) (n : Int) [] [] [] (waitW (depL nx) wt x) (List.replicate n false) (List.replicate n false) (waitR (depL nx) wt rows x)) := by
          have h9 := hq.out.2
          rw [HNN.out] at h9 ⊢
          exact (h9.see HM.out (x := x) (by rw [← HNN.out]; exact hxn)).cast (seen_next hx)
        clear HWT HGT HLC HEND HSM HBG HBX hq cl hx k3 k9 k12
        go_wp2_with (go_at_call 86; go_loud (refine Calls.mono (by exact HCA.out) ?_; rintro e w6 ⟨rfl, kvs6, hj6⟩; have HJ6 : Hid _ := hj6; clear hj6))
        go_roundw
        case rel => exact ⟨i + 1, _, _, _, by first | rfl | (congr 1; omega), by omega, HJ6.out, HJS.out⟩
        case measure => simp [intOf]; omega
      · obtain rfl : i = m := by omega
        have HJB : Hid (JM w0 wr (w4.heap.size + 1) gw gg gj n wt (List.replicate n false) (List.replicate n false) kvs rows nilV [] nilV []) := hq.out.1
        have HIB : Hid (JI nx (seenTo l i) ((n : Int) - 1) [] [] [] wt (List.replicate n false) (List.replicate n false) rows) := HBG.out _ _ _ _ _ hq.out.2
        clear hq HWT HLC HBG k9 k12 k13
        go_wp2
        clear k3
        generalize wr = wl at *
        go_loopw [17] (fun vd wr => ∃ (d : Int) (P : List Nat) (wt gn jn : List Bool) (kvs : List Value) (rows : List (List Int)) (pv : Value) (pdm : List Int) (qv : Value) (qd : List Int), vd = .int .i64 d ∧ -1 ≤ d ∧ d < n ∧ Hid (JM w0 wr (w4.heap.size + 1) gw gg gj n wt gn jn kvs rows pv pdm qv qd ∧ JI nx (seenTo l i) d P P [] wt gn jn rows)) (fun vd _ => (intOf vd + 1).toNat)
        case atStart => exact ⟨(n : Int) - 1, [], wt, _, _, kvs, rows, _, _, _, _, rfl, by omega, by omega, HJB.out, HIB.out⟩
        case round =>
          obtain ⟨d, P, wt, gn, jn, kvs, rows, pv, pdm, qv, qd, rfl, hd1, hd2, hq⟩ := hrel
          clear HJB HIB
          obtain ⟨k3, k9, k12, k13⟩ := HBX.out _ _ _ _ _ _ _ _ _ _ hq.out.1
          obtain ⟨ml, hml, hml1, hml2⟩ := hq.out.1.map.len
          have hml3 := hml 3
          by_cases hm0 : ml = 0
          · have HEQ : Hid _ := HEND.out _ _ _ _ _ _ hq.out.2 (hml2 hm0)
            have HPL : Hid _ := places_any gj n jn wr hq.out.1.oJ hb1
            have HBW : Hid _ := HBQ.out _ _ _ _ _ _ _ _ _ _ hq.out.1
            subst hm0
            clear hml hml1 hml2 hq HBX HBQ HGT HSM HEND k3 k13
            go_wp2_with (go_at_call 89; go_loud (refine Calls.mono (by exact HPL.out) ?_; rintro e w7 ⟨v7, rfl, hv7, hb7⟩; have HV7 : Hid _ := hv7; have HB7 : Hid (Below wr.heap.size wr w7) := hb7; clear hv7 hb7))
            go_ret
            refine ⟨_, rfl, ?_, below_trans HBW.out HB7.out⟩
            rw [← HEQ.out]
            exact own_mono HV7.out HBW.out.size
          · have hm0' : (0 : Int) < ml := by omega
            have hm0n : 0 < ml := by omega
            obtain ⟨kk, hkk, hrk⟩ := hml1 (by omega)
            have hkd := hq.out.2.low kk hrk
            obtain ⟨k, rfl⟩ : ∃ k : Nat, d = (k : Int) := Int.eq_ofNat_of_zero_le (by omega)
            have hkn : k < n := by omega
            have hlk := hq.out.1.map.lookup hb1 hkn
            have HQ0 : Hid _ := hq.out
            have hP0 := hq.out.2.count HM.out
            rw [← HNN.out] at hP0
            have hkn' : (k : Int) < n := by omega
            generalize hv18 : kvs.getD k nilV = v18 at hlk
            have HV18 : Hid _ := hv18
            clear hml hml1 hml2 hq hkk hrk hkd k3 k12 k13 hv18
            go_wp2
            clear hlk hml3 k9
            generalize wr = wm at *
            go_loopg [18] (n - P.length) (fun gm v18 wr => ∃ (P : List Nat) (wt gn jn : List Bool) (kvs : List Value) (rows : List (List Int)) (pv : Value) (pdm : List Int) (qv : Value) (qd : List Int), Hid (JM w0 wr (w4.heap.size + 1) gw gg gj n wt gn jn kvs rows pv pdm qv qd ∧ JI nx (seenTo l i) (k : Int) P P [] wt gn jn rows ∧ kvs.getD k nilV = v18 ∧ n - P.length ≤ gm))
            case atStart => exact ⟨P, wt, gn, jn, kvs, rows, pv, pdm, qv, qd, HQ0.out.1, HQ0.out.2, HV18.out, Nat.le_refl _⟩
            case round =>
              obtain ⟨P, wt, gn, jn, kvs, rows, pv, pdm, qv, qd, hq⟩ := hrel
              clear HQ0 HV18 hP0
              have hkid := hq.out.1.kid hkn
              have h18 := hq.out.2.2.1
              obtain ⟨ka, kc, hka⟩ := own_slice hkid
              rw [hka] at h18
              subst h18
              obtain ⟨k3, k9, k12, k13⟩ := HBX.out _ _ _ _ _ _ _ _ _ _ hq.out.1
              by_cases hr0 : (rows.getD k []).length = 0
              · have HJL : Hid (JI nx (seenTo l i) ((k : Int) - 1) P P [] wt gn jn rows) := hq.out.2.1.lower (List.length_eq_zero_iff.1 hr0)
                have HJX : Hid _ := hq.out.1
                rw [hr0]
                clear hq hkid hka hr0 HGT HEND HBX HBQ HSM k3 k9 k12 k13
                go_wp2
                go_roundw
                case rel => exact ⟨(k : Int) - 1, P, wt, gn, jn, kvs, rows, pv, pdm, qv, qd, rfl, by omega, by omega, HJX.out, HJL.out⟩
                case measure => simp [intOf]
              · obtain ⟨w3, hdel, hJ3⟩ := hq.out.1.take hb1 hkn 0
                have HJ3 : Hid _ := hJ3
                have HI3 : Hid _ := hq.out.2.1.take (by rw [← HNN.out]; exact hkn)
                have HGK : Hid _ := hq.out.2.2.2
                have hP0 := hq.out.2.1.count HM.out
                rw [← HNN.out] at hP0
                have hrs := hq.out.2.1.small HM.out k
                rw [← HNN.out] at hrs
                obtain ⟨g8, c8, hg8, _, _⟩ := own_at1 hkid (by omega)
                rw [hka] at hg8
                have hka2 : ka = some ⟨g8, 0, none⟩ := by cases hg8; rfl
                subst hka2
                rw [hka] at HJ3
                have HRL0 : Hid (0 < (rows.getD k []).length) := by show _ < _; omega
                clear hq hJ3 hkid hka hg8 k3 k12 k13
                generalize rows.getD k [] = nodes at *
                obtain ⟨rl, hrl⟩ : ∃ rl, rl = nodes.length := ⟨_, rfl⟩
                have HRL : Hid _ := hrl
                rw [← hrl] at HJ3 hr0 hrs HRL0 ⊢
                have hrp : (0 : Int) < rl := by have := HRL0.out; omega
                have hrpn : 0 < rl := HRL0.out
                clear hrl hr0
                go_wp2
                clear hdel k9
                generalize wr = wn at *
                go_loopw [68] (fun vj wr => ∃ (j : Nat) (P2 : List Nat) (wt gn jn : List Bool) (kvs : List Value) (rows : List (List Int)) (qv : Value) (qd : List Int), vj = .int .i64 j ∧ j ≤ rl ∧ Hid (JM w0 wr (w4.heap.size + 1) gw gg gj n wt gn jn kvs rows (.slice (some ⟨g8, 0, none⟩) rl kc) nodes qv qd ∧ JI nx (seenTo l i) (k : Int) P2 P2 (nodes.drop j) wt gn jn rows ∧ P.length + j ≤ P2.length)) (fun vj _ => rl - (intOf vj).toNat)
                case atStart => exact ⟨0, P, wt, gn, jn, _, _, qv, qd, rfl, by omega, HJ3.out, HI3.out, Nat.le_refl _⟩
                case round =>
                  obtain ⟨j, P2, wt, gn, jn, kvs, rows, qv, qd, rfl, hj, hq⟩ := hrel
                  clear HJ3 HI3
                  by_cases hjr : j < rl
                  · have hjr' : (j : Int) < rl := by omega
                    have hjn : j < nodes.length := by rw [← HRL.out]; exact hjr
                    have hdr := List.drop_eq_getElem_cons hjn
                    obtain ⟨x, ex, _, _⟩ := hq.out.2.1.pdd nodes[j] (by rw [hdr]; exact List.mem_cons_self)
                    have cj : wr.cell? ⟨g8, j, none⟩ = some (.int .i64 (x : Int)) := own_get hq.out.1.oP (by rw [List.getElem?_eq_getElem hjn, ex])
                    have HCA : Hid _ := HGT.out wr _ _ _ _ _ _ _ _ _ (seenTo l i) (k : Int) P2 x (nodes.drop (j + 1)) hq.out.1 (by have h9 := hq.out.2.1; rw [hdr, ex] at h9; exact h9)
                    have HPL : Hid _ := hq.out.2.2
                    clear hq HGT HBX HBQ HEND HSM hdr hjn ex
                    go_wp2_with (go_at_call 87; go_loud (refine Calls.mono (by exact HCA.out) ?_; rintro e w6 ⟨rfl, wt6, gn6, jn6, kvs6, rows6, qv6, qd6, hj6, hi6⟩; have HJ6 : Hid _ := hj6; have HI6 : Hid _ := hi6; clear hj6 hi6))
                    go_roundw
                    case rel => exact ⟨j + 1, x :: P2, _, _, _, _, _, _, _, by first | rfl | (congr 1; omega), by omega, HJ6.out, HI6.out, by have := HPL.out; simp; omega⟩
                    case measure => simp [intOf]; omega
                  · obtain rfl : j = rl := by omega
                    have hdn : nodes.drop j = [] := by rw [HRL.out]; simp
                    have HIX : Hid (JI nx (seenTo l i) (k : Int) P2 P2 [] wt gn jn rows) := by have h9 := hq.out.2.1; rw [hdn] at h9; exact h9
                    obtain ⟨k3, k9, k12, k13⟩ := HBX.out _ _ _ _ _ _ _ _ _ _ hq.out.1
                    have hlk := hq.out.1.map.lookup hb1 hkn
                    have hP2 := HIX.out.count HM.out
                    rw [← HNN.out] at hP2
                    have HPL : Hid _ := hq.out.2.2
                    have HJX : Hid _ := hq.out.1
                    generalize hv18 : kvs.getD k nilV = v18 at hlk
                    have HV18 : Hid _ := hv18
                    clear hq HGT HBX HBQ HEND HSM hdn k3 k12 k13 hv18
                    go_wp2
                    go_roundg (n - P2.length)
                    case measure => have := HGK.out; have := HPL.out; have := HRL0.out; omega
                    case rel => exact ⟨P2, wt, gn, jn, kvs, rows, _, _, qv, qd, HJX.out, HIX.out, HV18.out, Nat.le_refl _⟩
end Go.Proofs.YtogjjmbcbnceoaaGreat
/- The program's Joins, whole. -/
namespace Go.Proofs.YtogjjmbcbnceoaaGreat
open Go.RowKit

set_option maxRecDepth 100000 in
set_option maxHeartbeats 1000000 in
theorem joins_no (nx : List (List Int)) (l : List Int) (v lv : Value) (w : World) (hN : NetAt w v nx) (hL : IntsAt w lv l) (hmay : ¬ May nx) (hb1 : nx.length ≤ 2000000) (hb2 : ∀ r ∈ nx, r.length ≤ 2000000) :
    Calls Tryz.prog 25 #[v, lv] w fun e w' => e = .returned (.tuple #[.slice none 0 0, .int .i64 4]) ∧ Below w.heap.size w w' := by
  obtain ⟨a, c, rfl, hll⟩ := hN.form
  obtain ⟨la, lc, rfl, _⟩ := hL.form
  obtain ⟨wa, hwa⟩ : ∃ wa, wa = w.alloc (.cells #[.slice a nx.length c] 22) := ⟨_, rfl⟩
  have hBa : Below w.heap.size w wa := by rw [hwa]; exact below_alloc (Below.refl _ _) _
  have HT : Hid _ := (tree_ok hb1 hb2) _ wa (hN.below hBa)
  have HB : Hid _ := hBa
  have HM : Hid _ := hmay
  clear hN hL hmay hb2 hBa
  go_enter Tryz.func25, Tryz.ntmps25
  go_wp2_with (go_at_call 9; go_loud (rw [← hwa]; refine Calls.mono (by exact HT.out) ?_; rintro e w1 ⟨_, ht, hb1w⟩; have he := ht HM.out; subst he; have HB1 : Hid (Below wa.heap.size wa w1) := hb1w; clear ht hb1w))
  go_ret2
  exact ⟨rfl, below_trans HB.out HB1.out⟩
set_option maxRecDepth 100000 in
set_option maxHeartbeats 1000000 in
theorem joins_arg (nx : List (List Int)) (l : List Int) (v lv : Value) (w : World) (hN : NetAt w v nx) (hL : IntsAt w lv l) (hmay : May nx) (hA : ¬ AllIn nx.length l) (hb1 : nx.length ≤ 2000000) (hb2 : ∀ r ∈ nx, r.length ≤ 2000000) :
    Calls Tryz.prog 25 #[v, lv] w fun e w' => e = .returned (.tuple #[.slice none 0 0, .int .i64 2]) ∧ Below w.heap.size w w' := by
  obtain ⟨a, c, rfl, hll⟩ := hN.form
  obtain ⟨la, lc, hlv, _⟩ := hL.form
  obtain ⟨wa, hwa⟩ : ∃ wa, wa = w.alloc (.cells #[.slice a nx.length c] 22) := ⟨_, rfl⟩
  have hBa : Below w.heap.size w wa := by rw [hwa]; exact below_alloc (Below.refl _ _) _
  have hsa : w.heap.size < wa.heap.size := by rw [hwa]; simp
  have hca : wa.cell? ⟨w.heap.size, 0, none⟩ = some (.slice a nx.length c) := by
    rw [hwa]
    exact (Box.new w [.slice a nx.length c] 22).cell 0 _ rfl
  have HT : Hid _ := (tree_ok hb1 hb2) _ wa (hN.below hBa)
  have HC : Hid (∀ w1, Below wa.heap.size wa w1 → Calls Tryz.prog 44 #[lv, .func (.func 43) #[] #[ptr w.heap.size]] w1 fun e w' => e = .returned (.bool true) ∧ w' = w1) := fun w1 hb => by
    have h9 := contains_any nx.length w.heap.size a c l lv w1 ((hb.cell (p := ⟨w.heap.size, 0, none⟩) hsa).trans hca) ((hL.below hBa).below hb)
    rw [dec_false hA] at h9
    exact h9
  have HB : Hid _ := hBa
  have HM : Hid _ := hmay
  subst hlv
  clear hN hL hmay hb2 hBa hca hA
  go_enter Tryz.func25, Tryz.ntmps25
  go_wp2_with (first
    | (go_at_call 9; go_loud (rw [← hwa]; refine Calls.mono (by exact HT.out) ?_; rintro e w1 ⟨ht, _, hb1w⟩; obtain ⟨tv, rfl, ho⟩ := ht HM.out; obtain ⟨ta, tc, htv⟩ := own_slice ho; subst htv; have HB1 : Hid (Below wa.heap.size wa w1) := hb1w; clear ht ho hb1w))
    | (go_at_call 44; go_loud (refine Calls.mono (by exact HC.out w1 HB1.out) ?_; rintro e w2 ⟨rfl, rfl⟩)))
  go_ret2
  exact ⟨rfl, below_trans HB.out HB1.out⟩
set_option maxRecDepth 100000 in
set_option maxHeartbeats 1000000 in
theorem joins_yes (nx : List (List Int)) (l : List Int) (v lv : Value) (w : World) (hN : NetAt w v nx) (hL : IntsAt w lv l) (hmay : May nx) (hA : AllIn nx.length l) (hb1 : nx.length ≤ 2000000) (hb2 : ∀ r ∈ nx, r.length ≤ 2000000) :
    Calls Tryz.prog 25 #[v, lv] w fun e w' => (∃ v', e = .returned (.tuple #[v', .int .i64 0]) ∧ OwnI w' w.heap.size v' (joinL nx fun a => (a : Int) ∈ l)) ∧ Below w.heap.size w w' := by
  obtain ⟨a, c, rfl, hll⟩ := hN.form
  obtain ⟨la, lc, hlv, _⟩ := hL.form
  obtain ⟨wa, hwa⟩ : ∃ wa, wa = w.alloc (.cells #[.slice a nx.length c] 22) := ⟨_, rfl⟩
  have hBa : Below w.heap.size w wa := by rw [hwa]; exact below_alloc (Below.refl _ _) _
  have hsa : w.heap.size < wa.heap.size := by rw [hwa]; simp
  have hca : wa.cell? ⟨w.heap.size, 0, none⟩ = some (.slice a nx.length c) := by
    rw [hwa]
    exact (Box.new w [.slice a nx.length c] 22).cell 0 _ rfl
  have HT : Hid _ := (tree_ok hb1 hb2) _ wa (hN.below hBa)
  have HC : Hid (∀ w1, Below wa.heap.size wa w1 → Calls Tryz.prog 44 #[lv, .func (.func 43) #[] #[ptr w.heap.size]] w1 fun e w' => e = .returned (.bool false) ∧ w' = w1) := fun w1 hb => by
    have h9 := contains_any nx.length w.heap.size a c l lv w1 ((hb.cell (p := ⟨w.heap.size, 0, none⟩) hsa).trans hca) ((hL.below hBa).below hb)
    rw [dec_true hA] at h9
    exact h9
  have HCC : Hid (∀ w1, Below wa.heap.size wa w1 → w1.cell? ⟨w.heap.size, 0, none⟩ = some (.slice a nx.length c)) := fun w1 hb => (hb.cell (p := ⟨w.heap.size, 0, none⟩) hsa).trans hca
  have HJ : Hid (∀ w1 tv, Below wa.heap.size wa w1 → IntsAt w1 tv (treeL nx) → _) := fun w1 tv hb hT => joined_any nx hmay hb1 hb2 l hA (.slice a nx.length c) tv lv w1 ((hN.below hBa).below hb) hT ((hL.below hBa).below hb)
  have HTL : Hid ((treeL nx).length ≤ 140737488355328) := by show _ ≤ _; rw [treeL_len]; omega
  have HB : Hid _ := hBa
  have HM : Hid _ := hmay
  subst hlv
  clear hN hL hmay hb2 hBa hca hA
  go_enter Tryz.func25, Tryz.ntmps25
  go_wp2_with (first
    | (go_at_call 9; go_loud (rw [← hwa]; refine Calls.mono (by exact HT.out) ?_; rintro e w1 ⟨ht, _, hb1w⟩; obtain ⟨tv, rfl, ho⟩ := ht HM.out; obtain ⟨ta, tc, htv⟩ := own_slice ho; subst htv; have HI1 : Hid _ := OwnI.at' ho HTL.out; have HB1 : Hid (Below wa.heap.size wa w1) := hb1w; have c1 := HCC.out w1 hb1w; clear ht ho hb1w))
    | (go_at_call 44; go_loud (refine Calls.mono (by exact HC.out w1 HB1.out) ?_; rintro e w2 ⟨rfl, hw2⟩; have hw3 := hw2.symm; subst hw3; clear hw2))
    | (go_at_call 45; go_loud (refine Calls.mono (by exact HJ.out w1 _ HB1.out HI1.out) ?_; rintro e w3 ⟨v3, rfl, hv3, hb3⟩; have HV3 : Hid _ := hv3; have HB3 : Hid (Below w1.heap.size w1 w3) := hb3; clear hv3 hb3)))
  go_ret2
  exact ⟨⟨_, rfl, own_mono HV3.out (below_trans HB.out HB1.out).size⟩, below_trans (below_trans HB.out HB1.out) HB3.out⟩
theorem joins_ok {nx : List (List Int)} {l : List Int} (hb1 : nx.length ≤ 2000000) (hb2 : ∀ r ∈ nx, r.length ≤ 2000000) : JoinsOk nx l := fun v lv w hN hL => by
  by_cases hm : May nx
  · by_cases hA : AllIn nx.length l
    · exact (joins_yes nx l v lv w hN hL hm hA hb1 hb2).mono fun e w' hh => ⟨fun _ _ => by
        obtain ⟨v', e1, h2⟩ := hh.1
        exact ⟨v', e1, OwnI.at' h2 (by have := nodesL_len nx.length (Jn nx fun a => (a : Int) ∈ l); show (nodesL nx.length _).length ≤ _; omega)⟩, fun _ h => absurd hA h, fun h => absurd hm h, hh.2⟩
    · exact (joins_arg nx l v lv w hN hL hm hA hb1 hb2).mono fun e w' hh => ⟨fun _ h => absurd h hA, fun _ _ => hh.1, fun h => absurd hm h, hh.2⟩
  · exact (joins_no nx l v lv w hN hL hm hb1 hb2).mono fun e w' hh => ⟨fun h => absurd h hm, fun h => absurd h hm, fun _ => hh.1, hh.2⟩
end Go.Proofs.YtogjjmbcbnceoaaGreat
