/- The law of what is needed: its run. -/
import Derived.Test.YtajaijilfclhpaaGreatDoorNAwkM
import Derived.Test.YtajaijilfclhpaaGreatDoorNRn
import Derived.Test.YtajaijilfclhpaaGreatDoorKGiM
import Derived.Test.YtajaijilfclhpaaGreatDoorKGuM
import Derived.Test.YtajaijilfclhpaaGreatDoorKGPR
namespace Go.Proofs.YtajaijilfclhpaaGreatDoor
open Go.RowKit Go.Sort

/-- What is told of any graph. -/
noncomputable def ndL (G : Gr) : List Bool := if aloneG G then needL G else []
theorem ndL_of {G : Gr} {w : World} {base : Nat} {v : Value} (h1 : aloneG G = true → OwnT w base v (needL G)) (h2 : aloneG G = false → v = .slice none 0 0) : OwnT w base v (ndL G) := by
 unfold ndL
 cases h : aloneG G with
 | true => exact h1 h
 | false => rw [h2 h]; exact World.ownsRow_nil _ _ _ _
theorem ndL_len {G : Gr} (h : G.vars.length ≤ 1500) : (ndL G).length ≤ 1500 := by
 unfold ndL
 split
 ·rw [needL_len]; exact h
 ·simp
theorem szG_of {G : Gr} (ho : OkG17 G) (h1 : G.params.length ≤ 1100000) (h3 : G.arrs.length ≤ 1100000) (ha : ∀ b ∈ G.blocks, ∀ x ∈ b.ins, x.args.length ≤ 1100000) : SzG G :=
 ⟨h1, by have := ho.2.1; omega, h3, by have := ho.1; omega, fun b hb => ⟨by have := ho.2.2 b hb; omega, fun x hx => ha b hb x hx⟩⟩
set_option maxRecDepth 100000 in
set_option maxHeartbeats 2000000 in
theorem needs_run (G : Gr) (pv vv av bv : Value) (w : World) (h : GrAt w pv vv av bv G) (hP : PartsAt w) (h1 : G.params.length ≤ 1100000) (h3 : G.arrs.length ≤ 1100000) (ha : ∀ b ∈ G.blocks, ∀ x ∈ b.ins, x.args.length ≤ 1100000) (hA : argsN G + 1 ≤ 17592186044416) :
  Calls Tryz.prog 3 #[.agg #[.string G.name, pv, .int .u8 G.result, vv, av, bv]] w fun e w' => e = .returned (.bool true) ∧ Below w.heap.size w w' := by
 have HAW : Hid (∀ W, Below w.heap.size w W → Calls Tryz.prog 6 #[] W fun e w' => e = .returned (.bool true) ∧ Below W.heap.size W w') := fun W hW => awake_any W (hP.below hW)
 have HGT : Hid (∀ W, Below w.heap.size w W → Calls Tryz.prog 7 #[.slice (some ⟨W.heap.size, 0, none⟩) 1 1] (W.alloc (.cells #[.string G.name, pv, .int .u8 G.result, vv, av, bv] 28)) fun e w' => ∃ b, e = .returned (.bool b) ∧ Hid (b = false → OkG17 G) ∧ Below W.heap.size W w') := fun W hW => by
  refine Calls.mono (great17_any [G] _ _ (grs_one (h.below hW))) ?_
  rintro e w' ⟨b, he, hb, rfl⟩
  exact ⟨b, he, fun hf => (hb.out hf).2 G (List.mem_singleton.2 rfl), below_alloc (Below.refl _ _) _⟩
 have HLE : Hid (OkG17 G → ∀ W, Below w.heap.size w W → Calls Tryz.prog 8 #[.agg #[.string G.name, pv, .int .u8 G.result, vv, av, bv]] W fun e w' => ∃ q : V4, e = .returned (.agg #[.string G.name, q.1, .int .u8 G.result, q.2.1, q.2.2.1, q.2.2.2]) ∧ LentG1 w' W.heap.size w'.heap.size q G ∧ Below W.heap.size W w') := fun ho W hW => lentGraph_any G pv vv av bv W (h.below hW) (szG_of ho h1 h3 ha)
 have HSZ : Hid (OkG17 G → SzG G) := fun ho => szG_of ho h1 h3 ha
 have HNE : Hid (OkG17 G → ∀ (W : World) (lo hi : Nat) (q : V4), LentG1 W lo hi q G → Below w.heap.size w W → Calls Tryz.prog 9 #[.agg #[.string G.name, q.1, .int .u8 G.result, q.2.1, q.2.2.1, q.2.2.2]] W fun e w' => ∃ v, e = .returned v ∧ Below W.heap.size W w' ∧ OwnT w' W.heap.size v (ndL G)) := fun ho W lo hi q hl hW => by
  refine Calls.mono (dNeeded_any G _ _ _ _ W (hl.at' (szG_of ho h1 h3 ha)) (hP.below hW) ⟨by have := ho.1; omega, fun b hb => by have := ho.2.2 b hb; omega⟩) ?_
  rintro e w' ⟨v, he, hb, k1, k2⟩
  exact ⟨v, he, hb, ndL_of k1 k2⟩
 have HRN : Hid (OkG17 G → ∀ W, Below w.heap.size w W → Calls Tryz.prog 10 #[.agg #[.string G.name, pv, .int .u8 G.result, vv, av, bv]] W fun e w' => ∃ v, e = .returned v ∧ Below W.heap.size W w' ∧ OwnT w' W.heap.size v (ndL G)) := fun ho W hW => by
  refine Calls.mono (rneed_any G _ _ _ _ W (h.below hW) (by have := ho.1; omega) hA) ?_
  rintro e w' ⟨v, he, hb, k1, k2⟩
  exact ⟨v, he, hb, ndL_of k1 k2⟩
 have HKE : Hid (OkG17 G → ∀ (W : World) (lo hi : Nat) (q : V4), LentG1 W lo hi q G → Below w.heap.size w W → Calls Tryz.prog 12 #[.agg #[.string G.name, q.1, .int .u8 G.result, q.2.1, q.2.2.1, q.2.2.2], .agg #[.string G.name, pv, .int .u8 G.result, vv, av, bv]] W fun e w' => e = .returned (.bool true) ∧ Below W.heap.size W w') := fun ho W lo hi q hl hW => keptGraph_any G q pv vv av bv lo hi W hl (h.below hW) (szG_of ho h1 h3 ha)
 have HFO : Hid (OkG17 G → ∀ (W : World) (lo hi : Nat) (q : V4), LentG1 W lo hi q G → ∃ (xa ya za ka : Option Addr) (xl xc yl yc zl zc kl kc : Nat), q = (.slice xa xl xc, .slice ya yl yc, .slice za zl zc, .slice ka kl kc)) := fun ho W lo hi q hl => by
  have hg := hl.at' (szG_of ho h1 h3 ha)
  obtain ⟨q1, q2, q3, q4⟩ := q
  obtain ⟨a, b, c, d, e, f, g, i, rfl, rfl, rfl, rfl, _⟩ := hg.openF
  exact ⟨a, c, e, g, _, b, _, d, _, f, _, i, rfl⟩
 have HND : Hid (OkG17 G → (ndL G).length ≤ 1500) := fun ho => ndL_len ho.2.1
 obtain ⟨pa, pc, va, vc, aa, ac, ba, bc, rfl, rfl, rfl, rfl, _, _, _, _⟩ := h.openF
 have H0 : Hid (Below w.heap.size w (w.alloc (.cells #[.string G.name, .slice pa G.params.length pc, .int .u8 G.result, .slice va G.vars.length vc, .slice aa G.arrs.length ac, .slice ba G.blocks.length bc] 28)) ∧ Box (w.alloc (.cells #[.string G.name, .slice pa G.params.length pc, .int .u8 G.result, .slice va G.vars.length vc, .slice aa G.arrs.length ac, .slice ba G.blocks.length bc] 28)) w.heap.size [.string G.name, .slice pa G.params.length pc, .int .u8 G.result, .slice va G.vars.length vc, .slice aa G.arrs.length ac, .slice ba G.blocks.length bc]) := ⟨below_alloc (Below.refl _ _) _, Box.new w _ _⟩
 clear h hP h1 h3 ha hA
 generalize G.name = nm at *
 generalize G.params.length = pl at *
 generalize G.vars.length = vl at *
 generalize G.arrs.length = al at *
 generalize G.blocks.length = bl at *
 generalize G.result = r at *
 go_enter Tryz.func3, Tryz.ntmps3
 go_wp2_with (first
  | (go_at_call 6; go_loud (refine Calls.mono (by exact HAW.out _ H0.out.1) ?_; rintro e w1 ⟨rfl, hb1⟩; have HB1 : Hid (Below w.heap.size w w1) := below_trans H0.out.1 hb1; have HX1 : Hid _ := H0.out.2.below hb1; obtain ⟨e0, e1, e2, e3, e4, e5⟩ := box6 HX1.out; clear hb1)))
 clear HAW
 refine Calls.mono (by exact HGT.out _ HB1.out) ?_
 rintro e w2 ⟨b, rfl, hok, hb2⟩
 have HB2 : Hid (Below w.heap.size w w2) := below_trans HB1.out hb2
 have HX2 : Hid _ := HX1.out.below hb2
 have HOK : Hid (b = false → OkG17 G) := hok
 obtain ⟨e0, e1, e2, e3, e4, e5⟩ := box6 HX2.out
 clear hb2 hok HGT H0 HB1 HX1
 cases b with
 | true =>
  go_wp2
  go_ret
  exact ⟨rfl, HB2.out⟩
 | false =>
  have HOG : Hid (OkG17 G) := HOK.out rfl
  go_wp2_with (go_at_call 8; go_loud (refine Calls.mono (by exact HLE.out HOG.out _ HB2.out) ?_; rintro e w3 ⟨q, rfl, hl3, hb3⟩; obtain ⟨xa, ya, za, ka, xl, xc, yl, yc, zl, zc, kl, kc, rfl⟩ := HFO.out HOG.out _ _ _ _ hl3; have HL3 : Hid _ := hl3; have HB3 : Hid (Below w.heap.size w w3) := below_trans HB2.out hb3; have HX3 : Hid _ := HX2.out.below hb3; clear hl3 hb3; dsimp only))
  have HX4 : Hid (Box (w3.alloc (.cells #[.string nm, .slice xa xl xc, .int .u8 r, .slice ya yl yc, .slice za zl zc, .slice ka kl kc] 28)) w3.heap.size [.string nm, .slice xa xl xc, .int .u8 r, .slice ya yl yc, .slice za zl zc, .slice ka kl kc]) := Box.new w3 [.string nm, .slice xa xl xc, .int .u8 r, .slice ya yl yc, .slice za zl zc, .slice ka kl kc] 28
  have HB4 : Hid (Below w3.heap.size w3 (w3.alloc (.cells #[.string nm, .slice xa xl xc, .int .u8 r, .slice ya yl yc, .slice za zl zc, .slice ka kl kc] 28))) := below_alloc (Below.refl _ _) _
  generalize (w3.alloc (.cells #[.string nm, .slice xa xl xc, .int .u8 r, .slice ya yl yc, .slice za zl zc, .slice ka kl kc] 28)) = w4 at *
  have HSX : Hid (∀ W, Below w4.heap.size w4 W → W.cell? ⟨w3.heap.size, 0, none⟩ = some (.string nm) ∧ W.cell? ⟨w3.heap.size, 1, none⟩ = some (.slice xa xl xc) ∧ W.cell? ⟨w3.heap.size, 2, none⟩ = some (.int .u8 r) ∧ W.cell? ⟨w3.heap.size, 3, none⟩ = some (.slice ya yl yc) ∧ W.cell? ⟨w3.heap.size, 4, none⟩ = some (.slice za zl zc) ∧ W.cell? ⟨w3.heap.size, 5, none⟩ = some (.slice ka kl kc)) := fun W hW => box6 (HX4.out.below hW)
  have HLW : Hid (∀ W, Below w4.heap.size w4 W → Below w.heap.size w W ∧ LentG1 W w2.heap.size w3.heap.size (.slice xa xl xc, .slice ya yl yc, .slice za zl zc, .slice ka kl kc) G) := fun W hW => ⟨below_trans (below_trans HB3.out HB4.out) hW, HL3.out.stands (Stands.of (below_trans HB4.out hW))⟩
  have HXW : Hid (∀ W, Below w4.heap.size w4 W → Box W w.heap.size [.string nm, .slice pa pl pc, .int .u8 r, .slice va vl vc, .slice aa al ac, .slice ba bl bc]) := fun W hW => (HX3.out.below HB4.out).below hW
  have HNE2 : Hid (∀ W, Below w4.heap.size w4 W → Calls Tryz.prog 9 #[.agg #[.string nm, .slice xa xl xc, .int .u8 r, .slice ya yl yc, .slice za zl zc, .slice ka kl kc]] W fun e w' => ∃ a c, e = .returned (.slice a (ndL G).length c) ∧ Below W.heap.size W w' ∧ OwnT w' W.heap.size (.slice a (ndL G).length c) (ndL G)) := fun W hW => by
   have h9 := HNE.out HOG.out W w2.heap.size w3.heap.size (.slice xa xl xc, .slice ya yl yc, .slice za zl zc, .slice ka kl kc) (HLW.out W hW).2 (HLW.out W hW).1
   dsimp only at h9
   refine Calls.mono h9 ?_
   rintro e w' ⟨v, he, hb, ho⟩
   obtain ⟨a, c, rfl, _⟩ := own_blk (Nat.le_refl _) ho
   exact ⟨a, c, he, hb, ho⟩
  have HRN2 : Hid (∀ W, Below w4.heap.size w4 W → Calls Tryz.prog 10 #[.agg #[.string nm, .slice pa pl pc, .int .u8 r, .slice va vl vc, .slice aa al ac, .slice ba bl bc]] W fun e w' => ∃ a c, e = .returned (.slice a (ndL G).length c) ∧ Below W.heap.size W w' ∧ OwnT w' W.heap.size (.slice a (ndL G).length c) (ndL G)) := fun W hW => by
   refine Calls.mono (HRN.out HOG.out W (HLW.out W hW).1) ?_
   rintro e w' ⟨v, he, hb, ho⟩
   obtain ⟨a, c, rfl, _⟩ := own_blk (Nat.le_refl _) ho
   exact ⟨a, c, he, hb, ho⟩
  have HKE2 : Hid (∀ W, Below w4.heap.size w4 W → Calls Tryz.prog 12 #[.agg #[.string nm, .slice xa xl xc, .int .u8 r, .slice ya yl yc, .slice za zl zc, .slice ka kl kc], .agg #[.string nm, .slice pa pl pc, .int .u8 r, .slice va vl vc, .slice aa al ac, .slice ba bl bc]] W fun e w' => e = .returned (.bool true) ∧ Below W.heap.size W w') := fun W hW => by
   have h9 := HKE.out HOG.out W w2.heap.size w3.heap.size (.slice xa xl xc, .slice ya yl yc, .slice za zl zc, .slice ka kl kc) (HLW.out W hW).2 (HLW.out W hW).1
   dsimp only at h9
   exact h9
  have HNL : Hid ((ndL G).length ≤ 1500) := HND.out HOG.out
  have HTR : Hid (∀ (W : World) (a : Option Addr) (c : Nat) (a' : Option Addr) (c' : Nat), BosAt W (.slice a (ndL G).length c) (ndL G) → BosAt W (.slice a' (ndL G).length c') (ndL G) → Calls Tryz.prog 11 #[.slice a (ndL G).length c, .slice a' (ndL G).length c'] W fun e w' => e = .returned (.bool true) ∧ Below W.heap.size W w') := fun W a c a' c' h1 h2 => truths_yes (ndL G) _ _ W h1 h2
  have HAT : Hid (∀ (W : World) (a : Option Addr) (c : Nat) (b : Nat), OwnT W b (.slice a (ndL G).length c) (ndL G) → BosAt W (.slice a (ndL G).length c) (ndL G)) := fun W a c b ho => OwnT.at' ho (by have := HNL.out; omega)
  have HAPT : Hid (∀ (W : World) (a1 : Option Addr) (c1 : Nat) (a2 : Option Addr) (c2 b1 b2 : Nat), w4.heap.size ≤ b1 → OwnT W b1 (.slice a1 (ndL G).length c1) (ndL G) → OwnT W b2 (.slice a2 (ndL G).length c2) (ndL G) → (∀ g, (Value.slice a1 (ndL G).length c1).ownBlock = some g → g < b2) → b1 ≤ b2 → Below w4.heap.size w4 W → Calls Tryz.prog 13 #[.slice (some ⟨W.heap.size, 0, none⟩) 2 2] (W.alloc (.cells #[.slice a1 (ndL G).length c1, .slice a2 (ndL G).length c2] 33)) fun e w' => e = .returned (.bool true) ∧ Below w4.heap.size w4 w') := fun W a1 c1 a2 c2 b1 b2 hb1 ho1 ho2 hlt hb12 hW => by
   have hA : Below W.heap.size W (W.alloc (.cells #[.slice a1 (ndL G).length c1, .slice a2 (ndL G).length c2] 33)) := below_alloc (Below.refl _ _) _
   have hbx := Box.new W [.slice a1 (ndL G).length c1, .slice a2 (ndL G).length c2] 33
   have hn := HNL.out
   have hap : ApartsC 4 1 (W.alloc (.cells #[.slice a1 (ndL G).length c1, .slice a2 (ndL G).length c2] 33)) w4.heap.size [.slice a1 (ndL G).length c1, .slice a2 (ndL G).length c2] := by
    refine ⟨fun k x hx => ?_, fun i j a b g hij hi hj hga hgb => ?_⟩
    ·rcases k with _ | _ | k
     ·cases hx; exact ⟨_, _, by omega, owns_below (own_mono ho1 hb1) hA⟩
     ·cases hx; exact ⟨_, _, by omega, owns_below (own_mono ho2 (by omega)) hA⟩
     ·simp at hx
    ·rcases i with _ | _ | i
     ·rcases j with _ | _ | j
      ·exact hij rfl
      ·cases hi; cases hj
       have := hlt g hga
       have := (World.ownsRow.lt ho2 g hgb).1
       omega
      ·simp at hj
     ·rcases j with _ | _ | j
      ·cases hi; cases hj
       have := hlt g hgb
       have := (World.ownsRow.lt ho2 g hga).1
       omega
      ·exact hij rfl
      ·simp at hj
     ·simp at hi
   refine Calls.mono (apartR_any w4.heap.size W.heap.size 0 2 [.slice a1 (ndL G).length c1, .slice a2 (ndL G).length c2] _ (by have := hW.size; simp; omega) (by simp) (fun j u hj => by rw [Nat.zero_add]; exact hbx.cell j u hj) hbx.lt hap) ?_
   rintro e w' ⟨he, hon⟩
   refine ⟨he, ?_⟩
   have hb9 : Below w4.heap.size (W.alloc (.cells #[.slice a1 (ndL G).length c1, .slice a2 (ndL G).length c2] 33)) w' := hon.below (by have := hW.size; simp; omega) (fun k hk => (hap.lt hk).1)
   exact (below_trans hW hA).trans hb9
  clear HNE HRN HKE HFO HSZ HLE HND HL3
  generalize hnd : (ndL G).length = nd at *
  clear hnd
  refine wp_region_late (fun W => W.cell? ⟨w3.heap.size, 0, none⟩ = some (.string nm) ∧ W.cell? ⟨w3.heap.size, 1, none⟩ = some (.slice xa xl xc) ∧ W.cell? ⟨w3.heap.size, 2, none⟩ = some (.int .u8 r) ∧ W.cell? ⟨w3.heap.size, 3, none⟩ = some (.slice ya yl yc) ∧ W.cell? ⟨w3.heap.size, 4, none⟩ = some (.slice za zl zc) ∧ W.cell? ⟨w3.heap.size, 5, none⟩ = some (.slice ka kl kc)) (fun _ => false) (by kernel_rfl) (HSX.out _ (below_drew (Below.refl _ _))) (fun hHeld => ?_)
  have HBD : Hid (Below w4.heap.size w4 w4.drew) := below_drew (Below.refl _ _)
  refine wpAnyL_take 0 (v := ?_) rfl (by kernel_rfl) (by kernel_rfl) (by kernel_rfl) (by kernel_rfl) (fun _ _ _ h => h) hHeld (Or.inl ⟨by rfl, ?_⟩) ?_
  rotate_left 1
  ·(intro w hSw; (try dsimp only at hSw); (try obtain ⟨s0, s1, s2, s3, s4, s5⟩ := hSw); first | (go_simp; done) | (go_simp; with_reducible rfl))
  simp only [Act.put, List.setIfInBounds_toArray]
  refine wpAnyL_take 2 (v := ?_) rfl (by kernel_rfl) (by kernel_rfl) (by kernel_rfl) (by kernel_rfl) (fun _ _ _ h => h) hHeld (Or.inl ⟨by rfl, ?_⟩) ?_
  rotate_left 1
  ·(intro w hSw; (try dsimp only at hSw); (try obtain ⟨s0, s1, s2, s3, s4, s5⟩ := hSw); first | (go_simp; done) | (go_simp; with_reducible rfl))
  simp only [Act.put]
  clear hHeld
  refine wpAnyL_one 1 (by kernel_rfl) rfl (fun K hK0 => ?_)
  have hK : Shut _ := hK0
  clear hK0
  go_simp
  refine Calls.mono (by exact HNE2.out _ HBD.out) ?_
  rintro e w5 ⟨a5, c5, rfl, hb5, ho5⟩
  have HB5 : Hid (Below w4.heap.size w4 w5) := below_trans HBD.out hb5
  have HO5 : Hid (OwnT w5 w4.heap.size (.slice a5 nd c5) (ndL G)) := own_mono ho5 HBD.out.size
  clear hb5 ho5
  dsimp only
  refine hK.out _ _ (fun _ => HSX.out _ HB5.out) ?_
  clear hK K
  refine wpAnyL_one 3 (by kernel_rfl) rfl (fun K hK0 => ?_)
  have hK : Shut _ := hK0
  clear hK0
  go_simp
  refine Calls.mono (by exact HNE2.out _ HB5.out) ?_
  rintro e w6 ⟨a6, c6, rfl, hb6, ho6⟩
  have HB6 : Hid (Below w4.heap.size w4 w6) := below_trans HB5.out hb6
  have HO6 : Hid (OwnT w6 w5.heap.size (.slice a6 nd c6) (ndL G) ∧ OwnT w6 w4.heap.size (.slice a5 nd c5) (ndL G) ∧ (∀ g, (Value.slice a5 nd c5).ownBlock = some g → g < w5.heap.size) ∧ w4.heap.size ≤ w5.heap.size) := ⟨ho6, owns_below HO5.out hb6, fun g hg => (World.ownsRow.lt HO5.out g hg).2, HB5.out.size⟩
  clear hb6 ho6
  have hHeld := HSX.out _ HB6.out
  dsimp only
  refine hK.out _ _ (fun _ => hHeld) ?_
  clear hK K
  refine wpAnyL_take 4 (v := ?_) rfl (by kernel_rfl) (by kernel_rfl) (by kernel_rfl) (by kernel_rfl) (fun _ _ _ h => h) hHeld (Or.inl ⟨by rfl, ?_⟩) ?_
  rotate_left 1
  ·(intro w hSw; (try dsimp only at hSw); (try obtain ⟨s0, s1, s2, s3, s4, s5⟩ := hSw); first | (go_simp; done) | (go_simp; with_reducible rfl))
  simp only [Act.put]
  refine wpAnyL_take 5 (v := ?_) rfl (by kernel_rfl) (by kernel_rfl) (by kernel_rfl) (by kernel_rfl) (fun _ _ _ h => h) hHeld (Or.inl ⟨by rfl, ?_⟩) ?_
  rotate_left 1
  ·(intro w hSw; (try dsimp only at hSw); (try obtain ⟨s0, s1, s2, s3, s4, s5⟩ := hSw); first | (go_simp; done) | (go_simp; with_reducible rfl))
  simp only [Act.put]
  refine ⟨by kernel_rfl, ?_⟩
  clear hHeld
  obtain ⟨d0, d1, d2, d3, d4, d5⟩ := box6 (HXW.out _ HB6.out)
  go_simp
  rename_i K8 hK8
  refine hK8 _ _ ?_
  clear hK8 K8
  go_wp2_with (first
   | (go_at_call 10; go_loud (refine Calls.mono (by exact HRN2.out _ HB6.out) ?_; rintro e w7 ⟨a7, c7, rfl, hb7, ho7⟩; have HB7 : Hid (Below w4.heap.size w4 w7) := below_trans HB6.out hb7; have HO7 : Hid (OwnT w7 w4.heap.size (.slice a5 nd c5) (ndL G) ∧ OwnT w7 w5.heap.size (.slice a6 nd c6) (ndL G) ∧ OwnT w7 w6.heap.size (.slice a7 nd c7) (ndL G)) := ⟨owns_below HO6.out.2.1 hb7, owns_below HO6.out.1 hb7, ho7⟩; have HBW : Hid (Below w7.heap.size w7 w7) := Below.refl _ _; have HOA : Hid (∀ W, Below w7.heap.size w7 W → BosAt W (.slice a5 nd c5) (ndL G) ∧ BosAt W (.slice a6 nd c6) (ndL G) ∧ BosAt W (.slice a7 nd c7) (ndL G)) := fun W hW => ⟨(HAT.out _ _ _ _ HO7.out.1).below hW, (HAT.out _ _ _ _ HO7.out.2.1).below hW, (HAT.out _ _ _ _ HO7.out.2.2).below hW⟩; clear hb7 ho7))
   | (go_at_call 11; go_loud (refine Calls.mono (by first | exact HTR.out _ a5 c5 a7 c7 (HOA.out _ HBW.out).1 (HOA.out _ HBW.out).2.2 | exact HTR.out _ a6 c6 a7 c7 (HOA.out _ HBW.out).2.1 (HOA.out _ HBW.out).2.2) ?_; rintro e w8 ⟨rfl, hb8⟩; have HBW : Hid (Below w7.heap.size w7 w8) := below_trans HBW.out hb8; obtain ⟨d0, d1, d2, d3, d4, d5⟩ := box6 (HXW.out _ (below_trans HB7.out HBW.out)); obtain ⟨f0, f1, f2, f3, f4, f5⟩ := HSX.out _ (below_trans HB7.out HBW.out); clear hb8))
   | (go_at_call 12; go_loud (refine Calls.mono (by exact HKE2.out _ (below_trans HB7.out HBW.out)) ?_; rintro e w9 ⟨rfl, hb9⟩; have HBW : Hid (Below w7.heap.size w7 w9) := below_trans HBW.out hb9; clear hb9))
   | (go_at_call 13; go_loud (refine Calls.mono (by exact HAPT.out _ a5 c5 a6 c6 w4.heap.size w5.heap.size (Nat.le_refl _) (owns_below HO7.out.1 HBW.out) (owns_below HO7.out.2.1 HBW.out) HO6.out.2.2.1 HO6.out.2.2.2 (below_trans HB7.out HBW.out)) ?_; rintro e w10 ⟨rfl, hb10⟩; have HBE : Hid (Below w.heap.size w w10) := below_trans (below_trans HB3.out HB4.out) hb10; clear hb10)))
  go_ret
  exact ⟨rfl, HBE.out⟩
end Go.Proofs.YtajaijilfclhpaaGreatDoor
