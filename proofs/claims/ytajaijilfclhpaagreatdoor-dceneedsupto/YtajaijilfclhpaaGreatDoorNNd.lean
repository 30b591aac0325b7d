/- What is needed of a graph that is right by itself: the walk. -/
import Derived.Test.YtajaijilfclhpaaGreatDoorNLay
import Derived.Test.YtajaijilfclhpaaGreatDoorGOpUM
import Derived.Deep.CutRange
namespace Go.Proofs.YtajaijilfclhpaaGreatDoor
open Go.RowKit Go.Sort

theorem infoIz : (Tryz.prog.info? 3).map (fun i => (i.zero, i.size, i.bytes)) = some (some (.int .i64 0), 1, 8) := by kernel_rfl
theorem makeZ (n : Nat) (hn : n ≤ 1048576) : ∃ O : Obj, (∀ W : World, (Instr.makeSlice 22 (.int .i64 n) (.int .i64 n)).run Tryz.prog W = .ok (.slice (some ⟨W.heap.size, 0, none⟩) n n) (W.alloc O)) ∧ ∀ W : World, (W.alloc O).ownsRow W.heap.size 3 1 (.slice (some ⟨W.heap.size, 0, none⟩) n n) n ((List.replicate n 0).map ixV) := by
 obtain ⟨i0, hi0, hz0, hz1, hz2⟩ := info_parts infoIz
 refine ⟨.cells (madeCells #[.int .i64 0] n) 3, fun W => ?_, fun W => ?_⟩
 ·have hr := run_make (P := Tryz.prog) W 22 3 i0 (.int .i64 0) Tryz.underlying22 hi0 hz0 .i64 .i64 (n : Int) (n : Int) (by omega) (by omega) (by rw [hz2]; omega) (by omega)
  rw [hz1] at hr
  simp at hr
  exact hr
 ·have r1 := World.ownsRow_lit (base := W.heap.size) (e := 3) (size := 1) W (madeCells #[.int .i64 0] n) n (Nat.le_refl _) (by unfold maxLen; omega) (by simp [size_madeCells])
  rw [toList_madeCells_one] at r1
  simpa [ixV] using r1
theorem wpAnyL_two {P : Program} {ops : Array Oper} {Q : Exit → Act → World → Prop} {S : World → Prop} {late : Nat → Bool} {n : Nat} {l : Array Bool} {a : Act} {w : World} (i k : Nat) {oi ok : Oper} (hr : Region.ready .any ops l = [i, k]) (hi : ops[i]? = some oi) (hk : ops[k]? = some ok)
  (h1 : ∀ K : Act → World → Prop, (∀ a w, (late i = false → S w) → wpAnyL P ops Q S late n (l.setIfInBounds i true) a w → K a w) → if Region.wanted oi (yielded ops a.tmps) = true then Oper.wp P oi a w K Q else K (a.put oi.dst undef) w)
  (h2 : ∀ K : Act → World → Prop, (∀ a w, (late k = false → S w) → wpAnyL P ops Q S late n (l.setIfInBounds k true) a w → K a w) → if Region.wanted ok (yielded ops a.tmps) = true then Oper.wp P ok a w K Q else K (a.put ok.dst undef) w) : wpAnyL P ops Q S late (n + 1) l a w := by
 refine ⟨fun h0 => (by rw [hr] at h0; cases h0), fun j hj => ?_⟩
 rw [hr] at hj
 simp at hj
 rcases hj with rfl | rfl
 ·exact wpOp_step hi (fun K hK => h1 K fun a w h1 h2 => hK a w ⟨h1, h2⟩)
 ·exact wpOp_step hk (fun K hK => h2 K fun a w h1 h2 => hK a w ⟨h1, h2⟩)
theorem heap_app {w : World} {base : Nat} {a b : List Slot} (ha : Heap w base a) (hb : Heap w base b) (hx : ∀ s ∈ a, ∀ t ∈ b, ∀ g, s.v.ownBlock = some g → t.v.ownBlock ≠ some g) : Heap w base (a ++ b) := by
 refine ⟨fun i s hs => ?_, fun i j x y g hij hi hj hxg hyg => ?_⟩
 ·rw [List.getElem?_append] at hs
  split at hs
  ·exact ha.own i s hs
  ·exact hb.own _ s hs
 ·rw [List.getElem?_append] at hi hj
  split at hi
  ·split at hj
   ·exact ha.apart i j x y g hij hi hj hxg hyg
   ·exact hx x (List.mem_of_getElem? hi) y (List.mem_of_getElem? hj) g hxg hyg
  ·split at hj
   ·exact hx y (List.mem_of_getElem? hj) x (List.mem_of_getElem? hi) g hyg hxg
   ·exact hb.apart _ _ x y g (by omega) hi hj hxg hyg
theorem heap_one {w : World} {base : Nat} {s : Slot} (h : s.At w base) : Heap w base [s] := by
 refine ⟨fun i t ht => ?_, fun i j a b g hij ha hb => ?_⟩
 ·cases i with
  | zero => cases ht; exact h
  | succ i => simp at ht
 ·cases i with
  | zero => cases j with
   | zero => exact absurd rfl hij
   | succ j => simp at hb
  | succ i => simp at ha
abbrev gSlot (B : Nat) (cs : List Value) : Slot := ⟨.slice (some ⟨B, 0, none⟩) 1 1, 28, 6, 1, cs⟩
abbrev bSlot (B : Nat) (cs : List Value) : Slot := ⟨.slice (some ⟨B, 0, none⟩) 1 1, 63, 6, 1, cs⟩
abbrev iSlot (B : Nat) (v : Int) : Slot := ⟨.slice (some ⟨B, 0, none⟩) 1 1, 3, 1, 1, [intV v]⟩
theorem ak_start {w W : World} {A gd gn B m : Nat} {cs : List Value} (hlow : Below w.heap.size w W) (h0 : W.ownsRow w.heap.size 117 4 (.slice (some ⟨A, 0, none⟩) 1 1) 1 [rwN gd m, rwN gn m, .slice none 0 0, .slice none 0 0]) (h1 : OwnT W w.heap.size (rwN gd m) (List.replicate m false)) (h2 : W.ownsRow w.heap.size 3 1 (rwN gn m) m ((List.replicate m 0).map ixV)) (h5 : W.ownsRow w.heap.size 28 6 (.slice (some ⟨B, 0, none⟩) 1 1) 1 cs)
  (d1 : A ≠ gd) (d2 : A ≠ gn) (d3 : gd ≠ gn) (d4 : A ≠ B) (d5 : gd ≠ B) (d6 : gn ≠ B) : AkM ⟨w, A, gd, gn, m⟩ [gSlot B cs] W (.slice none 0 0) (.slice none 0 0) (Ak.new m) := by
 have hl : (List.replicate m false).length = m := List.length_replicate
 have h1' : W.ownsRow w.heap.size 4 1 (rwN gd m) m ((List.replicate m false).map boV) := by
  have h9 : W.ownsRow w.heap.size 4 1 (rwN gd m) (List.replicate m false).length ((List.replicate m false).map boV) := h1
  rw [hl] at h9; exact h9
 refine ⟨hlow, ?_, fun t ht => by simp [Ak.new] at ht⟩
 have H0 : Heap W w.heap.size [(⟨.slice (some ⟨A, 0, none⟩) 1 1, 117, 4, 1, akCells ⟨w, A, gd, gn, m⟩ (.slice none 0 0) (.slice none 0 0)⟩ : Slot)] := heap_one h0
 have H1 : Heap W w.heap.size [(⟨rwN gd m, 4, 1, m, (Ak.new m).need.map boV⟩ : Slot)] := heap_one h1'
 have H2 : Heap W w.heap.size [(⟨rwN gn m, 3, 1, m, (Ak.new m).newest.map ixV⟩ : Slot)] := heap_one h2
 have H3 : Heap W w.heap.size [(⟨.slice none 0 0, 164, 2, (Ak.new m).sets.length, flat sgCells (Ak.new m).sets⟩ : Slot)] := heap_one (World.ownsRow_nil _ _ _ _)
 have H4 : Heap W w.heap.size [(⟨.slice none 0 0, 3, 1, (Ak.new m).wait.length, (Ak.new m).wait.map intV⟩ : Slot)] := heap_one (World.ownsRow_nil _ _ _ _)
 have H5 : Heap W w.heap.size [gSlot B cs] := heap_one h5
 refine heap_app H0 (heap_app H1 (heap_app H2 (heap_app H3 (heap_app H4 H5 ?_) ?_) ?_) ?_) ?_
 all_goals
  intro s hs t ht g hg
  simp only [List.mem_cons, List.not_mem_nil, or_false] at hs ht
  subst hs
  rcases ht with rfl | rfl | rfl | rfl | rfl
 all_goals (simp only [Value.ownBlock, rwN] at hg ⊢; (try cases hg); (try simp); (try omega))
set_option maxRecDepth 100000 in
set_option maxHeartbeats 8000000 in
theorem dneeded_any (G : Gr) (pv vv av bv : Value) (w : World) (h : GrAt w pv vv av bv G) (hR : InR G) (hm : G.vars.length ≤ 1048576) (hb : G.blocks.length ≤ 100000 ∧ ∀ b ∈ G.blocks, b.ins.length ≤ 100000) :
  Calls Tryz.prog 27 #[.agg #[.string G.name, pv, .int .u8 G.result, vv, av, bv]] w fun e w' => ∃ v, e = .returned v ∧ Below w.heap.size w w' ∧ OwnT w' w.heap.size v (needL G) := by
 obtain ⟨pa, pc, va, vc, aa, ac, ba, bc, rfl, rfl, rfl, rfl, _, _, _, hbl⟩ := h.openF
 have HB : Hid (∀ i, i < G.blocks.length → _) := fun i hi => h.bs.get (i := i) hi
 have HIR : Hid (InR G) := hR
 have HBN : Hid (∀ b ∈ G.blocks, b.ins.length ≤ 100000) := hb.2
 obtain ⟨capN, hc0, hc1, hc2⟩ : ∃ c : Nat → Nat, c 0 = 0 ∧ (∀ i, c (i + 1) = c i + 100000) ∧ ∀ i, i ≤ 100000 → c i ≤ 10000000000 := ⟨fun i => i * 100000, rfl, fun i => by simp only; omega, fun i h => by simp only; omega⟩
 have HC0 : Hid (capN 0 = 0) := hc0
 have HC1 : Hid (∀ i, capN (i + 1) = capN i + 100000) := hc1
 have HC2 : Hid (∀ i, i ≤ 100000 → capN i ≤ 10000000000) := hc2
 clear hc0 hc1 hc2
 have hnb : G.blocks.length ≤ 100000 := hb.1
 obtain ⟨O1, hmk1, hO1⟩ := makeB G.vars.length hm
 obtain ⟨O2, hmk2, hO2⟩ := makeZ G.vars.length hm
 have HO1 : Hid _ := hO1
 have HO2 : Hid _ := hO2
 have H0 : Hid (Below w.heap.size w (w.alloc (.cells #[.string G.name, .slice pa G.params.length pc, .int .u8 G.result, .slice va G.vars.length vc, .slice aa G.arrs.length ac, .slice ba G.blocks.length bc] 28)) ∧ Box (w.alloc (.cells #[.string G.name, .slice pa G.params.length pc, .int .u8 G.result, .slice va G.vars.length vc, .slice aa G.arrs.length ac, .slice ba G.blocks.length bc] 28)) w.heap.size [.string G.name, .slice pa G.params.length pc, .int .u8 G.result, .slice va G.vars.length vc, .slice aa G.arrs.length ac, .slice ba G.blocks.length bc] ∧ (w.alloc (.cells #[.string G.name, .slice pa G.params.length pc, .int .u8 G.result, .slice va G.vars.length vc, .slice aa G.arrs.length ac, .slice ba G.blocks.length bc] 28)).ownsRow w.heap.size 28 6 (.slice (some ⟨w.heap.size, 0, none⟩) 1 1) 1 [.string G.name, .slice pa G.params.length pc, .int .u8 G.result, .slice va G.vars.length vc, .slice aa G.arrs.length ac, .slice ba G.blocks.length bc]) := by
  refine ⟨below_alloc (Below.refl _ _) _, Box.new w _ _, ?_⟩
  have r := World.ownsRow_lit (base := w.heap.size) (e := 28) (size := 6) w #[.string G.name, .slice pa G.params.length pc, .int .u8 G.result, .slice va G.vars.length vc, .slice aa G.arrs.length ac, .slice ba G.blocks.length bc] 1 (Nat.le_refl _) (by unfold maxLen; omega) rfl
  exact r
 have HST : Hid (AkI G [] [] (Ak.new G.vars.length) ∧ Wts (Ak.new G.vars.length)) := AkI.new G
 have HVL : Hid (G.vars.length ≤ 1048576) := hm
 clear h hR hb hO1 hO2 hm
 generalize hnn : G.blocks.length = n at *
 generalize hmm : G.vars.length = m at *
 have HNN : Hid (G.blocks.length = n) := hnn
 have HMM : Hid (G.vars.length = m) := hmm
 clear hnn hmm
 generalize G.name = nm at *
 generalize G.params.length = pl at *
 generalize G.arrs.length = al at *
 generalize G.result = r at *
 go_enter Tryz.func27, Tryz.ntmps27
 go_wp2
 go_cut [3] from 3 to 18 (fun v3 wc => ∃ (A gd gn : Nat), v3 = ptr A ∧ Hid (AkM ⟨w, A, gd, gn, m⟩ [gSlot w.heap.size [.string nm, .slice pa pl pc, .int .u8 r, .slice va m vc, .slice aa al ac, .slice ba n bc]] wc (.slice none 0 0) (.slice none 0 0) (Ak.new m)))
 ·rename_i J9 K9 hJ9 hK9
  have HJ9 : Hid _ := hJ9
  have HK9 : Hid _ := hK9
  clear hJ9 hK9
  clear HB HIR HBN HST
  have HL1 : Hid (w.heap.size < (w.alloc (.cells #[.string nm, .slice pa pl pc, .int .u8 r, .slice va m vc, .slice aa al ac, .slice ba n bc] 28)).heap.size) := H0.out.2.1.lt
  generalize (w.alloc (.cells #[.string nm, .slice pa pl pc, .int .u8 r, .slice va m vc, .slice aa al ac, .slice ba n bc] 28)) = W at *
  have HSX : Hid (∀ V, Below W.heap.size W V → V.cell? ⟨w.heap.size, 3, none⟩ = some (.slice va m vc) ∧ True) := fun V hV => ⟨(box6 (H0.out.2.1.below hV)).2.2.2.1, trivial⟩
  have HFIN : Hid (∀ (V V2 V3 : World) (A gd gn : Nat), Below W.heap.size W V3 → V3.ownsRow w.heap.size 117 4 (.slice (some ⟨A, 0, none⟩) 1 1) 1 [rwN gd m, rwN gn m, .slice none 0 0, .slice none 0 0] → OwnT V3 w.heap.size (rwN gd m) (List.replicate m false) → V3.ownsRow w.heap.size 3 1 (rwN gn m) m ((List.replicate m 0).map ixV) → W.heap.size ≤ A → W.heap.size ≤ gd → W.heap.size ≤ gn → A ≠ gd → A ≠ gn → gd ≠ gn → AkM ⟨w, A, gd, gn, m⟩ [gSlot w.heap.size [.string nm, .slice pa pl pc, .int .u8 r, .slice va m vc, .slice aa al ac, .slice ba n bc]] V3 (.slice none 0 0) (.slice none 0 0) (Ak.new m)) := fun _ _ V3 A gd gn hV q0 q1 q2 a1 a2 a3 n1 n2 n3 =>
   ak_start (below_trans H0.out.1 hV) q0 q1 q2 (owns_below H0.out.2.2 hV) n1 n2 n3 (by have := HL1.out; omega) (by have := HL1.out; omega) (by have := HL1.out; omega)
  have hwl : w.heap.size < W.heap.size := HL1.out
  clear H0
  refine wp_region_late (fun V => V.cell? ⟨w.heap.size, 3, none⟩ = some (.slice va m vc) ∧ True) (fun _ => false) (by kernel_rfl) (HSX.out _ (below_drew (Below.refl _ _))) (fun hHeld => ?_)
  have HBD : Hid (Below W.heap.size W W.drew) := below_drew (Below.refl _ _)
  refine wpAnyL_take 0 (v := ?_) rfl (by kernel_rfl) (by kernel_rfl) (by kernel_rfl) (by kernel_rfl) (fun _ _ _ h => h) hHeld (Or.inl ⟨by rfl, ?_⟩) ?_
  rotate_left 1
  ·(intro w hSw; (try dsimp only at hSw); (try obtain ⟨s0, s1⟩ := hSw); first | (go_simp; done) | (go_simp; with_reducible rfl))
  simp only [Act.put, List.setIfInBounds_toArray]
  refine wpAnyL_take 1 (v := ?_) rfl (by kernel_rfl) (by kernel_rfl) (by kernel_rfl) (by kernel_rfl) (fun _ _ _ h => h) hHeld (Or.inl ⟨by rfl, ?_⟩) ?_
  rotate_left 1
  ·(intro w hSw; (try dsimp only at hSw); (try obtain ⟨s0, s1⟩ := hSw); first | (go_simp; done) | (go_simp; with_reducible rfl))
  simp only [Act.put]
  refine wpAnyL_take 2 (v := ?_) rfl (by kernel_rfl) (by kernel_rfl) (by kernel_rfl) (by kernel_rfl) (fun _ _ _ h => h) hHeld (Or.inl ⟨by rfl, ?_⟩) ?_
  rotate_left 1
  ·(intro w hSw; (try dsimp only at hSw); (try obtain ⟨s0, s1⟩ := hSw); first | (go_simp; done) | (go_simp; with_reducible rfl))
  simp only [Act.put]
  refine wpAnyL_take 4 (v := ?_) rfl (by kernel_rfl) (by kernel_rfl) (by kernel_rfl) (by kernel_rfl) (fun _ _ _ h => h) hHeld (Or.inl ⟨by rfl, ?_⟩) ?_
  rotate_left 1
  ·(intro w hSw; (try dsimp only at hSw); (try obtain ⟨s0, s1⟩ := hSw); first | (go_simp; done) | (go_simp; with_reducible rfl))
  simp only [Act.put]
  refine wpAnyL_take 5 (v := ?_) rfl (by kernel_rfl) (by kernel_rfl) (by kernel_rfl) (by kernel_rfl) (fun _ _ _ h => h) hHeld (Or.inl ⟨by rfl, ?_⟩) ?_
  rotate_left 1
  ·(intro w hSw; (try dsimp only at hSw); (try obtain ⟨s0, s1⟩ := hSw); first | (go_simp; done) | (go_simp; with_reducible rfl))
  simp only [Act.put]
  refine wpAnyL_take 6 (v := ?_) rfl (by kernel_rfl) (by kernel_rfl) (by kernel_rfl) (by kernel_rfl) (fun _ _ _ h => h) hHeld (Or.inl ⟨by rfl, ?_⟩) ?_
  rotate_left 1
  ·(intro w hSw; (try dsimp only at hSw); (try obtain ⟨s0, s1⟩ := hSw); first | (go_simp; done) | (go_simp; with_reducible rfl))
  simp only [Act.put]
  clear hHeld
  have hs0 : W.drew.heap.size = W.heap.size := rfl
  refine wpAnyL_two 3 7 (by kernel_rfl) rfl rfl ?_ ?_
  ·intro K hK0
   have hK : Shut _ := hK0
   clear hK0
   go_simp
   refine hK.out _ _ (fun _ => HSX.out _ (below_alloc HBD.out O1)) ?_
   clear hK K
   refine wpAnyL_one 7 (by kernel_rfl) rfl (fun K hK0 => ?_)
   have hK : Shut _ := hK0
   clear hK0
   go_simp
   refine hK.out _ _ (fun _ => HSX.out _ (below_alloc (below_alloc HBD.out O1) O2)) ?_
   clear hK K
   have hHeld := HSX.out _ (below_alloc (below_alloc HBD.out O1) O2)
   refine wpAnyL_take 8 (v := ?_) rfl (by kernel_rfl) (by kernel_rfl) (by kernel_rfl) (by kernel_rfl) (fun _ _ _ h => h) hHeld (Or.inl ⟨by rfl, ?_⟩) ?_
   rotate_left 1
   ·(intro w hSw; (try dsimp only at hSw); (try obtain ⟨s0, s1⟩ := hSw); first | (go_simp; done) | (go_simp; with_reducible rfl))
   simp only [Act.put, List.setIfInBounds_toArray]
   clear hHeld
   refine wpAnyL_one 9 (by kernel_rfl) rfl (fun K hK0 => ?_)
   have hK : Shut _ := hK0
   clear hK0
   go_simp
   refine hK.out _ _ (fun _ => HSX.out _ (below_alloc (below_alloc (below_alloc HBD.out O1) O2) _)) ?_
   clear hK K
   refine wpAnyL_one 10 (by kernel_rfl) rfl (fun K hK0 => ?_)
   have hK : Shut _ := hK0
   clear hK0
   go_simp
   refine hK.out _ _ (fun _ => HSX.out _ (below_alloc (below_alloc (below_alloc HBD.out O1) O2) _)) ?_
   clear hK K
   refine ⟨by kernel_rfl, ?_⟩
   go_simp
   have e1 : (W.alloc O1).heap.size = W.heap.size + 1 := by simp
   have e2 : ((W.alloc O1).alloc O2).heap.size = W.heap.size + 2 := by simp
   have p1 := HO1.out W
   have p2 := HO2.out (W.alloc O1)
   rw [e1] at p2
   have p3 := World.ownsRow_lit (base := w.heap.size) (e := 117) (size := 4) ((W.alloc O1).alloc O2) #[rwN W.heap.size m, rwN (W.heap.size + 1) m, .slice none 0 0, .slice none 0 0] 1 (by omega) (by unfold maxLen; omega) rfl
   rw [e2] at p3
   have HE : Hid _ := HFIN.out W W (((W.alloc O1).alloc O2).alloc (.cells #[rwN W.heap.size m, rwN (W.heap.size + 1) m, .slice none 0 0, .slice none 0 0] 117)) (W.heap.size + 2) W.heap.size (W.heap.size + 1) (below_alloc (below_alloc (below_alloc (Below.refl _ _) O1) O2) _) p3 (owns_below (owns_below (own_mono p1 (by omega)) (below_alloc (Below.refl _ _) _)) (below_alloc (Below.refl _ _) _)) (owns_below (own_mono p2 (by omega)) (below_alloc (Below.refl _ _) _)) (by omega) (by omega) (by omega) (by omega) (by omega) (by omega)
   clear p1 p2 p3 HFIN HSX
   refine HK9.out _ _ (Met.intro (HJ9.out _ _ ?_))
   (repeat apply Exists.intro)
   refine ⟨?rel, rfl⟩
   case rel => exact ⟨W.heap.size + 2, W.heap.size, (W.heap.size + 1), rfl, HE.out.below (below_drew (Below.refl _ _))⟩
  ·intro K hK0
   have hK : Shut _ := hK0
   clear hK0
   go_simp
   refine hK.out _ _ (fun _ => HSX.out _ (below_alloc HBD.out O2)) ?_
   clear hK K
   refine wpAnyL_one 3 (by kernel_rfl) rfl (fun K hK0 => ?_)
   have hK : Shut _ := hK0
   clear hK0
   go_simp
   refine hK.out _ _ (fun _ => HSX.out _ (below_alloc (below_alloc HBD.out O2) O1)) ?_
   clear hK K
   have hHeld := HSX.out _ (below_alloc (below_alloc HBD.out O2) O1)
   refine wpAnyL_take 8 (v := ?_) rfl (by kernel_rfl) (by kernel_rfl) (by kernel_rfl) (by kernel_rfl) (fun _ _ _ h => h) hHeld (Or.inl ⟨by rfl, ?_⟩) ?_
   rotate_left 1
   ·(intro w hSw; (try dsimp only at hSw); (try obtain ⟨s0, s1⟩ := hSw); first | (go_simp; done) | (go_simp; with_reducible rfl))
   simp only [Act.put, List.setIfInBounds_toArray]
   clear hHeld
   refine wpAnyL_one 9 (by kernel_rfl) rfl (fun K hK0 => ?_)
   have hK : Shut _ := hK0
   clear hK0
   go_simp
   refine hK.out _ _ (fun _ => HSX.out _ (below_alloc (below_alloc (below_alloc HBD.out O2) O1) _)) ?_
   clear hK K
   refine wpAnyL_one 10 (by kernel_rfl) rfl (fun K hK0 => ?_)
   have hK : Shut _ := hK0
   clear hK0
   go_simp
   refine hK.out _ _ (fun _ => HSX.out _ (below_alloc (below_alloc (below_alloc HBD.out O2) O1) _)) ?_
   clear hK K
   refine ⟨by kernel_rfl, ?_⟩
   go_simp
   have e1 : (W.alloc O2).heap.size = W.heap.size + 1 := by simp
   have e2 : ((W.alloc O2).alloc O1).heap.size = W.heap.size + 2 := by simp
   have p1 := HO2.out W
   have p2 := HO1.out (W.alloc O2)
   rw [e1] at p2
   have p3 := World.ownsRow_lit (base := w.heap.size) (e := 117) (size := 4) ((W.alloc O2).alloc O1) #[rwN (W.heap.size + 1) m, rwN W.heap.size m, .slice none 0 0, .slice none 0 0] 1 (by omega) (by unfold maxLen; omega) rfl
   rw [e2] at p3
   have HE : Hid _ := HFIN.out W W (((W.alloc O2).alloc O1).alloc (.cells #[rwN (W.heap.size + 1) m, rwN W.heap.size m, .slice none 0 0, .slice none 0 0] 117)) (W.heap.size + 2) (W.heap.size + 1) W.heap.size (below_alloc (below_alloc (below_alloc (Below.refl _ _) O2) O1) _) p3 (owns_below (own_mono p2 (by omega)) (below_alloc (Below.refl _ _) _)) (owns_below (owns_below (own_mono p1 (by omega)) (below_alloc (Below.refl _ _) _)) (below_alloc (Below.refl _ _) _)) (by omega) (by omega) (by omega) (by omega) (by omega) (by omega)
   clear p1 p2 p3 HFIN HSX
   refine HK9.out _ _ (Met.intro (HJ9.out _ _ ?_))
   (repeat apply Exists.intro)
   refine ⟨?rel, rfl⟩
   case rel => exact ⟨W.heap.size + 2, (W.heap.size + 1), W.heap.size, rfl, HE.out.below (below_drew (Below.refl _ _))⟩
 ·obtain ⟨A, gd, gn, rfl, hM0⟩ := hcut
  obtain ⟨E, hE⟩ : ∃ E : AkE, E = ⟨w, A, gd, gn, m⟩ := ⟨_, rfl⟩
  have hEA : E.A = A := by rw [hE]
  have hEw : E.w0 = w := by rw [hE]
  have hEm : E.m = m := by rw [hE]
  rw [← hE] at hM0
  obtain ⟨gs, hgs⟩ : ∃ gs : Slot, gs = gSlot w.heap.size [.string nm, .slice pa pl pc, .int .u8 r, .slice va m vc, .slice aa al ac, .slice ba n bc] := ⟨_, rfl⟩
  have HGS : Hid _ := hgs
  rw [← hgs] at hM0
  have HM0 : Hid _ := hM0
  have HEW : Hid (E.w0 = w) := hEw
  have HEM : Hid (E.m = m) := hEm
  subst hEA
  clear hM0 hE hEw hEm hgs hmk1 hmk2 HO1 HO2 H0
  have HGB : Hid (∀ W sv wv s, AkM E [gs] W sv wv s → W.cell? ⟨w.heap.size, 5, none⟩ = some (.slice ba n bc) ∧ w.heap.size < W.heap.size) := fun W sv wv s hM => by
   have hs : (akL E [gs] sv wv s)[5]? = some ⟨.slice (some ⟨w.heap.size, 0, none⟩) 1 1, 28, 6, 1, [.string nm, .slice pa pl pc, .int .u8 r, .slice va m vc, .slice aa al ac, .slice ba n bc]⟩ := by rw [HGS.out]; rfl
   exact ⟨hM.heap.cell hs (j := 5) rfl, (hM.heap.lt hs).2⟩
  obtain ⟨hg5, hgl⟩ := HGB.out _ _ _ _ HM0.out
  go_wp2
  go_loopw [21] (fun vi wr => ∃ i : Nat, vi = .int .i64 i ∧ i ≤ n ∧ Hid (∃ sv wv s, AkM E [gs] wr sv wv s ∧ AkI G (G.blocks.take i) [] s ∧ Wts s ∧ s.sets.length ≤ capN i)) (fun vi _ => n - (intOf vi).toNat)
  case atStart => exact ⟨0, rfl, by omega, _, _, _, HM0.out, by rw [List.take_zero]; exact HST.out.1, HST.out.2, by rw [HC0.out]; exact Nat.le_refl _⟩
  case round =>
   obtain ⟨i, rfl, hi, hr⟩ := hrel
   obtain ⟨sv, wv, s, hM, hI, hW, hS⟩ := hr.out
   clear HM0 HST hr hg5 hgl
   generalize wr = wo at *
   have HMO : Hid (AkM E [gs] wo sv wv s) := hM
   have HIO : Hid (AkI G (G.blocks.take i) [] s ∧ Wts s ∧ s.sets.length ≤ capN i) := ⟨hI, hW, hS⟩
   obtain ⟨hg5, hgl⟩ := HGB.out _ _ _ _ hM
   clear hM hI hW hS
   by_cases hin : i < n
   ·have hin' : (i : Int) < n := by omega
    obtain ⟨g1, o1, iv, rfl, hg, k0, k1, k2, k3, k4, k5, hins⟩ := HB.out i hin
    have HLO : Hid (Below w.heap.size w wo) := by have h9 := HMO.out.low; rw [HEW.out] at h9; exact h9
    have hcl : ∀ j, wo.cell? ⟨g1, j, none⟩ = w.cell? ⟨g1, j, none⟩ := fun j => HLO.out.cell (p := ⟨g1, j, none⟩) hg
    rw [← hcl] at k0 k1 k2 k3 k4 k5
    have hbm0 : G.blocks.getD i default ∈ G.blocks := List.mem_of_getElem? (getD_somL (by rw [HNN.out]; exact hin))
    have HTKB : Hid (G.blocks.take (i + 1) = G.blocks.take i ++ [G.blocks.getD i default]) := by
     show _ = _
     rw [List.take_add_one, getD_somL (by rw [HNN.out]; exact hin)]
     rfl
    have HINS : Hid _ := hins
    obtain ⟨ia, ic, rfl, hil⟩ := hins.form
    have HIN : Hid (∀ k, k < (G.blocks.getD i default).ins.length → _) := fun k hk => HINS.out.get (i := k) hk
    have hbl9 := HBN.out _ hbm0
    have HBM : Hid (G.blocks.getD i default ∈ G.blocks) := hbm0
    clear hcl hins hbm0
    generalize G.blocks.getD i default = Xb at *
    obtain ⟨L, tk, ta, t0, t1, tt⟩ := Xb
    dsimp only at *
    obtain ⟨bcs, hbcs⟩ : ∃ bcs : List Value, bcs = [.slice ia L.length ic, .int .u8 tk, .int .i64 ta, .int .i64 t0, .int .i64 t1, .int .u8 tt] := ⟨_, rfl⟩
    have HBC : Hid _ := hbcs
    have HMB : Hid (AkM E [gs, bSlot wo.heap.size bcs] (wo.alloc (.cells #[.slice ia L.length ic, .int .u8 tk, .int .i64 ta, .int .i64 t0, .int .i64 t1, .int .u8 tt] 63)) sv wv s) := by
     have h9 := World.ownsRow_lit (base := E.w0.heap.size) (e := 63) (size := 6) wo #[.slice ia L.length ic, .int .u8 tk, .int .i64 ta, .int .i64 t0, .int .i64 t1, .int .u8 tt] 1 HMO.out.low.size (by unfold maxLen; omega) rfl
     rw [hbcs]
     exact HMO.out.with (below_alloc (Below.refl _ _) _) (x := bSlot wo.heap.size _) h9 (fun g hg => by cases hg; exact Nat.le_refl _)
    have HBB : Hid (∀ W sv wv s, AkM E [gs, bSlot wo.heap.size bcs] W sv wv s → Box W wo.heap.size bcs) := fun W sv wv s hM => by
     have hs : (akL E [gs, bSlot wo.heap.size bcs] sv wv s)[6]? = some ⟨.slice (some ⟨wo.heap.size, 0, none⟩) 1 1, 63, 6, 1, bcs⟩ := rfl
     exact ⟨(hM.heap.lt hs).2, fun j u hj => hM.heap.cell hs hj, fun j => hM.heap.fz hs j⟩
    clear hbcs
    have HIX : Hid (∀ sx, AkM E [gs, bSlot wo.heap.size bcs] sx sv wv s → True) := fun _ _ => trivial
    go_wp2
    go_loopw [28] (fun vk wr => ∃ k : Nat, vk = .int .i64 k ∧ k ≤ L.length ∧ Hid (∃ sv wv s, AkM E [gs, bSlot wo.heap.size bcs] wr sv wv s ∧ AkI G (G.blocks.take i) (L.take k) s ∧ Wts s ∧ s.sets.length ≤ capN i + k)) (fun vk _ => L.length - (intOf vk).toNat)
    case atStart => exact ⟨0, rfl, by omega, sv, wv, s, HMB.out, by rw [List.take_zero]; exact HIO.out.1, HIO.out.2.1, Nat.le_trans HIO.out.2.2 (Nat.le_add_right _ _)⟩
    case round =>
     obtain ⟨k, rfl, hk, hr⟩ := hrel
     obtain ⟨sv1, wv1, s1, hM, hI, hW, hS⟩ := hr.out
     clear HMB HIO HMO hr
     generalize wr = wk at *
     have HMK : Hid (AkM E [gs, bSlot wo.heap.size bcs] wk sv1 wv1 s1) := hM
     have HIK : Hid (AkI G (G.blocks.take i) (L.take k) s1 ∧ Wts s1 ∧ s1.sets.length ≤ capN i + k) := ⟨hI, hW, hS⟩
     have HLK : Hid (Below w.heap.size w wk) := by have h9 := hM.low; rw [HEW.out] at h9; exact h9
     have hbb := HBB.out _ _ _ _ hM
     rw [HBC.out] at hbb
     obtain ⟨f0, f1, f2, f3, f4, f5⟩ := box6 hbb
     clear hM hI hW hS hbb
     by_cases hkn : k < L.length
     ·have hkn' : (k : Int) < L.length := by omega
      obtain ⟨g2, o2, xv, rfl, hg2, j0, j1, j2, j3, j4, j5, hxa⟩ := HIN.out k hkn
      have hcl : ∀ j, wk.cell? ⟨g2, j, none⟩ = w.cell? ⟨g2, j, none⟩ := fun j => HLK.out.cell (p := ⟨g2, j, none⟩) hg2
      rw [← hcl] at j0 j1 j2 j3 j4 j5
      have hxm := getD_memI hkn
      have HTK : Hid (L.take (k + 1) = L.take k ++ [L.getD k default]) := by
       show _ = _
       rw [List.take_add_one, getD_somL hkn]
       rfl
      have HXA : Hid (IntsAt w xv (L.getD k default).args) := hxa
      obtain ⟨ya, yc, rfl, hyl⟩ := hxa.form
      clear hcl hxa
      have HRA : Hid ((∀ a ∈ (L.getD k default).args, 0 ≤ a ∧ a < E.m) ∧ (staysK (L.getD k default).kind = false → 0 ≤ (L.getD k default).dst ∧ (L.getD k default).dst < E.m)) := by
       rw [HEM.out, ← HMM.out]
       refine ⟨fun a ha => HIR.out.arg _ HBM.out _ hxm ?_ a ha, HIR.out.dst _ HBM.out _ hxm⟩
       cases hsk : staysK (L.getD k default).kind
       ·rw [sets_of hsk]; rfl
       ·rfl
      obtain ⟨hN1, hN2⟩ := AkI.lay HIR.out HIK.out.1 HIK.out.2.1 HBM.out hxm (.slice ya (L.getD k default).args.length yc)
      rw [← HTK.out] at hN1
      have HN1 : Hid _ := hN1
      have HN2 : Hid _ := hN2
      have hsl2 := HIK.out.2.2
      have hi2 : capN i ≤ 10000000000 := HC2.out _ (by omega)
      have HLY : Hid (∀ W, Below wk.heap.size wk W → Calls Tryz.prog 55 #[ptr E.A, .agg #[.int .u8 (L.getD k default).kind, .int .u8 (L.getD k default).op, .int .i64 (L.getD k default).dst, .slice ya (L.getD k default).args.length yc, .int .u64 (L.getD k default).bits, .int .i64 (L.getD k default).ref]] W fun e w' => e = .returned (.tuple #[]) ∧ ∃ sv' wv', AkM E [gs, bSlot wo.heap.size bcs] w' sv' wv' (s1.lay (.slice ya (L.getD k default).args.length yc) (L.getD k default))) := fun W hW =>
       dlay_any (HMK.out.below hW) (L.getD k default) _ (by rw [HEW.out]; exact HXA.out) HRA.out.1 HRA.out.2 (by rw [HEM.out, ← HMM.out]; exact HIK.out.1.room) (by rw [HEM.out]; exact HVL.out) (by omega)
      have HS2 : Hid ((s1.lay (.slice ya (L.getD k default).args.length yc) (L.getD k default)).sets.length ≤ capN i + (k + 1)) := by
       have h9 := (lay_sets s1 (.slice ya (L.getD k default).args.length yc) (L.getD k default)).1
       show _ ≤ _
       omega
      clear hN1 hN2 hsl2 hi2 HTK HRA hxm
      generalize s1.lay (.slice ya (L.getD k default).args.length yc) (L.getD k default) = s2 at *
      generalize L.getD k default = Y at *
      obtain ⟨kind, op, dst, args, bits, ref⟩ := Y
      dsimp only at *
      clear HXA
      generalize args.length = yl at *
      go_wp2_with (go_at_call 55; go_loud (refine Calls.mono (by exact HLY.out _ (below_alloc (Below.refl _ _) _)) ?_; rintro e w3 ⟨rfl, sv3, wv3, hM3⟩; have HM3 : Hid _ := hM3; clear hM3))
      go_roundw
      case rel => exact ⟨k + 1, by first | rfl | (congr 1; omega), by omega, sv3, wv3, s2, HM3.out, HN1.out, HN2.out, HS2.out⟩
      case measure => simp [intOf]; omega
     ·obtain rfl : k = L.length := by omega
      have hT := AkI.term HIR.out (b := ⟨L, ⟨tk, ta, t0, t1, tt⟩⟩) HBM.out (by have h9 := HIK.out.1; rw [List.take_length] at h9; exact h9) HIK.out.2.1
      dsimp only at hT
      rw [← HTKB.out] at hT
      have HTT : Hid _ := hT
      have HAS : Hid (∀ W, Calls Tryz.prog 56 #[.agg #[.int .u8 tk, .int .i64 ta, .int .i64 t0, .int .i64 t1, .int .u8 tt]] W fun e w' => e = .returned (.bool (asksT ⟨tk, ta, t0, t1, tt⟩)) ∧ Below W.heap.size W w') := fun W => asks_any ⟨tk, ta, t0, t1, tt⟩ W
      have HS2 : Hid (s1.sets.length ≤ capN (i + 1)) := by have h9 := HIK.out.2.2; have h8 := HC1.out i; show _ ≤ _; omega
      have hta : asksT ⟨tk, ta, t0, t1, tt⟩ = true → 0 ≤ ta ∧ ta < E.m := fun h => by
       have h9 := HIR.out.term _ HBM.out h
       rw [HEM.out, ← HMM.out]
       exact h9
      clear hT HIN
      cases hak : asksT ⟨tk, ta, t0, t1, tt⟩ with
      | false =>
       rw [hak] at HAS HTT
       have HTF : Hid (AkI G (G.blocks.take (i + 1)) [] s1 ∧ Wts s1) := by have h9 := HTT.out; simp only [Bool.false_eq_true, if_false] at h9; exact h9
       clear HTT hak hta
       go_wp2_with (go_at_call 56; go_loud (refine Calls.mono (by exact HAS.out _) ?_; rintro e w3 ⟨rfl, hb3⟩; have HB3 : Hid _ := hb3; clear hb3))
       go_roundw
       case rel => exact ⟨i + 1, by first | rfl | (congr 1; omega), by omega, sv1, wv1, s1, (HMK.out.below HB3.out).drop (X := [gs]) (Y := [bSlot wo.heap.size bcs]), HTF.out.1, HTF.out.2, HS2.out⟩
       case measure => simp [intOf]; omega
      | true =>
       rw [hak] at HAS HTT
       have HTF : Hid (AkI G (G.blocks.take (i + 1)) [] (s1.mark ta) ∧ Wts (s1.mark ta)) := by have h9 := HTT.out; simp only [if_true] at h9; exact h9
       have HTA : Hid (0 ≤ ta ∧ ta < E.m) := hta hak
       have HS3 : Hid ((s1.mark ta).sets.length ≤ capN (i + 1)) := by rw [(mark_sets s1 ta).1]; exact HS2.out
       have HASK : Hid (∀ W, Below wk.heap.size wk W → Calls Tryz.prog 57 #[ptr E.A, .slice (some ⟨W.heap.size, 0, none⟩) 1 1] (W.alloc (.cells #[.int .i64 ta] 3)) fun e w' => e = .returned (.tuple #[]) ∧ ∃ wv', AkM E ([gs, bSlot wo.heap.size bcs] ++ [iSlot W.heap.size ta]) w' sv1 wv' (s1.mark ta)) := fun W hW => by
        have h8 := World.ownsRow_lit (base := E.w0.heap.size) (e := 3) (size := 1) W #[.int .i64 ta] 1 (HMK.out.below hW).low.size (by unfold maxLen; omega) rfl
        have h9 := (HMK.out.below hW).with (below_alloc (Below.refl _ _) (.cells #[.int .i64 ta] 3)) (x := iSlot W.heap.size ta) h8 (fun g hg => by cases hg; exact Nat.le_refl _)
        refine ask_any h9 _ [ta] (fun V sv2 wv2 t2 h2 => ?_) (fun a ha => by rw [List.mem_singleton.1 ha]; exact HTA.out) (by rw [HEM.out, ← HMM.out]; exact HIK.out.1.room) (by rw [HEM.out]; exact HVL.out)
        have hs : (akL E ([gs, bSlot wo.heap.size bcs] ++ [iSlot W.heap.size ta]) sv2 wv2 t2)[7]? = some ⟨.slice (some ⟨W.heap.size, 0, none⟩) 1 1, 3, 1, 1, [intV ta]⟩ := rfl
        have hc := h2.heap.cell hs (j := 0) rfl
        refine ⟨_, _, rfl, ⟨Nat.le_refl _, by simp⟩, .inr ⟨W.heap.size, 0, rfl, (h2.heap.lt hs).2, fun j u hj => ?_⟩⟩
        rw [Nat.zero_add]
        exact h2.heap.cell hs hj
       clear HTT hak hta
       go_wp2_with (first
        | (go_at_call 56; go_loud (refine Calls.mono (by exact HAS.out _) ?_; rintro e w3 ⟨rfl, hb3⟩; have HB3 : Hid _ := hb3; have hbb := HBB.out _ _ _ _ (HMK.out.below hb3); rw [HBC.out] at hbb; obtain ⟨e0, e1, e2, e3, e4, e5⟩ := box6 hbb; clear hb3 hbb))
        | (go_at_call 57; go_loud (refine Calls.mono (by exact HASK.out _ HB3.out) ?_; rintro e w4 ⟨rfl, wv4, hM4⟩; have HM4 : Hid _ := hM4; clear hM4)))
       go_roundw
       case rel => exact ⟨i + 1, by first | rfl | (congr 1; omega), by omega, sv1, wv4, s1.mark ta, (HM4.out.drop (X := [gs, bSlot wo.heap.size bcs])).drop (X := [gs]) (Y := [bSlot wo.heap.size bcs]), HTF.out.1, HTF.out.2, HS3.out⟩
       case measure => simp [intOf]; omega
   ·obtain rfl : i = n := by omega
    have HIF : Hid (AkI G G.blocks [] s) := by have h9 := HIO.out.1; rw [← HNN.out, List.take_length] at h9; exact h9
    have hs9 := HIO.out.2.2
    have hs8 := HC2.out _ hnb
    have HSET : Hid _ := dsettle_any HMO.out HIF.out HIO.out.2.1.stl (by rw [HEM.out, ← HMM.out]) (by rw [HEM.out]; exact HVL.out) (by omega)
    have HFB : Hid (∀ W sv wv s, AkM E [gs] W sv wv s → W.cell? ⟨E.A, 0, none⟩ = some (.slice (some ⟨E.gd, 0, none⟩) E.m E.m) ∧ E.A < W.heap.size) := fun W sv wv s hM => ⟨hM.box.1, hM.box.2.2.2.2.2.2⟩
    clear hs9 hs8 HIO HMO HB
    go_wp2_with (go_at_call 58; go_loud (refine Calls.mono (by exact HSET.out) ?_; rintro e w3 ⟨rfl, wv3, t, hM3, hI3, hS3, hw3⟩; obtain ⟨f0, fA⟩ := HFB.out _ _ _ _ hM3; have HM3 : Hid _ := hM3; have HE3 : Hid (t.need = needL G) := hI3.done HIR.out hS3 hw3; clear hM3 hI3 hS3 hw3))
    go_ret
    have hlow := HM3.out.low
    have hown : w3.ownsRow E.w0.heap.size 4 1 (rwN E.gd E.m) E.m (t.need.map boV) := HM3.out.heap.own 1 _ rfl
    rw [HEW.out] at hlow hown
    refine ⟨_, rfl, hlow, ?_⟩
    show World.ownsRow _ _ _ _ _ _ _
    rw [← HE3.out, HM3.out.lens.1]
    exact hown
end Go.Proofs.YtajaijilfclhpaaGreatDoor
