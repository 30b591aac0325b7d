/- The program's closure that lets a node wait. -/
import Derived.Test.YtogjjmbcbnceoaaGreatDJmM
namespace Go.Proofs.YtogjjmbcbnceoaaGreat
open Go.RowKit

/-- Where all lies: what was there ahead of the map, and the boxes. -/
structure JE (nx : List (List Int)) (W1 w0 : World) (bm gw gg gj : Nat) (b3 b7 b8 b9 b10 b11 b12 b13 D : Nat) (v uv : Value) : Prop where
  bel : Below W1.heap.size W1 w0
  o1 : W1.heap.size ≤ bm
  o2 : W1.heap.size ≤ gw
  o3 : W1.heap.size ≤ gg
  o4 : W1.heap.size ≤ gj
  f9 : b9 < w0.heap.size ∧ b9 ≠ bm ∧ b9 ≠ gw ∧ b9 ≠ gg ∧ b9 ≠ gj
  f10 : b10 < w0.heap.size ∧ b10 ≠ bm ∧ b10 ≠ gw ∧ b10 ≠ gg ∧ b10 ≠ gj
  f11 : b11 < w0.heap.size ∧ b11 ≠ bm ∧ b11 ≠ gw ∧ b11 ≠ gg ∧ b11 ≠ gj
  f12 : b12 < w0.heap.size ∧ b12 ≠ bm ∧ b12 ≠ gw ∧ b12 ≠ gg ∧ b12 ≠ gj
  f13 : b13 < w0.heap.size ∧ b13 ≠ bm ∧ b13 ≠ gw ∧ b13 ≠ gg ∧ b13 ≠ gj
  c9 : w0.cell? ⟨b9, 0, none⟩ = some (.map (some bm))
  c10 : w0.cell? ⟨b10, 0, none⟩ = some (slV gw nx.length)
  c11 : w0.cell? ⟨b11, 0, none⟩ = some (slV gg nx.length)
  c12 : w0.cell? ⟨b12, 0, none⟩ = some (slV gj nx.length)
  c13 : w0.cell? ⟨b13, 0, none⟩ = some (.func (.func 86) #[] #[ptr b10, ptr b8, ptr b9])
  l3 : b3 < W1.heap.size
  l7 : b7 < W1.heap.size
  l8 : b8 < W1.heap.size
  lD : D < W1.heap.size
  c3 : W1.cell? ⟨b3, 0, none⟩ = some v
  c7 : W1.cell? ⟨b7, 0, none⟩ = some uv
  c8 : W1.cell? ⟨b8, 0, none⟩ = some (slV D nx.length)
  net : NetAt W1 v nx
  und : NetAt W1 uv (undL nx)
  dep : ∀ x, x < nx.length → W1.cell? ⟨D, x, none⟩ = some (.int .i64 (dep nx x))
theorem wait_eq {nx : List (List Int)} (h : May nx) {wt : List Bool} {rows : List (List Int)} {x : Nat} (hx : x < nx.length) : (wt.getD x false = true → waitW (depL nx) wt x = wt ∧ waitR (depL nx) wt rows x = rows) ∧ (wt.getD x false = false → ¬ Rch nx noneS x → waitW (depL nx) wt x = wt ∧ waitR (depL nx) wt rows x = rows) ∧ (wt.getD x false = false → Rch nx noneS x → waitW (depL nx) wt x = wt.set x true ∧ waitR (depL nx) wt rows x = rows.modify (dep nx x).toNat (· ++ [(x : Int)])) := by
  refine ⟨fun h1 => ?_, fun h1 h2 => ?_, fun h1 h2 => ?_⟩
  · have : waitB (depL nx) wt x = false := by unfold waitB; rw [h1]; rfl
    unfold waitW waitR
    rw [this]
    exact ⟨rfl, rfl⟩
  · have : waitB (depL nx) wt x = false := by unfold waitB; rw [h1, depL_get hx, dep_no h2]; rfl
    unfold waitW waitR
    rw [this]
    exact ⟨rfl, rfl⟩
  · have : waitB (depL nx) wt x = true := by
      unfold waitB
      rw [h1, depL_get hx, decide_eq_true ((dep_iff h).2 h2)]
      rfl
    unfold waitW waitR
    rw [this, depL_get hx]
    exact ⟨rfl, rfl⟩
set_option maxRecDepth 100000 in
set_option maxHeartbeats 2000000 in
theorem wait_any (nx : List (List Int)) (hmay : May nx) (hb1 : nx.length ≤ 2000000) {W1 w0 w : World} {bm gw gg gj b3 b7 b8 b9 b10 b11 b12 b13 D : Nat} {v uv : Value} (E : JE nx W1 w0 bm gw gg gj b3 b7 b8 b9 b10 b11 b12 b13 D v uv) {wt gn jn : List Bool} {kvs : List Value} {rows : List (List Int)} {pv : Value} {pd : List Int} {qv : Value} {qd : List Int} (H : JM w0 w bm gw gg gj nx.length wt gn jn kvs rows pv pd qv qd) (hlen : ∀ k, (rows.getD k []).length ≤ 2000000) {x : Nat} (hx : x < nx.length) :
    Calls Tryz.prog 86 #[.int .i64 (x : Int), ptr b10, ptr b8, ptr b9] w fun e w' => e = .returned (.tuple #[]) ∧ ∃ kvs', JM w0 w' bm gw gg gj nx.length (waitW (depL nx) wt x) gn jn kvs' (waitR (depL nx) wt rows x) pv pd qv qd := by
  obtain ⟨hq1, hq2, hq3⟩ := wait_eq (wt := wt) (rows := rows) hmay hx
  have hB := H.bel E.bel E.o1 E.o2 E.o3 E.o4
  have k10 := H.cell E.f10 E.c10
  have k9 := H.cell E.f9 E.c9
  have k8 : w.cell? ⟨b8, 0, none⟩ = some (slV D nx.length) := (hB.cell (p := ⟨b8, 0, none⟩) E.l8).trans E.c8
  have kD : w.cell? ⟨D, x, none⟩ = some (.int .i64 (dep nx x)) := (hB.cell (p := ⟨D, x, none⟩) E.lD).trans (E.dep x hx)
  have kw := ownT_cell H.oW hx
  have fw := ownT_fz H.oW x
  have hx' : (x : Int) < nx.length := by omega
  rcases hw : wt.getD x false with _ | _
  · by_cases hr : Rch nx noneS x
    · obtain ⟨e1, e2⟩ := hq3 hw hr
      rw [e1, e2]
      obtain ⟨d0, d1⟩ := dep_in hmay hr
      obtain ⟨k, hk⟩ : ∃ k : Nat, dep nx x = (k : Int) := Int.eq_ofNat_of_zero_le d0
      rw [hk] at kD d1 ⊢
      rw [Int.toNat_natCast]
      rw [hw] at kw
      have hkn : k < nx.length := by omega
      have HJ : Hid _ := H.setW x
      have hsz : w.heap.size = (w.setCell ⟨gw, x, none⟩ (.bool true)).heap.size := by simp [World.setCell]
      obtain ⟨w5, hw5⟩ : ∃ w5, w5 = w.setCell ⟨gw, x, none⟩ (.bool true) := ⟨_, rfl⟩
      have HW5 : Hid _ := hw5
      have m10 : w5.cell? ⟨b9, 0, none⟩ = some (.map (some bm)) := by rw [hw5]; exact HJ.out.cell E.f9 E.c9
      have hB5 : Below W1.heap.size W1 w5 := by rw [hw5]; exact HJ.out.bel E.bel E.o1 E.o2 E.o3 E.o4
      have m8 : w5.cell? ⟨b8, 0, none⟩ = some (.slice (some ⟨D, 0, none⟩) nx.length nx.length) := (hB5.cell (p := ⟨b8, 0, none⟩) E.l8).trans E.c8
      have mD : w5.cell? ⟨D, x, none⟩ = some (.int .i64 (k : Int)) := (hB5.cell (p := ⟨D, x, none⟩) E.lD).trans ((E.dep x hx).trans (by rw [hk]))
      have HJ5 : Hid (JM w0 w5 bm gw gg gj nx.length (wt.set x true) gn jn kvs rows pv pd qv qd) := by rw [hw5]; exact HJ.out
      have ml : (Instr.lookup 128 (.map (some bm)) (.int .i64 (k : Int)) false).run Tryz.prog w5 = .ok (kvs.getD k nilV) w5 := HJ5.out.map.lookup hb1 hkn
      have hok := HJ5.out.kid hkn
      have hkn0 := fun g hg => HJ5.out.kidNew hkn (g := g) hg
      have hlk := hlen k
      generalize hrl0 : (rows.getD k []).length = rl at *
      have hok2 : w5.ownsRow 0 3 1 (kvs.getD k nilV) rl ((rows.getD k []).map intV) := by
        have h9 : w5.ownsRow 0 3 1 (kvs.getD k nilV) (rows.getD k []).length ((rows.getD k []).map intV) := hok
        rw [hrl0] at h9
        exact h9
      have HA1 : Hid (Below w5.heap.size w5 ((w5.alloc (.cells #[.int .i64 (x : Int)] 3)).drew)) := below_drew (below_alloc (Below.refl _ _) _)
      obtain ⟨g2, cc2, w2, hrun, ho, hg2, hat⟩ := app_one ((w5.alloc (.cells #[.int .i64 (x : Int)] 3)).drew) 23 0 (kvs.getD k nilV) (rows.getD k []) x w5.heap.size rl hrl0 (owns_below hok2 HA1.out) (cell_lit1 w5 x) (by omega) (by omega)
      obtain ⟨w3, hrunM, hJ3⟩ := HJ5.out.push hb1 hkn HA1.out hg2 (by rw [hrl0]; exact ho) hat
      have HJ3 : Hid _ := hJ3
      have hmap2 : MapIn w2 bm nx.length kvs rows := (HJ5.out.below HA1.out).map.kept hg2 (fun e => (HJ5.out.below HA1.out).map.notRow (owns_below hok2 HA1.out) e.symm)
      have n0 := HJ5.out.size
      have far : ∀ (bb j : Nat) (y : Value), w5.cell? ⟨bb, j, none⟩ = some y → bb < w0.heap.size → w2.cell? ⟨bb, j, none⟩ = some y := fun bb j y hy hbb => by
        have hne : some bb ≠ (kvs.getD k nilV).ownBlock := fun e => by have := hkn0 bb e.symm; omega
        have e1 : w2.heap[bb]? = ((w5.alloc (.cells #[.int .i64 (x : Int)] 3)).drew).heap[bb]? := hg2.block bb (by have := HA1.out.size; omega) hne
        exact (World.cell?_of_block (a := ⟨bb, j, none⟩) e1).trans ((HA1.out.cell (p := ⟨bb, j, none⟩) (show bb < w5.heap.size by omega)).trans hy)
      have hWs := E.bel.size
      have d1' := far _ _ _ m10 E.f9.1
      have d2' := far _ _ _ m8 (by have := E.l8; omega)
      have d3' := far _ _ _ mD (by have := E.lD; omega)
      have ml2 := hmap2.lookup hb1 hkn
      have ml1 : (Instr.lookup 128 (.map (some bm)) (.int .i64 (k : Int)) false).run Tryz.prog ((w5.drew).alloc (.cells #[.int .i64 (x : Int)] 3)) = .ok (kvs.getD k nilV) ((w5.drew).alloc (.cells #[.int .i64 (x : Int)] 3)) := (HJ5.out.below HA1.out).map.lookup hb1 hkn
      have ml0 : (Instr.lookup 128 (.map (some bm)) (.int .i64 (k : Int)) false).run Tryz.prog w5.drew = .ok (kvs.getD k nilV) w5.drew := (HJ5.out.below (below_drew (Below.refl _ _))).map.lookup hb1 hkn
      have hrun2 : (Builtin.append_ #[23, 23] 23 #[kvs.getD k nilV, .slice (some ⟨w5.heap.size, 0, none⟩) 1 1]).run Tryz.prog ((w5.drew).alloc (.cells #[.int .i64 (x : Int)] 3)) = .ok (.slice (some ⟨g2, 0, none⟩) (rl + 1) cc2) w2 := hrun
      have hdm : ¬ (k : Int) = -1 := by omega
      have hdm' : ((k : Int) != -1) = true := bne_iff_ne.2 hdm
      generalize kvs.getD k nilV = kv at *
      have HE : Hid _ := E
      clear hq1 hq2 hq3 hmap2 far ho hg2 hat hJ3 hok hok2 hkn0 hrl0 hw5 HA1 hB5 HJ5 hw hr E hB e1 e2 hk HJ hsz H hrun hlk hlen
      generalize nx.length = n at *
      go_enter Tryz.func86, Tryz.ntmps86
      go_wp2
      rw [← HW5.out]
      refine wp_region_late (fun w' => w'.cell? ⟨b9, 0, none⟩ = some (.map (some bm)) ∧ w'.cell? ⟨b8, 0, none⟩ = some (.slice (some ⟨D, 0, none⟩) n n) ∧ w'.cell? ⟨D, x, none⟩ = some (.int .i64 (k : Int)) ∧ (Instr.lookup 128 (.map (some bm)) (.int .i64 (k : Int)) false).run Tryz.prog w' = .ok kv w') (fun j => j == 14) (by kernel_rfl) ⟨m10, m8, mD, ml0⟩ (fun hHeld => ?_)
      refine wpAnyL_take 0 (v := ?_) rfl (by kernel_rfl) (by kernel_rfl) (by kernel_rfl) (by kernel_rfl) (fun _ _ _ h => h) hHeld (Or.inl ⟨by rfl, ?_⟩) ?_
      rotate_left 1
      · (intro w hSw; (try dsimp only at hSw); first | (go_simp; done) | (go_simp; with_reducible rfl))
      simp only [Act.put, List.setIfInBounds_toArray]
      refine wpAnyL_take 1 (v := ?_) rfl (by kernel_rfl) (by kernel_rfl) (by kernel_rfl) (by kernel_rfl) (fun _ _ _ h => h) hHeld (Or.inl ⟨by rfl, ?_⟩) ?_
      rotate_left 1
      · (intro w hSw; (try dsimp only at hSw); first | (go_simp; done) | (go_simp; with_reducible rfl))
      simp only [Act.put]
      refine wpAnyL_take 2 (v := ?_) rfl (by kernel_rfl) (by kernel_rfl) (by kernel_rfl) (by kernel_rfl) (fun _ _ _ h => h) hHeld (Or.inl ⟨by rfl, ?_⟩) ?_
      rotate_left 1
      · (intro w hSw; (try dsimp only at hSw); first | (go_simp; done) | (go_simp; with_reducible rfl))
      simp only [Act.put]
      refine wpAnyL_take 3 (v := ?_) rfl (by kernel_rfl) (by kernel_rfl) (by kernel_rfl) (by kernel_rfl) (fun _ _ _ h => h) hHeld (Or.inl ⟨by rfl, ?_⟩) ?_
      rotate_left 1
      · (intro w hSw; (try dsimp only at hSw); first | (go_simp; done) | (go_simp; with_reducible rfl))
      simp only [Act.put]
      refine wpAnyL_take 4 (v := ?_) rfl (by kernel_rfl) (by kernel_rfl) (by kernel_rfl) (by kernel_rfl) (fun _ _ _ h => h) hHeld (Or.inl ⟨by rfl, ?_⟩) ?_
      rotate_left 1
      · (intro w hSw; (try dsimp only at hSw); first | (go_simp; done) | (go_simp; with_reducible rfl))
      simp only [Act.put]
      refine wpAnyL_take 5 (v := ?_) rfl (by kernel_rfl) (by kernel_rfl) (by kernel_rfl) (by kernel_rfl) (fun _ _ _ h => h) hHeld (Or.inl ⟨by rfl, ?_⟩) ?_
      rotate_left 1
      · (intro w hSw; (try dsimp only at hSw); first | (go_simp; done) | (go_simp; with_reducible rfl))
      simp only [Act.put]
      refine wpAnyL_take 6 (v := ?_) rfl (by kernel_rfl) (by kernel_rfl) (by kernel_rfl) (by kernel_rfl) (fun _ _ _ h => h) hHeld (Or.inl ⟨by rfl, ?_⟩) ?_
      rotate_left 1
      · (intro w hSw; (try dsimp only at hSw); first | (go_simp; done) | (go_simp; with_reducible rfl))
      simp only [Act.put]
      refine wpAnyL_take 7 (v := ?_) rfl (by kernel_rfl) (by kernel_rfl) (by kernel_rfl) (by kernel_rfl) (fun _ _ _ h => h) hHeld (Or.inl ⟨by rfl, ?_⟩) ?_
      rotate_left 1
      · (intro w hSw; (try dsimp only at hSw); first | (go_simp; done) | (go_simp; with_reducible rfl))
      simp only [Act.put]
      refine wpAnyL_take 8 (v := ?_) rfl (by kernel_rfl) (by kernel_rfl) (by kernel_rfl) (by kernel_rfl) (fun _ _ _ h => h) hHeld (Or.inl ⟨by rfl, ?_⟩) ?_
      rotate_left 1
      · (intro w hSw; (try dsimp only at hSw); first | (go_simp; done) | (go_simp; with_reducible rfl))
      simp only [Act.put]
      refine wpAnyL_take 9 (v := ?_) rfl (by kernel_rfl) (by kernel_rfl) (by kernel_rfl) (by kernel_rfl) (fun _ _ _ h => h) hHeld (Or.inl ⟨by rfl, ?_⟩) ?_
      rotate_left 1
      · (intro w hSw; (try dsimp only at hSw); first | (go_simp; done) | (go_simp; with_reducible rfl))
      simp only [Act.put]
      refine wpAnyL_take 10 (v := ?_) rfl (by kernel_rfl) (by kernel_rfl) (by kernel_rfl) (by kernel_rfl) (fun _ _ _ h => h) hHeld (Or.inl ⟨by rfl, ?_⟩) ?_
      rotate_left 1
      · (intro w hSw; (try dsimp only at hSw); first | (go_simp; done) | (go_simp; with_reducible rfl))
      simp only [Act.put]
      refine wpAnyL_take 11 (v := ?_) rfl (by kernel_rfl) (by kernel_rfl) (by kernel_rfl) (by kernel_rfl) (fun _ _ _ h => h) hHeld (Or.inl ⟨by rfl, ?_⟩) ?_
      rotate_left 1
      · (intro w hSw; (try dsimp only at hSw); first | (go_simp; done) | (go_simp; with_reducible rfl))
      simp only [Act.put]
      refine wpAnyL_one 12 (by kernel_rfl) rfl (fun K hK0 => ?_)
      have hK : Shut _ := hK0
      clear hK0
      go_simp
      refine hK.out _ _ (fun _ => ⟨by go_keep, by go_keep, by go_keep, ml1⟩) ?_
      clear hK K
      refine wpAnyL_one 13 (by kernel_rfl) rfl (fun K hK0 => ?_)
      have hK : Shut _ := hK0
      clear hK0
      refine step_append_run rfl (.tmp 30) (.tmp 32) 23 rfl kv (.slice (some ⟨w5.heap.size, 0, none⟩) 1 1) _ _ ?e1 ?e2 hrun2 ?_
      case e1 => simp [Act.eval]
      case e2 => simp [Act.eval]
      refine hK.out _ _ (fun _ => ⟨d1', d2', d3', ml2⟩) ?_
      clear hK K
      simp only [Act.put]
      refine wpAnyL_one 14 (by kernel_rfl) rfl (fun K hK0 => ?_)
      have hK : Shut _ := hK0
      clear hK0
      go_simp
      refine hK.out _ _ (fun h => by cases h) ?_
      clear hK K
      refine wpAnyL_done (by kernel_rfl) ?_
      go_wp2
      go_end0
      exact ⟨rfl, _, HJ3.out⟩
    · obtain ⟨e1, e2⟩ := hq2 hw hr
      rw [e1, e2]
      rw [dep_no hr] at kD
      rw [hw] at kw
      have HJ : Hid _ := H
      clear hq1 hq2 hq3 hw hr E hB e1 e2 H
      generalize nx.length = n at *
      go_enter Tryz.func86, Tryz.ntmps86
      go_wp2
      go_end0
      exact ⟨rfl, _, HJ.out⟩
  · obtain ⟨e1, e2⟩ := hq1 hw
    rw [e1, e2]
    rw [hw] at kw
    have HJ : Hid _ := H
    clear hq1 hq2 hq3 hw E hB e1 e2 H kD
    generalize nx.length = n at *
    go_enter Tryz.func86, Tryz.ntmps86
    go_wp2
    go_end0
    exact ⟨rfl, _, HJ.out⟩
end Go.Proofs.YtogjjmbcbnceoaaGreat
/- The program's closure that finds a node's front. -/
namespace Go.Proofs.YtogjjmbcbnceoaaGreat
open Go.RowKit

theorem JI.small {nx : List (List Int)} (hm : May nx) {F : Nat → Prop} {d : Int} {P Dn : List Nat} {pd : List Int} {wt gn jn : List Bool} {rows : List (List Int)} (h : JI nx F d P Dn pd wt gn jn rows) (k : Nat) : (rows.getD k []).length ≤ nx.length := by
  have h1 : (rows.getD k []).length ≤ ((List.range nx.length).map fun b : Nat => (b : Int)).length := by
    refine List.Nodup.length_le_of_subset (h.ndr k) fun x hx => ?_
    obtain ⟨y, e, hy, _⟩ := h.keyd k x hx
    exact List.mem_map.2 ⟨y, List.mem_range.2 (hy.lt hm), e.symm⟩
  simpa using h1
/-- What is gone through now. -/
theorem gone_now {nx : List (List Int)} (hm : May nx) {F : Nat → Prop} {d : Int} {P Dn : List Nat} {pd : List Int} {wt gn jn : List Bool} {rows : List (List Int)} (h : JI nx F d P Dn pd wt gn jn rows) {x i : Nat} {fr : List Int} {gn' : List Bool} (hW : Wk nx (fun x => gn.getD x false = true) x i 0 fr) (hi : fr.length ≤ i) (hG : GnTo nx.length gn fr i gn') :
    (∀ c : Nat, (c : Int) ∈ fr ↔ c = x ∨ (Ov nx x c ∧ ¬ ∃ t ∈ P, Ov nx t c)) ∧ ∀ c, c < nx.length → (gn'.getD c false = true ↔ gn.getD c false = true ∨ Ov nx x c) := by
  have hx : Rch nx noneS x := by
    obtain ⟨y, e, _, ho⟩ := hW.nod _ (List.mem_of_getElem? hW.fst)
    exact ho.1
  have hd := hW.done hm hi (fun y p hp hy => by
    have hyl := hy.1
    obtain ⟨_, ho, _⟩ := hy.near hm
    obtain ⟨t, ht, htp⟩ := (h.gone p (ho.1.lt hm)).1 hp
    exact (h.gone y hyl).2 ⟨t, ht, htp.trans ho⟩)
  have hmem : ∀ c : Nat, c < nx.length → ((∃ j, j < i ∧ fr[j]? = some (c : Int)) ↔ (c : Int) ∈ fr) := fun c _ => ⟨fun ⟨j, _, hj⟩ => List.mem_of_getElem? hj, fun hc => by
    obtain ⟨j, hj⟩ := List.getElem?_of_mem hc
    have := (List.getElem?_eq_some_iff.1 hj).1
    exact ⟨j, by omega, hj⟩⟩
  constructor
  · intro c
    rw [hd c]
    constructor
    · rintro (e | ⟨ho, hn⟩)
      · exact .inl e
      · exact .inr ⟨ho, fun ht => hn ((h.gone c (ho.2.1.lt hm)).2 ht)⟩
    · rintro (e | ⟨ho, hn⟩)
      · exact .inl e
      · exact .inr ⟨ho, fun hg => hn ((h.gone c (ho.2.1.lt hm)).1 hg)⟩
  · intro c hc
    rw [hG.2 c hc, hmem c hc, hd c]
    constructor
    · rintro (h1 | rfl | ⟨h1, _⟩)
      · exact .inl h1
      · exact .inr (.refl hx)
      · exact .inr h1
    · rintro (h1 | h1)
      · exact .inl h1
      · by_cases e : gn.getD c false = true
        · exact .inl e
        · exact .inr (.inr ⟨h1, e⟩)
set_option maxRecDepth 100000 in
set_option maxHeartbeats 2000000 in
theorem gatherJ_any (nx : List (List Int)) (hmay : May nx) (hb1 : nx.length ≤ 2000000) (hb2 : ∀ r ∈ nx, r.length ≤ 2000000) {W1 w0 w : World} {bm gw gg gj b3 b7 b8 b9 b10 b11 b12 b13 D : Nat} {v uv : Value} (E : JE nx W1 w0 bm gw gg gj b3 b7 b8 b9 b10 b11 b12 b13 D v uv) {wt gn jn : List Bool} {kvs : List Value} {rows : List (List Int)} {pv : Value} {pdm : List Int} {qv : Value} {qd : List Int} (H : JM w0 w bm gw gg gj nx.length wt gn jn kvs rows pv pdm qv qd)
    {F : Nat → Prop} {d : Int} {P : List Nat} {x : Nat} {pd : List Int} (hJ : JI nx F d P P ((x : Int) :: pd) wt gn jn rows) :
    Calls Tryz.prog 87 #[.int .i64 (x : Int), ptr b7, ptr b11, ptr b3, ptr b8, ptr b12, ptr b13] w fun e w' => e = .returned (.tuple #[]) ∧ ∃ wt' gn' jn' kvs' rows' qv' qd', JM w0 w' bm gw gg gj nx.length wt' gn' jn' kvs' rows' pv pdm qv' qd' ∧ JI nx F d (x :: P) (x :: P) pd wt' gn' jn' rows' := by
  obtain ⟨y, ey, hxr, hxd⟩ := hJ.pdd (x : Int) (by simp)
  have : x = y := by omega
  subst this
  have hxl := hxr.lt hmay
  have hB := H.bel E.bel E.o1 E.o2 E.o3 E.o4
  have k7 : w.cell? ⟨b7, 0, none⟩ = some uv := (hB.cell (p := ⟨b7, 0, none⟩) E.l7).trans E.c7
  have k11 := H.cell E.f11 E.c11
  have HFR : Hid _ := fresh_any nx hmay hb1 W1 w uv gg x gn E.und hB E.o3 H.oG hxr
  have HJ0 : Hid _ := hJ
  have HM0 : Hid (∀ (w2 : World) (fv : Value) (fr : List Int) (gn' : List Bool), w.grownBy w2 (some gg) → OwnT w2 gg nx.length gn' → OwnI w2 w.heap.size fv fr → JM w0 w2 bm gw gg gj nx.length wt gn' jn kvs rows pv pdm fv fr) := fun w2 fv fr gn' h1 h2 h3 => H.turnG h1 h2 h3
  have HE : Hid _ := E
  have HM : Hid _ := hmay
  obtain ⟨va, vc, hvf, _⟩ := E.net.form
  have HN : Hid (∀ i, i < nx.length → ∃ g o ra rc, va = some ⟨g, o, none⟩ ∧ g < W1.heap.size ∧ W1.cell? ⟨g, o + i, none⟩ = some (.slice ra (nx.getD i []).length rc) ∧ IntsAt W1 (.slice ra (nx.getD i []).length rc) (nx.getD i [])) := fun i hi => (by have h9 := E.net; rw [hvf] at h9; exact h9 : NetAt W1 (.slice va nx.length vc) nx).get hi
  have HB2 : Hid (∀ i, i < nx.length → (nx.getD i []).length ≤ 2000000) := fun i hi => hb2 _ (by rw [getD_of hi]; exact List.getElem_mem hi)
  have HBL : Hid (∀ (wr : World) (wt gn jn : List Bool) (kvs : List Value) (rows : List (List Int)) (qv : Value) (qd : List Int), JM w0 wr bm gw gg gj nx.length wt gn jn kvs rows pv pdm qv qd → Below W1.heap.size W1 wr) := fun _ _ _ _ _ _ _ _ h => h.bel E.bel E.o1 E.o2 E.o3 E.o4
  have HWT : Hid (∀ (wr : World) (wt gn jn : List Bool) (kvs : List Value) (rows : List (List Int)) (qv : Value) (qd : List Int), JM w0 wr bm gw gg gj nx.length wt gn jn kvs rows pv pdm qv qd → (∀ k, (rows.getD k []).length ≤ 2000000) → ∀ x : Nat, x < nx.length → Calls Tryz.prog 86 #[.int .i64 (x : Int), ptr b10, ptr b8, ptr b9] wr fun e w' => e = .returned (.tuple #[]) ∧ ∃ kvs', JM w0 w' bm gw gg gj nx.length (waitW (depL nx) wt x) gn jn kvs' (waitR (depL nx) wt rows x) pv pdm qv qd) := fun _ _ _ _ _ _ _ _ h hl _ hx => wait_any nx hmay hb1 E h hl hx
  have HXD : Hid (dep nx x = d) := hxd
  obtain ⟨ua, uc, huf, _⟩ := E.und.form
  rw [undL_len] at huf
  subst huf
  obtain ⟨n, hnn⟩ : ∃ n, n = nx.length := ⟨_, rfl⟩
  have HNN : Hid _ := hnn
  rw [← hnn] at hb1 hxl k11 HFR HM0 HN HB2 HBL HWT k7
  rw [← hnn]
  have hxl' : (x : Int) < n := by omega
  clear hJ H E hmay hb2 hB ey hxr hxd hnn
  go_enter Tryz.func87, Tryz.ntmps87
  go_wp2_with (go_at_call 88; go_loud (refine Calls.mono (by exact HFR.out) ?_; rintro e w2 ⟨fv, fr, i1, gn1, rfl, hf1, hf2, hf3, hf4, hf5, hf6⟩; have HM1 : Hid (JM w0 w2 bm gw gg gj n wt gn1 jn kvs rows pv pdm fv fr) := HM0.out w2 fv fr gn1 hf3 hf2 hf1; have HG1 : Hid _ := gone_now HM.out HJ0.out hf4 hf5 (by have h9 := hf6; rw [HNN.out] at h9; exact h9); have HNO : Hid _ := hf4.nod; have HF0 : Hid (0 < fr.length) := (List.getElem?_eq_some_iff.1 hf4.fst).1; have HFL : Hid (fr.length ≤ n) := (by rw [HNN.out]; exact hf4.len); have HGL : Hid (gn1.length = n) := hf6.1; obtain ⟨gf, cf, hfv, _, _⟩ := own_at1 hf1 HF0.out; subst hfv; clear hf1 hf2 hf3 hf4 hf5 hf6))
  have HJ1 : Hid (JI nx F d (x :: P) P pd wt gn1 jn rows) := HJ0.out.top (by rw [HGL.out, HNN.out]) HG1.out.2
  clear HFR HM0 HJ0 HGL
  generalize hfl : fr.length = fl at *
  have HFE : Hid _ := hfl
  have hfn := HFL.out
  clear hfl
  go_loopw [17] (fun vi wr => ∃ (i : Nat) (wt jn : List Bool) (kvs : List Value) (rows : List (List Int)), vi = .int .i64 i ∧ i ≤ fl ∧ Hid (JM w0 wr bm gw gg gj n wt gn1 jn kvs rows pv pdm (.slice (some ⟨gf, 0, none⟩) fl cf) fr ∧ JI nx F d (x :: P) P pd wt gn1 jn rows ∧ MkTo nx x fr i 0 jn)) (fun vi _ => fl - (intOf vi).toNat)
  case atStart => exact ⟨0, wt, jn, kvs, rows, rfl, by omega, HM1.out, HJ1.out, MkTo.start _ _ _ _⟩
  case round =>
    obtain ⟨i, wt, jn, kvs, rows, rfl, hi, hq⟩ := hrel
    clear HM1 HJ1
    generalize wr = wo at *
    by_cases hin : i < fl
    · have hin' : (i : Int) < fl := by omega
      have hif : i < fr.length := by rw [HFE.out]; exact hin
      obtain ⟨c, ec, hcl, hoc⟩ := HNO.out _ (List.getElem_mem hif)
      have hc : fr[i]? = some (c : Int) := by rw [List.getElem?_eq_getElem hif, ec]
      have hcn : c < n := by rw [HNN.out]; exact hcl
      have hcn' : (c : Int) < n := by omega
      have cg : wo.cell? ⟨gf, i, none⟩ = some (.int .i64 (c : Int)) := own_get hq.out.1.oQ hc
      have hBo := HBL.out _ _ _ _ _ _ _ _ hq.out.1
      obtain ⟨gv, ov, ra, rc, rfl, hgv, cv, hI⟩ := HN.out c hcn
      have k3 : wo.cell? ⟨b3, 0, none⟩ = some (.slice (some ⟨gv, ov, none⟩) n vc) := (hBo.cell (p := ⟨b3, 0, none⟩) HE.out.l3).trans (by rw [HE.out.c3, hvf, HNN.out])
      have cv' : wo.cell? ⟨gv, ov + c, none⟩ = some (.slice ra (nx.getD c []).length rc) := (hBo.cell (p := ⟨gv, ov + c, none⟩) hgv).trans cv
      have hrl := HB2.out c hcn
      have HCF : Hid _ := hc
      have HOC : Hid _ := hoc
      have HRW : Hid (∀ k, k < (nx.getD c []).length → ∃ gr or u, ra = some ⟨gr, or, none⟩ ∧ gr < W1.heap.size ∧ W1.cell? ⟨gr, or + k, none⟩ = some (.int .i64 (u : Nat)) ∧ (nx.getD c [])[k]? = some (u : Int) ∧ u < n) := fun k hk => by
        obtain ⟨gr, or, e1, e2, e3⟩ := hI.get (i := k) hk
        have h1 := getD_some hk
        have h2 := HM.out.2 _ (by rw [getD_of hcl]; exact List.getElem_mem _) _ (List.mem_of_getElem? h1)
        obtain ⟨u, hu⟩ : ∃ u : Nat, (nx.getD c []).getD k 0 = (u : Int) := Int.eq_ofNat_of_zero_le h2.1
        rw [hu] at h1 h2 e3
        exact ⟨gr, or, u, e1, e2, e3, h1, by rw [HNN.out]; exact Int.ofNat_lt.1 h2.2⟩
      have HQ0 : Hid _ := hq.out
      clear hq hc hoc hI HN HB2 cv ec hBo hif hvf
      obtain ⟨m, hm⟩ : ∃ m, m = (nx.getD c []).length := ⟨_, rfl⟩
      have HMM : Hid _ := hm
      rw [← hm] at cv' HRW hrl
      clear hm
      go_wp2
      go_loopw [26] (fun vk wr => ∃ (k : Nat) (wt jn : List Bool) (kvs : List Value) (rows : List (List Int)), vk = .int .i64 k ∧ k ≤ m ∧ Hid (JM w0 wr bm gw gg gj n wt gn1 jn kvs rows pv pdm (.slice (some ⟨gf, 0, none⟩) fl cf) fr ∧ JI nx F d (x :: P) P pd wt gn1 jn rows ∧ MkTo nx x fr i k jn)) (fun vk _ => m - (intOf vk).toNat)
      case atStart => exact ⟨0, wt, jn, kvs, rows, rfl, by omega, HQ0.out.1, HQ0.out.2.1, HQ0.out.2.2⟩
      case round =>
        obtain ⟨k, wt, jn, kvs, rows, rfl, hk, hq⟩ := hrel
        clear HQ0
        by_cases hkm : k < m
        · have hkm' : (k : Int) < m := by omega
          obtain ⟨gr, or, u, rfl, hgr, cr, hu, hun⟩ := HRW.out k hkm
          have hBo := HBL.out _ _ _ _ _ _ _ _ hq.out.1
          have cr' : wr.cell? ⟨gr, or + k, none⟩ = some (.int .i64 (u : Int)) := (hBo.cell (p := ⟨gr, or + k, none⟩) hgr).trans cr
          have hun' : (u : Int) < n := by omega
          have k8 : wr.cell? ⟨b8, 0, none⟩ = some (.slice (some ⟨D, 0, none⟩) n n) := (hBo.cell (p := ⟨b8, 0, none⟩) HE.out.l8).trans (by rw [HE.out.c8, HNN.out])
          have kDu : wr.cell? ⟨D, u, none⟩ = some (.int .i64 (dep nx u)) := (hBo.cell (p := ⟨D, u, none⟩) HE.out.lD).trans (HE.out.dep u (by rw [← HNN.out]; exact hun))
          have kDx : wr.cell? ⟨D, x, none⟩ = some (.int .i64 (dep nx x)) := (hBo.cell (p := ⟨D, x, none⟩) HE.out.lD).trans (HE.out.dep x (by rw [← HNN.out]; exact hxl))
          have HUM : Hid ((u : Int) ∈ nx.getD c []) := List.mem_of_getElem? hu
          have HUU : Hid _ := hu
          clear cr hu HRW hBo
          by_cases hd : dep nx u ≤ dep nx x
          · have k12 : wr.cell? ⟨b12, 0, none⟩ = some (.slice (some ⟨gj, 0, none⟩) n n) := (hq.out.1.cell HE.out.f12 HE.out.c12).trans (by rw [HNN.out])
            have k13 : wr.cell? ⟨b13, 0, none⟩ = some (.func (.func 86) #[] #[ptr b10, ptr b8, ptr b9]) := hq.out.1.cell HE.out.f13 HE.out.c13
            have kj := ownT_cell hq.out.1.oJ hun
            have fj := ownT_fz hq.out.1.oJ u
            have n13 : ¬ gj = b13 := fun e => HE.out.f13.2.2.2.2 e.symm
            have n13' : ¬ b13 = gj := HE.out.f13.2.2.2.2
            have HCA : Hid (∀ q, _) := fun q => HWT.out _ _ _ _ _ _ _ _ ((hq.out.1.below (below_drewN (Below.refl _ _) q)).setJ u) (fun k => Nat.le_trans (hq.out.2.1.small HM.out k) (by rw [← HNN.out]; exact hb1)) _ hun
            have HJM : Hid (JI nx F d (x :: P) P pd (waitW (depL nx) wt u) gn1 (jn.set u true) (waitR (depL nx) wt rows u)) := hq.out.2.1.mark HM.out HXD.out HOC.out HUM.out hd
            have HMK : Hid (MkTo nx x fr i (k + 1) (jn.set u true)) := by
              have hul : u < jn.length := by rw [hq.out.2.1.lj, ← HNN.out]; exact hun
              exact hq.out.2.2.step HCF.out HUU.out (fun y hy => (getD_sb hul).2 (.inr hy)) (fun _ => (getD_sb hul).2 (.inl rfl))
            generalize jn.getD u false = jb at kj
            clear hq HWT HUM HUU
            generalize dep nx u = du at *
            generalize dep nx x = dx at *
            go_wp2
            go_quiet (fail)
            go_wp2_with (go_at_call 86; go_loud (refine Calls.mono (by exact HCA.out _) ?_; rintro e w5 ⟨rfl, kvs5, hj5⟩; have HJ5 : Hid _ := hj5; clear hj5))
            go_roundw
            case rel => exact ⟨k + 1, _, _, _, _, by first | rfl | (congr 1; omega), by omega, HJ5.out, HJM.out, HMK.out⟩
            case measure => simp [intOf]; omega
          · have HMK : Hid (MkTo nx x fr i (k + 1) jn) := hq.out.2.2.step HCF.out HUU.out (fun _ hy => hy) (fun h => absurd h hd)
            have HJX : Hid (∀ q, JM w0 (wr.drewN q) bm gw gg gj n wt gn1 jn kvs rows pv pdm (.slice (some ⟨gf, 0, none⟩) fl cf) fr) := fun q => hq.out.1.below (below_drewN (Below.refl _ _) q)
            have HJI : Hid _ := hq.out.2.1
            clear hq HWT HUM HUU
            generalize dep nx u = du at *
            generalize dep nx x = dx at *
            go_wp2
            go_quiet (fail)
            go_wp2
            go_roundw
            case rel => exact ⟨k + 1, _, _, _, _, by first | rfl | (congr 1; omega), by omega, HJX.out _, HJI.out, HMK.out⟩
            case measure => simp [intOf]; omega
        · obtain rfl : k = m := by omega
          have HMK : Hid (MkTo nx x fr (i + 1) 0 jn) := hq.out.2.2.row HCF.out HMM.out
          clear HWT HRW
          go_wp2
          go_roundw
          case rel => exact ⟨i + 1, wt, jn, kvs, rows, by first | rfl | (congr 1; omega), by omega, hq.out.1, hq.out.2.1, HMK.out⟩
          case measure => simp [intOf]; omega
    · obtain rfl : i = fl := by omega
      have HJF : Hid (JI nx F d (x :: P) (x :: P) pd wt gn1 jn rows) := hq.out.2.1.gathered HM.out HXD.out fun c b hc hb hd => (by have h9 := hq.out.2.2; rw [← HFE.out] at h9; exact h9 : MkTo nx x fr fr.length 0 jn).done ((HG1.out.1 c).2 hc) hb hd
      clear HN HB2 HWT
      go_wp2
      go_end0
      exact ⟨rfl, wt, gn1, jn, kvs, rows, _, _, hq.out.1, HJF.out⟩
end Go.Proofs.YtogjjmbcbnceoaaGreat
