/- An instruction is laid: the walk. -/
import Derived.Test.YtajaijilfclhpaaGreatDoorNAsM
import Derived.Test.YtajaijilfclhpaaGreatDoorGRCxM
namespace Go.Proofs.YtajaijilfclhpaaGreatDoor
open Go.RowKit Go.Sort

theorem infoSg : (Tryz.prog.info? 164).map (fun i => (i.zero, i.size, i.bytes)) = some (some (.agg #[.slice none 0 0, .int .i64 0]), 2, 32) := by kernel_rfl
theorem app_sg (w : World) (base : Nat) (v : Value) (i : Nat) (cs ys : List Value) (hown : w.ownsRow base 164 2 v i cs) (G : Nat) (hc : ∀ j u, ys[j]? = some u → w.cell? ⟨G, j, none⟩ = some u) (hy : ys.length = 2) (h1 : ∀ u ∈ ys, u.oneCell' = true) (hl : i ≤ 1000000000000) (hb : base ≤ w.heap.size) :
  ∃ g2 cc2 w', (Builtin.append_ #[115, 115] 115 #[v, .slice (some ⟨G, 0, none⟩) 1 1]).run Tryz.prog w = .ok (.slice (some ⟨g2, 0, none⟩) (i + 1) cc2) w' ∧ w'.ownsRow base 164 2 (.slice (some ⟨g2, 0, none⟩) (i + 1) cc2) (i + 1) (cs ++ ys) ∧ w.grownBy w' v.ownBlock ∧ ((Value.slice (some ⟨g2, 0, none⟩) (i + 1) cc2).ownBlock = v.ownBlock ∨ (Value.slice (some ⟨g2, 0, none⟩) (i + 1) cc2).ownBlock = some w.heap.size) := by
 obtain ⟨i0, hi0, hz0, hz1, hz2⟩ := info_parts (P := Tryz.prog) infoSg
 obtain ⟨v', w', h1, h2, h3, _, h5⟩ := run_append_own_at (P := Tryz.prog) w base 115 115 164 i0 (.agg #[.slice none 0 0, .int .i64 0]) 2 32 Tryz.underlying115 hi0 hz0 hz1 hz2 rfl (by decide) v i cs hown ⟨G, 0, none⟩ 1 1 ys (by rw [hy]) (fun j u hj => by rw [Addr.add_lit, Nat.zero_add]; exact hc j u hj) h1 (by unfold maxLen; omega) (by omega) hb
 obtain ⟨g2, cc2, rfl, _, _, _, _⟩ := own_form h2
 exact ⟨g2, cc2, w', h1, h2, h3, h5⟩
set_option maxRecDepth 100000 in
set_option maxHeartbeats 4000000 in
theorem dlay_any {E : AkE} {X : List Slot} {w : World} {sv wv : Value} {s : Ak} (h : AkM E X w sv wv s) (x : In) (av : Value) (hx : IntsAt E.w0 av x.args) (hr : ∀ a ∈ x.args, 0 ≤ a ∧ a < E.m) (hd : staysK x.kind = false → 0 ≤ x.dst ∧ x.dst < E.m) (hrm : s.wait.length + cntN s.need ≤ E.m) (hm : E.m ≤ 1048576) (hsl : s.sets.length ≤ 100000000000) :
  Calls Tryz.prog 55 #[ptr E.A, .agg #[.int .u8 x.kind, .int .u8 x.op, .int .i64 x.dst, av, .int .u64 x.bits, .int .i64 x.ref]] w fun e w' => e = .returned (.tuple #[]) ∧ ∃ sv' wv', AkM E X w' sv' wv' (s.lay av x) := by
 have HAC : Hid (∀ W, Calls Tryz.prog 113 #[.agg #[.int .u8 x.kind, .int .u8 x.op, .int .i64 x.dst, av, .int .u64 x.bits, .int .i64 x.ref]] W fun e w' => e = .returned (.bool (staysK x.kind)) ∧ Below W.heap.size W w') := fun W => acts_any x av W
 obtain ⟨ya, yc, rfl, hyl⟩ := hx.form
 have HM : Hid (∀ W, Below w.heap.size w W → AkM E X W sv wv s) := fun W hW => h.below hW
 have HASK : Hid (∀ W, Below w.heap.size w W → Calls Tryz.prog 57 #[ptr E.A, .slice ya x.args.length yc] W fun e w' => e = .returned (.tuple #[]) ∧ ∃ wv', AkM E X w' sv wv' (s.ask x.args)) := fun W hW => ask_any (h.below hW) _ _ (fun W2 _ _ _ h2 => hx.below h2.low) hr hrm hm
 have HBX : Hid (Below w.heap.size w (w.alloc (.cells #[.int .u8 x.kind, .int .u8 x.op, .int .i64 x.dst, .slice ya x.args.length yc, .int .u64 x.bits, .int .i64 x.ref] 55)) ∧ Box (w.alloc (.cells #[.int .u8 x.kind, .int .u8 x.op, .int .i64 x.dst, .slice ya x.args.length yc, .int .u64 x.bits, .int .i64 x.ref] 55)) w.heap.size [.int .u8 x.kind, .int .u8 x.op, .int .i64 x.dst, .slice ya x.args.length yc, .int .u64 x.bits, .int .i64 x.ref]) := ⟨below_alloc (Below.refl _ _) _, Box.new w _ _⟩
 have HLAY : Hid (s.lay (.slice ya x.args.length yc) x = if staysK x.kind then s.ask x.args else if 0 < x.args.length then s.push (.slice ya x.args.length yc) x else s) := rfl
 have HX : Hid _ := hx
 have HLO : Hid (E.w0.heap.size ≤ w.heap.size) := h.low.size
 obtain ⟨b0, b1, b2, b3, bf, bA0, bA⟩ := h.box
 clear b0 b1 b2 b3 bf hx
 cases hk : staysK x.kind with
 | true =>
  rw [hk] at HAC HLAY
  rw [if_pos rfl] at HLAY
  rw [HLAY.out]
  obtain ⟨kind, op, dst, args, bits, ref⟩ := x
  dsimp only at *
  clear h HM HX HLAY hd hk
  generalize args.length = yl at *
  go_enter Tryz.func55, Tryz.ntmps55
  go_wp2_with (first
   | (go_at_call 113; go_loud (refine Calls.mono (by exact HAC.out _) ?_; rintro e w2 ⟨rfl, hb⟩; have HB2 : Hid (Below w.heap.size w w2) := below_trans HBX.out.1 hb; obtain ⟨e0, e1, e2, e3, e4, e5⟩ := box6 (HBX.out.2.below hb); clear hb))
   | (go_at_call 57; go_loud (refine Calls.mono (by exact HASK.out _ HB2.out) ?_; rintro e w3 ⟨rfl, wv', hM3⟩; have HM3 : Hid _ := hM3; clear hM3)))
  go_end0
  exact ⟨rfl, sv, wv', HM3.out⟩
 | false =>
  rw [hk] at HAC HLAY
  rw [if_neg (by simp)] at HLAY
  obtain ⟨hd0, hd1⟩ := hd hk
  by_cases hp : 0 < x.args.length
  rotate_left 1
  ·rw [if_neg hp] at HLAY
   rw [HLAY.out]
   have hy0 : x.args.length = 0 := by omega
   rw [hy0] at HAC HBX
   (try rw [hy0])
   obtain ⟨kind, op, dst, args, bits, ref⟩ := x
   dsimp only at *
   clear h HX HLAY hd hk hp hy0 HASK
   go_enter Tryz.func55, Tryz.ntmps55
   go_wp2_with (go_at_call 113; go_loud (refine Calls.mono (by exact HAC.out _) ?_; rintro e w2 ⟨rfl, hb⟩; have HB2 : Hid (Below w.heap.size w w2) := below_trans HBX.out.1 hb; obtain ⟨e0, e1, e2, e3, e4, e5⟩ := box6 (HBX.out.2.below hb); clear hb))
   go_end0
   exact ⟨rfl, sv, wv, HM.out _ HB2.out⟩
  rw [if_pos hp] at HLAY
  rw [HLAY.out]
  obtain ⟨d, hdd⟩ : ∃ d : Nat, x.dst = (d : Int) := ⟨x.dst.toNat, by omega⟩
  have HTOP : Hid (s.top x.dst = s.newest.getD d 0) := by show _ = _; unfold Ak.top; rw [hdd, Int.toNat_natCast]
  have hdm : d < E.m := by omega
  have hNW := fun W hW => ((HM.out W hW).newest hdm).1
  have HNW : Hid _ := hNW
  have HPU : Hid (s.push (.slice ya x.args.length yc) x = { s with sets := s.sets ++ [⟨.slice ya x.args.length yc, x.args, s.newest.getD d 0⟩], newest := s.newest.set d (s.sets.length + 1) }) := by
   show _ = _; unfold Ak.push; rw [HTOP.out, hdd, Int.toNat_natCast]
  obtain ⟨sa, sc, rfl⟩ := h.setsV
  have HLTW : Hid (∀ g, (Value.slice sa s.sets.length sc).ownBlock = some g → g < w.heap.size) := fun g hg => ((h.heap.own 3 _ rfl).lt g hg).2
  have hyl0 : (0 : Int) < x.args.length := by omega
  clear h hNW HLAY HTOP hd hk hp HASK
  obtain ⟨kind, op, dst, args, bits, ref⟩ := x
  dsimp only at *
  subst hdd
  generalize hyn : args.length = yl at *
  generalize hnw : s.newest.getD d 0 = nw at *
  generalize hsn : s.sets.length = sn at *
  have HSN : Hid (s.sets.length = sn) := hsn
  clear hnw hsn
  have hd1' : (d : Int) < E.m := by omega
  go_enter Tryz.func55, Tryz.ntmps55
  go_wp2_with (go_at_call 113; go_loud (refine Calls.mono (by exact HAC.out _) ?_; rintro e w2 ⟨rfl, hb⟩; have HB2 : Hid (Below w.heap.size w w2) := below_trans HBX.out.1 hb; have HX2 : Hid _ := HBX.out.2.below hb; obtain ⟨e0, e1, e2, e3, e4, e5⟩ := box6 HX2.out; clear hb))
  clear e0 e1 e2 e3 e4 e5 HBX HAC
  have HM2 : Hid (AkM E X w2 (.slice sa sn sc) wv s) := HM.out _ HB2.out
  have HN2 : Hid (w2.cell? ⟨E.gn, d, none⟩ = some (ixV nw)) := HNW.out _ HB2.out
  have hbw : w.heap.size < w2.heap.size := HX2.out.lt
  have HSX : Hid (∀ W, Below w2.heap.size w2 W → W.cell? ⟨E.A, 2, none⟩ = some (.slice sa sn sc) ∧ W.cell? ⟨E.A, 1, none⟩ = some (.slice (some ⟨E.gn, 0, none⟩) E.m E.m) ∧ W.cell? ⟨w.heap.size, 3, none⟩ = some (.slice ya yl yc) ∧ W.cell? ⟨w.heap.size, 2, none⟩ = some (.int .i64 (d : Int)) ∧ W.cell? ⟨E.gn, d, none⟩ = some (.int .i64 (nw : Int))) := fun W hW => by
   have hb := (HM2.out.below hW).box
   have hx := box6 (HX2.out.below hW)
   exact ⟨hb.2.2.1, hb.2.1, hx.2.2.2.1, hx.2.2.1, (hW.cell (p := ⟨E.gn, d, none⟩) (HM2.out.heap.lt (i := 2) rfl).2).trans HN2.out⟩
  clear HM HNW
  refine wp_region_late (fun W => W.cell? ⟨E.A, 2, none⟩ = some (.slice sa sn sc) ∧ W.cell? ⟨E.A, 1, none⟩ = some (.slice (some ⟨E.gn, 0, none⟩) E.m E.m) ∧ W.cell? ⟨w.heap.size, 3, none⟩ = some (.slice ya yl yc) ∧ W.cell? ⟨w.heap.size, 2, none⟩ = some (.int .i64 (d : Int)) ∧ W.cell? ⟨E.gn, d, none⟩ = some (.int .i64 (nw : Int))) (fun j => decide (20 ≤ j)) (by kernel_rfl) (HSX.out _ (below_drew (Below.refl _ _))) (fun hHeld => ?_)
  have HBD : Hid (Below w2.heap.size w2 w2.drew) := below_drew (Below.refl _ _)
  refine wpAnyL_take 0 (v := ?_) rfl (by kernel_rfl) (by kernel_rfl) (by kernel_rfl) (by kernel_rfl) (fun _ _ _ h => h) hHeld (Or.inl ⟨by rfl, ?_⟩) ?_
  rotate_left 1
  ·(intro w hSw; (try dsimp only at hSw); (try obtain ⟨s0, s1, s2, s3, s4⟩ := hSw); first | (go_simp; done) | (go_simp; with_reducible rfl))
  simp only [Act.put, List.setIfInBounds_toArray]
  refine wpAnyL_take 1 (v := ?_) rfl (by kernel_rfl) (by kernel_rfl) (by kernel_rfl) (by kernel_rfl) (fun _ _ _ h => h) hHeld (Or.inl ⟨by rfl, ?_⟩) ?_
  rotate_left 1
  ·(intro w hSw; (try dsimp only at hSw); (try obtain ⟨s0, s1, s2, s3, s4⟩ := hSw); first | (go_simp; done) | (go_simp; with_reducible rfl))
  simp only [Act.put]
  refine wpAnyL_take 2 (v := ?_) rfl (by kernel_rfl) (by kernel_rfl) (by kernel_rfl) (by kernel_rfl) (fun _ _ _ h => h) hHeld (Or.inl ⟨by rfl, ?_⟩) ?_
  rotate_left 1
  ·(intro w hSw; (try dsimp only at hSw); (try obtain ⟨s0, s1, s2, s3, s4⟩ := hSw); first | (go_simp; done) | (go_simp; with_reducible rfl))
  simp only [Act.put]
  refine wpAnyL_take 3 (v := ?_) rfl (by kernel_rfl) (by kernel_rfl) (by kernel_rfl) (by kernel_rfl) (fun _ _ _ h => h) hHeld (Or.inl ⟨by rfl, ?_⟩) ?_
  rotate_left 1
  ·(intro w hSw; (try dsimp only at hSw); (try obtain ⟨s0, s1, s2, s3, s4⟩ := hSw); first | (go_simp; done) | (go_simp; with_reducible rfl))
  simp only [Act.put]
  refine wpAnyL_take 4 (v := ?_) rfl (by kernel_rfl) (by kernel_rfl) (by kernel_rfl) (by kernel_rfl) (fun _ _ _ h => h) hHeld (Or.inl ⟨by rfl, ?_⟩) ?_
  rotate_left 1
  ·(intro w hSw; (try dsimp only at hSw); (try obtain ⟨s0, s1, s2, s3, s4⟩ := hSw); first | (go_simp; done) | (go_simp; with_reducible rfl))
  simp only [Act.put]
  refine wpAnyL_take 5 (v := ?_) rfl (by kernel_rfl) (by kernel_rfl) (by kernel_rfl) (by kernel_rfl) (fun _ _ _ h => h) hHeld (Or.inl ⟨by rfl, ?_⟩) ?_
  rotate_left 1
  ·(intro w hSw; (try dsimp only at hSw); (try obtain ⟨s0, s1, s2, s3, s4⟩ := hSw); first | (go_simp; done) | (go_simp; with_reducible rfl))
  simp only [Act.put]
  refine wpAnyL_take 6 (v := ?_) rfl (by kernel_rfl) (by kernel_rfl) (by kernel_rfl) (by kernel_rfl) (fun _ _ _ h => h) hHeld (Or.inl ⟨by rfl, ?_⟩) ?_
  rotate_left 1
  ·(intro w hSw; (try dsimp only at hSw); (try obtain ⟨s0, s1, s2, s3, s4⟩ := hSw); first | (go_simp; done) | (go_simp; with_reducible rfl))
  simp only [Act.put]
  refine wpAnyL_take 7 (v := ?_) rfl (by kernel_rfl) (by kernel_rfl) (by kernel_rfl) (by kernel_rfl) (fun _ _ _ h => h) hHeld (Or.inl ⟨by rfl, ?_⟩) ?_
  rotate_left 1
  ·(intro w hSw; (try dsimp only at hSw); (try obtain ⟨s0, s1, s2, s3, s4⟩ := hSw); first | (go_simp; done) | (go_simp; with_reducible rfl))
  simp only [Act.put]
  refine wpAnyL_take 8 (v := ?_) rfl (by kernel_rfl) (by kernel_rfl) (by kernel_rfl) (by kernel_rfl) (fun _ _ _ h => h) hHeld (Or.inl ⟨by rfl, ?_⟩) ?_
  rotate_left 1
  ·(intro w hSw; (try dsimp only at hSw); (try obtain ⟨s0, s1, s2, s3, s4⟩ := hSw); first | (go_simp; done) | (go_simp; with_reducible rfl))
  simp only [Act.put]
  refine wpAnyL_take 9 (v := ?_) rfl (by kernel_rfl) (by kernel_rfl) (by kernel_rfl) (by kernel_rfl) (fun _ _ _ h => h) hHeld (Or.inl ⟨by rfl, ?_⟩) ?_
  rotate_left 1
  ·(intro w hSw; (try dsimp only at hSw); (try obtain ⟨s0, s1, s2, s3, s4⟩ := hSw); first | (go_simp; done) | (go_simp; with_reducible rfl))
  simp only [Act.put]
  refine wpAnyL_take 10 (v := ?_) rfl (by kernel_rfl) (by kernel_rfl) (by kernel_rfl) (by kernel_rfl) (fun _ _ _ h => h) hHeld (Or.inl ⟨by rfl, ?_⟩) ?_
  rotate_left 1
  ·(intro w hSw; (try dsimp only at hSw); (try obtain ⟨s0, s1, s2, s3, s4⟩ := hSw); first | (go_simp; done) | (go_simp; with_reducible rfl))
  simp only [Act.put]
  refine wpAnyL_take 11 (v := ?_) rfl (by kernel_rfl) (by kernel_rfl) (by kernel_rfl) (by kernel_rfl) (fun _ _ _ h => h) hHeld (Or.inl ⟨by rfl, ?_⟩) ?_
  rotate_left 1
  ·(intro w hSw; (try dsimp only at hSw); (try obtain ⟨s0, s1, s2, s3, s4⟩ := hSw); first | (go_simp; done) | (go_simp; with_reducible rfl))
  simp only [Act.put]
  refine wpAnyL_take 12 (v := ?_) rfl (by kernel_rfl) (by kernel_rfl) (by kernel_rfl) (by kernel_rfl) (fun _ _ _ h => h) hHeld (Or.inl ⟨by rfl, ?_⟩) ?_
  rotate_left 1
  ·(intro w hSw; (try dsimp only at hSw); (try obtain ⟨s0, s1, s2, s3, s4⟩ := hSw); first | (go_simp; done) | (go_simp; with_reducible rfl))
  simp only [Act.put]
  refine wpAnyL_take 13 (v := ?_) rfl (by kernel_rfl) (by kernel_rfl) (by kernel_rfl) (by kernel_rfl) (fun _ _ _ h => h) hHeld (Or.inl ⟨by rfl, ?_⟩) ?_
  rotate_left 1
  ·(intro w hSw; (try dsimp only at hSw); (try obtain ⟨s0, s1, s2, s3, s4⟩ := hSw); first | (go_simp; done) | (go_simp; with_reducible rfl))
  simp only [Act.put]
  refine wpAnyL_take 14 (v := ?_) rfl (by kernel_rfl) (by kernel_rfl) (by kernel_rfl) (by kernel_rfl) (fun _ _ _ h => h) hHeld (Or.inl ⟨by rfl, ?_⟩) ?_
  rotate_left 1
  ·(intro w hSw; (try dsimp only at hSw); (try obtain ⟨s0, s1, s2, s3, s4⟩ := hSw); first | (go_simp; done) | (go_simp; with_reducible rfl))
  simp only [Act.put]
  refine wpAnyL_take 15 (v := ?_) rfl (by kernel_rfl) (by kernel_rfl) (by kernel_rfl) (by kernel_rfl) (fun _ _ _ h => h) hHeld (Or.inl ⟨by rfl, ?_⟩) ?_
  rotate_left 1
  ·(intro w hSw; (try dsimp only at hSw); (try obtain ⟨s0, s1, s2, s3, s4⟩ := hSw); first | (go_simp; done) | (go_simp; with_reducible rfl))
  simp only [Act.put]
  clear hHeld
  refine wpAnyL_one 16 (by kernel_rfl) rfl (fun K hK0 => ?_)
  have hK : Shut _ := hK0
  clear hK0
  go_simp
  have hHeld := HSX.out _ (below_alloc HBD.out (.cells #[.slice ya yl yc, .int .i64 (nw : Int)] 164))
  refine hK.out _ _ (fun _ => hHeld) ?_
  clear hK K hHeld
  have HBA : Hid (Below w2.heap.size w2 (w2.drew.alloc (.cells #[.slice ya yl yc, .int .i64 (nw : Int)] 164))) := below_alloc HBD.out _
  have HMA : Hid (AkM E X (w2.drew.alloc (.cells #[.slice ya yl yc, .int .i64 (nw : Int)] 164)) (.slice sa sn sc) wv s) := HM2.out.below (below_alloc HBD.out _)
  have hown : (w2.drew.alloc (.cells #[.slice ya yl yc, .int .i64 (nw : Int)] 164)).ownsRow E.w0.heap.size 164 2 (.slice sa sn sc) sn (flat sgCells s.sets) := by
   have h9 := HMA.out.heap.own 3 _ rfl
   rw [← HSN.out]
   exact HSN.out ▸ h9
  obtain ⟨g7, c7, w7, hrun, ho7, hg7, hat7⟩ := app_sg (w2.drew.alloc (.cells #[.slice ya yl yc, .int .i64 (nw : Int)] 164)) E.w0.heap.size (.slice sa sn sc) sn (flat sgCells s.sets) (sgCells ⟨.slice ya yl yc, args, nw⟩) hown w2.drew.heap.size (fun j u hj => (Box.new w2.drew (sgCells ⟨.slice ya yl yc, args, nw⟩) 164).cell j u hj) rfl (by intro u hu; simp [sgCells] at hu; rcases hu with rfl | rfl <;> rfl) (by omega) HMA.out.low.size
  have hIA : IntsAt E.w0 (.slice ya yl yc) args := by
   have h9 := HX.out
   show RowAt _ _ args.length _
   rw [hyn]; exact h9
  obtain ⟨hM8, q2, qf, q1, qn⟩ := HMA.out.pushSet (t := ⟨.slice ya yl yc, args, nw⟩) hIA (by rw [HSN.out]; exact ho7) hg7 hat7
  have hb7 : w7.heap[w.heap.size]? = w2.heap[w.heap.size]? := (hg7.block w.heap.size (by have := HBA.out.size; omega) (fun e => absurd (HLTW.out _ e.symm) (by omega))).trans (HBA.out.block w.heap.size hbw)
  have hS7 : w7.cell? ⟨E.A, 2, none⟩ = some (.slice sa sn sc) ∧ w7.cell? ⟨E.A, 1, none⟩ = some (.slice (some ⟨E.gn, 0, none⟩) E.m E.m) ∧ w7.cell? ⟨w.heap.size, 3, none⟩ = some (.slice ya yl yc) ∧ w7.cell? ⟨w.heap.size, 2, none⟩ = some (.int .i64 (d : Int)) ∧ w7.cell? ⟨E.gn, d, none⟩ = some (.int .i64 (nw : Int)) := by
   have hx := box6 (HX2.out.same hb7)
   exact ⟨q2, q1, hx.2.2.2.1, hx.2.2.1, (qn d).trans (HSX.out _ (below_alloc HBD.out _)).2.2.2.2⟩
  have HS7 : Hid _ := hS7
  have HX7 : Hid (Box w7 w.heap.size [.int .u8 kind, .int .u8 op, .int .i64 (d : Int), .slice ya yl yc, .int .u64 bits, .int .i64 ref]) := HX2.out.same hb7
  have HM8 : Hid _ := hM8
  clear hS7 hb7 hM8 q2 q1 qn hIA hown
  refine wpAnyL_one 17 (by kernel_rfl) rfl (fun K hK0 => ?_)
  have hK : Shut _ := hK0
  clear hK0
  refine step_append_run rfl _ _ _ rfl _ _ _ _ rfl rfl hrun (hK.out _ _ (fun _ => HS7.out) ?_)
  clear hK K hrun ho7 hg7 hat7
  simp only [Act.put]
  refine wpAnyL_one 18 (by kernel_rfl) rfl (fun K hK0 => ?_)
  have hK : Shut _ := hK0
  clear hK0
  go_simp
  refine hK.out _ _ (fun _ => HS7.out) ?_
  clear hK K
  refine wpAnyL_one 19 (by kernel_rfl) rfl (fun K hK0 => ?_)
  have hK : Shut _ := hK0
  clear hK0
  go_simp
  refine hK.out _ _ (fun _ => HS7.out) ?_
  clear hK K
  obtain ⟨m0, m1, m2, m3, m4⟩ := HS7.out
  refine wpAnyL_one 20 (by kernel_rfl) rfl (fun K hK0 => ?_)
  have hK : Shut _ := hK0
  clear hK0
  go_simp
  refine hK.out _ _ (fun h => absurd h (by decide)) ?_
  clear hK K
  refine ⟨by kernel_rfl, ?_⟩
  go_simp
  rename_i _ K8 hK8
  refine hK8 _ _ ?_
  clear hK8 K8 m0 m1 m2 m3 m4 HMA HBA HM2 HN2 HSX HS7 qf
  have hAB : E.A ≠ w.heap.size := by omega
  have HX8 : Hid (Box (w7.setCell ⟨E.A, 2, none⟩ (.slice (some ⟨g7, 0, none⟩) (sn + 1) c7)) w.heap.size [.int .u8 kind, .int .u8 op, .int .i64 (d : Int), .slice ya yl yc, .int .u64 bits, .int .i64 ref]) := HX7.out.other (fun e => hAB (by first | exact e | exact e.symm)) _
  generalize w7.setCell ⟨E.A, 2, none⟩ (.slice (some ⟨g7, 0, none⟩) (sn + 1) c7) = w8 at *
  have HSY : Hid (∀ W, Below w8.heap.size w8 W → W.cell? ⟨E.A, 2, none⟩ = some (.slice (some ⟨g7, 0, none⟩) (sn + 1) c7) ∧ W.cell? ⟨E.A, 1, none⟩ = some (.slice (some ⟨E.gn, 0, none⟩) E.m E.m) ∧ W.cell? ⟨w.heap.size, 2, none⟩ = some (.int .i64 (d : Int))) := fun W hW => by
   have hb := (HM8.out.below hW).box
   have hx := box6 (HX8.out.below hW)
   exact ⟨hb.2.2.1, hb.2.1, hx.2.2.1⟩
  refine wp_region_late (fun W => W.cell? ⟨E.A, 2, none⟩ = some (.slice (some ⟨g7, 0, none⟩) (sn + 1) c7) ∧ W.cell? ⟨E.A, 1, none⟩ = some (.slice (some ⟨E.gn, 0, none⟩) E.m E.m) ∧ W.cell? ⟨w.heap.size, 2, none⟩ = some (.int .i64 (d : Int))) (fun j => decide (12 ≤ j)) (by kernel_rfl) (HSY.out _ (below_drew (Below.refl _ _))) (fun hHeld => ?_)
  have HM9 : Hid (AkM E X w8.drew (.slice (some ⟨g7, 0, none⟩) (sn + 1) c7) wv { need := s.need, newest := s.newest, sets := s.sets ++ [⟨.slice ya yl yc, args, nw⟩], wait := s.wait }) := HM8.out.below (below_drew (Below.refl _ _))
  refine wpAnyL_take 0 (v := ?_) rfl (by kernel_rfl) (by kernel_rfl) (by kernel_rfl) (by kernel_rfl) (fun _ _ _ h => h) hHeld (Or.inl ⟨by rfl, ?_⟩) ?_
  rotate_left 1
  ·(intro w hSw; (try dsimp only at hSw); (try obtain ⟨s0, s1, s2⟩ := hSw); first | (go_simp; done) | (go_simp; with_reducible rfl))
  simp only [Act.put, List.setIfInBounds_toArray]
  refine wpAnyL_take 1 (v := ?_) rfl (by kernel_rfl) (by kernel_rfl) (by kernel_rfl) (by kernel_rfl) (fun _ _ _ h => h) hHeld (Or.inl ⟨by rfl, ?_⟩) ?_
  rotate_left 1
  ·(intro w hSw; (try dsimp only at hSw); (try obtain ⟨s0, s1, s2⟩ := hSw); first | (go_simp; done) | (go_simp; with_reducible rfl))
  simp only [Act.put]
  refine wpAnyL_take 2 (v := ?_) rfl (by kernel_rfl) (by kernel_rfl) (by kernel_rfl) (by kernel_rfl) (fun _ _ _ h => h) hHeld (Or.inl ⟨by rfl, ?_⟩) ?_
  rotate_left 1
  ·(intro w hSw; (try dsimp only at hSw); (try obtain ⟨s0, s1, s2⟩ := hSw); first | (go_simp; done) | (go_simp; with_reducible rfl))
  simp only [Act.put]
  refine wpAnyL_take 3 (v := ?_) rfl (by kernel_rfl) (by kernel_rfl) (by kernel_rfl) (by kernel_rfl) (fun _ _ _ h => h) hHeld (Or.inl ⟨by rfl, ?_⟩) ?_
  rotate_left 1
  ·(intro w hSw; (try dsimp only at hSw); (try obtain ⟨s0, s1, s2⟩ := hSw); first | (go_simp; done) | (go_simp; with_reducible rfl))
  simp only [Act.put]
  refine wpAnyL_take 4 (v := ?_) rfl (by kernel_rfl) (by kernel_rfl) (by kernel_rfl) (by kernel_rfl) (fun _ _ _ h => h) hHeld (Or.inl ⟨by rfl, ?_⟩) ?_
  rotate_left 1
  ·(intro w hSw; (try dsimp only at hSw); (try obtain ⟨s0, s1, s2⟩ := hSw); first | (go_simp; done) | (go_simp; with_reducible rfl))
  simp only [Act.put]
  refine wpAnyL_take 5 (v := ?_) rfl (by kernel_rfl) (by kernel_rfl) (by kernel_rfl) (by kernel_rfl) (fun _ _ _ h => h) hHeld (Or.inl ⟨by rfl, ?_⟩) ?_
  rotate_left 1
  ·(intro w hSw; (try dsimp only at hSw); (try obtain ⟨s0, s1, s2⟩ := hSw); first | (go_simp; done) | (go_simp; with_reducible rfl))
  simp only [Act.put]
  refine wpAnyL_take 6 (v := ?_) rfl (by kernel_rfl) (by kernel_rfl) (by kernel_rfl) (by kernel_rfl) (fun _ _ _ h => h) hHeld (Or.inl ⟨by rfl, ?_⟩) ?_
  rotate_left 1
  ·(intro w hSw; (try dsimp only at hSw); (try obtain ⟨s0, s1, s2⟩ := hSw); first | (go_simp; done) | (go_simp; with_reducible rfl))
  simp only [Act.put]
  refine wpAnyL_take 7 (v := ?_) rfl (by kernel_rfl) (by kernel_rfl) (by kernel_rfl) (by kernel_rfl) (fun _ _ _ h => h) hHeld (Or.inl ⟨by rfl, ?_⟩) ?_
  rotate_left 1
  ·(intro w hSw; (try dsimp only at hSw); (try obtain ⟨s0, s1, s2⟩ := hSw); first | (go_simp; done) | (go_simp; with_reducible rfl))
  simp only [Act.put]
  refine wpAnyL_take 8 (v := ?_) rfl (by kernel_rfl) (by kernel_rfl) (by kernel_rfl) (by kernel_rfl) (fun _ _ _ h => h) hHeld (Or.inl ⟨by rfl, ?_⟩) ?_
  rotate_left 1
  ·(intro w hSw; (try dsimp only at hSw); (try obtain ⟨s0, s1, s2⟩ := hSw); first | (go_simp; done) | (go_simp; with_reducible rfl))
  simp only [Act.put]
  refine wpAnyL_take 9 (v := ?_) rfl (by kernel_rfl) (by kernel_rfl) (by kernel_rfl) (by kernel_rfl) (fun _ _ _ h => h) hHeld (Or.inl ⟨by rfl, ?_⟩) ?_
  rotate_left 1
  ·(intro w hSw; (try dsimp only at hSw); (try obtain ⟨s0, s1, s2⟩ := hSw); first | (go_simp; done) | (go_simp; with_reducible rfl))
  simp only [Act.put]
  refine wpAnyL_take 10 (v := ?_) rfl (by kernel_rfl) (by kernel_rfl) (by kernel_rfl) (by kernel_rfl) (fun _ _ _ h => h) hHeld (Or.inl ⟨by rfl, ?_⟩) ?_
  rotate_left 1
  ·(intro w hSw; (try dsimp only at hSw); (try obtain ⟨s0, s1, s2⟩ := hSw); first | (go_simp; done) | (go_simp; with_reducible rfl))
  simp only [Act.put]
  clear hHeld
  obtain ⟨_, hfz⟩ := HM9.out.newest (v := d) hdm
  refine wpAnyL_one 11 (by kernel_rfl) rfl (fun K hK0 => ?_)
  have hK : Shut _ := hK0
  clear hK0
  go_simp
  refine hK.out _ _ (fun _ => HSY.out _ (below_drew (Below.refl _ _))) ?_
  clear hK K
  have hgl := (HM9.out.heap.lt (i := 2) rfl).2
  obtain ⟨hcz, _⟩ := HM9.out.newest (v := d) hdm
  refine wpAnyL_one 12 (by kernel_rfl) rfl (fun K hK0 => ?_)
  have hK : Shut _ := hK0
  clear hK0
  go_simp
  refine hK.out _ _ (fun h => absurd h (by decide)) ?_
  clear hK K
  refine ⟨by kernel_rfl, ?_⟩
  go_simp
  have HQ : Hid _ := HM9.out.setNewest d (sn + 1)
  have HF : Hid (AkM E X (w8.drew.setCell ⟨E.gn, d, none⟩ (ixV (sn + 1))) (.slice (some ⟨g7, 0, none⟩) (sn + 1) c7) wv (s.push (.slice ya yl yc) ⟨kind, op, (d : Int), args, bits, ref⟩)) := by
   rw [HPU.out]
   exact HQ.out
  clear HQ HM9 HSY HX8 HM8 HPU
  go_end0
  exact ⟨rfl, _, _, HF.out⟩
end Go.Proofs.YtajaijilfclhpaaGreatDoor
