/- Lists of lists lent with marks behind each. -/
import Derived.Test.YtogjjmbcbnceoaaGreatKOverM
namespace Go.Proofs.YtogjjmbcbnceoaaGreat
open Go.RowKit

abbrev hdK (k : List Int × Nat × Nat) : Value := .slice (some ⟨k.2.1, 0, none⟩) k.1.length k.2.2
abbrev hdM (g : Nat) : Value := .slice (some ⟨g, 0, none⟩) 1 1
/-- Rows lent: each in a block of its own; behind them lists of one mark. -/
structure LR (w : World) (base : Nat) (v : Value) (ks : List (List Int × Nat × Nat)) (ms : List Nat) : Prop where
  own : w.ownsRow base 23 1 v (ks.length + ms.length) (ks.map hdK ++ ms.map hdM)
  lent : ∀ k ∈ ks, LentAt w base k.2.1 k.2.2 k.1
  one : ∀ (i g : Nat), ms[i]? = some g → g < w.heap.size ∧ w.cell? ⟨g, 0, none⟩ = some (intV (markI 1 (i : Int)))
  nod : (ks.map fun k => k.2.1).Nodup
  far : ∀ k ∈ ks, v.ownBlock ≠ some k.2.1
  mfar : ∀ g ∈ ms, v.ownBlock ≠ some g
theorem LR.below {w w' : World} {base : Nat} {v : Value} {ks : List (List Int × Nat × Nat)} {ms : List Nat} (h : LR w base v ks ms) (hb : Below w.heap.size w w') : LR w' base v ks ms :=
  ⟨owns_below h.own hb, fun k hk => (h.lent k hk).below hb, fun i g hg => ⟨Nat.lt_of_lt_of_le (h.one i g hg).1 hb.size, (hb.cell (p := ⟨g, 0, none⟩) (h.one i g hg).1).trans (h.one i g hg).2⟩, h.nod, h.far, h.mfar⟩
theorem LR.pushK {w w1 : World} {base B g c : Nat} {v v1 : Value} {ks : List (List Int × Nat × Nat)} {r : List Int} (h : LR w base v ks []) (hl : LentAt w B g c r) (hB : base ≤ B) (hnew : ∀ k ∈ ks, k.2.1 ≠ g) (hv : v.ownBlock ≠ some g)
    (gr : w.grownBy w1 v.ownBlock) (ho : w1.ownsRow base 23 1 v1 (ks.length + 1) (ks.map hdK ++ [hdK (r, g, c)])) (hat : v1.ownBlock = v.ownBlock ∨ v1.ownBlock = some w.heap.size) : LR w1 base v1 (ks ++ [(r, g, c)]) [] := by
  have same : ∀ q, q < w.heap.size → v.ownBlock ≠ some q → w1.heap[q]? = w.heap[q]? := fun q hq hn => gr.block q hq (fun e => hn e.symm)
  have hg := hl.room.2.2.2
  refine ⟨by simpa using ho, fun k hk => ?_, fun i g' hg' => by simp at hg', ?_, fun k hk => ?_, fun g' hg' => by cases hg'⟩
  · rcases List.mem_append.1 hk with h1 | h1
    · exact (h.lent k h1).same (same _ (h.lent k h1).room.2.2.2 (h.far k h1))
    · rw [List.mem_singleton] at h1
      subst h1
      exact own_mono (LentAt.same hl (same _ hg hv)) hB
  · rw [List.map_append, List.nodup_append]
    refine ⟨h.nod, by simp, fun a ha b hb => ?_⟩
    obtain ⟨k, hk, rfl⟩ := List.mem_map.1 ha
    simp at hb
    subst hb
    exact hnew k hk
  · rcases List.mem_append.1 hk with h1 | h1
    · rcases hat with e | e
      · rw [e]; exact h.far k h1
      · rw [e]; intro e2; have := (h.lent k h1).room.2.2.2; injection e2 with e2; omega
    · rw [List.mem_singleton] at h1
      subst h1
      rcases hat with e | e
      · rw [e]; exact hv
      · rw [e]; intro e2; simp at e2; omega
theorem LR.pushM {w w1 : World} {base g : Nat} {v v1 : Value} {ks : List (List Int × Nat × Nat)} {ms : List Nat} (h : LR w base v ks ms) (hg : g < w.heap.size) (hc : w.cell? ⟨g, 0, none⟩ = some (intV (markI 1 (ms.length : Int)))) (hv : v.ownBlock ≠ some g)
    (gr : w.grownBy w1 v.ownBlock) (ho : w1.ownsRow base 23 1 v1 (ks.length + ms.length + 1) (ks.map hdK ++ ms.map hdM ++ [hdM g])) (hat : v1.ownBlock = v.ownBlock ∨ v1.ownBlock = some w.heap.size) : LR w1 base v1 ks (ms ++ [g]) := by
  have same : ∀ q, q < w.heap.size → v.ownBlock ≠ some q → w1.heap[q]? = w.heap[q]? := fun q hq hn => gr.block q hq (fun e => hn e.symm)
  have lt1 : w.heap.size ≤ w1.heap.size := gr.size
  refine ⟨by simpa [Nat.add_assoc] using ho, fun k hk => (h.lent k hk).same (same _ (h.lent k hk).room.2.2.2 (h.far k hk)), fun i g' hg' => ?_, h.nod, fun k hk => ?_, fun q hq => ?_⟩
  · by_cases hi : i < ms.length
    · rw [List.getElem?_append_left hi] at hg'
      have h1 := h.one i g' hg'
      exact ⟨by omega, (World.cell?_of_block (w := w) (a := ⟨g', 0, none⟩) (same g' h1.1 (h.mfar g' (List.mem_of_getElem? hg')))).trans h1.2⟩
    · rw [List.getElem?_append_right (by omega)] at hg'
      have hi2 : i - ms.length = 0 := by have := (List.getElem?_eq_some_iff.1 hg').1; simp at this; omega
      rw [hi2] at hg'
      simp at hg'
      subst hg'
      have hi3 : i = ms.length := by omega
      subst hi3
      exact ⟨by omega, (World.cell?_of_block (w := w) (a := ⟨g, 0, none⟩) (same g hg hv)).trans hc⟩
  · rcases hat with e | e
    · rw [e]; exact h.far k hk
    · rw [e]; intro e2; have := (h.lent k hk).room.2.2.2; injection e2 with e2; omega
  · have hql : q < w.heap.size ∧ v.ownBlock ≠ some q := by
      rcases List.mem_append.1 hq with h1 | h1
      · obtain ⟨i, hi⟩ := List.getElem?_of_mem h1
        exact ⟨(h.one i q hi).1, h.mfar q h1⟩
      · rw [List.mem_singleton] at h1; subst h1; exact ⟨hg, hv⟩
    rcases hat with e | e
    · rw [e]; exact hql.2
    · rw [e]; intro e2; injection e2 with e2; omega
theorem LR.net {w : World} {base g cap : Nat} {ks : List (List Int × Nat × Nat)} {ms : List Nat} {nx : List (List Int)} (h : LR w base (.slice (some ⟨g, 0, none⟩) (nx.length + 12) cap) ks ms) (hk : ks.map (fun k => k.1) = nx) (hm : ms.length = 12) (hl : nx.length ≤ 1000000) (hr : ∀ r ∈ nx, r.length ≤ 1000000) : NetAt w (.slice (some ⟨g, 0, none⟩) nx.length cap) nx := by
  have hkl : ks.length = nx.length := by rw [← hk, List.length_map]
  have ho := h.own
  rw [hkl, hm] at ho
  obtain ⟨g', cap', hv, h1, h2, h3, h4⟩ := own_form (n := nx.length + 11) ho
  cases hv
  refine ⟨ks.map hdK, by rw [List.length_map, hkl], ⟨_, _, rfl, ⟨by omega, by omega⟩, .inr ⟨g, 0, rfl, h2, fun j u hj => ?_⟩⟩, fun i r kv hr' hkv => ?_⟩
  · have hjl : j < (ks.map hdK).length := (List.getElem?_eq_some_iff.1 hj).1
    have := ho.cells (g := g) rfl j u (by rw [List.getElem?_append_left hjl]; exact hj)
    rwa [Addr.add_lit] at this
  · rw [List.getElem?_map] at hkv
    obtain ⟨k, hk2, rfl⟩ := Option.map_eq_some_iff.1 hkv
    have hr2 : r = k.1 := by rw [← hk, List.getElem?_map, hk2] at hr'; simpa using hr'.symm
    subst hr2
    exact (h.lent k (List.mem_of_getElem? hk2)).ints (hr _ (List.mem_of_getElem? hr'))
theorem make_roomR (n : Nat) (hn : n ≤ 1000000) (W : World) : (Instr.makeSlice 22 (.int .i64 0) (.int .i64 ((n : Int) + 12))).run Tryz.prog W = .ok (.slice (some ⟨W.heap.size, 0, none⟩) 0 (n + 12)) (W.alloc (.cells (madeCells #[.slice none 0 0] (n + 12)) 23)) := by
  obtain ⟨i0, hi0, hz0, hz1, hz2⟩ := info_parts infoS
  have hr := run_make (P := Tryz.prog) W 22 23 i0 (.slice none 0 0) Tryz.underlying22 hi0 hz0 .i64 .i64 0 ((n : Int) + 12) (Int.le_refl _) (by omega) (by rw [hz2]; omega) (by omega)
  have e1 : ((n : Int) + 12).toNat = n + 12 := by omega
  rw [e1, hz1, Nat.mul_one] at hr
  exact hr
theorem room_ownR (W : World) (n : Nat) (hn : n ≤ 1000000) : LR (W.alloc (.cells (madeCells #[.slice none 0 0] (n + 12)) 23)) W.heap.size (.slice (some ⟨W.heap.size, 0, none⟩) 0 (n + 12)) [] [] :=
  ⟨World.ownsRow_made W _ (n + 12) (Nat.le_refl _) (by unfold maxLen; omega) (by simp [size_madeCells]), fun k hk => (by cases hk), fun i g h => (by simp at h), (by simp), fun k hk => (by cases hk), fun k hk => (by cases hk)⟩
theorem slice_upR {g m c f : Nat} (hf : f ≤ c) : ∀ W, (Instr.slice 22 (.slice (some ⟨g, 0, none⟩) m c) none (some (.int .i64 (f : Int))) none).run Tryz.prog W = .ok (.slice (some ⟨g, 0, none⟩) f c) W := fun W => by
  have hs : ∀ W : World, (sizeOf (Tryz.prog.elem 22)).run Tryz.prog W = .ok 1 W := fun W => by kernel_rfl
  have hu : Tryz.prog.underlying 22 = some (.slice (Tryz.prog.elem 22)) := by kernel_rfl
  rw [run_slice_h W 22 _ m c hu .i64 f (by omega) (by omega), hs]
  simp [Result.andThen, sliced, Addr.add]
end Go.Proofs.YtogjjmbcbnceoaaGreat
/- Lists of lists lent: the run. -/
namespace Go.Proofs.YtogjjmbcbnceoaaGreat
open Go.RowKit

theorem alloc_size1 (w : World) (o : Obj) : (w.alloc o).heap.size = w.heap.size + 1 := by simp
set_option maxRecDepth 100000 in
set_option maxHeartbeats 1000000 in
theorem lentR_any (nx : List (List Int)) (v : Value) (w : World) (h : NetAt w v nx) (hl : nx.length ≤ 100000) (hr : ∀ r ∈ nx, r.length ≤ 100000) : Calls Tryz.prog 7 #[v] w fun e w' => ∃ g cap ks ms, e = .returned (.slice (some ⟨g, 0, none⟩) nx.length cap) ∧ LR w' w.heap.size (.slice (some ⟨g, 0, none⟩) (nx.length + 12) cap) ks ms ∧ ks.map (fun k => k.1) = nx ∧ ms.length = 12 ∧ Below w.heap.size w w' := by
  obtain ⟨a, c, rfl, _⟩ := h.form
  obtain ⟨i0, hi0, hz0, hz1, hz2⟩ := info_parts infoS
  have hmk := make_roomR nx.length (by omega)
  have HO : Hid _ := room_ownR w nx.length (by omega)
  have HB : Hid (Below w.heap.size w (w.alloc (.cells (madeCells #[.slice none 0 0] (nx.length + 12)) 23))) := below_alloc (Below.refl _ _) _
  have HI : Hid (∀ i, i < nx.length → _) := fun i hi => h.get (i := i) hi
  have HR : Hid (∀ r ∈ nx, r.length ≤ 100000) := hr
  have HM : Hid (∀ (i : Nat) (W : World), i < 12 → _) := fun i W hi => mark_any 1 (i : Int) (by omega) (by omega) (by omega) (by omega) W
  obtain ⟨n, hn⟩ : ∃ n, n = nx.length := ⟨_, rfl⟩
  have HN : Hid (n = nx.length) := hn
  rw [← hn] at HO HB HI hmk hl
  rw [← hn]
  clear h hn hr
  go_enter Tryz.func7, Tryz.ntmps7
  go_wp2
  clear hmk
  go_loopw [3, 4] (fun vo vi wr => ∃ (i : Nat) (ks : List (List Int × Nat × Nat)) (x : Value), x = vo ∧ vi = .int .i64 i ∧ i ≤ n ∧ Hid (Below w.heap.size w wr ∧ LR wr w.heap.size x ks [] ∧ ks.map (fun k => k.1) = nx.take i)) (fun _ vi _ => n - (intOf vi).toNat)
  case atStart => exact ⟨0, [], _, rfl, rfl, by omega, HB.out, HO.out, rfl⟩
  case round =>
    obtain ⟨i, ks, x, rfl, rfl, hi, hr⟩ := hrel
    clear HB HO
    by_cases hin : i < n
    · have hin' : (i : Int) < n := by omega
      obtain ⟨g, o, ra, rc, rfl, hg, c0, hIr⟩ := HI.out i hin
      have c0' : wr.cell? ⟨g, o + i, none⟩ = some (.slice ra (nx.getD i []).length rc) := (hr.out.1.cell (p := ⟨g, o + i, none⟩) hg).trans c0
      have hmem : nx.getD i [] ∈ nx := by
        have h9 : nx[i]? = some (nx.getD i []) := getR_some (by rw [← HN.out]; exact hin)
        exact List.mem_of_getElem? h9
      have HC : Hid (Calls Tryz.prog 8 #[.slice ra (nx.getD i []).length rc] wr _) := lent_any (nx.getD i []) _ wr (hIr.below hr.out.1) (HR.out _ hmem)
      have HT : Hid (nx.take (i + 1) = nx.take i ++ [nx.getD i []]) := by
        show _ = _
        rw [List.take_add_one, getR_some (by rw [← HN.out]; exact hin)]
        rfl
      have HKL : Hid (ks.length = i) := by
        show _ = _
        have h9 := congrArg List.length hr.out.2.2
        rw [List.length_map, List.length_take, ← HN.out] at h9
        omega
      have HLR : Hid (LR wr w.heap.size x ks []) := hr.out.2.1
      generalize nx.getD i [] = r at *
      generalize hq : r.length = m at *
      have HQ : Hid _ := hq
      clear HI hIr hmem c0 hq
      go_wp2_with (first
        | (go_at_call 8; go_loud (refine Calls.mono (by exact HC.out) ?_; rintro e w1 ⟨g1, c1, rfl, hL1, hB1⟩; have HL1 : Hid (LentAt w1 wr.heap.size g1 c1 r) := hL1; have HB1 : Hid (Below wr.heap.size wr w1) := hB1; have HOW : Hid (w1.ownsRow w.heap.size 23 1 x ks.length (ks.map hdK)) := (by have h9 := (HLR.out.below hB1).own; show World.ownsRow _ _ _ _ _ _ _; simpa using h9); clear hL1 hB1))
        | (at_builtin; go_loud (refine wpList_append_own_at _ rfl _ _ 22 rfl w.heap.size 23 i0 (.slice none 0 0) 1 24 Tryz.underlying22 hi0 hz0 hz1 hz2 rfl (by decide) x ks.length (ks.map hdK) rfl (HOW.out.alloc _) ⟨w1.heap.size, 0, none⟩ 1 1 [.slice (some ⟨g1, 0, none⟩) m c1] rfl rfl ?c1 ?c2 ?c3 ?c4 ?c5 ?_)))
      case c1 => exact cell_one_new _ _ 23
      case c2 => intro u hu; simp at hu; subst hu; rfl
      case c3 => have := HKL.out; unfold maxLen; omega
      case c4 => have := HKL.out; omega
      case c5 => have := hr.out.1.size; have := HB1.out.size; simp; omega
      intro v2 w2 ho hg2 _ hat
      have HW : Hid (Below w.heap.size w (w1.alloc (.cells #[.slice (some ⟨g1, 0, none⟩) m c1] 23))) := below_alloc (below_trans hr.out.1 HB1.out) _
      have HF : Hid (Below w.heap.size w w2) := below_grown HW.out hg2 (fun q hqq => (HLR.out.own.lt q hqq).1)
      have HP : Hid (LR w2 w.heap.size v2 (ks ++ [(r, g1, c1)]) []) := by
        have hb2 : Below w1.heap.size w1 (w1.alloc (.cells #[.slice (some ⟨g1, 0, none⟩) m c1] 23)) := below_alloc (Below.refl _ _) _
        have h1 := HL1.out.room.2.2.1
        refine LR.pushK ((HLR.out.below HB1.out).below hb2) (HL1.out.below hb2) hr.out.1.size (fun k hk e => ?_) (fun e => ?_) hg2 ?_ (by rw [alloc_size1]; exact hat)
        · have := (HLR.out.lent k hk).room.2.2.2; omega
        · have := (HLR.out.own.lt g1 e).2; omega
        · show World.ownsRow _ _ _ _ _ _ _
          have : hdK (r, g1, c1) = .slice (some ⟨g1, 0, none⟩) m c1 := by show Value.slice _ r.length _ = _; rw [HQ.out]
          rw [this]
          exact ho
      have HT2 : Hid ((ks ++ [(r, g1, c1)]).map (fun k => k.1) = nx.take (i + 1)) := by
        show _ = _
        rw [HT.out, List.map_append, hr.out.2.2]
        rfl
      clear ho hg2 hat
      go_wp2
      go_roundw
      case rel => exact ⟨i + 1, _, _, rfl, by first | rfl | (congr 1; omega), by omega, HF.out, HP.out, HT2.out⟩
      case measure => simp [intOf]; omega
    · obtain rfl : i = n := by omega
      have HKN : Hid (ks.map (fun k => k.1) = nx) := by
        show _ = _
        rw [hr.out.2.2, HN.out, List.take_length]
      have HKL : Hid (ks.length = i) := by
        show _ = _
        rw [HN.out, ← HKN.out, List.length_map]
      have HS : Hid (Below w.heap.size w wr ∧ LR wr w.heap.size x ks []) := ⟨hr.out.1, hr.out.2.1⟩
      clear hr HI HR
      go_wp2
      go_loopw [3, 6] (fun vo vi wr => ∃ (j : Nat) (ms : List Nat) (x : Value), x = vo ∧ vi = .int .i64 j ∧ j ≤ 12 ∧ Hid (Below w.heap.size w wr ∧ LR wr w.heap.size x ks ms ∧ ms.length = j)) (fun _ vi _ => 12 - (intOf vi).toNat)
      case atStart => exact ⟨0, [], _, rfl, rfl, by omega, HS.out.1, HS.out.2, rfl⟩
      case round =>
        obtain ⟨j, ms, y, rfl, rfl, hj, hs⟩ := hrel
        clear HS
        by_cases hjn : j < 12
        · have hjn' : (j : Int) < 12 := by omega
          have HLR : Hid (LR wr w.heap.size y ks ms) := hs.out.2.1
          have HJ : Hid (ms.length = j) := hs.out.2.2
          have HOW : Hid (wr.ownsRow w.heap.size 23 1 y (ks.length + ms.length) (ks.map hdK ++ ms.map hdM)) := HLR.out.own
          go_wp2_with (first
            | (go_at_call 29; go_loud (refine Calls.mono (by exact HM.out j _ hjn) ?_; rintro e w3 ⟨rfl, rfl⟩))
            | (at_builtin; go_loud (refine wpList_append_own_at _ rfl _ _ 22 rfl w.heap.size 23 i0 (.slice none 0 0) 1 24 Tryz.underlying22 hi0 hz0 hz1 hz2 rfl (by decide) y (ks.length + ms.length) (ks.map hdK ++ ms.map hdM) rfl ((HOW.out.alloc _).alloc _) ⟨wr.heap.size + 1, 0, none⟩ 1 1 [hdM wr.heap.size] rfl rfl ?c1 ?c2 ?c3 ?c4 ?c5 ?_)))
          case c1 => have h9 := cell_one_new (wr.alloc (.cells #[intV (markI 1 j)] 3)) (hdM wr.heap.size) 23; rw [alloc_size1] at h9; exact h9
          case c2 => intro u hu; simp at hu; subst hu; rfl
          case c3 => have := HKL.out; have := HJ.out; unfold maxLen; omega
          case c4 => have := HKL.out; have := HJ.out; omega
          case c5 => have := hs.out.1.size; simp; omega
          intro v2 w2 ho hg2 _ hat
          have hb1 : Below wr.heap.size wr ((wr.alloc (.cells #[intV (markI 1 j)] 3)).alloc (.cells #[hdM wr.heap.size] 23)) := below_alloc (below_alloc (Below.refl _ _) _) _
          have HW : Hid (Below w.heap.size w ((wr.alloc (.cells #[intV (markI 1 j)] 3)).alloc (.cells #[hdM wr.heap.size] 23))) := below_trans hs.out.1 hb1
          have HF : Hid (Below w.heap.size w w2) := below_grown HW.out hg2 (fun q hqq => (HLR.out.own.lt q hqq).1)
          have HP : Hid (LR w2 w.heap.size v2 ks (ms ++ [wr.heap.size])) := by
            refine LR.pushM (HLR.out.below hb1) (by simp; omega) ?_ (fun e => ?_) hg2 (by rw [List.append_assoc]; exact ho) (by rw [alloc_size1, alloc_size1]; exact hat)
            · rw [(below_alloc (Below.refl _ (wr.alloc (.cells #[intV (markI 1 j)] 3))) _).cell (p := ⟨wr.heap.size, 0, none⟩) (by simp), HJ.out]
              have h9 := cell_one_new wr (intV (markI 1 j)) 3 0 (intV (markI 1 j)) rfl
              rw [Addr.add_lit] at h9
              exact h9
            · have := (HLR.out.own.lt _ e).2; omega
          have HL9 : Hid ((ms ++ [wr.heap.size]).length = j + 1) := by show _ = _; rw [List.length_append, HJ.out]; rfl
          clear ho hg2 hat hb1
          go_wp2
          go_roundw
          case rel => exact ⟨j + 1, _, _, rfl, by first | rfl | (congr 1; omega), by omega, HF.out, HP.out, HL9.out⟩
          case measure => simp [intOf]; omega
        · obtain rfl : j = 12 := by omega
          have HOW := hs.out.2.1.own
          rw [HKL.out, hs.out.2.2] at HOW
          obtain ⟨g, cap, rfl, q1, q2, q3, q4⟩ := own_form (n := i + 11) HOW
          have hsl := slice_upR (g := g) (m := i + 11 + 1) (c := cap) (f := i) (by omega)
          clear HOW
          go_wp2
          go_ret
          exact ⟨g, cap, ks, ms, rfl, hs.out.2.1, HKN.out, hs.out.2.2, hs.out.1⟩
end Go.Proofs.YtogjjmbcbnceoaaGreat
/- Are lists of lists that were lent as they were? Written over. -/
namespace Go.Proofs.YtogjjmbcbnceoaaGreat
open Go.RowKit

theorem LR.cellK {w : World} {base g cap n : Nat} {ks : List (List Int × Nat × Nat)} {ms : List Nat} (h : LR w base (.slice (some ⟨g, 0, none⟩) (n + 12) cap) ks ms) (hk : ks.length = n) (hm : ms.length = 12) : (∀ (i : Nat) (k : List Int × Nat × Nat), ks[i]? = some k → w.cell? ⟨g, i, none⟩ = some (hdK k)) ∧ (∀ (i q : Nat), ms[i]? = some q → w.cell? ⟨g, n + i, none⟩ = some (hdM q)) ∧ n + 12 ≤ cap ∧ cap ≤ 9223372036854775807 ∧ base ≤ g ∧ g < w.heap.size := by
  have ho := h.own
  rw [hk, hm] at ho
  obtain ⟨g', cap', hv, h1, h2, h3, h4⟩ := own_form (n := n + 11) ho
  cases hv
  refine ⟨fun i k hi => ?_, fun i q hi => ?_, h3, h4, h1, h2⟩
  · have hil : i < (ks.map hdK).length := by rw [List.length_map]; exact (List.getElem?_eq_some_iff.1 hi).1
    have := ho.cells (g := g) rfl i (hdK k) (by rw [List.getElem?_append_left hil, List.getElem?_map, hi]; rfl)
    rwa [Addr.add_lit, Nat.zero_add] at this
  · have := ho.cells (g := g) rfl (n + i) (hdM q) (by rw [List.getElem?_append_right (by rw [List.length_map]; omega), List.length_map, hk, Nat.add_sub_cancel_left, List.getElem?_map, hi]; rfl)
    rwa [Addr.add_lit, Nat.zero_add] at this
theorem LentAt.drew {w : World} {base g cap : Nat} {l : List Int} (h : LentAt w base g cap l) (k : Nat) : LentAt (w.drewN k) base g cap l := h.below (below_drewN (Below.refl _ _) k)
set_option maxRecDepth 100000 in
set_option maxHeartbeats 1000000 in
theorem keptR_any (nx : List (List Int)) (v : Value) (base g cap : Nat) (ks : List (List Int × Nat × Nat)) (ms : List Nat) (w : World) (hL : LR w base (.slice (some ⟨g, 0, none⟩) (nx.length + 12) cap) ks ms) (hk : ks.map (fun k => k.1) = nx) (hm : ms.length = 12) (h : NetAt w v nx) (hl : nx.length ≤ 100000) (hr : ∀ r ∈ nx, r.length ≤ 100000) : Calls Tryz.prog 12 #[.slice (some ⟨g, 0, none⟩) nx.length cap, v] w fun e w' => e = .returned (.bool true) ∧ ∃ k, w' = w.drewN k := by
  obtain ⟨a, c, rfl, _⟩ := h.form
  have hkl : ks.length = nx.length := by rw [← hk, List.length_map]
  obtain ⟨cK, cM, r1, r2, r3, r4⟩ := hL.cellK hkl hm
  have HI : Hid (∀ i, i < nx.length → ∃ g2 o2 ra rc q qc, a = some ⟨g2, o2, none⟩ ∧ w.cell? ⟨g2, o2 + i, none⟩ = some (.slice ra (nx.getD i []).length rc) ∧ IntsAt w (.slice ra (nx.getD i []).length rc) (nx.getD i []) ∧ w.cell? ⟨g, i, none⟩ = some (.slice (some ⟨q, 0, none⟩) (nx.getD i []).length qc) ∧ LentAt w base q qc (nx.getD i []) ∧ (nx.getD i []).length ≤ 100000) := fun i hi => by
    obtain ⟨g2, o2, ra, rc, e2, _, k2, i2⟩ := h.get (i := i) hi
    have hi2 : i < ks.length := by omega
    have hke := List.getElem?_eq_getElem hi2
    have hke1 : (ks[i]).1 = nx.getD i [] := by
      have h9 : (ks.map (fun k => k.1))[i]? = nx[i]? := by rw [hk]
      rw [List.getElem?_map, hke, getR_some hi] at h9
      simpa using h9
    have c9 := cK i _ hke
    have l9 := hL.lent _ (List.mem_of_getElem? hke)
    refine ⟨g2, o2, ra, rc, (ks[i]).2.1, (ks[i]).2.2, e2, k2, i2, ?_, ?_, hr _ (List.mem_of_getElem? (getR_some hi))⟩
    · rw [← hke1]; exact c9
    · rw [← hke1]; exact l9
  have HJ : Hid (∀ i, nx.length ≤ i → i < nx.length + 12 → ∃ q, w.cell? ⟨g, i, none⟩ = some (hdM q) ∧ w.cell? ⟨q, 0, none⟩ = some (.int .i64 (markI 1 ((i : Int) - nx.length)))) := fun i h1 h2 => by
    have hi2 : i - nx.length < ms.length := by omega
    have hme := List.getElem?_eq_getElem hi2
    have c9 := cM _ _ hme
    have o9 := (hL.one _ _ hme).2
    rw [show nx.length + (i - nx.length) = i by omega] at c9
    refine ⟨_, c9, ?_⟩
    rw [show ((i : Int) - nx.length) = ((i - nx.length : Nat) : Int) by omega]
    exact o9
  have HM : Hid (∀ (x : Int) (W : World), 0 ≤ x → x < 12 → _) := fun x W h0 h1 => mark_any 1 x (by omega) (by omega) (by omega) (by omega) W
  clear hL h cK cM hr hk hm hkl
  obtain ⟨n, hn⟩ : ∃ n, n = nx.length := ⟨_, rfl⟩
  rw [← hn] at HI HJ r1 hl
  rw [← hn]
  clear hn
  have hsl : ∀ W, (Instr.slice 22 (.slice (some ⟨g, 0, none⟩) n cap) none (some (.int .i64 ((n : Int) + 12))) none).run Tryz.prog W = .ok (.slice (some ⟨g, 0, none⟩) (n + 12) cap) W := fun W => slice_upR (g := g) (m := n) (c := cap) (f := n + 12) r1 W
  go_enter Tryz.func12, Tryz.ntmps12
  go_wp2
  clear hsl
  go_loopw [6] (fun vi wr => ∃ i : Nat, vi = .int .i64 i ∧ i ≤ n + 12 ∧ Hid (∃ k, wr = w.drewN k)) (fun vi _ => n + 12 - (intOf vi).toNat)
  case atStart => exact ⟨0, rfl, by omega, 0, rfl⟩
  case round =>
    obtain ⟨i, rfl, hi, hr⟩ := hrel
    obtain ⟨q, hq⟩ := hr.out
    have HQ : Hid (wr = w.drewN q) := hq
    clear hq hr
    by_cases hin : i < n
    · obtain ⟨g2, o2, ra, rc, q1, qc, rfl, k2, i2, k1, l2, b2⟩ := (HI.out i hin)
      have k2' : wr.cell? ⟨g2, o2 + i, none⟩ = some (.slice ra (nx.getD i []).length rc) := by rw [HQ.out]; exact k2
      have k1' : wr.cell? ⟨g, i, none⟩ = some (.slice (some ⟨q1, 0, none⟩) (nx.getD i []).length qc) := by rw [HQ.out]; exact k1
      have HC : Hid (∀ k, Calls Tryz.prog 13 #[.slice (some ⟨q1, 0, none⟩) (nx.getD i []).length qc, .slice ra (nx.getD i []).length rc] (wr.drewN k) fun e w' => e = .returned (.bool true) ∧ ∃ d, w' = (wr.drewN k).drewN d) := fun k => kept_any _ _ base _ _ _ (by rw [HQ.out]; exact (l2.drew q).drew k) (by rw [HQ.out]; exact (i2.drew q).drew k) b2
      have hin' : (i : Int) < n := by omega
      have hin2 : (i : Int) < (n : Int) + 12 := by omega
      have hge : decide (n ≤ i) = false := decide_eq_false (by omega)
      have hd1 : decide (i < n) = true := decide_eq_true (by omega)
      generalize (nx.getD i []).length = m at *
      clear HI HJ k2 k1 i2 l2 b2
      go_wp2
      go_quiet ((go_at_call 13; exact Calls.quiet_of (HC.out _)))
      go_wp2
      go_roundw
      case rel => exact ⟨i + 1, by first | rfl | (congr 1; omega), by omega, by first | exact ⟨_, HQ.out⟩ | exact ⟨_, by rw [HQ.out]; exact drewN_add _ _ _⟩⟩
      case measure => simp [intOf]; omega
    · by_cases hin3 : i < n + 12
      · obtain ⟨q1, k1, k2⟩ := HJ.out i (by omega) hin3
        have k1' : wr.cell? ⟨g, i, none⟩ = some (.slice (some ⟨q1, 0, none⟩) 1 1) := by rw [HQ.out]; exact k1
        have k2' : wr.cell? ⟨q1, 0, none⟩ = some (.int .i64 (markI 1 ((i : Int) - n))) := by rw [HQ.out]; exact k2
        have hin' : ¬ ((i : Int) < n) := by omega
        have hin2 : (i : Int) < (n : Int) + 12 := by omega
        have hge : decide (n ≤ i) = true := decide_eq_true (by omega)
        have hd1 : decide (i < n) = false := decide_eq_false (by omega)
        have HMM : Hid (∀ W, Calls Tryz.prog 29 #[.int .i64 1, .int .i64 ((i : Int) - n)] W fun e w' => e = .returned (.int .i64 (markI 1 ((i : Int) - n))) ∧ ∃ d, w' = W.drewN d) := fun W => (HM.out ((i : Int) - n) W (by omega) (by omega)).mono fun e w' hh => ⟨hh.1, 0, hh.2 ▸ rfl⟩
        clear HI HJ hin k1 k2
        go_wp2
        go_quiet ((go_at_call 29; exact Calls.quiet_of (HMM.out _)))
        go_wp2
        go_roundw
        case rel => exact ⟨i + 1, by first | rfl | (congr 1; omega), by omega, by first | exact ⟨_, HQ.out⟩ | exact ⟨_, by rw [HQ.out]; exact drewN_add _ _ _⟩⟩
        case measure => simp [intOf]; omega
      · obtain rfl : i = n + 12 := by omega
        have hin2 : ¬ (((n + 12 : Nat) : Int) < (n : Int) + 12) := by omega
        clear HI HJ
        go_wp2
        go_ret
        exact ⟨rfl, q, HQ.out⟩
end Go.Proofs.YtogjjmbcbnceoaaGreat
/- Nothing has changed but some blocks. -/
namespace Go.Proofs.YtogjjmbcbnceoaaGreat
open Go.RowKit

/-- Nothing has changed but these blocks, and what is new. -/
structure Only (w w' : World) (S : Nat → Prop) : Prop where
  low : Below 0 w w'
  same : ∀ k, k < w.heap.size → ¬ S k → w'.heap[k]? = w.heap[k]?
theorem Only.refl (w : World) (S : Nat → Prop) : Only w w S := ⟨Below.refl _ _, fun _ _ _ => rfl⟩
theorem Only.but {w w1 w2 : World} {S : Nat → Prop} {g : Nat} (h : Only w w1 S) (hb : But w1 w2 g) (hS : S g) : Only w w2 S :=
  ⟨h.low.trans (hb.low.mono (Nat.zero_le _)), fun k hk hn => (hb.same k (fun e => hn (e ▸ hS))).trans (h.same k hk hn)⟩
theorem Only.alloc {w w1 : World} {S : Nat → Prop} (h : Only w w1 S) (o : Obj) : Only w (w1.alloc o) S :=
  ⟨h.low.trans ((below_alloc (Below.refl w1.heap.size w1) o).mono (Nat.zero_le _)), fun k hk hn => ((below_alloc (Below.refl w1.heap.size w1) o).block k (Nat.lt_of_lt_of_le hk h.low.size)).trans (h.same k hk hn)⟩
theorem Only.set {w w1 : World} {S : Nat → Prop} {g : Nat} (h : Only w w1 S) (hS : S g) (o : Nat) (u : Value) : Only w (w1.setCell ⟨g, o, none⟩ u) S :=
  h.but (But.set ⟨rfl, fun _ _ => rfl, Below.refl _ _⟩ o u) hS
theorem Only.below {w w' : World} {S : Nat → Prop} {b : Nat} (h : Only w w' S) (hb : b ≤ w.heap.size) (hS : ∀ k, S k → b ≤ k) : Below b w w' :=
  ⟨h.low.os, h.low.tape, h.low.output, h.low.size, fun k hk => h.same k (by omega) (fun hs => by have := hS k hs; omega)⟩
theorem Only.after {w w1 w2 : World} {S : Nat → Prop} (h : Only w w1 S) (hb : Below w1.heap.size w1 w2) : Only w w2 S :=
  ⟨h.low.trans (hb.mono (Nat.zero_le _)), fun k hk hn => (hb.block k (Nat.lt_of_lt_of_le hk h.low.size)).trans (h.same k hk hn)⟩
theorem Only.trans {w w1 w2 : World} {S : Nat → Prop} (h : Only w w1 S) (h2 : Only w1 w2 S) : Only w w2 S :=
  ⟨h.low.trans h2.low, fun k hk hn => (h2.same k (Nat.lt_of_lt_of_le hk h.low.size) hn).trans (h.same k hk hn)⟩
theorem Only.mono {w w1 : World} {S S' : Nat → Prop} (h : Only w w1 S) (hs : ∀ k, k < w.heap.size → S k → S' k) : Only w w1 S' := ⟨h.low, fun k hk hn => h.same k hk (fun e => hn (hs k hk e))⟩
end Go.Proofs.YtogjjmbcbnceoaaGreat
/- Lists of lists that were lent, written over. -/
namespace Go.Proofs.YtogjjmbcbnceoaaGreat
open Go.RowKit

abbrev LRS (g : Nat) (ks : List (List Int × Nat × Nat)) (k : Nat) : Prop := k = g ∨ ∃ q ∈ ks, q.2.1 = k
set_option maxRecDepth 100000 in
set_option maxHeartbeats 1000000 in
theorem overR_any (nx : List (List Int)) (base g cap : Nat) (ks : List (List Int × Nat × Nat)) (ms : List Nat) (w : World) (hL : LR w base (.slice (some ⟨g, 0, none⟩) (nx.length + 12) cap) ks ms) (hk : ks.map (fun k => k.1) = nx) (hm : ms.length = 12) (hl : nx.length ≤ 100000) (hr : ∀ r ∈ nx, r.length ≤ 100000) : Calls Tryz.prog 14 #[.slice (some ⟨g, 0, none⟩) nx.length cap] w fun e w' => e = .returned (.tuple #[]) ∧ Only w w' (LRS g ks) := by
  have hkl : ks.length = nx.length := by rw [← hk, List.length_map]
  obtain ⟨cK, cM, r1, r2, r3, r4⟩ := hL.cellK hkl hm
  have HG : Hid (∀ k ∈ ks, k.2.1 ≠ g) := fun k hk e => hL.far k hk (by rw [e]; rfl)
  have HK : Hid (∀ i, i < nx.length → ∃ k, ks[i]? = some k ∧ k ∈ ks ∧ w.cell? ⟨g, i, none⟩ = some (hdK k) ∧ LentAt w base k.2.1 k.2.2 k.1 ∧ k.1.length ≤ 100000) := fun i hi => by
    have hke := List.getElem?_eq_getElem (l := ks) (i := i) (by omega)
    refine ⟨_, hke, List.mem_of_getElem? hke, cK i _ hke, hL.lent _ (List.mem_of_getElem? hke), hr _ ?_⟩
    have h9 : (ks[i]'(by omega)).1 ∈ ks.map (fun k => k.1) := List.mem_map.2 ⟨_, List.mem_of_getElem? hke, rfl⟩
    rw [hk] at h9
    exact h9
  have HND : Hid (∀ (i j : Nat) (a b : List Int × Nat × Nat), i ≠ j → ks[i]? = some a → ks[j]? = some b → a.2.1 ≠ b.2.1) := fun i j a b hij ha hb e => by
    have hn := hL.nod
    have hp : ∀ (i j : Nat) (a b : List Int × Nat × Nat), i < j → ks[i]? = some a → ks[j]? = some b → a.2.1 ≠ b.2.1 := fun i j a b hij ha hb => by
      obtain ⟨hi1, ha1⟩ := List.getElem?_eq_some_iff.1 ha
      obtain ⟨hj1, hb1⟩ := List.getElem?_eq_some_iff.1 hb
      have h9 := (List.pairwise_iff_getElem.1 hn) i j (by simpa using hi1) (by simpa using hj1) hij
      simpa [ha1, hb1] using h9
    rcases Nat.lt_or_gt_of_ne hij with h1 | h1
    · exact hp i j a b h1 ha hb e
    · exact hp j i b a h1 hb ha e.symm
  have HO : Hid (∃ xs, w.ownsRow base 23 1 (.slice (some ⟨g, 0, none⟩) (nx.length + 12) cap) (nx.length + 12) xs) := ⟨_, by have ho := hL.own; rw [hkl, hm] at ho; exact ho⟩
  have HM : Hid (∀ (x : Int) (W : World), 0 ≤ x → x ≤ 1000000 → _) := fun x W h0 h1 => mark_any 2 x (by omega) (by omega) (by omega) (by omega) W
  clear hL cK cM hr hk hm hkl
  generalize nx.length = n at *
  have hsl : ∀ W, (Instr.slice 22 (.slice (some ⟨g, 0, none⟩) n cap) none (some (.int .i64 ((n : Int) + 12))) none).run Tryz.prog W = .ok (.slice (some ⟨g, 0, none⟩) (n + 12) cap) W := fun W => slice_upR (g := g) (m := n) (c := cap) (f := n + 12) r1 W
  go_enter Tryz.func14, Tryz.ntmps14
  go_wp2
  go_loopw [2] (fun vi wr => ∃ i : Nat, vi = .int .i64 i ∧ i ≤ n ∧ Hid (Only w wr (LRS g ks) ∧ wr.heap[g]? = w.heap[g]? ∧ ∀ (j : Nat) (k : List Int × Nat × Nat), i ≤ j → ks[j]? = some k → wr.heap[k.2.1]? = w.heap[k.2.1]?)) (fun vi _ => n - (intOf vi).toNat)
  case atStart => exact ⟨0, rfl, by omega, Only.refl _ _, rfl, fun _ _ _ _ => rfl⟩
  case round =>
    obtain ⟨i, rfl, hi, hr⟩ := hrel
    by_cases hin : i < n
    · have hin' : (i : Int) < n := by omega
      obtain ⟨k, hki, hkm, c0, l0, b0⟩ := HK.out i hin
      have c0' : wr.cell? ⟨g, i, none⟩ = some (.slice (some ⟨k.2.1, 0, none⟩) k.1.length k.2.2) := (World.cell?_of_block (w := w) (a := ⟨g, i, none⟩) hr.out.2.1).trans c0
      have HC : Hid (Calls Tryz.prog 15 #[.slice (some ⟨k.2.1, 0, none⟩) k.1.length k.2.2] wr fun e w' => e = .returned (.tuple #[]) ∧ But wr w' k.2.1) := over_any2 k.1 base _ _ wr (l0.same (hr.out.2.2 i k (Nat.le_refl _) hki)) b0
      have HX : Hid (k.2.1 ≠ g ∧ LRS g ks k.2.1 ∧ ∀ (j : Nat) (b : List Int × Nat × Nat), i + 1 ≤ j → ks[j]? = some b → b.2.1 ≠ k.2.1) := ⟨HG.out k hkm, .inr ⟨k, hkm, rfl⟩, fun j b hj hb => HND.out j i b k (by omega) hb hki⟩
      generalize k.2.1 = q at *
      generalize k.1.length = m at *
      generalize k.2.2 = qc at *
      clear HK HND HG hki hkm c0 l0 b0 hsl
      go_wp2_with (go_at_call 15; go_loud (refine Calls.mono (by exact HC.out) ?_; rintro e w1 ⟨rfl, hb1⟩; have HB1 : Hid _ := hb1; clear hb1))
      go_roundw
      case rel => exact ⟨i + 1, by first | rfl | (congr 1; omega), by omega, hr.out.1.but HB1.out HX.out.2.1, (HB1.out.same g (Ne.symm HX.out.1)).trans hr.out.2.1, fun j b hj hb => (HB1.out.same _ (HX.out.2.2 j b hj hb)).trans (hr.out.2.2 j b (by omega) hb)⟩
      case measure => simp [intOf]; omega
    · obtain rfl : i = n := by omega
      have HS : Hid (Only w wr (LRS g ks) ∧ ∃ xs, wr.ownsRow base 23 1 (.slice (some ⟨g, 0, none⟩) (i + 12) cap) (i + 12) xs) := ⟨hr.out.1, by
        obtain ⟨xs, hxs⟩ := HO.out
        exact ⟨xs, owns_same hxs fun q hq => by cases hq; exact hr.out.2.1⟩⟩
      clear hr HK HND HG HO
      go_wp2
      clear hsl
      go_loopw [4] (fun vi wr => ∃ j : Nat, vi = .int .i64 j ∧ j ≤ i + 12 ∧ Hid (Only w wr (LRS g ks) ∧ ∃ xs, wr.ownsRow base 23 1 (.slice (some ⟨g, 0, none⟩) (i + 12) cap) (i + 12) xs)) (fun vi _ => i + 12 - (intOf vi).toNat)
      case atStart => exact ⟨0, rfl, by omega, HS.out⟩
      case round =>
        obtain ⟨j, rfl, hj, hs⟩ := hrel
        obtain ⟨xs, hxs⟩ := hs.out.2
        by_cases hjn : j < i + 12
        · have hin2 : (j : Int) < (i : Int) + 12 := by omega
          obtain ⟨u, hu⟩ : ∃ u, xs[j]? = some u := ⟨xs[j]'(by have := hxs.1; omega), List.getElem?_eq_getElem _⟩
          have hal : ∀ o, (wr.alloc o).ownsRow base 23 1 (.slice (some ⟨g, 0, none⟩) (i + 12) cap) (i + 12) xs := fun o => hxs.alloc o
          have c0 : ∀ o, (wr.alloc o).cell? ⟨g, j, none⟩ = some u := fun o => by rw [(hal o).cellAt j (by omega)]; exact hu
          have f0 : ∀ o, (wr.alloc o).frozen? ⟨g, j, none⟩ = false := fun o => (hal o).frozenAt j
          have HN : Hid (∀ o x, ∃ xs, ((wr.alloc o).setCell ⟨g, j, none⟩ x).ownsRow base 23 1 (.slice (some ⟨g, 0, none⟩) (i + 12) cap) (i + 12) xs) := fun o x => ⟨_, (World.ownsRow.stored (hal o) j x).1⟩
          have HB : Hid (∀ o x, Only w ((wr.alloc o).setCell ⟨g, j, none⟩ x) (LRS g ks)) := fun o x => (hs.out.1.alloc o).set (.inl rfl) _ _
          clear hxs hu hal HS
          go_wp2_with (go_at_call 29; go_loud (refine Calls.mono (by exact HM.out (j : Int) _ (by omega) (by omega)) ?_; rintro e w2 ⟨rfl, rfl⟩))
          go_roundw
          case rel => exact ⟨j + 1, by first | rfl | (congr 1; omega), by omega, HB.out _ _, HN.out _ _⟩
          case measure => simp [intOf]; omega
        · obtain rfl : j = i + 12 := by omega
          have hin2 : ¬ (((i + 12 : Nat) : Int) < (i : Int) + 12) := by omega
          clear HS hxs
          go_wp2
          exact bodyPost_end (results_none rfl _ _ _) rfl ⟨rfl, hs.out.1⟩
end Go.Proofs.YtogjjmbcbnceoaaGreat
