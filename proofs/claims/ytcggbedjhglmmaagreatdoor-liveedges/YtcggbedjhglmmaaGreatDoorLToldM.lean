/- Room for more; a word's bits told behind a row. -/
import Derived.Test.YtcggbedjhglmmaaGreatDoorGLaidNM
import Derived.Test.YtcggbedjhglmmaaGreatDoorLBeg
namespace Go.Proofs.YtcggbedjhglmmaaGreatDoor
open Go.RowKit

theorem slice_up {g m c f : Nat} (hf : f ≤ c) : ∀ W, (Instr.slice 22 (.slice (some ⟨g, 0, none⟩) m c) none (some (.int .i64 (f : Int))) none).run Tryz.prog W = .ok (.slice (some ⟨g, 0, none⟩) f c) W := fun W => by
  have hs : ∀ W : World, (sizeOf (Tryz.prog.elem 22)).run Tryz.prog W = .ok 1 W := fun W => by kernel_rfl
  have hu : Tryz.prog.underlying 22 = some (.slice (Tryz.prog.elem 22)) := by kernel_rfl
  rw [run_slice_h W 22 _ m c hu .i64 f (by omega) (by omega), hs]
  simp [Result.andThen, sliced, Addr.add]
theorem slice_none0 : ∀ W, (Instr.slice 22 (.slice none 0 0) none (some (.int .i64 0)) none).run Tryz.prog W = .ok (.slice none 0 0) W := fun W => by
  have hs : ∀ W : World, (sizeOf (Tryz.prog.elem 22)).run Tryz.prog W = .ok 1 W := fun W => by kernel_rfl
  have hu : Tryz.prog.underlying 22 = some (.slice (Tryz.prog.elem 22)) := by kernel_rfl
  have := run_slice_h W 22 none 0 0 hu .i64 0 (by omega) (by omega)
  rw [hs] at this
  simpa [Result.andThen, sliced] using this
set_option maxRecDepth 100000 in
set_option maxHeartbeats 1000000 in
/-- slices.Grow of a row of one's own -/
theorem grow_own {w : World} {base : Nat} {v : Value} {l : List Int} (h : OwnI w base v l) (hl : l.length ≤ 10000000) (hbs : base ≤ w.heap.size) (n : Nat) (hn : n ≤ 127) :
    Calls Tryz.prog 73 #[v, .int .i64 (n : Int)] w fun e w' => ∃ v', e = .returned v' ∧ OwnI w' base v' l ∧ w.grownBy w' v.ownBlock ∧ (v'.ownBlock = v.ownBlock ∨ v'.ownBlock = some w.heap.size) := by
  have hn' : (n : Int) ≤ 127 := by omega
  have hnn : ¬ ((n : Int) < 0) := by omega
  rcases h.2 with ⟨rfl, h0⟩ | ⟨g, cap, cur, rfl, h1, hh, h2, h3, h4, h5⟩
  · have hnil : l = [] := List.eq_nil_of_length_eq_zero h0
    subst hnil
    by_cases hz : n = 0
    · subst hz
      have HQ : Hid (OwnI w base (.slice none 0 0) [] ∧ w.grownBy w (Value.ownBlock (.slice none 0 0))) := ⟨h, ⟨rfl, rfl, rfl, Nat.le_refl _, fun _ _ _ => rfl⟩⟩
      clear h h0 hl
      go_enter Tryz.func73, Tryz.ntmps73
      go_wp2
      go_ret
      exact ⟨_, rfl, HQ.out.1, HQ.out.2, .inl rfl⟩
    · obtain ⟨i0, hi0, hz0, hz1, hz2⟩ := info_parts infoI
      have hs0 := slice_none0
      have HO : Hid (w.ownsRow base 3 1 (.slice none 0 0) 0 []) := h
      have hp : 0 < n := by omega
      have hp' : (0 : Int) < n := by omega
      clear h h0 hl hz
      go_enter Tryz.func73, Tryz.ntmps73
      go_wp2_with (at_builtin; go_loud (refine wpList_append_zeros rfl _ _ 22 3 rfl base 3 i0 (.int .i64 0) .i64 Tryz.underlying22 Tryz.underlying3 hi0 hz0 rfl rfl hz1 hz2 _ 0 [] rfl HO.out n rfl hp ?c1 hbs ?_))
      case c1 => omega
      intro v2 w2 ho2 hg2 hat2
      obtain ⟨g2, c2, rfl, hc2⟩ : ∃ g c, v2 = .slice (some ⟨g, 0, none⟩) n c ∧ n ≤ c := by
        rcases own_shape ho2 with ⟨_, e⟩ | ⟨g, c, e, e2, _⟩
        · omega
        · exact ⟨g, c, e, e2⟩
      have hup := fun W => slice_up (g := g2) (m := n) (c := c2) (f := 0) (by omega) W
      have HQ : Hid (OwnI w2 base (.slice (some ⟨g2, 0, none⟩) 0 c2) [] ∧ w.grownBy w2 (Value.ownBlock (.slice none 0 0)) ∧ ((Value.slice (some ⟨g2, 0, none⟩) 0 c2).ownBlock = (Value.slice none 0 0).ownBlock ∨ (Value.slice (some ⟨g2, 0, none⟩) 0 c2).ownBlock = some w.heap.size)) := by
        refine ⟨?_, hg2, by simpa [Value.ownBlock] using hat2⟩
        have := own_take ho2 (m := 0) (by omega)
        show World.ownsRow _ _ _ _ _ _ _
        simpa using this
      have hup0 : ∀ W, (Instr.slice 22 (.slice (some ⟨g2, 0, none⟩) n c2) none (some (.int .i64 0)) none).run Tryz.prog W = .ok (.slice (some ⟨g2, 0, none⟩) 0 c2) W := hup
      clear hup
      clear ho2 hg2 hat2
      go_wp2
      go_ret
      exact ⟨_, rfl, HQ.out⟩
  · by_cases hz : n ≤ cap - l.length
    · have HQ : Hid (OwnI w base (.slice (some ⟨g, 0, none⟩) l.length cap) l ∧ w.grownBy w (Value.ownBlock (.slice (some ⟨g, 0, none⟩) l.length cap))) := ⟨h, ⟨rfl, rfl, rfl, Nat.le_refl _, fun _ _ _ => rfl⟩⟩
      have e1 : wrap64 ((cap : Int) - (l.length : Int)) = (cap : Int) - l.length := by unfold wrap64; unfold maxLen at h3; omega
      have e2 : wrap64 ((n : Int) - ((cap : Int) - l.length)) = (n : Int) - ((cap : Int) - l.length) := by unfold wrap64; unfold maxLen at h3; omega
      have e3 : ¬ (0 < (n : Int) - ((cap : Int) - l.length)) := by omega
      clear h h2 h3 h4 h5 hh
      generalize l.length = ll at *
      go_enter Tryz.func73, Tryz.ntmps73
      go_wp2
      go_ret
      exact ⟨_, rfl, HQ.out.1, HQ.out.2, .inl rfl⟩
    · obtain ⟨i0, hi0, hz0, hz1, hz2⟩ := info_parts infoI
      have e1 : wrap64 ((cap : Int) - (l.length : Int)) = (cap : Int) - l.length := by unfold wrap64; unfold maxLen at h3; omega
      obtain ⟨k, hk⟩ : ∃ k : Nat, l.length + n = cap + k := ⟨l.length + n - cap, by omega⟩
      have hk0 : 0 < k := by omega
      have e2 : (n : Int) - ((cap : Int) - l.length) = (k : Int) := by omega
      have e3 : (0 : Int) < k := by omega
      have hup1 := fun W => slice_up (g := g) (m := l.length) (c := cap) (f := cap) (by omega) W
      have HO : Hid (w.ownsRow base 3 1 (.slice (some ⟨g, 0, none⟩) cap cap) cap cur.toList) := ⟨by simp [h4], .inr ⟨g, cap, cur, rfl, h1, hh, Nat.le_refl _, h3, h4, by rw [List.take_of_length_le (by simp [h4])]⟩⟩
      have HT : Hid (cur.toList.take (l.length * 1) = l.map intV) := h5
      have hcb : cap + k ≤ 20000000 := by omega
      have hlc : l.length ≤ cap := h2
      clear h h2 h3 h4 h5 hh hz hl
      generalize hll : l.length = ll at *
      generalize cur.toList = cl at *
      have hlcl : ∀ (v2 : Value) (w2 : World), w2.ownsRow base 3 1 v2 (cap + k) (cl ++ List.replicate k (Value.int .i64 0)) → (cl ++ List.replicate k (Value.int .i64 0)).take (ll * 1) = l.map intV := fun v2 w2 ho => by
        rw [List.take_append_of_le_length, HT.out]
        have := HO.out.1
        omega
      have HLC : Hid _ := hlcl
      clear hlcl
      go_enter Tryz.func73, Tryz.ntmps73
      go_wp2_with (at_builtin; go_loud (refine wpList_append_zeros rfl _ _ 22 3 rfl base 3 i0 (.int .i64 0) .i64 Tryz.underlying22 Tryz.underlying3 hi0 hz0 rfl rfl hz1 hz2 _ cap cl rfl HO.out k rfl hk0 ?c1 hbs ?_))
      case c1 => omega
      intro v2 w2 ho2 hg2 hat2
      obtain ⟨g2, c2, rfl, hc2⟩ : ∃ g c, v2 = .slice (some ⟨g, 0, none⟩) (cap + k) c ∧ cap + k ≤ c := by
        rcases own_shape ho2 with ⟨_, e⟩ | ⟨g, c, e, e2, _⟩
        · omega
        · exact ⟨g, c, e, e2⟩
      have hup := fun W => slice_up (g := g2) (m := cap + k) (c := c2) (f := ll) (by omega) W
      have HQ : Hid (OwnI w2 base (.slice (some ⟨g2, 0, none⟩) ll c2) l ∧ w.grownBy w2 (Value.ownBlock (.slice (some ⟨g, 0, none⟩) ll cap)) ∧ ((Value.slice (some ⟨g2, 0, none⟩) ll c2).ownBlock = (Value.slice (some ⟨g, 0, none⟩) ll cap).ownBlock ∨ (Value.slice (some ⟨g2, 0, none⟩) ll c2).ownBlock = some w.heap.size)) := by
        refine ⟨?_, hg2, by simpa [Value.ownBlock] using hat2⟩
        have := own_take ho2 (m := ll) (by omega)
        rw [HLC.out _ _ ho2] at this
        show World.ownsRow _ _ _ _ _ _ _
        rw [hll]
        exact this
      clear ho2 hg2 hat2 HLC
      go_wp2
      go_ret
      exact ⟨_, rfl, HQ.out⟩
end Go.Proofs.YtcggbedjhglmmaaGreatDoor
/- All words are nought again. -/
namespace Go.Proofs.YtcggbedjhglmmaaGreatDoor
open Go.RowKit

theorem words_zero {n : Nat} {l : List Nat} (h : l.length = n) (hz : ∀ i, wAt l i = 0) : l = List.replicate n 0 := by
  refine List.ext_getElem (by simp [h]) fun k h1 h2 => ?_
  have := hz k
  unfold wAt at this
  rw [List.getD_eq_getElem?_getD, List.getElem?_eq_getElem h1] at this
  simpa using this
set_option maxRecDepth 100000 in
set_option maxHeartbeats 4000000 in
theorem fend_any {E : FEnv} {w : World} {wv mv : Value} {ss : List Slot} {f : Fl} (h : Fw E w wv mv ss f) {p : Sp} {sv av hv : Value} (hp : SpOk E.n p) (hs : StripAt ss 0 sv av hv p) (hlen : p.sets.length ≤ 1000000)
    (h1 : ∀ i b, tb f.sets i b → HasM p.sets i b) (h2 : ∀ i, i ∈ f.met ↔ wAt f.into i ≠ 0 ∨ wAt f.out i ≠ 0) (h3 : ∀ i, wAt f.news i = 0) (h4 : f.wt = []) (h5 : ∀ i ∈ f.met, i < E.n) (h6 : f.met.length ≤ 100000) :
    Calls Tryz.prog 23 #[ptr E.F, .agg #[sv, av, hv]] w fun e w' => e = .returned (.tuple #[]) ∧ ∃ f' wv' mv' ssx, Fw E w' wv' mv' ssx f' ∧ Clean E.n f' ∧ Kp (ss ++ [⟨.slice (some ⟨w.heap.size, 0, none⟩) 1 1, 64, 3, 1, [sv, av, hv]⟩]) ssx := by
  have hB := h.boxed [sv, av, hv] 64 rfl
  have HS : Hid (∃ j, 7 ≤ j ∧ (ss ++ [⟨.slice (some ⟨w.heap.size, 0, none⟩) 1 1, 64, 3, 1, [sv, av, hv]⟩])[j]? = some ⟨sv, 87, 2, p.sets.length, flat mkCells p.sets⟩) := by
    obtain ⟨j1, g1, e1⟩ := hs.js
    exact ⟨j1, g1, by rw [List.getElem?_append_left (List.getElem?_eq_some_iff.1 e1).1]; exact e1⟩
  obtain ⟨_, _, hvs⟩ := hs.js
  obtain ⟨_, _, hva⟩ := hs.ja
  obtain ⟨_, _, hvh⟩ := hs.jh
  obtain ⟨sa, sc, rfl⟩ := mk_any h.heap hvs
  obtain ⟨aa, ac, rfl⟩ := mk_any h.heap hva
  obtain ⟨ha, hcc, rfl⟩ := mk_any h.heap hvh
  have HB : Hid (Fw E (w.alloc (.cells #[.slice sa p.sets.length sc, .slice aa p.asks.length ac, .slice ha p.hands.length hcc] 64)) wv mv _ f) := hB
  have HP : Hid (OkM E.n p.sets) := hp.s
  have H1 : Hid (∀ i b, tb f.sets i b → HasM p.sets i b) := h1
  have H2 : Hid ((∀ i, i ∈ f.met ↔ wAt f.into i ≠ 0 ∨ wAt f.out i ≠ 0) ∧ ∀ i ∈ f.met, i < E.n) := ⟨h2, h5⟩
  have H3 : Hid (f.news = List.replicate E.n 0 ∧ f.wt = []) := ⟨words_zero h.lens.2.2.2 h3, h4⟩
  have HLN : Hid (f.sets.length = E.n ∧ f.into.length = E.n ∧ f.out.length = E.n) := ⟨h.lens.1, h.lens.2.1, h.lens.2.2.1⟩
  have hl1 : (p.sets.length : Int) ≤ 1000000 := by omega
  have hml : (f.met.length : Int) ≤ 100000 := by omega
  clear hB hs hvs hva hvh hlen h hp h1 h2 h3 h4 h5 h6
  generalize (ss ++ [⟨.slice (some ⟨w.heap.size, 0, none⟩) 1 1, 64, 3, 1, [.slice sa p.sets.length sc, .slice aa p.asks.length ac, .slice ha p.hands.length hcc]⟩]) = ss0 at *
  generalize hFF : E.F = F at *
  have HFF : Hid (E.F = F) := hFF
  clear hFF
  generalize hn1 : p.sets.length = n1 at *
  have HN1 : Hid (p.sets.length = n1) := hn1
  generalize p.asks.length = n2 at *
  generalize p.hands.length = n3 at *
  generalize hml1 : f.met.length = ml at *
  have HML : Hid (f.met.length = ml) := hml1
  clear hn1 hml1
  go_enter Tryz.func23, Tryz.ntmps23
  go_wp2
  go_loopw [11] (fun vk wr => ∃ (k : Nat) (ws : List Nat) (ss1 : List Slot), vk = .int .i64 k ∧ k ≤ n1 ∧ Hid (Fw E wr wv mv ss1 { f with sets := ws } ∧ Kp ss0 ss1 ∧ ws.length = E.n ∧ (∀ i b, tb ws i b → HasM p.sets i b) ∧ ∀ i x, (i, x) ∈ p.sets.take k → wAt ws i = 0)) (fun vk _ => n1 - (intOf vk).toNat)
  case atStart => exact ⟨0, _, _, rfl, by omega, HB.out, Kp.refl _, HLN.out.1, H1.out, fun i x hx => by simp at hx⟩
  case round =>
    obtain ⟨k, ws, ss1, rfl, hk, hr⟩ := hrel
    clear HB
    by_cases hkn : k < n1
    · have hkn' : (k : Int) < n1 := by omega
      have hkl : k < p.sets.length := by rw [HN1.out]; exact hkn
      obtain ⟨j1, g1, e1⟩ := HS.out
      rw [← hr.out.2.1.at' j1 g1, ← HN1.out] at e1
      obtain ⟨g, c, hv, c0, c1⟩ := hr.out.1.heap.mark e1 hkl
      rw [HN1.out] at hv
      injection hv with hv1 hv2 hv3
      subst hv1; subst hv3
      clear hv2
      have hm := (getD_mk hkl).2
      have hmi := HP.out.lt _ hm
      have htk : p.sets.take (k + 1) = p.sets.take k ++ [p.sets.getD k default] := by
        rw [List.take_succ_eq_append_getElem hkl]; simp [List.getElem?_eq_getElem hkl]
      generalize p.sets.getD k default = m at *
      obtain ⟨m1, m2⟩ := m
      dsimp only at *
      have HPL : Hid ((ws.set m1 0).length = E.n ∧ (∀ i b, tb (ws.set m1 0) i b → HasM p.sets i b) ∧ ∀ i x, (i, x) ∈ p.sets.take (k + 1) → wAt (ws.set m1 0) i = 0) := by
        have hwl : m1 < ws.length := by rw [hr.out.2.2.1]; exact hmi
        refine ⟨by simpa using hr.out.2.2.1, fun i b hb => ?_, fun i x hx => ?_⟩
        · unfold tb at hb; rw [wAt_set hwl] at hb
          split at hb
          · simp at hb
          · exact hr.out.2.2.2.1 i b hb
        · rw [wAt_set hwl]
          split
          · rfl
          · rename_i hne
            rw [htk, List.mem_append, List.mem_singleton] at hx
            rcases hx with hx | hx
            · exact hr.out.2.2.2.2 i x hx
            · cases hx; exact absurd rfl hne
      obtain ⟨_, b1, _, _, _, _, _, _, hFl⟩ := hr.out.1.box
      obtain ⟨d1, _, _, _, df, _, _, _⟩ := (hr.out.1.alloc (.cells #[.int .i64 (m1 : Int), .int .u64 (m2 : Int)] 87)).words hmi
      have HRR : Hid _ := hr.out.1
      have HKK : Hid _ := hr.out.2.1
      have hmi' : (m1 : Int) < E.n := by omega
      unfold rowN at b1
      rw [HFF.out] at b1 hFl
      clear hr e1 hm htk
      go_wp2
      refine wp_region_last 7 _ rfl rfl (by kernel_rfl) (by kernel_rfl) (by kernel_rfl) (by kernel_rfl) (by kernel_rfl) (by kernel_rfl) ?_
      simp only [List.take_succ_cons, List.take_zero]
      repeat (go_big_quiet_step (fail))
      refine wpQuiet_nil ?_
      intro _ hw'
      obtain ⟨nq2, hw''⟩ := hw'
      subst hw''
      intro K hK
      go_simp
      refine hK _ _ ?_
      clear hK K
      obtain ⟨ss2, hF2, hK2⟩ := ((HRR.out.alloc (.cells #[.int .i64 (m1 : Int), .int .u64 (m2 : Int)] 87)).drewN nq2).setSets m1 0
      have HF2 : Hid _ := hF2
      have HK2 : Hid (Kp ss0 ss2) := HKK.out.trans hK2
      clear hF2 hK2
      go_wp2
      go_roundw
      case rel => exact ⟨k + 1, _, ss2, by first | rfl | (congr 1; omega), by omega, HF2.out, HK2.out, HPL.out.1, HPL.out.2.1, HPL.out.2.2⟩
      case measure => simp [intOf]; omega
    · obtain rfl : k = n1 := by omega
      have HSZ : Hid (ws = List.replicate E.n 0) := by
        refine words_zero hr.out.2.2.1 fun i => ?_
        refine Classical.byContradiction fun hc => ?_
        obtain ⟨b, hb⟩ := word_ne.1 hc
        obtain ⟨x, hx, _⟩ := hr.out.2.2.2.1 i b hb
        exact hc (hr.out.2.2.2.2 i x (by rw [← HN1.out, List.take_length]; exact hx))
      obtain ⟨_, _, _, _, _, _, b6, _, hFl⟩ := hr.out.1.box
      have ho := hr.out.1.heap.own 6 _ hr.out.1.s6
      obtain ⟨ma, mc, rfl⟩ : ∃ ma mc, mv = .slice ma ml mc := by
        rcases own_shape ho with ⟨e, e0⟩ | ⟨g, c, e, _⟩
        · dsimp only at e e0; rw [HML.out] at e0; exact ⟨none, 0, by rw [e, e0]⟩
        · dsimp only at e; rw [HML.out] at e; exact ⟨_, _, e⟩
      rw [HFF.out] at b6 hFl
      have HRR : Hid _ := hr.out.1
      have HKK : Hid _ := hr.out.2.1
      clear hr ho
      go_wp2
      go_loopw [28] (fun vk wr => ∃ (k : Nat) (is os : List Nat) (ss2 : List Slot), vk = .int .i64 k ∧ k ≤ ml ∧ Hid (Fw E wr wv (.slice ma ml mc) ss2 { f with sets := ws, into := is, out := os } ∧ Kp ss0 ss2 ∧ is.length = E.n ∧ os.length = E.n ∧ (∀ i, wAt is i ≠ 0 → wAt f.into i ≠ 0) ∧ (∀ i, wAt os i ≠ 0 → wAt f.out i ≠ 0) ∧ ∀ i ∈ f.met.take k, wAt is i = 0 ∧ wAt os i = 0)) (fun vk _ => ml - (intOf vk).toNat)
      case atStart => exact ⟨0, _, _, _, rfl, by omega, HRR.out, HKK.out, HLN.out.2.1, HLN.out.2.2, fun _ hh => hh, fun _ hh => hh, fun i hh => by simp at hh⟩
      case round =>
        obtain ⟨k, is, os, ss2, rfl, hk2, hr⟩ := hrel
        clear HRR HKK b6
        by_cases hkn2 : k < ml
        · have hkn' : (k : Int) < ml := by omega
          have hkl : k < f.met.length := by rw [HML.out]; exact hkn2
          have hs6 := hr.out.1.s6
          dsimp only at hs6
          obtain ⟨g, o, rfl, cm⟩ : ∃ g o, ma = some ⟨g, o, none⟩ ∧ wr.cell? ⟨g, o + k, none⟩ = some (nmV (f.met.getD k 0)) := by
            have ho := hr.out.1.heap.own 6 _ hs6
            rcases own_shape ho with ⟨_, e0⟩ | ⟨g, c, e, _⟩
            · dsimp only at e0; omega
            · dsimp only at e
              injection e with e1 e2 e3
              subst e1
              refine ⟨g, 0, rfl, ?_⟩
              rw [← HML.out] at hs6
              rw [Nat.zero_add]
              refine hr.out.1.heap.cell hs6 ?_
              rw [List.getElem?_map, List.getElem?_eq_getElem hkl]
              simp [List.getElem?_eq_getElem hkl]
          have hmem : f.met.getD k 0 ∈ f.met := by rw [List.getD_eq_getElem?_getD, List.getElem?_eq_getElem hkl]; exact List.getElem_mem hkl
          have hmi := H2.out.2 _ hmem
          have htk : f.met.take (k + 1) = f.met.take k ++ [f.met.getD k 0] := by
            rw [List.take_succ_eq_append_getElem hkl]; simp [List.getElem?_eq_getElem hkl]
          generalize f.met.getD k 0 = m1 at *
          have HPL : Hid ((is.set m1 0).length = E.n ∧ (os.set m1 0).length = E.n ∧ (∀ i, wAt (is.set m1 0) i ≠ 0 → wAt f.into i ≠ 0) ∧ (∀ i, wAt (os.set m1 0) i ≠ 0 → wAt f.out i ≠ 0) ∧ ∀ i ∈ f.met.take (k + 1), wAt (is.set m1 0) i = 0 ∧ wAt (os.set m1 0) i = 0) := by
            have l1 : m1 < is.length := by rw [hr.out.2.2.1]; exact hmi
            have l2 : m1 < os.length := by rw [hr.out.2.2.2.1]; exact hmi
            refine ⟨by simpa using hr.out.2.2.1, by simpa using hr.out.2.2.2.1, fun i hb => ?_, fun i hb => ?_, fun i hx => ?_⟩
            · rw [wAt_set l1] at hb
              split at hb
              · exact absurd rfl hb
              · exact hr.out.2.2.2.2.1 i hb
            · rw [wAt_set l2] at hb
              split at hb
              · exact absurd rfl hb
              · exact hr.out.2.2.2.2.2.1 i hb
            · rw [wAt_set l1, wAt_set l2]
              by_cases e : i = m1
              · rw [if_pos e, if_pos e]; exact ⟨rfl, rfl⟩
              · rw [if_neg e, if_neg e]
                rw [htk, List.mem_append, List.mem_singleton] at hx
                exact hr.out.2.2.2.2.2.2 i (hx.resolve_right e)
          obtain ⟨_, _, b2, b3, _, _, _, _, hFl⟩ := hr.out.1.box
          obtain ⟨_, d2, d3, _, _, df2, df3, _⟩ := hr.out.1.words hmi
          obtain ⟨ss3, hF3, hK3⟩ : ∃ ss', Fw E (wr.setCell ⟨E.ig, m1, none⟩ (.int .u64 0)) wv (.slice (some ⟨g, o, none⟩) ml mc) ss' { f with sets := ws, into := is.set m1 0, out := os } ∧ Kp ss2 ss' := hr.out.1.setInto m1 0
          obtain ⟨_, _, e3, _, _, _, ef3, _⟩ := hF3.words hmi
          have HRR : Hid _ := hr.out.1
          have HKK : Hid _ := hr.out.2.1
          have hmi' : (m1 : Int) < E.n := by omega
          unfold rowN at b2 b3
          rw [HFF.out] at b2 b3 hFl
          obtain ⟨ss4, hF4, hK4⟩ : ∃ ss', Fw E ((wr.setCell ⟨E.ig, m1, none⟩ (.int .u64 0)).setCell ⟨E.og, m1, none⟩ (.int .u64 0)) wv (.slice (some ⟨g, o, none⟩) ml mc) ss' { f with sets := ws, into := is.set m1 0, out := os.set m1 0 } ∧ Kp ss3 ss' := hF3.setOut m1 0
          have HF4 : Hid _ := hF4
          have HK4 : Hid (Kp ss0 ss4) := (HKK.out.trans hK3).trans hK4
          clear hr hs6 hmem htk hF3 hK3 hF4 hK4
          go_wp2
          go_region
          go_wp2
          go_roundw
          case rel => exact ⟨k + 1, _, _, ss4, by first | rfl | (congr 1; omega), by omega, HF4.out.drew, HK4.out, HPL.out.1, HPL.out.2.1, HPL.out.2.2.1, HPL.out.2.2.2.1, HPL.out.2.2.2.2⟩
          case measure => simp [intOf]; omega
        · obtain rfl : k = ml := by omega
          have HZ : Hid (is = List.replicate E.n 0 ∧ os = List.replicate E.n 0) := by
            have hz : ∀ i, wAt is i = 0 ∧ wAt os i = 0 := fun i => by
              by_cases hi : i ∈ f.met
              · exact hr.out.2.2.2.2.2.2 i (by rw [← HML.out, List.take_length]; exact hi)
              · refine ⟨Classical.byContradiction fun hc => hi ((H2.out.1 i).2 (.inl (hr.out.2.2.2.2.1 i hc))), Classical.byContradiction fun hc => hi ((H2.out.1 i).2 (.inr (hr.out.2.2.2.2.2.1 i hc)))⟩
            exact ⟨words_zero hr.out.2.2.1 fun i => (hz i).1, words_zero hr.out.2.2.2.1 fun i => (hz i).2⟩
          obtain ⟨_, _, _, _, _, _, b6, bf, hFl⟩ := hr.out.1.box
          have f6 := bf 6
          rw [HFF.out] at b6 f6 hFl
          have hF5 : ∃ ss', Fw E (wr.setCell ⟨E.F, 6, none⟩ (.slice ma 0 mc)) wv (.slice ma 0 mc) ss' { f with sets := ws, into := is, out := os, met := [] } ∧ Kp ss2 ss' := by
            have ho := hr.out.1.heap.own 6 _ hr.out.1.s6
            rcases own_shape ho with ⟨e, e0⟩ | ⟨g, c, e, hc1, _⟩
            · dsimp only at e e0
              injection e with e1 e2 e3
              subst e1; subst e3
              exact hr.out.1.noMet (.inl ⟨by rw [e2], rfl⟩)
            · dsimp only at e
              injection e with e1 e2 e3
              subst e1; subst e3
              exact hr.out.1.noMet (.inr ⟨g, mc, by dsimp only; rw [HML.out], rfl⟩)
          rw [HFF.out] at hF5
          have HQ : Hid (∃ f' wv' mv' ssx, Fw E (wr.setCell ⟨F, 6, none⟩ (.slice ma 0 mc)) wv' mv' ssx f' ∧ Clean E.n f' ∧ Kp ss0 ssx) := by
            obtain ⟨ss', h5, k5⟩ := hF5
            exact ⟨_, _, _, ss', h5, ⟨HSZ.out, HZ.out.1, HZ.out.2, H3.out.1, H3.out.2, rfl⟩, hr.out.2.1.trans k5⟩
          clear hr hF5 bf
          go_wp2
          go_end0
          exact ⟨rfl, HQ.out⟩
end Go.Proofs.YtcggbedjhglmmaaGreatDoor
/- A word's bits, told rising behind a row. -/
namespace Go.Proofs.YtcggbedjhglmmaaGreatDoor
open Go.RowKit

def bitsL (x : Nat) : List Nat := (List.range 64).filter fun b => x.testBit b
theorem filter_first {p q : Nat → Bool} {k : Nat} : ∀ {l : List Nat}, l.Pairwise (· < ·) → k ∈ l → p k = true → (∀ j, j < k → p j = false) → (∀ j, q j = (p j && decide (j ≠ k))) → l.filter p = k :: l.filter q
  | [], _, h, _, _, _ => by simp at h
  | a :: l, hs, hk, hp, hl, hq => by
    rw [List.pairwise_cons] at hs
    by_cases e : a = k
    · subst e
      have e1 : (a :: l).filter p = a :: l.filter p := by rw [List.filter_cons, if_pos hp]
      have e2 : (a :: l).filter q = l.filter q := by rw [List.filter_cons, if_neg (by rw [hq]; simp)]
      rw [e1, e2]
      congr 1
      refine List.filter_congr fun j hj => ?_
      have := hs.1 j hj
      rw [hq, decide_eq_true (by omega : j ≠ a), Bool.and_true]
    · have hkl : k ∈ l := (List.mem_cons.1 hk).resolve_left fun h => e h.symm
      have hak := hs.1 k hkl
      have e1 : (a :: l).filter p = l.filter p := by rw [List.filter_cons, if_neg (by rw [hl a hak]; simp)]
      have e2 : (a :: l).filter q = l.filter q := by rw [List.filter_cons, if_neg (by rw [hq, hl a hak]; simp)]
      rw [e1, e2]
      exact filter_first hs.2 hkl hp hl hq
theorem low_bits {x : Nat} (hx : x < 2 ^ 64) (h0 : x ≠ 0) : Lib.ctz 64 x < 64 ∧ ∀ j, x.testBit j = (if j < Lib.ctz 64 x + 1 then decide (j = Lib.ctz 64 x) else x.testBit j) ∧ (x &&& (x - 1)).testBit j = (x.testBit j && decide (j ≠ Lib.ctz 64 x)) := by
  have e : Lib.ctz 64 x = Lib.ctzFrom 64 x := by unfold Lib.ctz; rw [if_neg h0]
  obtain ⟨m, hm, hk⟩ := Lib.ctzFrom_spec 64 x (by omega) hx
  rw [e]
  generalize Lib.ctzFrom 64 x = k at *
  refine ⟨hk, fun j => ?_⟩
  have hp : 0 < 2 ^ k := Nat.two_pow_pos _
  have hps : 2 ^ (k + 1) = 2 * 2 ^ k := by rw [Nat.pow_succ, Nat.mul_comm]
  have hx1 : x = 2 ^ (k + 1) * m + 2 ^ k := by rw [hm, hps, Nat.mul_add, Nat.mul_one, ← Nat.mul_assoc, Nat.mul_comm (2 ^ k) 2]
  have hx2 : x - 1 = 2 ^ (k + 1) * m + (2 ^ k - 1) := by omega
  have b1 : x.testBit j = if j < k + 1 then (2 ^ k).testBit j else m.testBit (j - (k + 1)) := by rw [hx1]; exact Nat.testBit_two_pow_mul_add m (by omega) j
  have b2 : (x - 1).testBit j = if j < k + 1 then (2 ^ k - 1).testBit j else m.testBit (j - (k + 1)) := by rw [hx2]; exact Nat.testBit_two_pow_mul_add m (by omega) j
  constructor
  · by_cases hj : j < k + 1
    · rw [if_pos hj] at b1 ⊢
      rw [b1, Nat.testBit_two_pow]
      exact decide_eq_decide.2 eq_comm
    · rw [if_neg hj]
  · rw [Nat.testBit_and, b2]
    by_cases hj : j < k + 1
    · rw [if_pos hj] at b1 ⊢
      rw [b1, Nat.testBit_two_pow, Nat.testBit_two_pow_sub_one]
      by_cases e : k = j
      · subst e; simp
      · have : ¬ (j = k) := fun h => e h.symm
        simp [e]
    · rw [if_neg hj] at b1 ⊢
      rw [b1, decide_eq_true (by omega : j ≠ k)]
      simp
theorem bitsL_zero : bitsL 0 = [] := by unfold bitsL; simp
theorem bitsL_step {x : Nat} (hx : x < 2 ^ 64) (h0 : x ≠ 0) : bitsL x = Lib.ctz 64 x :: bitsL (x &&& (x - 1)) := by
  obtain ⟨hk, hb⟩ := low_bits hx h0
  unfold bitsL
  refine filter_first List.pairwise_lt_range (List.mem_range.2 hk) ?_ (fun j hj => ?_) (fun j => (hb j).2)
  · rw [(hb _).1, if_pos (by omega)]; simp
  · rw [(hb j).1, if_pos (by omega)]; exact decide_eq_false (by omega)
theorem bitsL_len (x : Nat) : (bitsL x).length ≤ 64 := by
  unfold bitsL
  exact Nat.le_trans (List.length_filter_le _ _) (by simp)
def toldL (l : List Int) (first x : Nat) : List Int := l ++ (bitsL x).map fun b => ((first + b : Nat) : Int)
theorem toldL_step {l : List Int} {first x : Nat} (hx : x < 2 ^ 64) (h0 : x ≠ 0) : toldL l first x = toldL (l ++ [((first + Lib.ctz 64 x : Nat) : Int)]) first (x &&& (x - 1)) := by
  unfold toldL
  rw [bitsL_step hx h0, List.map_cons, List.append_assoc, List.singleton_append]
theorem own_any {w : World} {base : Nat} {v : Value} {l : List Int} (h : OwnI w base v l) : ∃ ta tc, v = .slice ta l.length tc := by
  rcases own_shape h with ⟨e, e0⟩ | ⟨g, c, e, _⟩
  · exact ⟨none, 0, by rw [e, e0]⟩
  · exact ⟨_, _, e⟩
theorem grown_trans {w w1 w2 : World} {r r1 : Option Nat} (h : w.grownBy w1 r) (g : w1.grownBy w2 r1) (hr : ∀ b, r1 = some b → r = some b ∨ w.heap.size ≤ b) : w.grownBy w2 r :=
  ⟨g.os.trans h.os, g.tape.trans h.tape, g.output.trans h.output, Nat.le_trans h.size g.size, fun k hk hne => (g.block k (Nat.lt_of_lt_of_le hk h.size) (fun e => by
    rcases hr k e.symm with e2 | e2
    · exact hne e2.symm
    · omega)).trans (h.block k hk hne)⟩
theorem TzAt.grown {w w' : World} {r : Option Nat} (h : TzAt w) (hg : w.grownBy w' r) (hr : r ≠ some 0) : TzAt w' :=
  ⟨Nat.lt_of_lt_of_le h.1 hg.size, fun j hj => (World.cell?_of_block (w := w) (a := ⟨0, j, none⟩) (hg.block 0 h.1 (fun e => hr e.symm))).trans (h.2 j hj)⟩
theorem grown_alloc2 {w w' : World} {o : Obj} {r : Option Nat} (h : (w.alloc o).grownBy w' r) : w.grownBy w' r :=
  ⟨h.os, h.tape, h.output, Nat.le_trans (by simp) h.size, fun k hk hr => (h.block k (Nat.lt_of_lt_of_le hk (by simp)) hr).trans ((below_alloc (Below.refl w.heap.size w) o).block k hk)⟩
set_option maxRecDepth 100000 in
set_option maxHeartbeats 2000000 in
theorem told_any {w : World} {base : Nat} {v : Value} {l : List Int} (h : OwnI w base v l) (hl : l.length ≤ 1000000) (hbs : base ≤ w.heap.size) (hb0 : 0 < base) (hT : TzAt w) (first x : Nat) (hf : first ≤ 100000000) (hx : x < 2 ^ 64) :
    Calls Tryz.prog 43 #[v, .int .i64 (first : Int), .int .u64 (x : Int)] w fun e w' => ∃ v', e = .returned v' ∧ OwnI w' base v' (toldL l first x) ∧ w.grownBy w' v.ownBlock ∧ (∀ g, v'.ownBlock = some g → v.ownBlock = some g ∨ w.heap.size ≤ g) := by
  have HON : Hid (∀ W, Calls Tryz.prog 74 #[.int .u64 (x : Int)] W fun e w' => (∃ c : Nat, c ≤ 127 ∧ e = .returned (.int .i64 c)) ∧ w' = W) := fun W => ones_any x W
  have HGR : Hid (∀ (c : Nat), c ≤ 127 → Calls Tryz.prog 73 #[v, .int .i64 (c : Int)] w fun e w' => ∃ v', e = .returned v' ∧ OwnI w' base v' l ∧ w.grownBy w' v.ownBlock ∧ (v'.ownBlock = v.ownBlock ∨ v'.ownBlock = some w.heap.size)) := fun c hc => grow_own h (by omega) hbs c hc
  have HV : Hid (v.ownBlock ≠ some 0) := fun e => by have := (h.lt 0 e).1; omega
  have HT : Hid (TzAt w) := hT
  have HX : Hid (x < 2 ^ 64) := hx
  have HBS : Hid (base ≤ w.heap.size ∧ 0 < base) := ⟨hbs, hb0⟩
  obtain ⟨RES, hRES⟩ : ∃ RES, RES = toldL l first x := ⟨_, rfl⟩
  rw [← hRES]
  have HR : Hid (toldL l first x = RES) := hRES.symm
  obtain ⟨i0, hi0, hz0, hz1, hz2⟩ := info_parts infoI
  have HLB : Hid (l.length ≤ 1000000) := hl
  clear h hT hx hRES hbs hb0 hl
  go_enter Tryz.func43, Tryz.ntmps43
  go_wp2_with (first
    | (go_at_call 74; go_loud (refine Calls.mono (by exact HON.out _) ?_; rintro e w1 ⟨⟨c, hc, rfl⟩, hw1⟩; subst w1; have HC : Hid (c ≤ 127) := hc; clear hc))
    | (go_at_call 73; go_loud (refine Calls.mono (by exact HGR.out c HC.out) ?_; rintro e w1 ⟨v1, rfl, ho1, hg1, hat1⟩; have HQ1 : Hid (OwnI w1 base v1 l ∧ w.grownBy w1 v.ownBlock ∧ (∀ g, v1.ownBlock = some g → v.ownBlock = some g ∨ w.heap.size ≤ g)) := ⟨ho1, hg1, fun g hg => by
        rcases hat1 with e | e
        · exact .inl (e ▸ hg)
        · rw [e] at hg; cases hg; exact .inr (Nat.le_refl _)⟩; clear ho1 hg1 hat1; obtain ⟨a1, c1, rfl⟩ : ∃ ta tc, v1 = .slice ta l.length tc := own_any HQ1.out.1)))
  go_loopw [0, 2] (fun t0 t2 wr => ∃ (ta : Option Addr) (tc xx : Nat) (ll : List Int), t0 = .slice ta ll.length tc ∧ t2 = .int .u64 xx ∧ Hid (xx < 2 ^ 64 ∧ OwnI wr base (.slice ta ll.length tc) ll ∧ toldL ll first xx = RES ∧ ll.length + (bitsL xx).length ≤ 1000064 ∧ w.grownBy wr v.ownBlock ∧ (∀ g, (Value.slice ta ll.length tc).ownBlock = some g → v.ownBlock = some g ∨ w.heap.size ≤ g))) (fun _ t2 _ => (intOf t2).toNat)
  case atStart => exact ⟨a1, c1, x, l, rfl, rfl, HX.out, HQ1.out.1, HR.out, by have := bitsL_len x; have := HLB.out; omega, HQ1.out.2⟩
  case round =>
    obtain ⟨ta, tc, xx, ll, rfl, rfl, hr⟩ := hrel
    clear HQ1 HR HX HGR HON HC
    by_cases hz : xx = 0
    · subst hz
      have HE : Hid (ll = RES) := by show _ = _; rw [← hr.out.2.2.1]; unfold toldL; rw [bitsL_zero]; simp
      go_wp2
      go_ret
      exact ⟨_, rfl, by rw [← HE.out]; exact hr.out.2.1, hr.out.2.2.2.2⟩
    · have hne : ((xx : Int) != 0) = true := by simpa using hz
      have hT2 : TzAt wr := HT.out.grown hr.out.2.2.2.2.1 HV.out
      have HTZ : Hid _ := tz_any xx hr.out.1 hz wr hT2
      obtain ⟨y, hy⟩ : ∃ y, y = xx - 1 := ⟨_, rfl⟩
      obtain ⟨z, hzz⟩ : ∃ z, z = xx &&& y := ⟨_, rfl⟩
      have hx64 := hr.out.1
      have hsub : IntKind.u64.wrap ((xx : Int) - 1) = (y : Int) := by rw [IntKind.wrap_u64]; omega
      have hand : bits .and .u64 (xx : Int) (y : Int) = (z : Int) := by rw [hzz]; exact and_wd hx64 (by omega)
      have hzx : z < xx := by have : z ≤ y := by rw [hzz]; exact Nat.and_le_right
                              omega
      have hst := toldL_step (l := ll) (first := first) hx64 hz
      rw [← hy, ← hzz, hr.out.2.2.1] at hst
      have hbl : (bitsL z).length + 1 = (bitsL xx).length := by rw [bitsL_step hx64 hz, ← hy, ← hzz]; simp
      have HST : Hid _ := hst
      have hck : Lib.ctz 64 xx < 64 := (low_bits hx64 hz).1
      have HZ : Hid (z < 2 ^ 64 ∧ (ll.length + 1) + (bitsL z).length ≤ 1000064) := ⟨by omega, by have := hr.out.2.2.2.1; omega⟩
      have hlb : ll.length ≤ 1000064 := by have := hr.out.2.2.2.1; omega
      have HLL : Hid (ll.length ≤ 1000064) := hlb
      generalize Lib.ctz 64 xx = ck at *
      have hck' : (ck : Int) < 64 := by omega
      have hf' : (first : Int) ≤ 100000000 := by omega
      have HO : Hid (wr.ownsRow base 3 1 (.slice ta ll.length tc) ll.length (ll.map intV)) := hr.out.2.1
      have HSZ : Hid (base ≤ wr.heap.size) := Nat.le_trans HBS.out.1 hr.out.2.2.2.2.1.size
      clear hst hbl hy hzz hT2 hck hf hlb
      generalize hlg : ll.length = lg at *
      go_wp2_with (first
        | (go_at_call 75; go_loud (refine Calls.mono (by exact HTZ.out) ?_; rintro e w1 ⟨rfl, hw1⟩; subst w1))
        | (at_builtin; go_loud (refine wpList_append_own_at _ rfl _ _ 22 rfl base 3 i0 (.int .i64 0) 1 8 Tryz.underlying22 hi0 hz0 hz1 hz2 rfl (by decide) _ lg (ll.map intV) rfl (HO.out.alloc _) ⟨_, 0, none⟩ 1 1 [intV ((first : Int) + (ck : Int))] rfl rfl ?c1 ?c2 ?c3 ?c4 ?c5 ?_)))
      case c1 => exact cell_one_new _ _ 3
      case c2 => intro u hu; simp at hu; subst hu; rfl
      case c3 => have := HLL.out; unfold maxLen; omega
      case c4 => have := HLL.out; omega
      case c5 => have := HSZ.out; simp; omega
      intro v2 w2 ho hg2 _ hat
      obtain ⟨g2, cc2, rfl, _, _, _, _⟩ := own_form ho
      have HQ : Hid (OwnI w2 base (.slice (some ⟨g2, 0, none⟩) (lg + 1) cc2) (ll ++ [((first + ck : Nat) : Int)]) ∧ w.grownBy w2 v.ownBlock ∧ (∀ g, (Value.slice (some ⟨g2, 0, none⟩) (lg + 1) cc2).ownBlock = some g → v.ownBlock = some g ∨ w.heap.size ≤ g)) := by
        have hsz := hr.out.2.2.2.2.1.size
        refine ⟨?_, grown_trans hr.out.2.2.2.2.1 (grown_alloc2 hg2) hr.out.2.2.2.2.2, fun g hg => ?_⟩
        · show World.ownsRow _ _ _ _ _ _ _
          rw [List.length_append, hlg, List.map_append]
          exact ho
        · rcases hat with e | e
          · rw [e] at hg; exact hr.out.2.2.2.2.2 g hg
          · rw [e] at hg; simp at hg; exact .inr (by omega)
      clear ho hg2 hat
      go_wp2
      go_roundw
      case rel => exact ⟨_, cc2, z, ll ++ [((first + ck : Nat) : Int)], by rw [List.length_append, hlg]; rfl, rfl, HZ.out.1, by rw [List.length_append, hlg]; exact HQ.out.1, HST.out.symm, by rw [List.length_append, hlg]; exact HZ.out.2, HQ.out.2.1, by rw [List.length_append, hlg]; exact HQ.out.2.2⟩
      case measure => simp [intOf]; omega
end Go.Proofs.YtcggbedjhglmmaaGreatDoor
