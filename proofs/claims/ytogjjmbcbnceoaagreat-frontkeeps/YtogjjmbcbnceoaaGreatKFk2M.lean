/- The law FrontKeeps: its run. -/
import Derived.Test.YtogjjmbcbnceoaaGreatKRk
import Derived.Test.YtogjjmbcbnceoaaGreatDMProg
import Derived.Test.YtogjjmbcbnceoaaGreatKOverM
import Derived.Test.YtogjjmbcbnceoaaGreatKRowsOM
namespace Go.Proofs.YtogjjmbcbnceoaaGreat
open Go.RowKit

noncomputable def frR (nx : List (List Int)) : List (List Int) := if dec (May nx) then frontsL nx else []
noncomputable def frE (nx : List (List Int)) : Int := if dec (May nx) then 0 else 4
noncomputable def jnR (nx : List (List Int)) (l : List Int) : List Int := if dec (May nx) then (if dec (AllIn nx.length l) then joinL nx (fun a => (a : Int) ∈ l) else []) else []
noncomputable def jnE (nx : List (List Int)) (l : List Int) : Int := if dec (May nx) then (if dec (AllIn nx.length l) then 0 else 2) else 4
theorem frR_small {nx : List (List Int)} (hn : nx.length ≤ 60) : (frR nx).length ≤ 60 ∧ ∀ r ∈ frR nx, r.length ≤ 60 := by
  unfold frR
  by_cases h : May nx
  · rw [dec_true h]
    simp only [if_true]
    exact ⟨by rw [frontsL_len]; exact hn, fun r hr => by have := fronts_small r hr; omega⟩
  · rw [dec_false h]
    simp
theorem jnR_small {nx : List (List Int)} (l : List Int) (hn : nx.length ≤ 60) : (jnR nx l).length ≤ 60 := by
  unfold jnR
  split
  · split
    · have := nodesL_len nx.length (Jn nx fun a => (a : Int) ∈ l)
      exact Nat.le_trans this hn
    · simp
  · simp
theorem frontsK {nx : List (List Int)} (hn : nx.length ≤ 60) (hl : ∀ r ∈ nx, r.length ≤ 2000000) (v : Value) (w : World) (h : NetAt w v nx) : Calls Tryz.prog 24 #[v] w fun e w' => ∃ va kva, e = .returned (.tuple #[va, .int .i64 (frE nx)]) ∧ RK w' w.heap.size va kva (frR nx) ∧ Below w.heap.size w w' := by
  unfold frR frE
  by_cases hm : May nx
  · rw [dec_true hm]
    refine (fronts_yes nx v w h hm (by omega) hl).mono fun e w' hh => ?_
    obtain ⟨⟨G, kvs, e1, h1, h2, _⟩, h3⟩ := hh
    exact ⟨_, kvs, e1, (RK.of h2).mono h1, h3⟩
  · rw [dec_false hm]
    refine (fronts_no nx v w h hm (by omega) hl).mono fun e w' hh => ?_
    exact ⟨_, [], hh.1, RK.nil _ _, hh.2⟩
theorem joinsK {nx : List (List Int)} {l : List Int} (hn : nx.length ≤ 60) (hb : ∀ r ∈ nx, r.length ≤ 2000000) (v lv : Value) (w : World) (h : NetAt w v nx) (hl : IntsAt w lv l) : Calls Tryz.prog 25 #[v, lv] w fun e w' => ∃ vx, e = .returned (.tuple #[vx, .int .i64 (jnE nx l)]) ∧ OwnI w' w.heap.size vx (jnR nx l) ∧ Below w.heap.size w w' := by
  unfold jnR jnE
  by_cases hm : May nx
  · rw [dec_true hm]
    by_cases hA : AllIn nx.length l
    · rw [dec_true hA]
      refine (joins_yes nx l v lv w h hl hm hA (by omega) hb).mono fun e w' hh => ?_
      obtain ⟨⟨v', e1, h1⟩, h2⟩ := hh
      exact ⟨v', e1, h1, h2⟩
    · rw [dec_false hA]
      refine (joins_arg nx l v lv w h hl hm hA (by omega) hb).mono fun e w' hh => ?_
      exact ⟨_, hh.1, World.ownsRow_nil _ _ _ _, hh.2⟩
  · rw [dec_false hm]
    refine (joins_no nx l v lv w h hl hm (by omega) hb).mono fun e w' hh => ?_
    exact ⟨_, hh.1, World.ownsRow_nil _ _ _ _, hh.2⟩
theorem net_nil (W : World) : NetAt W (.slice none 0 0) [] := ⟨[], rfl, row_nil W _, fun i r kv h => by simp at h⟩
theorem rfrontsK {nx : List (List Int)} (hn : nx.length ≤ 60) (v : Value) (w : World) (h : NetAt w v nx) : Calls Tryz.prog 26 #[v] w fun e w' => ∃ wv, e = .returned (.tuple #[wv, .int .i64 (frE nx)]) ∧ NetAt w' wv (frR nx) ∧ Below w.heap.size w w' := by
  have hsm := frR_small hn
  unfold frE
  unfold frR at hsm ⊢
  by_cases hm : May nx
  · rw [dec_true hm] at hsm ⊢
    refine (rfronts_any nx v w h (by omega)).mono fun e w' hh => ?_
    obtain ⟨v', e1, h1⟩ := hh.1 hm
    exact ⟨v', e1, h1.at' (by have := hsm.1; simp at this; omega) (fun r hr => by have := hsm.2 r (by simpa using hr); omega), hh.2.2⟩
  · rw [dec_false hm]
    refine (rfronts_any nx v w h (by omega)).mono fun e w' hh => ?_
    exact ⟨_, hh.2.1 hm, net_nil _, hh.2.2⟩
theorem rjoinsK {nx : List (List Int)} {l : List Int} (hn : nx.length ≤ 60) (v lv : Value) (w : World) (h : NetAt w v nx) (hl : IntsAt w lv l) : Calls Tryz.prog 27 #[v, lv] w fun e w' => ∃ jv, e = .returned (.tuple #[jv, .int .i64 (jnE nx l)]) ∧ IntsAt w' jv (jnR nx l) ∧ Below w.heap.size w w' := by
  have hsm := jnR_small l hn
  unfold jnE
  unfold jnR at hsm ⊢
  by_cases hm : May nx
  · rw [dec_true hm] at hsm ⊢
    by_cases hA : AllIn nx.length l
    · rw [dec_true hA] at hsm ⊢
      refine (rjoins_any nx l v lv w h hl (by omega)).mono fun e w' hh => ?_
      obtain ⟨v', e1, h1⟩ := hh.1 hm hA
      exact ⟨v', e1, OwnI.at' (l := joinL nx fun a => (a : Int) ∈ l) h1 (by simp at hsm; omega), hh.2.2.2⟩
    · rw [dec_false hA]
      refine (rjoins_any nx l v lv w h hl (by omega)).mono fun e w' hh => ?_
      exact ⟨_, hh.2.1 hm hA, row_nil _ _, hh.2.2.2⟩
  · rw [dec_false hm]
    refine (rjoins_any nx l v lv w h hl (by omega)).mono fun e w' hh => ?_
    exact ⟨_, hh.2.2.1 hm, row_nil _ _, hh.2.2.2⟩
end Go.Proofs.YtogjjmbcbnceoaaGreat
/- The law FrontKeeps: its run, whole. -/
namespace Go.Proofs.YtogjjmbcbnceoaaGreat
open Go.RowKit

theorem LR.blocks {w : World} {base g cap n : Nat} {ks : List (List Int × Nat × Nat)} {ms : List Nat} (h : LR w base (.slice (some ⟨g, 0, none⟩) n cap) ks ms) (k : Nat) (hk : LRS g ks k) : base ≤ k ∧ k < w.heap.size := by
  rcases hk with rfl | ⟨q, hq, rfl⟩
  · exact World.ownsRow.lt h.own _ rfl
  · have := (h.lent q hq).room
    exact ⟨this.2.2.1, this.2.2.2⟩
theorem two_apart {w w5 : World} {b4 b5 : Nat} {vx vy : Value} {xs : List Int} (hx5 : OwnI w5 b4 vx xs) (h5 : w5.heap.size ≤ b5) (hx : OwnI w b4 vx xs) (hy : OwnI w b5 vy xs) (hb : b4 ≤ b5) (hl : xs.length ≤ 100000) : Aparts w b4 [vx, vy] [xs, xs] := by
  have key : ∀ g, vx.ownBlock = some g → vy.ownBlock ≠ some g := fun g h1 h2 => by
    have := (World.ownsRow.lt hx5 g h1).2
    have := (World.ownsRow.lt hy g h2).1
    omega
  refine ⟨rfl, fun k x l h1 h2 => ?_, fun i j a b g hij h1 h2 hga hgb => ?_⟩
  · rcases k with _ | _ | k
    · cases h1; cases h2; exact ⟨hx, hl⟩
    · cases h1; cases h2; exact ⟨own_mono hy hb, hl⟩
    · simp at h1
  · rcases i with _ | _ | i
    · rcases j with _ | _ | j
      · exact hij rfl
      · cases h1; cases h2; exact key g hga hgb
      · simp at h2
    · rcases j with _ | _ | j
      · cases h1; cases h2; exact key g hgb hga
      · exact hij rfl
      · simp at h2
    · simp at h1
set_option maxRecDepth 100000 in
set_option maxHeartbeats 4000000 in
theorem fkeeps_run (nx : List (List Int)) (l : List Int) (v lv : Value) (w : World) (h : NetAt w v nx) (hl : IntsAt w lv l) :
    Calls Tryz.prog 4 #[v, lv] w fun e w' => e = .returned (.bool true) ∧ Below w.heap.size w w' := by
  have HG : Hid _ := great_any nx v w h
  have HA : Hid _ := awakeM_ok
  obtain ⟨va0, vc0, hve, _⟩ := h.form
  obtain ⟨la0, lc0, hle, hll⟩ := hl.form
  rcases hb : greatB nx with _ | _
  · obtain ⟨g1, g2⟩ := greatB_no hb
    rw [hb] at HG
    by_cases h6 : l.length ≤ 600
    · have h6' : ¬ (600 : Int) < l.length := by omega
      have hr : ∀ r ∈ nx, r.length ≤ 1200 := fun r hr => by have := lens_mem hr; omega
      obtain ⟨hs1, hs2⟩ := frR_small g1
      have hs3 := jnR_small l g1
      have HLR : Hid _ := lentR_any nx v w h (by omega) (fun r hx => by have := hr r hx; omega)
      have HLI : Hid (∀ w1, Below w.heap.size w w1 → _) := fun w1 hb => lent_any l lv w1 (hl.below hb) (by omega)
      have HFR : Hid (∀ W vv, NetAt W vv nx → _) := fun W vv hv => frontsK g1 (fun r hx => by have := hr r hx; omega) vv W hv
      have HJN : Hid (∀ W vv ll, NetAt W vv nx → IntsAt W ll l → _) := fun W vv ll hv hv2 => joinsK g1 (fun r hx => by have := hr r hx; omega) vv ll W hv hv2
      have HKR : Hid (∀ (W : World) (base g cap : Nat) (ks : List (List Int × Nat × Nat)) (ms : List Nat), LR W base (.slice (some ⟨g, 0, none⟩) (nx.length + 12) cap) ks ms → ks.map (fun k => k.1) = nx → ms.length = 12 → Below w.heap.size w W → Calls Tryz.prog 12 #[.slice (some ⟨g, 0, none⟩) nx.length cap, v] W fun e w' => e = .returned (.bool true) ∧ ∃ k, w' = W.drewN k) := fun W base g cap ks ms a1 a2 a3 a4 => keptR_any nx v base g cap ks ms W a1 a2 a3 (h.below a4) (by omega) (fun r hx => by have := hr r hx; omega)
      have HKI : Hid (∀ (W : World) (base g cap : Nat), LentAt W base g cap l → Below w.heap.size w W → Calls Tryz.prog 13 #[.slice (some ⟨g, 0, none⟩) l.length cap, lv] W fun e w' => e = .returned (.bool true) ∧ ∃ k, w' = W.drewN k) := fun W base g cap a1 a2 => kept_any l lv base g cap W a1 (hl.below a2) (by omega)
      have HOR : Hid (∀ (W : World) (base g cap : Nat) (ks : List (List Int × Nat × Nat)) (ms : List Nat), LR W base (.slice (some ⟨g, 0, none⟩) (nx.length + 12) cap) ks ms → ks.map (fun k => k.1) = nx → ms.length = 12 → Calls Tryz.prog 14 #[.slice (some ⟨g, 0, none⟩) nx.length cap] W fun e w' => e = .returned (.tuple #[]) ∧ Only W w' (LRS g ks)) := fun W base g cap ks ms a1 a2 a3 => overR_any nx base g cap ks ms W a1 a2 a3 (by omega) (fun r hx => by have := hr r hx; omega)
      have HOI : Hid (∀ (W : World) (base g cap : Nat), LentAt W base g cap l → Calls Tryz.prog 15 #[.slice (some ⟨g, 0, none⟩) l.length cap] W fun e w' => e = .returned (.tuple #[]) ∧ But W w' g) := fun W base g cap a1 => over_any2 l base g cap W a1 (by omega)
      have HRF : Hid (∀ W, Below w.heap.size w W → _) := fun W hb => rfrontsK g1 v W (h.below hb)
      have HRJ : Hid (∀ W, Below w.heap.size w W → _) := fun W hb => rjoinsK g1 v lv W (h.below hb) (hl.below hb)
      have HSR : Hid _ := sameR_yes
      have HSI : Hid _ := sameI_yes
      have HNL : Hid (∀ (W : World) (g cap : Nat) (ks : List (List Int × Nat × Nat)) (ms : List Nat) (base : Nat), LR W base (.slice (some ⟨g, 0, none⟩) (nx.length + 12) cap) ks ms → ks.map (fun k => k.1) = nx → ms.length = 12 → NetAt W (.slice (some ⟨g, 0, none⟩) nx.length cap) nx) := fun W g cap ks ms base a1 a2 a3 => a1.net a2 a3 (by omega) (fun r hx => by have := hr r hx; omega)
      have HS2 : Hid (∀ r ∈ frR nx, r.length ≤ 100000) := fun r hx => by have := hs2 r hx; omega
      have HAI : Hid _ := fun (base g c : Nat) (vs : List Value) (ls : List (List Int)) (W : World) => apartI_any flat_ok base g 0 c vs ls W
      have S1 : True := trivial
      have S2 : True := trivial
      have S3 : True := trivial
      subst hve
      subst hle
      clear hb h hl hr hs2 g2
      go_enter Tryz.func4, Tryz.ntmps4
      go_wp2_with (first
        | (go_at_call 22; go_loud (refine Calls.mono (by exact HG.out) ?_; rintro e wg ⟨rfl, hwg⟩; have hwg2 := hwg.symm; subst hwg2; clear hwg))
        | (go_at_call 7; go_loud (refine Calls.mono (by exact HLR.out) ?_; rintro e w1 ⟨g, cap, ks, ms, rfl, h11, h12, h13, h14⟩; have L1 : Hid (LR w1 w.heap.size (.slice (some ⟨g, 0, none⟩) (nx.length + 12) cap) ks ms) := h11; have K1 : Hid (ks.map (fun k => k.1) = nx) := h12; have M1 : Hid (ms.length = 12) := h13; have B1 : Hid (Below w.heap.size w w1) := h14; clear h11 h12 h13 h14))
        | (go_at_call 8; go_loud (refine Calls.mono (by exact HLI.out w1 B1.out) ?_; rintro e w2 ⟨g2, cap2, rfl, h21, h22⟩; have L2 : Hid (LentAt w2 w1.heap.size g2 cap2 l) := h21; have B2 : Hid (Below w1.heap.size w1 w2) := h22; have N2 : Hid (NetAt w2 (.slice (some ⟨g, 0, none⟩) nx.length cap) nx) := (HNL.out w1 g cap ks ms _ L1.out K1.out M1.out).below h22; clear h21 h22))
        | (go_at_call 24; clear S1; go_loud (refine Calls.mono (by exact HFR.out w2 _ N2.out) ?_; rintro e w3 ⟨va, kva, rfl, h31, h32⟩; obtain ⟨a1, c1, hva, _⟩ := own_slK h31.own; subst hva; have A3 : Hid (RK w3 w2.heap.size (.slice a1 (frR nx).length c1) kva (frR nx)) := h31; have B3 : Hid (Below w2.heap.size w2 w3) := h32; have N3 : Hid (NetAt w3 (.slice (some ⟨g, 0, none⟩) nx.length cap) nx) := N2.out.below h32; clear h31 h32))
        | (go_at_call 24; go_loud (refine Calls.mono (by exact HFR.out w3 _ N3.out) ?_; rintro e w4 ⟨vb, kvb, rfl, h41, h42⟩; obtain ⟨a2, c2, hvb, _⟩ := own_slK h41.own; subst hvb; have A4 : Hid (RK w4 w3.heap.size (.slice a2 (frR nx).length c2) kvb (frR nx)) := h41; have B4 : Hid (Below w3.heap.size w3 w4) := h42; have N4 : Hid (NetAt w4 (.slice (some ⟨g, 0, none⟩) nx.length cap) nx) := N3.out.below h42; have I4 : Hid (IntsAt w4 (.slice (some ⟨g2, 0, none⟩) l.length cap2) l) := ((L2.out.ints (by omega)).below B3.out).below h42; clear h41 h42))
        | (go_at_call 25; clear S2; go_loud (refine Calls.mono (by exact HJN.out w4 _ _ N4.out I4.out) ?_; rintro e w5 ⟨vx, rfl, h51, h52⟩; obtain ⟨a3, c3, hvx, _⟩ := own_slK h51; subst hvx; have X5 : Hid (OwnI w5 w4.heap.size (.slice a3 (jnR nx l).length c3) (jnR nx l)) := h51; have B5 : Hid (Below w4.heap.size w4 w5) := h52; have N5 : Hid (NetAt w5 (.slice (some ⟨g, 0, none⟩) nx.length cap) nx) := N4.out.below h52; have I5 : Hid (IntsAt w5 (.slice (some ⟨g2, 0, none⟩) l.length cap2) l) := I4.out.below h52; clear h51 h52))
        | (go_at_call 25; go_loud (refine Calls.mono (by exact HJN.out w5 _ _ N5.out I5.out) ?_; rintro e w6 ⟨vy, rfl, h61, h62⟩; obtain ⟨a4, c4, hvy, _⟩ := own_slK h61; subst hvy; have Y6 : Hid (OwnI w6 w5.heap.size (.slice a4 (jnR nx l).length c4) (jnR nx l)) := h61; have B6 : Hid (Below w5.heap.size w5 w6) := h62; have B26 : Hid (Below w2.heap.size w2 w6) := below_trans (below_trans (below_trans B3.out B4.out) B5.out) h62; have W6 : Hid (Below w.heap.size w w6) := below_trans (below_trans B1.out B2.out) B26.out; have L6 : Hid (LR w6 w.heap.size (.slice (some ⟨g, 0, none⟩) (nx.length + 12) cap) ks ms) := (L1.out.below B2.out).below B26.out; have LI6 : Hid (LentAt w6 w1.heap.size g2 cap2 l) := L2.out.below B26.out; clear h61 h62))
        | (go_at_call 12; go_loud (refine Calls.mono (by exact HKR.out w6 _ g cap ks ms L6.out K1.out M1.out W6.out) ?_; rintro e w7 ⟨rfl, h71⟩; have B7 : Hid (Below w6.heap.size w6 w7) := below_of_drew h71; clear h71))
        | (go_at_call 13; go_loud (refine Calls.mono (by exact HKI.out w7 _ g2 cap2 (LI6.out.below B7.out) (below_trans W6.out B7.out)) ?_; rintro e w8 ⟨rfl, h81⟩; have B8 : Hid (Below w6.heap.size w6 w8) := below_trans B7.out (below_of_drew h81); clear h81))
        | (go_at_call 14; go_loud (refine Calls.mono (by exact HOR.out w8 _ g cap ks ms (L6.out.below B8.out) K1.out M1.out) ?_; rintro e w9 ⟨rfl, h91⟩; have O9 : Hid (Only w8 w9 (LRS g ks)) := h91; clear h91))
        | (go_at_call 15; go_loud (refine Calls.mono (by exact HOI.out w9 _ g2 cap2 ((LI6.out.below B8.out).same (O9.out.same g2 (LI6.out.below B8.out).room.2.2.2 (fun hc => by have h1 := (L1.out.blocks g2 hc).2; have h2 := L2.out.room.2.2.1; omega)))) ?_; rintro e w10 ⟨rfl, h101⟩; have O10 : Hid (But w9 w10 g2) := h101; clear h101)))
      have W8 : Hid (Below w.heap.size w w8) := below_trans W6.out B8.out
      have BV : Hid (Below w.heap.size w w10) := (W8.out.trans (O9.out.below W8.out.size (fun k hk => (L1.out.blocks k hk).1))).trans (O10.out.low.mono (by have := L2.out.room.2.2.1; have := B1.out.size; omega))
      have AB : Hid (Above w2.heap.size w8 w10) := (Above.only O9.out (fun k hk => by have := (L1.out.blocks k hk).2; have := B2.out.size; omega)).trans (Above.but O10.out L2.out.room.2.2.2)
      have AB3 : Hid (Above w2.heap.size w3 w10) := (Above.of (below_trans (below_trans (below_trans B4.out B5.out) B6.out) B8.out)).trans AB.out
      have AB4 : Hid (Above w2.heap.size w4 w10) := (Above.of (below_trans (below_trans B5.out B6.out) B8.out)).trans AB.out
      have AB5 : Hid (Above w2.heap.size w5 w10) := (Above.of (below_trans B6.out B8.out)).trans AB.out
      have AB6 : Hid (Above w2.heap.size w6 w10) := (Above.of B8.out).trans AB.out
      have z3 := B3.out.size
      have z4 := B4.out.size
      have z5 := B5.out.size
      have A10 : Hid _ := RK.above AB3.out A3.out (Nat.le_refl _)
      have C10 : Hid _ := RK.above AB4.out A4.out z3
      have X10 : Hid (OwnI w10 w4.heap.size (.slice a3 (jnR nx l).length c3) (jnR nx l)) := AB5.out.own X5.out (by omega)
      have Y10 : Hid (OwnI w10 w5.heap.size (.slice a4 (jnR nx l).length c4) (jnR nx l)) := AB6.out.own Y6.out (by omega)
      have hw1 : w.heap.size ≤ w2.heap.size := Nat.le_trans B1.out.size B2.out.size
      have HRA : Hid (∀ W15 : World, Below w10.heap.size w10 W15 → Calls Tryz.prog 21 #[.slice (some ⟨W15.heap.size, 0, none⟩) 2 2] (W15.alloc (.cells #[.slice a1 (frR nx).length c1, .slice a2 (frR nx).length c2] 22)) fun e w' => e = .returned (.bool true) ∧ Only (W15.alloc (.cells #[.slice a1 (frR nx).length c1, .slice a2 (frR nx).length c2] 22)) w' (fun k => w2.heap.size ≤ k ∧ k < w4.heap.size)) := fun W15 hb => by
        have hbb : Below w10.heap.size w10 (W15.alloc (.cells #[.slice a1 (frR nx).length c1, .slice a2 (frR nx).length c2] 22)) := below_alloc hb _
        have r1 := RK.above (Above.of hbb) A10.out (Nat.le_refl _)
        have r2 := RK.above (Above.of hbb) C10.out (Nat.le_refl _)
        have q1 := A3.out.lt
        have q2 := A4.out.lt
        have hx := Box.new W15 [.slice a1 (frR nx).length c1, .slice a2 (frR nx).length c2] 22
        have h15 : w4.heap.size ≤ W15.heap.size := Nat.le_trans AB4.out.size hb.size
        have hbl : ∀ g, ((Value.slice a1 (frR nx).length c1).ownBlock = some g ∨ (Value.slice a2 (frR nx).length c2).ownBlock = some g ∨ (∃ x ∈ kva ++ kvb, x.ownBlock = some g)) → w2.heap.size ≤ g ∧ g < w4.heap.size := fun g hg => by
          rcases hg with hg | hg | ⟨x, hxm, hg⟩
          · have := q1.1 g hg; omega
          · have := q2.1 g hg; omega
          · rcases List.mem_append.1 hxm with hxm | hxm
            · have := q1.2 x hxm g hg; omega
            · have := q2.2 x hxm g hg; omega
        have hRA := RK.two (gL := W15.heap.size) A3.out (Nat.le_refl _) r1 r2 z3 (by simp; omega) (by simp) HS2.out (hx.cell 0 _ rfl) (hx.cell 1 _ rfl) (fun g hg => by have := hbl g hg; omega)
        refine (apartR_any hRA (by decide) (fun k _ => by show (frR nx).length ≤ 1000; omega)).mono fun e w' hh => ⟨hh.1, hh.2.mono fun g _ hg => hbl g ?_⟩
        rcases hg with ⟨x, hxm, hg⟩ | ⟨k, hk, hg⟩
        · exact .inr (.inr ⟨x, hxm, hg⟩)
        · rcases k with _ | _ | k
          · exact .inl hg
          · exact .inr (.inl hg)
          · omega
      have HRI : Hid (∀ W16 : World, OwnI W16 w4.heap.size (.slice a3 (jnR nx l).length c3) (jnR nx l) → OwnI W16 w5.heap.size (.slice a4 (jnR nx l).length c4) (jnR nx l) → w10.heap.size ≤ W16.heap.size → Calls Tryz.prog 20 #[.slice (some ⟨W16.heap.size, 0, none⟩) 2 2] (W16.alloc (.cells #[.slice a3 (jnR nx l).length c3, .slice a4 (jnR nx l).length c4] 23)) fun e w' => e = .returned (.bool true) ∧ Only (W16.alloc (.cells #[.slice a3 (jnR nx l).length c3, .slice a4 (jnR nx l).length c4] 23)) w' (fun k => w4.heap.size ≤ k)) := fun W16 hx hy hz => by
        have hb := below_alloc (Below.refl _ W16) (.cells #[.slice a3 (jnR nx l).length c3, .slice a4 (jnR nx l).length c4] 23)
        have hA := two_apart X5.out (Nat.le_refl _) (owns_below hx hb) (owns_below hy hb) z5 (by omega)
        have hbx := Box.new W16 [.slice a3 (jnR nx l).length c3, .slice a4 (jnR nx l).length c4] 23
        have h46 : w4.heap.size ≤ W16.heap.size := Nat.le_trans AB4.out.size hz
        refine (apartI_any flat_ok w4.heap.size W16.heap.size 0 2 _ _ _ (by simp; omega) (by simp) (fun j u hj => by rw [Nat.zero_add]; exact hbx.cell j u hj) (by simp) hA).mono fun e w' hh => ⟨hh.1, hh.2.mono fun g _ hg => ?_⟩
        obtain ⟨x, hxm, hg⟩ := hg
        exact (hA.lt hxm hg).1
      clear HLR HLI HFR HJN HKR HKI HOR HOI HNL L6 LI6 L1 L2 O9 O10 N2 N3 N4 N5 I4 I5 K1 M1 HG
      go_wp2_with (first
        | (go_at_call 26; go_loud (refine Calls.mono (by exact HRF.out w10 BV.out) ?_; rintro e w11 ⟨wv, rfl, h111, h112⟩; have WV : Hid (NetAt w11 wv (frR nx)) := h111; have B11 : Hid (Below w10.heap.size w10 w11) := h112; clear h111 h112))
        | (go_at_call 27; go_loud (refine Calls.mono (by exact HRJ.out w11 (below_trans BV.out B11.out)) ?_; rintro e w12 ⟨jv, rfl, h121, h122⟩; have JV : Hid (IntsAt w12 jv (jnR nx l)) := h121; have B12 : Hid (Below w10.heap.size w10 w12) := below_trans B11.out h122; have WV2 : Hid (NetAt w12 wv (frR nx)) := WV.out.below h122; clear h121 h122))
        | (go_at_call 19; clear S3; go_loud (refine Calls.mono (by exact HSR.out (frR nx) _ _ w12 ((RK.above (Above.of B12.out) A10.out (Nat.le_refl _)).net (by omega) HS2.out) WV2.out) ?_; rintro e w13 ⟨rfl, h131⟩; have B13 : Hid (Below w12.heap.size w12 w13) := below_of_drew h131; clear h131))
        | (go_at_call 19; go_loud (refine Calls.mono (by exact HSR.out (frR nx) _ _ w13 ((RK.above (Above.of (below_trans B12.out B13.out)) C10.out (Nat.le_refl _)).net (by omega) HS2.out) (WV2.out.below B13.out)) ?_; rintro e w14 ⟨rfl, h141⟩; have B14 : Hid (Below w12.heap.size w12 w14) := below_trans B13.out (below_of_drew h141); clear h141))
        | (go_at_call 18; go_loud (refine Calls.mono (by exact HSI.out (jnR nx l) _ _ w14 (OwnI.at' (owns_below X10.out (below_trans B12.out B14.out)) (by omega)) (JV.out.below B14.out)) ?_; rintro e w15 ⟨rfl, h151⟩; have B15 : Hid (Below w10.heap.size w10 w15) := below_trans (below_trans B12.out B14.out) (below_of_drew h151); clear h151))
        | (go_at_call 21; go_loud (refine Calls.mono (by exact HRA.out w15 B15.out) ?_; rintro e w16 ⟨rfl, h161⟩; have O16 : Hid _ := h161; clear h161))
        | (go_at_call 20; go_loud (refine Calls.mono (by exact HRI.out w16 ((Above.only O16.out (fun k hk => hk.2)).own (owns_below X10.out (below_alloc B15.out _)) (Nat.le_refl _)) ((Above.only O16.out (fun k hk => hk.2)).own (owns_below Y10.out (below_alloc B15.out _)) z5) (Nat.le_trans (below_alloc B15.out _).size O16.out.low.size)) ?_; rintro e w17 ⟨rfl, h171⟩; have O17 : Hid _ := h171; clear h171))
        | (go_at_call 23; go_loud (refine Calls.mono (by exact HA.out _) ?_; rintro e w18 ⟨rfl, h181⟩; have B18 : Hid (Below w17.heap.size w17 w18) := h181; clear h181)))
      go_ret
      have f1 : Below w.heap.size w (w15.alloc (.cells #[.slice a1 (frR nx).length c1, .slice a2 (frR nx).length c2] 22)) := below_alloc (below_trans BV.out B15.out) _
      have f2 : Below w.heap.size w w16 := f1.trans (O16.out.below f1.size (fun k hk => by omega))
      have f3 : Below w.heap.size w (w16.alloc (.cells #[.slice a3 (jnR nx l).length c3, .slice a4 (jnR nx l).length c4] 23)) := below_alloc f2 _
      have f4 : Below w.heap.size w w17 := f3.trans (O17.out.below f3.size (fun k hk => by omega))
      exact ⟨rfl, below_trans f4 B18.out⟩
    · have h6' : (600 : Int) < l.length := by omega
      subst hve
      subst hle
      clear hb h hl
      go_enter Tryz.func4, Tryz.ntmps4
      go_wp2_with (first | (go_at_call 22; go_loud (refine Calls.mono (by exact HG.out) ?_; rintro e wg ⟨rfl, hwg⟩; have hwg2 := hwg.symm; subst hwg2)) | (go_at_call 23; go_loud (refine Calls.mono (by exact HA.out _) ?_; rintro e w4 ⟨rfl, hb4⟩; have HB4 : Hid _ := hb4; clear hb4)))
      go_ret
      exact ⟨rfl, HB4.out⟩
  · rw [hb] at HG
    subst hve
    subst hle
    clear hb h hl
    go_enter Tryz.func4, Tryz.ntmps4
    go_wp2_with (first | (go_at_call 22; go_loud (refine Calls.mono (by exact HG.out) ?_; rintro e wg ⟨rfl, hwg⟩; have hwg2 := hwg.symm; subst hwg2)) | (go_at_call 23; go_loud (refine Calls.mono (by exact HA.out _) ?_; rintro e w4 ⟨rfl, hb4⟩; have HB4 : Hid _ := hb4; clear hb4)))
    go_ret
    exact ⟨rfl, HB4.out⟩
end Go.Proofs.YtogjjmbcbnceoaaGreat
