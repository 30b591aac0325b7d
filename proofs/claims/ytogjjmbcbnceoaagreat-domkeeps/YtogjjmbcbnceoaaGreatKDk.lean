/- The law DomKeeps: its run. -/
import Derived.Test.YtogjjmbcbnceoaaGreatKRk
import Derived.Test.YtogjjmbcbnceoaaGreatKOverM
import Derived.Test.YtogjjmbcbnceoaaGreatKRowsOM
import Derived.Test.YtogjjmbcbnceoaaGreatDAwk
import Derived.Test.YtogjjmbcbnceoaaGreatDGreat
import Derived.Test.YtogjjmbcbnceoaaGreatDTree
namespace Go.Proofs.YtogjjmbcbnceoaaGreat
open Go.RowKit

noncomputable def trR (nx : List (List Int)) : List Int := if dec (May nx) then treeL nx else []
noncomputable def trE (nx : List (List Int)) : Int := if dec (May nx) then 0 else 4
theorem trR_small {nx : List (List Int)} (hn : nx.length ≤ 300) : (trR nx).length ≤ 300 := by
  unfold trR
  split
  · rw [treeL_len]; exact hn
  · simp
theorem treeK {nx : List (List Int)} (hn : nx.length ≤ 300) (hl : ∀ r ∈ nx, r.length ≤ 2000000) (v : Value) (w : World) (h : NetAt w v nx) : Calls Tryz.prog 9 #[v] w fun e w' => ∃ va, e = .returned (.tuple #[va, .int .i64 (trE nx)]) ∧ OwnI w' w.heap.size va (trR nx) ∧ Below w.heap.size w w' := by
  unfold trR trE
  refine (tree_ok (by omega) hl v w h).mono fun e w' hh => ?_
  by_cases hm : May nx
  · rw [dec_true hm]
    obtain ⟨v', e1, h1⟩ := hh.1 hm
    exact ⟨v', e1, h1, hh.2.2⟩
  · rw [dec_false hm]
    exact ⟨_, hh.2.1 hm, World.ownsRow_nil _ _ _ _, hh.2.2⟩
theorem rtreeK {nx : List (List Int)} (hn : nx.length ≤ 300) (v : Value) (w : World) (h : NetAt w v nx) : Calls Tryz.prog 16 #[v] w fun e w' => ∃ va, e = .returned (.tuple #[va, .int .i64 (trE nx)]) ∧ IntsAt w' va (trR nx) ∧ Below w.heap.size w w' := by
  have hsm := trR_small hn
  unfold trE
  unfold trR at hsm ⊢
  refine (rtree_any nx v w h (by omega)).mono fun e w' hh => ?_
  by_cases hm : May nx
  · rw [dec_true hm] at hsm ⊢
    obtain ⟨v', e1, h1⟩ := hh.1 hm
    exact ⟨v', e1, OwnI.at' (l := treeL nx) h1 (by simp at hsm; omega), hh.2.2⟩
  · rw [dec_false hm]
    exact ⟨_, hh.2.1 hm, row_nil _ _, hh.2.2⟩
theorem under_rows {t : List Int} (hn : t.length ≤ 300) : (underT t).length ≤ 300 ∧ ∀ r ∈ underT t, r.length ≤ 300 := ⟨by rw [underT_len]; exact hn, fun r hr => by have := lens_mem hr; have := lens_underT t; omega⟩
theorem underK {t : List Int} (hn : t.length ≤ 300) (v : Value) (w : World) (h : IntsAt w v t) : Calls Tryz.prog 10 #[v] w fun e w' => ∃ va kva, e = .returned va ∧ RK w' w.heap.size va kva (underT t) ∧ Below w.heap.size w w' :=
  (under_any' t v w h (by omega)).mono fun e w' hh => by
    obtain ⟨kvs, e1, h1, h2⟩ := hh
    exact ⟨_, kvs, e1, RK.of h1, h2⟩
theorem runderK {t : List Int} (hn : t.length ≤ 300) (v : Value) (w : World) (h : IntsAt w v t) : Calls Tryz.prog 17 #[v] w fun e w' => ∃ va, e = .returned va ∧ NetAt w' va (underT t) ∧ Below w.heap.size w w' :=
  (runder_any t v w h (by omega)).mono fun e w' hh => by
    obtain ⟨kvs, e1, h1, h2⟩ := hh
    have hs := under_rows hn
    exact ⟨_, e1, h1.at' (by omega) (fun r hr => by have := hs.2 r hr; omega), h2⟩
theorem sameI_yes2 (xs : List Int) (v1 v2 : Value) (W : World) (h1 : IntsAt W v1 xs) (h2 : IntsAt W v2 xs) : Calls Tryz.prog 18 #[v1, v2] W fun e w' => e = .returned (.bool true) ∧ ∃ k, w' = W.drewN k := by
  have := sameI_any xs xs v1 v2 W h1 h2
  rwa [decide_eq_true rfl] at this
theorem sameR_yes2 (xs : List (List Int)) (v1 v2 : Value) (W : World) (h1 : NetAt W v1 xs) (h2 : NetAt W v2 xs) : Calls Tryz.prog 19 #[v1, v2] W fun e w' => e = .returned (.bool true) ∧ ∃ k, w' = W.drewN k := by
  have := sameR_any xs xs v1 v2 W h1 h2
  rwa [decide_eq_true rfl] at this
theorem awakeD_ok : ∀ W : World, Calls Tryz.prog 6 #[] W fun e w' => e = .returned (.bool true) ∧ Below W.heap.size W w' := fun W => awake_any (tree_ok (by decide) (by decide)) over_ok (under_ok (by decide)) W
theorem LR.blocks2 {w : World} {base g cap n : Nat} {ks : List (List Int × Nat × Nat)} {ms : List Nat} (h : LR w base (.slice (some ⟨g, 0, none⟩) n cap) ks ms) (k : Nat) (hk : LRS g ks k) : base ≤ k ∧ k < w.heap.size := by
  rcases hk with rfl | ⟨q, hq, rfl⟩
  · exact World.ownsRow.lt h.own _ rfl
  · have := (h.lent q hq).room
    exact ⟨this.2.2.1, this.2.2.2⟩
theorem two_apart2 {w w5 : World} {b4 b5 : Nat} {vx vy : Value} {xs : List Int} (hx5 : OwnI w5 b4 vx xs) (h5 : w5.heap.size ≤ b5) (hx : OwnI w b4 vx xs) (hy : OwnI w b5 vy xs) (hb : b4 ≤ b5) (hl : xs.length ≤ 100000) : Aparts w b4 [vx, vy] [xs, xs] := by
  have key : ∀ g, vx.ownBlock = some g → vy.ownBlock ≠ some g := fun g h1 h2 => by
    have := (World.ownsRow.lt hx5 g h1).2
    have := (World.ownsRow.lt hy g h2).1
    omega
  refine ⟨rfl, fun k x l h1 h2 => ?_, fun i j a b g hij h1 h2 hga hgb => ?_⟩
  · rcases k with _ | _ | k
    · cases h1; cases h2; exact ⟨hx, hl⟩
    · cases h1; cases h2; exact ⟨own_mono hy hb, hl⟩
    · simp at h1
  · rcases i with _ | _ | i
    · rcases j with _ | _ | j
      · exact hij rfl
      · cases h1; cases h2; exact key g hga hgb
      · simp at h2
    · rcases j with _ | _ | j
      · cases h1; cases h2; exact key g hgb hga
      · exact hij rfl
      · simp at h2
    · simp at h1
set_option maxRecDepth 100000 in
set_option maxHeartbeats 4000000 in
theorem dkeeps_run (nx : List (List Int)) (l : List Int) (v lv : Value) (w : World) (h : NetAt w v nx) (hl : IntsAt w lv l) :
    Calls Tryz.prog 3 #[v, lv] w fun e w' => e = .returned (.bool true) ∧ Below w.heap.size w w' := by
  have HG : Hid _ := great_any nx v w h
  have HA : Hid _ := awakeD_ok
  obtain ⟨va0, vc0, hve, _⟩ := h.form
  obtain ⟨la0, lc0, hle, hll⟩ := hl.form
  rcases hb : greatB nx with _ | _
  · obtain ⟨g1, g2⟩ := greatB_no hb
    rw [hb] at HG
    by_cases h6 : l.length ≤ 300
    · have h6' : ¬ (300 : Int) < l.length := by omega
      have hr : ∀ r ∈ nx, r.length ≤ 3000 := fun r hr => by have := lens_mem hr; omega
      have hs3 := trR_small g1
      obtain ⟨hs1, hs2⟩ := under_rows h6
      have HLR : Hid _ := lentR_any nx v w h (by omega) (fun r hx => by have := hr r hx; omega)
      have HLI : Hid (∀ w1, Below w.heap.size w w1 → _) := fun w1 hb => lent_any l lv w1 (hl.below hb) (by omega)
      have HTR : Hid (∀ W vv, NetAt W vv nx → _) := fun W vv hv => treeK g1 (fun r hx => by have := hr r hx; omega) vv W hv
      have HUN : Hid (∀ W ll, IntsAt W ll l → _) := fun W ll hv2 => underK h6 ll W hv2
      have HOV : Hid (∀ (W : World) (ll : Value), IntsAt W ll l → Calls Tryz.prog 11 #[ll, .int .i64 0, .int .i64 0] W fun e w' => e = .returned (.bool (overL l 0 0)) ∧ ∃ k, w' = W.drewN k) := fun W ll hv => over_ok l 0 0 ll W hv
      have HKR : Hid (∀ (W : World) (base g cap : Nat) (ks : List (List Int × Nat × Nat)) (ms : List Nat), LR W base (.slice (some ⟨g, 0, none⟩) (nx.length + 12) cap) ks ms → ks.map (fun k => k.1) = nx → ms.length = 12 → Below w.heap.size w W → Calls Tryz.prog 12 #[.slice (some ⟨g, 0, none⟩) nx.length cap, v] W fun e w' => e = .returned (.bool true) ∧ ∃ k, w' = W.drewN k) := fun W base g cap ks ms a1 a2 a3 a4 => keptR_any nx v base g cap ks ms W a1 a2 a3 (h.below a4) (by omega) (fun r hx => by have := hr r hx; omega)
      have HKI : Hid (∀ (W : World) (base g cap : Nat), LentAt W base g cap l → Below w.heap.size w W → Calls Tryz.prog 13 #[.slice (some ⟨g, 0, none⟩) l.length cap, lv] W fun e w' => e = .returned (.bool true) ∧ ∃ k, w' = W.drewN k) := fun W base g cap a1 a2 => kept_any l lv base g cap W a1 (hl.below a2) (by omega)
      have HOR : Hid (∀ (W : World) (base g cap : Nat) (ks : List (List Int × Nat × Nat)) (ms : List Nat), LR W base (.slice (some ⟨g, 0, none⟩) (nx.length + 12) cap) ks ms → ks.map (fun k => k.1) = nx → ms.length = 12 → Calls Tryz.prog 14 #[.slice (some ⟨g, 0, none⟩) nx.length cap] W fun e w' => e = .returned (.tuple #[]) ∧ Only W w' (LRS g ks)) := fun W base g cap ks ms a1 a2 a3 => overR_any nx base g cap ks ms W a1 a2 a3 (by omega) (fun r hx => by have := hr r hx; omega)
      have HOI : Hid (∀ (W : World) (base g cap : Nat), LentAt W base g cap l → Calls Tryz.prog 15 #[.slice (some ⟨g, 0, none⟩) l.length cap] W fun e w' => e = .returned (.tuple #[]) ∧ But W w' g) := fun W base g cap a1 => over_any2 l base g cap W a1 (by omega)
      have HRT : Hid (∀ W, Below w.heap.size w W → _) := fun W hb => rtreeK g1 v W (h.below hb)
      have HRU : Hid (∀ W, Below w.heap.size w W → _) := fun W hb => runderK h6 lv W (hl.below hb)
      have HSR : Hid _ := sameR_yes2
      have HSI : Hid _ := sameI_yes2
      have HNL : Hid (∀ (W : World) (g cap : Nat) (ks : List (List Int × Nat × Nat)) (ms : List Nat) (base : Nat), LR W base (.slice (some ⟨g, 0, none⟩) (nx.length + 12) cap) ks ms → ks.map (fun k => k.1) = nx → ms.length = 12 → NetAt W (.slice (some ⟨g, 0, none⟩) nx.length cap) nx) := fun W g cap ks ms base a1 a2 a3 => a1.net a2 a3 (by omega) (fun r hx => by have := hr r hx; omega)
      have HS2 : Hid (∀ r ∈ underT l, r.length ≤ 100000) := fun r hx => by have := hs2 r hx; omega
      have S1 : True := trivial
      have S2 : True := trivial
      have S3 : True := trivial
      have S4 : True := trivial
      subst hve
      subst hle
      clear hb h hl hr hs2 g2
      go_enter Tryz.func3, Tryz.ntmps3
      go_wp2_with (first
        | (go_at_call 5; go_loud (refine Calls.mono (by exact HG.out) ?_; rintro e wg ⟨rfl, hwg⟩; have hwg2 := hwg.symm; subst hwg2; clear hwg))
        | (go_at_call 7; go_loud (refine Calls.mono (by exact HLR.out) ?_; rintro e w1 ⟨g, cap, ks, ms, rfl, h11, h12, h13, h14⟩; have L1 : Hid (LR w1 w.heap.size (.slice (some ⟨g, 0, none⟩) (nx.length + 12) cap) ks ms) := h11; have K1 : Hid (ks.map (fun k => k.1) = nx) := h12; have M1 : Hid (ms.length = 12) := h13; have B1 : Hid (Below w.heap.size w w1) := h14; clear h11 h12 h13 h14))
        | (go_at_call 8; go_loud (refine Calls.mono (by exact HLI.out w1 B1.out) ?_; rintro e w2 ⟨g2, cap2, rfl, h21, h22⟩; have L2 : Hid (LentAt w2 w1.heap.size g2 cap2 l) := h21; have B2 : Hid (Below w1.heap.size w1 w2) := h22; have N2 : Hid (NetAt w2 (.slice (some ⟨g, 0, none⟩) nx.length cap) nx) := (HNL.out w1 g cap ks ms _ L1.out K1.out M1.out).below h22; clear h21 h22))
        | (go_at_call 9; clear S1; go_loud (refine Calls.mono (by exact HTR.out w2 _ N2.out) ?_; rintro e w3 ⟨va, rfl, h31, h32⟩; obtain ⟨a1, c1, hva, _⟩ := own_slK h31; subst hva; have A3 : Hid (OwnI w3 w2.heap.size (.slice a1 (trR nx).length c1) (trR nx)) := h31; have B3 : Hid (Below w2.heap.size w2 w3) := h32; have N3 : Hid (NetAt w3 (.slice (some ⟨g, 0, none⟩) nx.length cap) nx) := N2.out.below h32; clear h31 h32))
        | (go_at_call 9; go_loud (refine Calls.mono (by exact HTR.out w3 _ N3.out) ?_; rintro e w4 ⟨vb, rfl, h41, h42⟩; obtain ⟨a2, c2, hvb, _⟩ := own_slK h41; subst hvb; have A4 : Hid (OwnI w4 w3.heap.size (.slice a2 (trR nx).length c2) (trR nx)) := h41; have B4 : Hid (Below w3.heap.size w3 w4) := h42; have I4 : Hid (IntsAt w4 (.slice (some ⟨g2, 0, none⟩) l.length cap2) l) := ((L2.out.ints (by omega)).below B3.out).below h42; clear h41 h42))
        | (go_at_call 10; clear S2; go_loud (refine Calls.mono (by exact HUN.out w4 _ I4.out) ?_; rintro e w5 ⟨vx, kvx, rfl, h51, h52⟩; obtain ⟨a3, c3, hvx, _⟩ := own_slK h51.own; subst hvx; have X5 : Hid (RK w5 w4.heap.size (.slice a3 (underT l).length c3) kvx (underT l)) := h51; have B5 : Hid (Below w4.heap.size w4 w5) := h52; have I5 : Hid (IntsAt w5 (.slice (some ⟨g2, 0, none⟩) l.length cap2) l) := I4.out.below h52; clear h51 h52))
        | (go_at_call 10; go_loud (refine Calls.mono (by exact HUN.out w5 _ I5.out) ?_; rintro e w6 ⟨vy, kvy, rfl, h61, h62⟩; obtain ⟨a4, c4, hvy, _⟩ := own_slK h61.own; subst hvy; have Y6 : Hid (RK w6 w5.heap.size (.slice a4 (underT l).length c4) kvy (underT l)) := h61; have B6 : Hid (Below w5.heap.size w5 w6) := h62; have I6 : Hid (IntsAt w6 (.slice (some ⟨g2, 0, none⟩) l.length cap2) l) := I5.out.below h62; have B26 : Hid (Below w2.heap.size w2 w6) := below_trans (below_trans (below_trans B3.out B4.out) B5.out) h62; have W6 : Hid (Below w.heap.size w w6) := below_trans (below_trans B1.out B2.out) B26.out; have L6 : Hid (LR w6 w.heap.size (.slice (some ⟨g, 0, none⟩) (nx.length + 12) cap) ks ms) := (L1.out.below B2.out).below B26.out; have LI6 : Hid (LentAt w6 w1.heap.size g2 cap2 l) := L2.out.below B26.out; clear h61 h62))
        | (go_at_call 11; go_loud (refine Calls.mono (by exact HOV.out w6 _ I6.out) ?_; rintro e w66 ⟨rfl, h661⟩; have B66 : Hid (Below w6.heap.size w6 w66) := below_of_drew h661; clear h661))
        | (go_at_call 12; go_loud (refine Calls.mono (by exact HKR.out w66 _ g cap ks ms (L6.out.below B66.out) K1.out M1.out (below_trans W6.out B66.out)) ?_; rintro e w7 ⟨rfl, h71⟩; have B7 : Hid (Below w6.heap.size w6 w7) := below_trans B66.out (below_of_drew h71); clear h71))
        | (go_at_call 13; go_loud (refine Calls.mono (by exact HKI.out w7 _ g2 cap2 (LI6.out.below B7.out) (below_trans W6.out B7.out)) ?_; rintro e w8 ⟨rfl, h81⟩; have B8 : Hid (Below w6.heap.size w6 w8) := below_trans B7.out (below_of_drew h81); clear h81))
        | (go_at_call 14; go_loud (refine Calls.mono (by exact HOR.out w8 _ g cap ks ms (L6.out.below B8.out) K1.out M1.out) ?_; rintro e w9 ⟨rfl, h91⟩; have O9 : Hid (Only w8 w9 (LRS g ks)) := h91; clear h91))
        | (go_at_call 15; go_loud (refine Calls.mono (by exact HOI.out w9 _ g2 cap2 ((LI6.out.below B8.out).same (O9.out.same g2 (LI6.out.below B8.out).room.2.2.2 (fun hc => by have h1 := (L1.out.blocks2 g2 hc).2; have h2 := L2.out.room.2.2.1; omega)))) ?_; rintro e w10 ⟨rfl, h101⟩; have O10 : Hid (But w9 w10 g2) := h101; clear h101)))
      have W8 : Hid (Below w.heap.size w w8) := below_trans W6.out B8.out
      have BV : Hid (Below w.heap.size w w10) := (W8.out.trans (O9.out.below W8.out.size (fun k hk => (L1.out.blocks2 k hk).1))).trans (O10.out.low.mono (by have := L2.out.room.2.2.1; have := B1.out.size; omega))
      have AB : Hid (Above w2.heap.size w8 w10) := (Above.only O9.out (fun k hk => by have := (L1.out.blocks2 k hk).2; have := B2.out.size; omega)).trans (Above.but O10.out L2.out.room.2.2.2)
      have AB3 : Hid (Above w2.heap.size w3 w10) := (Above.of (below_trans (below_trans (below_trans B4.out B5.out) B6.out) B8.out)).trans AB.out
      have AB4 : Hid (Above w2.heap.size w4 w10) := (Above.of (below_trans (below_trans B5.out B6.out) B8.out)).trans AB.out
      have AB5 : Hid (Above w2.heap.size w5 w10) := (Above.of (below_trans B6.out B8.out)).trans AB.out
      have AB6 : Hid (Above w2.heap.size w6 w10) := (Above.of B8.out).trans AB.out
      have z3 := B3.out.size
      have z4 := B4.out.size
      have z5 := B5.out.size
      have A10 : Hid (OwnI w10 w2.heap.size (.slice a1 (trR nx).length c1) (trR nx)) := AB3.out.own A3.out (Nat.le_refl _)
      have C10 : Hid (OwnI w10 w3.heap.size (.slice a2 (trR nx).length c2) (trR nx)) := AB4.out.own A4.out z3
      have X10 : Hid _ := RK.above AB5.out X5.out (by omega)
      have Y10 : Hid _ := RK.above AB6.out Y6.out (by omega)
      have hw1 : w.heap.size ≤ w2.heap.size := Nat.le_trans B1.out.size B2.out.size
      have HRI : Hid (∀ W15 : World, Below w10.heap.size w10 W15 → Calls Tryz.prog 20 #[.slice (some ⟨W15.heap.size, 0, none⟩) 2 2] (W15.alloc (.cells #[.slice a1 (trR nx).length c1, .slice a2 (trR nx).length c2] 23)) fun e w' => e = .returned (.bool true) ∧ Only (W15.alloc (.cells #[.slice a1 (trR nx).length c1, .slice a2 (trR nx).length c2] 23)) w' (fun k => w2.heap.size ≤ k ∧ k < w4.heap.size)) := fun W15 hb => by
        have hbb : Below w10.heap.size w10 (W15.alloc (.cells #[.slice a1 (trR nx).length c1, .slice a2 (trR nx).length c2] 23)) := below_alloc hb _
        have hA := two_apart2 A3.out (Nat.le_refl _) (owns_below A10.out hbb) (owns_below C10.out hbb) z3 (by omega)
        have hbx := Box.new W15 [.slice a1 (trR nx).length c1, .slice a2 (trR nx).length c2] 23
        have h46 : w4.heap.size ≤ W15.heap.size := Nat.le_trans AB4.out.size hb.size
        refine (apartI_any flat_ok w2.heap.size W15.heap.size 0 2 _ _ _ (by simp; omega) (by simp) (fun j u hj => by rw [Nat.zero_add]; exact hbx.cell j u hj) (by simp) hA).mono fun e w' hh => ⟨hh.1, hh.2.mono fun g _ hg => ?_⟩
        obtain ⟨x, hxm, hg⟩ := hg
        rcases List.mem_cons.1 hxm with rfl | hxm
        · have := World.ownsRow.lt A3.out g hg; omega
        rcases List.mem_cons.1 hxm with rfl | hxm
        · have := World.ownsRow.lt A4.out g hg; omega
        · cases hxm
      have HRA : Hid (∀ W16 : World, Above w4.heap.size w10 W16 → Calls Tryz.prog 21 #[.slice (some ⟨W16.heap.size, 0, none⟩) 2 2] (W16.alloc (.cells #[.slice a3 (underT l).length c3, .slice a4 (underT l).length c4] 22)) fun e w' => e = .returned (.bool true) ∧ Only (W16.alloc (.cells #[.slice a3 (underT l).length c3, .slice a4 (underT l).length c4] 22)) w' (fun k => w4.heap.size ≤ k)) := fun W16 ha => by
        have hb := below_alloc (Below.refl _ W16) (.cells #[.slice a3 (underT l).length c3, .slice a4 (underT l).length c4] 22)
        have r1 := RK.above (ha.trans (Above.of hb)) X10.out (Nat.le_refl _)
        have r2 := RK.above (ha.trans (Above.of hb)) Y10.out z5
        have q1 := X10.out.lt
        have q2 := Y10.out.lt
        have hx := Box.new W16 [.slice a3 (underT l).length c3, .slice a4 (underT l).length c4] 22
        have hsz := ha.size
        have h46 : w4.heap.size ≤ w10.heap.size := AB4.out.size
        have hbl : ∀ g, ((Value.slice a3 (underT l).length c3).ownBlock = some g ∨ (Value.slice a4 (underT l).length c4).ownBlock = some g ∨ (∃ x ∈ kvx ++ kvy, x.ownBlock = some g)) → w4.heap.size ≤ g ∧ g < w10.heap.size := fun g hg => by
          rcases hg with hg | hg | ⟨x, hxm, hg⟩
          · have := q1.1 g hg; omega
          · have := q2.1 g hg; omega
          · rcases List.mem_append.1 hxm with hxm | hxm
            · have := q1.2 x hxm g hg; omega
            · have := q2.2 x hxm g hg; omega
        have hRA := RK.two (gL := W16.heap.size) X5.out (Nat.le_refl _) r1 r2 z5 (by simp; omega) (by simp) HS2.out (hx.cell 0 _ rfl) (hx.cell 1 _ rfl) (fun g hg => by have := hbl g hg; omega)
        refine (apartR_any hRA (by decide) (fun k _ => by show (underT l).length ≤ 1000; omega)).mono fun e w' hh => ⟨hh.1, hh.2.mono fun g _ hg => (hbl g ?_).1⟩
        rcases hg with ⟨x, hxm, hg⟩ | ⟨k, hk, hg⟩
        · exact .inr (.inr ⟨x, hxm, hg⟩)
        · rcases k with _ | _ | k
          · exact .inl hg
          · exact .inr (.inl hg)
          · omega
      clear HLR HLI HTR HUN HOV HKR HKI HOR HOI HNL L6 LI6 L1 L2 O9 O10 N2 N3 I4 I5 I6 K1 M1 HG
      go_wp2_with (first
        | (go_at_call 16; go_loud (refine Calls.mono (by exact HRT.out w10 BV.out) ?_; rintro e w11 ⟨wv, rfl, h111, h112⟩; have WV : Hid (IntsAt w11 wv (trR nx)) := h111; have B11 : Hid (Below w10.heap.size w10 w11) := h112; clear h111 h112))
        | (go_at_call 17; go_loud (refine Calls.mono (by exact HRU.out w11 (below_trans BV.out B11.out)) ?_; rintro e w12 ⟨jv, rfl, h121, h122⟩; have JV : Hid (NetAt w12 jv (underT l)) := h121; have B12 : Hid (Below w10.heap.size w10 w12) := below_trans B11.out h122; have WV2 : Hid (IntsAt w12 wv (trR nx)) := WV.out.below h122; clear h121 h122))
        | (go_at_call 18; clear S3; go_loud (refine Calls.mono (by exact HSI.out (trR nx) _ _ w12 (OwnI.at' (owns_below A10.out B12.out) (by omega)) WV2.out) ?_; rintro e w13 ⟨rfl, h131⟩; have B13 : Hid (Below w12.heap.size w12 w13) := below_of_drew h131; clear h131))
        | (go_at_call 18; go_loud (refine Calls.mono (by exact HSI.out (trR nx) _ _ w13 (OwnI.at' (owns_below C10.out (below_trans B12.out B13.out)) (by omega)) (WV2.out.below B13.out)) ?_; rintro e w14 ⟨rfl, h141⟩; have B14 : Hid (Below w12.heap.size w12 w14) := below_trans B13.out (below_of_drew h141); clear h141))
        | (go_at_call 19; clear S4; go_loud (refine Calls.mono (by exact HSR.out (underT l) _ _ w14 ((RK.above (Above.of (below_trans B12.out B14.out)) X10.out (Nat.le_refl _)).net (by omega) HS2.out) (JV.out.below B14.out)) ?_; rintro e w15 ⟨rfl, h151⟩; have B15 : Hid (Below w12.heap.size w12 w15) := below_trans B14.out (below_of_drew h151); clear h151))
        | (go_at_call 19; go_loud (refine Calls.mono (by exact HSR.out (underT l) _ _ w15 ((RK.above (Above.of (below_trans B12.out B15.out)) Y10.out (Nat.le_refl _)).net (by omega) HS2.out) (JV.out.below B15.out)) ?_; rintro e w155 ⟨rfl, h1551⟩; have B155 : Hid (Below w10.heap.size w10 w155) := below_trans B12.out (below_trans B15.out (below_of_drew h1551)); clear h1551))
        | (go_at_call 20; go_loud (refine Calls.mono (by exact HRI.out w155 B155.out) ?_; rintro e w16 ⟨rfl, h161⟩; have O16 : Hid _ := h161; clear h161))
        | (go_at_call 21; go_loud (refine Calls.mono (by exact HRA.out w16 ((Above.of (below_alloc B155.out _)).trans (Above.only O16.out (fun k hk => hk.2)))) ?_; rintro e w17 ⟨rfl, h171⟩; have O17 : Hid _ := h171; clear h171))
        | (go_at_call 6; go_loud (refine Calls.mono (by exact HA.out _) ?_; rintro e w18 ⟨rfl, h181⟩; have B18 : Hid (Below w17.heap.size w17 w18) := h181; clear h181)))
      go_ret
      have f1 : Below w.heap.size w (w155.alloc (.cells #[.slice a1 (trR nx).length c1, .slice a2 (trR nx).length c2] 23)) := below_alloc (below_trans BV.out B155.out) _
      have f2 : Below w.heap.size w w16 := f1.trans (O16.out.below f1.size (fun k hk => by omega))
      have f3 : Below w.heap.size w (w16.alloc (.cells #[.slice a3 (underT l).length c3, .slice a4 (underT l).length c4] 22)) := below_alloc f2 _
      have f4 : Below w.heap.size w w17 := f3.trans (O17.out.below f3.size (fun k hk => by omega))
      exact ⟨rfl, below_trans f4 B18.out⟩
    · have h6' : (300 : Int) < l.length := by omega
      subst hve
      subst hle
      clear hb h hl
      go_enter Tryz.func3, Tryz.ntmps3
      go_wp2_with (first | (go_at_call 5; go_loud (refine Calls.mono (by exact HG.out) ?_; rintro e wg ⟨rfl, hwg⟩; have hwg2 := hwg.symm; subst hwg2)) | (go_at_call 6; go_loud (refine Calls.mono (by exact HA.out _) ?_; rintro e w4 ⟨rfl, hb4⟩; have HB4 : Hid _ := hb4; clear hb4)))
      go_ret
      exact ⟨rfl, HB4.out⟩
  · rw [hb] at HG
    subst hve
    subst hle
    clear hb h hl
    go_enter Tryz.func3, Tryz.ntmps3
    go_wp2_with (first | (go_at_call 5; go_loud (refine Calls.mono (by exact HG.out) ?_; rintro e wg ⟨rfl, hwg⟩; have hwg2 := hwg.symm; subst hwg2)) | (go_at_call 6; go_loud (refine Calls.mono (by exact HA.out _) ?_; rintro e w4 ⟨rfl, hb4⟩; have HB4 : Hid _ := hb4; clear hb4)))
    go_ret
    exact ⟨rfl, HB4.out⟩
end Go.Proofs.YtogjjmbcbnceoaaGreat
