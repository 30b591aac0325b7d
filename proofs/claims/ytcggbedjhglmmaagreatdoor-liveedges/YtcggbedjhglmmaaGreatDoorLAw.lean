/- The law LiveNumbers: its run. -/
import Derived.Test.YtcggbedjhglmmaaGreatDoorLClsN
import Derived.Test.YtcggbedjhglmmaaGreatDoorLRbM
namespace Go.Proofs.YtcggbedjhglmmaaGreatDoor
open Go.RowKit

theorem sameI_yes (xs : List Int) (v1 v2 : Value) (W : World) (h1 : IntsAt W v1 xs) (h2 : IntsAt W v2 xs) : Calls Tryz.prog 27 #[v1, v2] W fun e w' => e = .returned (.bool true) ∧ ∃ k, w' = W.drewN k := by
  have := sameI_any xs xs v1 v2 W h1 h2
  rwa [decide_eq_true rfl] at this
theorem sameR_yes (xs : List (List Int)) (v1 v2 : Value) (W : World) (h1 : NetAt W v1 xs) (h2 : NetAt W v2 xs) : Calls Tryz.prog 9 #[v1, v2] W fun e w' => e = .returned (.bool true) ∧ ∃ k, w' = W.drewN k := by
  have := sameR_any xs xs v1 v2 W h1 h2
  rwa [decide_eq_true rfl] at this
theorem lit_a (W : World) : NetAt ((W.alloc (.cells #[.int .i64 0] 3)).alloc (.cells #[.slice (some ⟨W.heap.size, 0, none⟩) 1 1] 22)) (.slice (some ⟨W.heap.size + 1, 0, none⟩) 1 1) ([[0]] : List (List Int)) := by
  have g := fun k o (h : ([.cells #[.int .i64 0] 3, .cells #[.slice (some ⟨W.heap.size, 0, none⟩) 1 1] 22] : List Obj)[k]? = some o) => allocs_get [.cells #[.int .i64 0] 3, .cells #[.slice (some ⟨W.heap.size, 0, none⟩) 1 1] 22] W k o h
  refine ⟨[.slice (some ⟨W.heap.size, 0, none⟩) 1 1], rfl, row_lit (t := 22) 1 (g 1 _ rfl) (by omega), fun i r kv hr hk => ?_⟩
  rcases i with _ | i
  · cases hr; cases hk; exact row_lit (t := 3) 1 (g 0 _ rfl) (by omega)
  · simp at hr
theorem lit_b (W : World) : NetAt (W.alloc (.cells #[.slice none 0 0] 22)) (.slice (some ⟨W.heap.size, 0, none⟩) 1 1) ([[]] : List (List Int)) := by
  have g := fun k o (h : ([.cells #[.slice none 0 0] 22] : List Obj)[k]? = some o) => allocs_get [.cells #[.slice none 0 0] 22] W k o h
  refine ⟨[.slice none 0 0], rfl, row_lit (t := 22) 1 (g 0 _ rfl) (by omega), fun i r kv hr hk => ?_⟩
  rcases i with _ | i
  · cases hr; cases hk; exact row_nil _ _
  · simp at hr
theorem lit_c (W : World) : NetAt (((((W.alloc (.cells #[.int .i64 0] 3)).alloc (.cells #[.int .i64 0, .int .i64 1, .int .i64 2] 3)).alloc (.cells #[.int .i64 2] 3)).alloc (.cells #[.int .i64 2] 3)).alloc (.cells #[.slice (some ⟨W.heap.size, 0, none⟩) 1 1, .slice (some ⟨W.heap.size + 1, 0, none⟩) 3 3, .slice (some ⟨W.heap.size + 2, 0, none⟩) 1 1, .slice none 0 0, .slice (some ⟨W.heap.size + 3, 0, none⟩) 1 1] 22)) (.slice (some ⟨W.heap.size + 4, 0, none⟩) 5 5) ([[0], [0, 1, 2], [2], [], [2]] : List (List Int)) := by
  have g := fun k o (h : ([.cells #[.int .i64 0] 3, .cells #[.int .i64 0, .int .i64 1, .int .i64 2] 3, .cells #[.int .i64 2] 3, .cells #[.int .i64 2] 3, .cells #[.slice (some ⟨W.heap.size, 0, none⟩) 1 1, .slice (some ⟨W.heap.size + 1, 0, none⟩) 3 3, .slice (some ⟨W.heap.size + 2, 0, none⟩) 1 1, .slice none 0 0, .slice (some ⟨W.heap.size + 3, 0, none⟩) 1 1] 22] : List Obj)[k]? = some o) => allocs_get [.cells #[.int .i64 0] 3, .cells #[.int .i64 0, .int .i64 1, .int .i64 2] 3, .cells #[.int .i64 2] 3, .cells #[.int .i64 2] 3, .cells #[.slice (some ⟨W.heap.size, 0, none⟩) 1 1, .slice (some ⟨W.heap.size + 1, 0, none⟩) 3 3, .slice (some ⟨W.heap.size + 2, 0, none⟩) 1 1, .slice none 0 0, .slice (some ⟨W.heap.size + 3, 0, none⟩) 1 1] 22] W k o h
  refine ⟨[.slice (some ⟨W.heap.size, 0, none⟩) 1 1, .slice (some ⟨W.heap.size + 1, 0, none⟩) 3 3, .slice (some ⟨W.heap.size + 2, 0, none⟩) 1 1, .slice none 0 0, .slice (some ⟨W.heap.size + 3, 0, none⟩) 1 1], rfl, row_lit (t := 22) 5 (g 4 _ rfl) (by omega), fun i r kv hr hk => ?_⟩
  rcases i with _ | _ | _ | _ | _ | i
  · cases hr; cases hk; exact row_lit (t := 3) 1 (g 0 _ rfl) (by omega)
  · cases hr; cases hk; exact row_lit (t := 3) 3 (g 1 _ rfl) (by omega)
  · cases hr; cases hk; exact row_lit (t := 3) 1 (g 2 _ rfl) (by omega)
  · cases hr; cases hk; exact row_nil _ _
  · cases hr; cases hk; exact row_lit (t := 3) 1 (g 3 _ rfl) (by omega)
  · simp at hr
theorem lit_i (W : World) : NetAt (((((W.alloc (.cells #[.int .i64 0] 3)).alloc (.cells #[.int .i64 0] 3)).alloc (.cells #[.int .i64 2] 3)).alloc (.cells #[.int .i64 2] 3)).alloc (.cells #[.slice (some ⟨W.heap.size, 0, none⟩) 1 1, .slice (some ⟨W.heap.size + 1, 0, none⟩) 1 1, .slice (some ⟨W.heap.size + 2, 0, none⟩) 1 1, .slice none 0 0, .slice (some ⟨W.heap.size + 3, 0, none⟩) 1 1] 22)) (.slice (some ⟨W.heap.size + 4, 0, none⟩) 5 5) ([[0], [0], [2], [], [2]] : List (List Int)) := by
  have g := fun k o (h : ([.cells #[.int .i64 0] 3, .cells #[.int .i64 0] 3, .cells #[.int .i64 2] 3, .cells #[.int .i64 2] 3, .cells #[.slice (some ⟨W.heap.size, 0, none⟩) 1 1, .slice (some ⟨W.heap.size + 1, 0, none⟩) 1 1, .slice (some ⟨W.heap.size + 2, 0, none⟩) 1 1, .slice none 0 0, .slice (some ⟨W.heap.size + 3, 0, none⟩) 1 1] 22] : List Obj)[k]? = some o) => allocs_get [.cells #[.int .i64 0] 3, .cells #[.int .i64 0] 3, .cells #[.int .i64 2] 3, .cells #[.int .i64 2] 3, .cells #[.slice (some ⟨W.heap.size, 0, none⟩) 1 1, .slice (some ⟨W.heap.size + 1, 0, none⟩) 1 1, .slice (some ⟨W.heap.size + 2, 0, none⟩) 1 1, .slice none 0 0, .slice (some ⟨W.heap.size + 3, 0, none⟩) 1 1] 22] W k o h
  refine ⟨[.slice (some ⟨W.heap.size, 0, none⟩) 1 1, .slice (some ⟨W.heap.size + 1, 0, none⟩) 1 1, .slice (some ⟨W.heap.size + 2, 0, none⟩) 1 1, .slice none 0 0, .slice (some ⟨W.heap.size + 3, 0, none⟩) 1 1], rfl, row_lit (t := 22) 5 (g 4 _ rfl) (by omega), fun i r kv hr hk => ?_⟩
  rcases i with _ | _ | _ | _ | _ | i
  · cases hr; cases hk; exact row_lit (t := 3) 1 (g 0 _ rfl) (by omega)
  · cases hr; cases hk; exact row_lit (t := 3) 1 (g 1 _ rfl) (by omega)
  · cases hr; cases hk; exact row_lit (t := 3) 1 (g 2 _ rfl) (by omega)
  · cases hr; cases hk; exact row_nil _ _
  · cases hr; cases hk; exact row_lit (t := 3) 1 (g 3 _ rfl) (by omega)
  · simp at hr
theorem lit_o (W : World) : NetAt (((((W.alloc (.cells #[.int .i64 0, .int .i64 2] 3)).alloc (.cells #[.int .i64 0] 3)).alloc (.cells #[.int .i64 2] 3)).alloc (.cells #[.int .i64 2] 3)).alloc (.cells #[.slice (some ⟨W.heap.size, 0, none⟩) 2 2, .slice (some ⟨W.heap.size + 1, 0, none⟩) 1 1, .slice (some ⟨W.heap.size + 2, 0, none⟩) 1 1, .slice none 0 0, .slice (some ⟨W.heap.size + 3, 0, none⟩) 1 1] 22)) (.slice (some ⟨W.heap.size + 4, 0, none⟩) 5 5) ([[0, 2], [0], [2], [], [2]] : List (List Int)) := by
  have g := fun k o (h : ([.cells #[.int .i64 0, .int .i64 2] 3, .cells #[.int .i64 0] 3, .cells #[.int .i64 2] 3, .cells #[.int .i64 2] 3, .cells #[.slice (some ⟨W.heap.size, 0, none⟩) 2 2, .slice (some ⟨W.heap.size + 1, 0, none⟩) 1 1, .slice (some ⟨W.heap.size + 2, 0, none⟩) 1 1, .slice none 0 0, .slice (some ⟨W.heap.size + 3, 0, none⟩) 1 1] 22] : List Obj)[k]? = some o) => allocs_get [.cells #[.int .i64 0, .int .i64 2] 3, .cells #[.int .i64 0] 3, .cells #[.int .i64 2] 3, .cells #[.int .i64 2] 3, .cells #[.slice (some ⟨W.heap.size, 0, none⟩) 2 2, .slice (some ⟨W.heap.size + 1, 0, none⟩) 1 1, .slice (some ⟨W.heap.size + 2, 0, none⟩) 1 1, .slice none 0 0, .slice (some ⟨W.heap.size + 3, 0, none⟩) 1 1] 22] W k o h
  refine ⟨[.slice (some ⟨W.heap.size, 0, none⟩) 2 2, .slice (some ⟨W.heap.size + 1, 0, none⟩) 1 1, .slice (some ⟨W.heap.size + 2, 0, none⟩) 1 1, .slice none 0 0, .slice (some ⟨W.heap.size + 3, 0, none⟩) 1 1], rfl, row_lit (t := 22) 5 (g 4 _ rfl) (by omega), fun i r kv hr hk => ?_⟩
  rcases i with _ | _ | _ | _ | _ | i
  · cases hr; cases hk; exact row_lit (t := 3) 2 (g 0 _ rfl) (by omega)
  · cases hr; cases hk; exact row_lit (t := 3) 1 (g 1 _ rfl) (by omega)
  · cases hr; cases hk; exact row_lit (t := 3) 1 (g 2 _ rfl) (by omega)
  · cases hr; cases hk; exact row_nil _ _
  · cases hr; cases hk; exact row_lit (t := 3) 1 (g 3 _ rfl) (by omega)
  · simp at hr
/-- what lies ready in every world: the tables -/
def Tabs (w : World) : Prop := PartsAt w ∧ TzAt w
theorem Tabs.below {w w' : World} (h : Tabs w) (hb : Below w.heap.size w w') : Tabs w' := ⟨h.1.below hb, h.2.below hb⟩
theorem live_no (G : Gr) (pv vv av bv : Value) (w : World) (hg : GrAt w pv vv av bv G) (hT : Tabs w) (hsz : szB G.blocks ≤ 300000) (hnb : G.blocks.length ≤ 100000) (hnv : G.vars.length ≤ 800000) (ha : aloneG G = false) :
    Calls Tryz.prog 7 #[.agg #[.string G.name, pv, .int .u8 G.result, vv, av, bv]] w fun e w' => e = .returned (.tuple #[.slice none 0 0, .slice none 0 0, .int .i64 4]) ∧ Below w.heap.size w w' :=
  (live_any G pv vv av bv w hg hT.1 hT.2 hsz hnb hnv).mono fun e w' h => by
    obtain ⟨hb, h | h⟩ := h
    · exact ⟨h.2, hb⟩
    · rw [ha] at h; exact absurd h.1 (by decide)
theorem live_yes (G : Gr) (pv vv av bv : Value) (w : World) (hg : GrAt w pv vv av bv G) (hT : Tabs w) (hsz : szB G.blocks ≤ 300000) (hnb : G.blocks.length ≤ 100000) (hnv : G.vars.length ≤ 800000) (ha : aloneG G = true) {f : Nat} (hok : okF G.blocks (aheadT (tms G.blocks)) G.vars.length f = true) :
    Calls Tryz.prog 7 #[.agg #[.string G.name, pv, .int .u8 G.result, vv, av, bv]] w fun e w' => (∃ gA gB, e = .returned (.tuple #[.slice (some ⟨gA, 0, none⟩) G.blocks.length G.blocks.length, .slice (some ⟨gB, 0, none⟩) G.blocks.length G.blocks.length, .int .i64 0]) ∧ NetAt w' (.slice (some ⟨gA, 0, none⟩) G.blocks.length G.blocks.length) (inRows G.blocks (aheadT (tms G.blocks)) G.vars.length f) ∧ NetAt w' (.slice (some ⟨gB, 0, none⟩) G.blocks.length G.blocks.length) (outRows G.blocks (aheadT (tms G.blocks)) G.vars.length f)) ∧ Below w.heap.size w w' :=
  (live_any G pv vv av bv w hg hT.1 hT.2 hsz hnb hnv).mono fun e w' h => by
    obtain ⟨hb, h | ⟨_, gA, gB, ka, kb, he, h1, h2⟩⟩ := h
    · rw [ha] at h; exact absurd h.1 (by decide)
    · have hr := rows_closed ha hok
      rw [hr.1] at h1
      rw [hr.2] at h2
      have hl : ∀ q : Nat → Nat → Bool, ∀ r ∈ (List.range G.blocks.length).map (fun i => ((List.range G.vars.length).filter fun v => q v i).map Int.ofNat), r.length ≤ 140737488355328 := fun q r hr => by
        obtain ⟨i, _, rfl⟩ := List.mem_map.1 hr
        rw [List.length_map]
        exact Nat.le_trans (List.length_filter_le _ _) (by rw [List.length_range]; omega)
      exact ⟨⟨gA, gB, he, h1.at' (by omega) (hl _), h2.at' (by omega) (hl _)⟩, hb⟩
theorem live_small (W : World) (hT : Tabs W) (pv vv av bv : Value) (hg : GrAt W pv vv av bv (mkG insB insC)) : Calls Tryz.prog 7 #[.agg #[.string ⟨#[]⟩, pv, .int .u8 4, vv, av, bv]] W fun e w' => (∃ gA gB, e = .returned (.tuple #[.slice (some ⟨gA, 0, none⟩) 5 5, .slice (some ⟨gB, 0, none⟩) 5 5, .int .i64 0]) ∧ NetAt w' (.slice (some ⟨gA, 0, none⟩) 5 5) [[0], [0], [2], [], [2]] ∧ NetAt w' (.slice (some ⟨gB, 0, none⟩) 5 5) [[0, 2], [0], [2], [], [2]]) ∧ Below W.heap.size W w' := by
  have h := live_yes (mkG insB insC) pv vv av bv W hg hT (by decide) (by decide) (by decide) alone_small (f := 6) ok_small
  have e1 : inRows (mkG insB insC).blocks (aheadT (tms (mkG insB insC).blocks)) (mkG insB insC).vars.length 6 = [[0], [0], [2], [], [2]] := rows_small.1
  have e2 : outRows (mkG insB insC).blocks (aheadT (tms (mkG insB insC).blocks)) (mkG insB insC).vars.length 6 = [[0, 2], [0], [2], [], [2]] := rows_small.2
  rw [e1, e2] at h
  exact h
set_option maxRecDepth 100000 in
set_option maxHeartbeats 4000000 in
theorem awakeL_any (w : World) (hT : Tabs w) : Calls Tryz.prog 6 #[] w fun e w' => e = .returned (.bool true) ∧ Below w.heap.size w w' := by
  have HS : Hid _ := small_any
  have HLV : Hid (Calls Tryz.prog 7 #[.agg #[.string ⟨#[]⟩, .slice (some ⟨w.heap.size + 1, 0, none⟩) 1 1, .int .u8 4, .slice (some ⟨w.heap.size + 2, 0, none⟩) 3 3, .slice none 0 0, .slice (some ⟨w.heap.size + 9, 0, none⟩) 5 5]] (allocs w (objs w.heap.size)) _) := live_small (allocs w (objs w.heap.size)) (hT.below (allocs_below _ _)) _ _ _ _ (small_at w)
  have HAB : Hid _ := allocs_below (objs w.heap.size) w
  have HLI : Hid (∀ W : World, NetAt (((((W.alloc (.cells #[.int .i64 0] 3)).alloc (.cells #[.int .i64 0] 3)).alloc (.cells #[.int .i64 2] 3)).alloc (.cells #[.int .i64 2] 3)).alloc (.cells #[.slice (some ⟨W.heap.size, 0, none⟩) 1 1, .slice (some ⟨W.heap.size + 1, 0, none⟩) 1 1, .slice (some ⟨W.heap.size + 2, 0, none⟩) 1 1, .slice none 0 0, .slice (some ⟨W.heap.size + 3, 0, none⟩) 1 1] 22)) (.slice (some ⟨W.heap.size + 4, 0, none⟩) 5 5) [[0], [0], [2], [], [2]]) := lit_i
  have HLO : Hid (∀ W : World, NetAt (((((W.alloc (.cells #[.int .i64 0, .int .i64 2] 3)).alloc (.cells #[.int .i64 0] 3)).alloc (.cells #[.int .i64 2] 3)).alloc (.cells #[.int .i64 2] 3)).alloc (.cells #[.slice (some ⟨W.heap.size, 0, none⟩) 2 2, .slice (some ⟨W.heap.size + 1, 0, none⟩) 1 1, .slice (some ⟨W.heap.size + 2, 0, none⟩) 1 1, .slice none 0 0, .slice (some ⟨W.heap.size + 3, 0, none⟩) 1 1] 22)) (.slice (some ⟨W.heap.size + 4, 0, none⟩) 5 5) [[0, 2], [0], [2], [], [2]]) := lit_o
  have HSR : Hid _ := sameR_yes
  have S1 : True := trivial
  clear hT
  go_enter Tryz.func6, Tryz.ntmps6
  go_wp2_with (first
    | (go_at_call 16; go_loud (refine Calls.mono (by exact HS.out _) ?_; rintro e w0 ⟨rfl, hw0⟩; have HW0 : Hid _ := hw0; clear hw0))
    | (go_at_call 7; go_loud (refine Calls.mono (by rw [HW0.out]; exact HLV.out) ?_; rintro e w1 ⟨⟨gA, gB, rfl, hi1, ho1⟩, hb1⟩; have HI1 : Hid _ := hi1; have HO1 : Hid _ := ho1; have HB1 : Hid (Below w.heap.size w w1) := below_trans HAB.out hb1; clear hi1 ho1 hb1))
    | (go_at_call 9; clear S1; go_loud (refine Calls.mono (by exact HSR.out _ _ _ _ (HI1.out.below (below_alloc (below_alloc (below_alloc (below_alloc (below_alloc (Below.refl _ _) _) _) _) _) _)) (HLI.out w1)) ?_; rintro e w4 ⟨rfl, hd4⟩; have HA4 : Hid (Below w1.heap.size w1 w4) := below_trans (below_alloc (below_alloc (below_alloc (below_alloc (below_alloc (Below.refl _ _) _) _) _) _) _) (below_of_drew hd4); clear hd4))
    | (go_at_call 9; go_loud (refine Calls.mono (by exact HSR.out _ _ _ _ ((HO1.out.below HA4.out).below (below_alloc (below_alloc (below_alloc (below_alloc (below_alloc (Below.refl _ _) _) _) _) _) _)) (HLO.out w4)) ?_; rintro e w5 ⟨rfl, hd5⟩; have HA5 : Hid (Below w4.heap.size w4 w5) := below_trans (below_alloc (below_alloc (below_alloc (below_alloc (below_alloc (Below.refl _ _) _) _) _) _) _) (below_of_drew hd5); clear hd5)))
  go_ret
  exact ⟨rfl, below_trans (below_trans HB1.out HA4.out) HA5.out⟩
end Go.Proofs.YtcggbedjhglmmaaGreatDoor
