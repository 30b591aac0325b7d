/- What is fixed, given what the program's functions do. -/
import Derived.Test.YtogjjmbcbnceoaaGreatDNet
namespace Go.Proofs.YtogjjmbcbnceoaaGreat
open Go.RowKit

theorem ints_lit (W : World) (l : List Int) (h : l.length ≤ 1000) : IntsAt (W.alloc (.cells (l.map intV).toArray 3)) (.slice (some ⟨W.heap.size, 0, none⟩) l.length l.length) l :=
  row_lit (t := 3) l.length (heap_alloc_new W _) h
theorem under_lit (W : World) : NetAt ((W.alloc (.cells #[intV 1, intV 2, intV 3] 3)).alloc (.cells #[.slice (some ⟨W.heap.size, 0, none⟩) 3 3, .slice none 0 0, .slice none 0 0, .slice none 0 0, .slice none 0 0] 23)) (.slice (some ⟨W.heap.size + 1, 0, none⟩) 5 5) [[1, 2, 3], [], [], [], []] := by
  have h1 : (W.alloc (.cells #[intV 1, intV 2, intV 3] 3)).heap.size = W.heap.size + 1 := by simp
  have g1 := heap_alloc_new (W.alloc (.cells #[intV 1, intV 2, intV 3] 3)) (.cells #[.slice (some ⟨W.heap.size, 0, none⟩) 3 3, .slice none 0 0, .slice none 0 0, .slice none 0 0, .slice none 0 0] 23)
  rw [h1] at g1
  refine ⟨[.slice (some ⟨W.heap.size, 0, none⟩) 3 3, .slice none 0 0, .slice none 0 0, .slice none 0 0, .slice none 0 0], rfl, row_lit (t := 23) 5 g1 (by omega), fun i r kv hr hk => ?_⟩
  rcases i with _ | _ | _ | _ | _ | i
  · cases hr; cases hk
    exact (ints_lit W [1, 2, 3] (by decide)).below (below_alloc (Below.refl _ _) _)
  · cases hr; cases hk; exact row_nil _ _
  · cases hr; cases hk; exact row_nil _ _
  · cases hr; cases hk; exact row_nil _ _
  · cases hr; cases hk; exact row_nil _ _
  · simp at hr
set_option maxRecDepth 100000 in
set_option maxHeartbeats 2000000 in
theorem awake_any (hT : TreeOk netL) (hO : OverOk) (hU : UnderOk [-1, 0, 0, 0, -1]) (w : World) : Calls Tryz.prog 6 #[] w fun e w' => e = .returned (.bool true) ∧ Below w.heap.size w w' := by
  have HT : Hid (∀ (v : Value) (W : World), NetAt W v netL → Calls Tryz.prog 9 #[v] W fun e w' => (∃ v', e = .returned (.tuple #[v', .int .i64 0]) ∧ IntsAt w' v' [-1, 0, 0, 0, -1]) ∧ Below W.heap.size W w') := fun v W h => (hT v W h).mono fun e w' hh => by
    obtain ⟨v', e1, h2⟩ := hh.1 net_may
    rw [net_tree] at h2
    exact ⟨⟨v', e1, h2.at' (by decide)⟩, hh.2.2⟩
  have HO1 : Hid (∀ (v : Value) (W : World), IntsAt W v [-1, 0, 0, 0, -1] → Calls Tryz.prog 11 #[v, .int .i64 0, .int .i64 3] W fun e w' => e = .returned (.bool true) ∧ ∃ k, w' = W.drewN k) := fun v W h => hO _ 0 3 v W h
  have HO2 : Hid (∀ (v : Value) (W : World), IntsAt W v [-1, 0, 0, 0, -1] → Calls Tryz.prog 11 #[v, .int .i64 1, .int .i64 3] W fun e w' => e = .returned (.bool false) ∧ ∃ k, w' = W.drewN k) := fun v W h => hO _ 1 3 v W h
  have HU : Hid (∀ (v : Value) (W : World), IntsAt W v [-1, 0, 0, 0, -1] → Calls Tryz.prog 10 #[v] W fun e w' => ∃ v', e = .returned v' ∧ NetAt w' v' [[1, 2, 3], [], [], [], []] ∧ Below W.heap.size W w') := fun v W h => hU v W h
  have HS : Hid (∀ (v1 v2 : Value) (W : World), IntsAt W v1 [-1, 0, 0, 0, -1] → IntsAt W v2 [-1, 0, 0, 0, -1] → Calls Tryz.prog 18 #[v1, v2] W fun e w' => e = .returned (.bool true) ∧ ∃ k, w' = W.drewN k) := fun v1 v2 W h1 h2 => sameI_any _ _ v1 v2 W h1 h2
  have HR : Hid (∀ (v1 v2 : Value) (W : World), NetAt W v1 [[1, 2, 3], [], [], [], []] → NetAt W v2 [[1, 2, 3], [], [], [], []] → Calls Tryz.prog 19 #[v1, v2] W fun e w' => e = .returned (.bool true) ∧ ∃ k, w' = W.drewN k) := fun v1 v2 W h1 h2 => sameR_any _ _ v1 v2 W h1 h2
  have HN : Hid _ := net_any w
  have HL : Hid (∀ W : World, IntsAt (W.alloc (.cells #[.int .i64 (-1), .int .i64 0, .int .i64 0, .int .i64 0, .int .i64 (-1)] 3)) (.slice (some ⟨W.heap.size, 0, none⟩) 5 5) [-1, 0, 0, 0, -1]) := fun W => ints_lit W [-1, 0, 0, 0, -1] (by decide)
  have HUL : Hid _ := under_lit
  have S1 : True := trivial
  clear hT hO hU
  go_enter Tryz.func6, Tryz.ntmps6
  go_wp2_with (first
    | (go_at_call 28; go_loud (refine Calls.mono (by exact HN.out) ?_; rintro e w0 ⟨v0, rfl, hn0, hb0⟩; have HN0 : Hid _ := hn0; have HB0 : Hid _ := hb0; clear hn0 hb0))
    | (go_at_call 9; go_loud (refine Calls.mono (by exact HT.out _ _ HN0.out) ?_; rintro e w1 ⟨⟨v1, rfl, hi1⟩, hb1⟩; have HI1 : Hid _ := hi1; have HB1 : Hid (Below w.heap.size w w1) := below_trans HB0.out hb1; clear hi1 hb1))
    | (go_at_call 18; go_loud (refine Calls.mono (by exact HS.out _ _ _ (HI1.out.below (below_alloc (Below.refl _ _) _)) (HL.out w1)) ?_; rintro e w2 ⟨rfl, hd2⟩; have HB2 : Hid (Below w1.heap.size w1 w2) := below_trans (below_alloc (Below.refl _ _) _) (below_of_drew hd2); have HI2 : Hid (IntsAt w2 v1 [-1, 0, 0, 0, -1]) := HI1.out.below HB2.out; clear hd2))
    | (go_at_call 11; clear S1; go_loud (refine Calls.mono (by exact HO1.out _ _ HI2.out) ?_; rintro e w3 ⟨rfl, hd3⟩; have HB3 : Hid (Below w2.heap.size w2 w3) := below_of_drew hd3; have HI3 : Hid (IntsAt w3 v1 [-1, 0, 0, 0, -1]) := HI2.out.below HB3.out; clear hd3))
    | (go_at_call 11; go_loud (refine Calls.mono (by exact HO2.out _ _ HI3.out) ?_; rintro e w4 ⟨rfl, hd4⟩; have HB4 : Hid (Below w3.heap.size w3 w4) := below_of_drew hd4; have HI4 : Hid (IntsAt w4 v1 [-1, 0, 0, 0, -1]) := HI3.out.below HB4.out; clear hd4))
    | (go_at_call 10; go_loud (refine Calls.mono (by exact HU.out _ _ HI4.out) ?_; rintro e w5 ⟨v5, rfl, hn5, hb5⟩; have HN5 : Hid _ := hn5; have HB5 : Hid (Below w4.heap.size w4 w5) := hb5; clear hn5 hb5))
    | (go_at_call 19; go_loud (refine Calls.mono (by exact HR.out _ _ _ (HN5.out.below (below_alloc (below_alloc (Below.refl _ _) _) _)) (HUL.out w5)) ?_; rintro e w6 ⟨rfl, hd6⟩; have HB6 : Hid (Below w5.heap.size w5 w6) := below_trans (below_alloc (below_alloc (Below.refl _ _) _) _) (below_of_drew hd6); clear hd6)))
  go_ret
  exact ⟨rfl, below_trans (below_trans (below_trans (below_trans (below_trans HB1.out HB2.out) HB3.out) HB4.out) HB5.out) HB6.out⟩
end Go.Proofs.YtogjjmbcbnceoaaGreat
