/- Right ends of blocks. -/
import Derived.Test.YtabpnjakfoofpaaGreatDoorGChk3
namespace Go.Proofs.YtabpnjakfoofpaaGreatDoor
open Go.RowKit

def endB (G : Gr) (t : Tm) : Bool :=
  if t.kind = 1 then behindB G.blocks.length t.t0 && (t.arg == 0 && t.t1 == 0 && t.trap == 0)
  else if t.kind = 2 then isOfB G.vars t.arg 1 && behindB G.blocks.length t.t0 && behindB G.blocks.length t.t1 && t.trap == 0
  else if t.kind = 3 then isOfB G.vars t.arg G.result && (t.t0 == 0 && t.t1 == 0 && t.trap == 0)
  else if t.kind = 4 then decide (1 ≤ t.trap) && decide (t.trap ≤ 3) && (t.arg == 0 && t.t0 == 0 && t.t1 == 0)
  else false
theorem box5 {w : World} {b : Nat} {a0 a1 a2 a3 a4 : Value} (h : Box w b [a0, a1, a2, a3, a4]) : w.cell? ⟨b, 0, none⟩ = some a0 ∧ w.cell? ⟨b, 1, none⟩ = some a1 ∧ w.cell? ⟨b, 2, none⟩ = some a2 ∧ w.cell? ⟨b, 3, none⟩ = some a3 ∧ w.cell? ⟨b, 4, none⟩ = some a4 :=
  ⟨h.cell 0 _ rfl, h.cell 1 _ rfl, h.cell 2 _ rfl, h.cell 3 _ rfl, h.cell 4 _ rfl⟩
structure Trio (B : Nat) (g t o : List Value) (w : World) : Prop where
  g : Box w B g
  t : Box w (B + 1) t
  o : Box w (B + 1 + 1) o
theorem Trio.below {B : Nat} {g t o : List Value} {w w' : World} (h : Trio B g t o w) (hb : Below w.heap.size w w') : Trio B g t o w' := ⟨h.g.below hb, h.t.below hb, h.o.below hb⟩
theorem Trio.new (w : World) (g t o : List Value) (tg tt to : TypeId) : Trio w.heap.size g t o (((w.alloc (.cells g.toArray tg)).alloc (.cells t.toArray tt)).alloc (.cells o.toArray to)) := by
  have al : ∀ (W : World) (o : Obj), Below W.heap.size W (W.alloc o) := fun W o => below_alloc (Below.refl _ _) o
  have b0 := Box.new w g tg
  have b1 := Box.new (w.alloc (.cells g.toArray tg)) t tt
  have b2 := Box.new ((w.alloc (.cells g.toArray tg)).alloc (.cells t.toArray tt)) o to
  rw [show (w.alloc (.cells g.toArray tg)).heap.size = w.heap.size + 1 by simp] at b1
  rw [show ((w.alloc (.cells g.toArray tg)).alloc (.cells t.toArray tt)).heap.size = w.heap.size + 1 + 1 by simp] at b2
  exact ⟨(b0.below (al _ _)).below (al _ _), b1.below (al _ _), b2⟩
set_option maxRecDepth 100000 in
set_option maxHeartbeats 2000000 in
theorem end_any (G : Gr) (pv vv av bv : Value) (t : Tm) (w : World) (h : GrAt w pv vv av bv G) :
    Calls Tryz.prog 92 #[.agg #[.string G.name, pv, .int .u8 G.result, vv, av, bv], tmV t] w fun e w' => e = .returned (.bool (endB G t)) ∧ Below w.heap.size w w' := by
  have HOF : Hid (∀ v t W, Below w.heap.size w W → Calls Tryz.prog 98 #[.agg #[.string G.name, pv, .int .u8 G.result, vv, av, bv], .int .i64 v, .int .u8 t] W fun e w' => e = .returned (.bool (isOfB G.vars v t)) ∧ Below W.heap.size W w') := fun v t W hb => isOf_any G pv vv av bv v t W (h.below hb)
  have HBE : Hid (∀ to W, Below w.heap.size w W → Calls Tryz.prog 116 #[.agg #[.string G.name, pv, .int .u8 G.result, vv, av, bv], .int .i64 to] W fun e w' => e = .returned (.bool (behindB G.blocks.length to)) ∧ Below W.heap.size W w') := fun to W hb => behind_any G pv vv av bv to W (h.below hb)
  obtain ⟨pa, pc, va, vc, aa, ac, ba, bc, rfl, rfl, rfl, rfl, _, _, _, _⟩ := h.openF
  have heq := eql_term
  unfold endB
  clear h
  generalize G.name = nm at *
  generalize G.params.length = pl at *
  generalize G.vars.length = vl at *
  generalize G.arrs.length = al at *
  generalize G.blocks.length = bl at *
  generalize G.result = r at *
  obtain ⟨k, a, x, y, z⟩ := t
  have B0 : Hid (∀ (c : Array Value), Below w.heap.size w (((w.alloc (.cells #[.string nm, .slice pa pl pc, .int .u8 r, .slice va vl vc, .slice aa al ac, .slice ba bl bc] 28)).alloc (.cells #[.int .u8 k, .int .i64 a, .int .i64 x, .int .i64 y, .int .u8 z] 38)).alloc (.cells c 38))) := fun c => below_alloc (below_alloc (below_alloc (Below.refl _ _) _) _) _
  dsimp only
  by_cases h1 : k = 1
  · subst h1
    simp only [if_true]
    cases hb : behindB bl x with
    | false =>
      have HB1 : Hid (∀ W, Below w.heap.size w W → Calls Tryz.prog 116 #[.agg #[.string nm, .slice pa pl pc, .int .u8 r, .slice va vl vc, .slice aa al ac, .slice ba bl bc], .int .i64 x] W fun e w' => e = .returned (.bool false) ∧ Below W.heap.size W w') := by intro W hW; rw [← hb]; exact HBE.out x W hW
      clear HBE HOF hb
      go_enter Tryz.func92, Tryz.ntmps92
      go_wp2_with (go_at_call 116; go_loud (refine Calls.mono (by exact HB1.out _ (B0.out _)) ?_; rintro e w1 ⟨rfl, hb1⟩; have HW1 : Hid (Below w.heap.size w w1) := below_trans (B0.out _) hb1; clear hb1))
      go_ret
      exact ⟨ret_bool (by simp), HW1.out⟩
    | true =>
      have HB1 : Hid (∀ W, Below w.heap.size w W → Calls Tryz.prog 116 #[.agg #[.string nm, .slice pa pl pc, .int .u8 r, .slice va vl vc, .slice aa al ac, .slice ba bl bc], .int .i64 x] W fun e w' => e = .returned (.bool true) ∧ Below W.heap.size W w') := by intro W hW; rw [← hb]; exact HBE.out x W hW
      clear HBE HOF hb
      go_enter Tryz.func92, Tryz.ntmps92
      go_wp2_with (go_at_call 116; go_loud (refine Calls.mono (by exact HB1.out _ (B0.out _)) ?_; rintro e w1 ⟨rfl, hb1⟩; obtain ⟨hc1, hf1⟩ := bcell hb1; have HW1 : Hid (Below w.heap.size w w1) := below_trans (B0.out _) hb1; clear hb1))
      go_ret
      exact ⟨ret_bool (by simp), HW1.out⟩
  by_cases h3 : k = 3
  · subst h3
    simp only [if_true, show ¬ ((3 : Int) = 1) by omega, show ¬ ((3 : Int) = 2) by omega, if_false]
    cases hb : isOfB G.vars a r with
    | false =>
      have HB1 : Hid (∀ W, Below w.heap.size w W → Calls Tryz.prog 98 #[.agg #[.string nm, .slice pa pl pc, .int .u8 r, .slice va vl vc, .slice aa al ac, .slice ba bl bc], .int .i64 a, .int .u8 r] W fun e w' => e = .returned (.bool false) ∧ Below W.heap.size W w') := by intro W hW; rw [← hb]; exact HOF.out a r W hW
      clear HBE HOF hb
      go_enter Tryz.func92, Tryz.ntmps92
      go_wp2_with (go_at_call 98; go_loud (refine Calls.mono (by exact HB1.out _ (B0.out _)) ?_; rintro e w1 ⟨rfl, hb1⟩; have HW1 : Hid (Below w.heap.size w w1) := below_trans (B0.out _) hb1; clear hb1))
      go_ret
      exact ⟨ret_bool (by simp), HW1.out⟩
    | true =>
      have HB1 : Hid (∀ W, Below w.heap.size w W → Calls Tryz.prog 98 #[.agg #[.string nm, .slice pa pl pc, .int .u8 r, .slice va vl vc, .slice aa al ac, .slice ba bl bc], .int .i64 a, .int .u8 r] W fun e w' => e = .returned (.bool true) ∧ Below W.heap.size W w') := by intro W hW; rw [← hb]; exact HOF.out a r W hW
      clear HBE HOF hb
      go_enter Tryz.func92, Tryz.ntmps92
      go_wp2_with (go_at_call 98; go_loud (refine Calls.mono (by exact HB1.out _ (B0.out _)) ?_; rintro e w1 ⟨rfl, hb1⟩; obtain ⟨hc1, hf1⟩ := bcell hb1; have HW1 : Hid (Below w.heap.size w w1) := below_trans (B0.out _) hb1; clear hb1))
      go_ret
      exact ⟨ret_bool (by simp), HW1.out⟩
  by_cases h4 : k = 4
  · subst h4
    simp only [if_true, show ¬ ((4 : Int) = 1) by omega, show ¬ ((4 : Int) = 2) by omega, show ¬ ((4 : Int) = 3) by omega, if_false]
    clear HBE HOF
    by_cases hz1 : 1 ≤ z
    · by_cases hz3 : z ≤ 3
      · go_enter Tryz.func92, Tryz.ntmps92
        go_wp2
        go_ret
        exact ⟨ret_bool (by simp [hz1, hz3]), B0.out _⟩
      · go_enter Tryz.func92, Tryz.ntmps92
        go_wp2
        go_ret
        exact ⟨ret_bool (by simp; omega), B0.out _⟩
    · go_enter Tryz.func92, Tryz.ntmps92
      go_wp2
      go_ret
      exact ⟨ret_bool (by simp; omega), B0.out _⟩
  by_cases h2 : k = 2
  · subst h2
    simp only [if_true, show ¬ ((2 : Int) = 1) by omega, if_false]
    have BD : Hid (Below w.heap.size w ((((w.alloc (.cells #[.string nm, .slice pa pl pc, .int .u8 r, .slice va vl vc, .slice aa al ac, .slice ba bl bc] 28)).alloc (.cells #[.int .u8 2, .int .i64 a, .int .i64 x, .int .i64 y, .int .u8 z] 38)).alloc (.cells #[.int .u8 2, .int .i64 a, .int .i64 x, .int .i64 y, .int .u8 0] 38)).drew) ∧ Trio w.heap.size [.string nm, .slice pa pl pc, .int .u8 r, .slice va vl vc, .slice aa al ac, .slice ba bl bc] [.int .u8 2, .int .i64 a, .int .i64 x, .int .i64 y, .int .u8 z] [.int .u8 2, .int .i64 a, .int .i64 x, .int .i64 y, .int .u8 0] ((((w.alloc (.cells #[.string nm, .slice pa pl pc, .int .u8 r, .slice va vl vc, .slice aa al ac, .slice ba bl bc] 28)).alloc (.cells #[.int .u8 2, .int .i64 a, .int .i64 x, .int .i64 y, .int .u8 z] 38)).alloc (.cells #[.int .u8 2, .int .i64 a, .int .i64 x, .int .i64 y, .int .u8 0] 38)).drew)) := ⟨below_drew (B0.out _), (Trio.new w [.string nm, .slice pa pl pc, .int .u8 r, .slice va vl vc, .slice aa al ac, .slice ba bl bc] [.int .u8 2, .int .i64 a, .int .i64 x, .int .i64 y, .int .u8 z] [.int .u8 2, .int .i64 a, .int .i64 x, .int .i64 y, .int .u8 0] 28 38 38).below (below_drew (Below.refl _ _))⟩
    cases hb : isOfB G.vars a 1 with
    | false =>
      have HB1 : Hid (∀ W, Below w.heap.size w W → Calls Tryz.prog 98 #[.agg #[.string nm, .slice pa pl pc, .int .u8 r, .slice va vl vc, .slice aa al ac, .slice ba bl bc], .int .i64 a, .int .u8 1] W fun e w' => e = .returned (.bool false) ∧ Below W.heap.size W w') := by intro W hW; rw [← hb]; exact HOF.out a 1 W hW
      clear HBE HOF hb B0
      go_enter Tryz.func92, Tryz.ntmps92
      go_wp2
      go_region
      go_wp2_with (go_at_call 98; go_loud (refine Calls.mono (by exact HB1.out _ BD.out.1) ?_; rintro e w1 ⟨rfl, hb1⟩; have HW1 : Hid (Below w.heap.size w w1) := below_trans BD.out.1 hb1; have HT1 : Hid (Trio w.heap.size [.string nm, .slice pa pl pc, .int .u8 r, .slice va vl vc, .slice aa al ac, .slice ba bl bc] [.int .u8 2, .int .i64 a, .int .i64 x, .int .i64 y, .int .u8 z] [.int .u8 2, .int .i64 a, .int .i64 x, .int .i64 y, .int .u8 0] w1) := BD.out.2.below hb1; obtain ⟨e01, e11, e21, e31, e41, e51⟩ := box6 HT1.out.g; obtain ⟨t01, t11, t21, t31, t41⟩ := box5 HT1.out.t; obtain ⟨o01, o11, o21, o31, o41⟩ := box5 HT1.out.o; clear hb1))
      go_ret
      exact ⟨ret_bool (by simp), HW1.out⟩
    | true =>
      have HB1 : Hid (∀ W, Below w.heap.size w W → Calls Tryz.prog 98 #[.agg #[.string nm, .slice pa pl pc, .int .u8 r, .slice va vl vc, .slice aa al ac, .slice ba bl bc], .int .i64 a, .int .u8 1] W fun e w' => e = .returned (.bool true) ∧ Below W.heap.size W w') := by intro W hW; rw [← hb]; exact HOF.out a 1 W hW
      cases hx : behindB bl x with
      | false =>
        have HB2 : Hid (∀ W, Below w.heap.size w W → Calls Tryz.prog 116 #[.agg #[.string nm, .slice pa pl pc, .int .u8 r, .slice va vl vc, .slice aa al ac, .slice ba bl bc], .int .i64 x] W fun e w' => e = .returned (.bool false) ∧ Below W.heap.size W w') := by intro W hW; rw [← hx]; exact HBE.out x W hW
        have T1 : True := trivial
        clear HBE HOF hb B0 hx
        go_enter Tryz.func92, Tryz.ntmps92
        go_wp2
        go_region
        go_wp2_with (first | (go_at_call 98; go_loud (refine Calls.mono (by exact HB1.out _ BD.out.1) ?_; rintro e w1 ⟨rfl, hb1⟩; have HW1 : Hid (Below w.heap.size w w1) := below_trans BD.out.1 hb1; have HT1 : Hid (Trio w.heap.size [.string nm, .slice pa pl pc, .int .u8 r, .slice va vl vc, .slice aa al ac, .slice ba bl bc] [.int .u8 2, .int .i64 a, .int .i64 x, .int .i64 y, .int .u8 z] [.int .u8 2, .int .i64 a, .int .i64 x, .int .i64 y, .int .u8 0] w1) := BD.out.2.below hb1; obtain ⟨e01, e11, e21, e31, e41, e51⟩ := box6 HT1.out.g; obtain ⟨t01, t11, t21, t31, t41⟩ := box5 HT1.out.t; obtain ⟨o01, o11, o21, o31, o41⟩ := box5 HT1.out.o; clear hb1)) | (go_at_call 116; clear T1; go_loud (refine Calls.mono (by exact HB2.out _ HW1.out) ?_; rintro e w2 ⟨rfl, hb2⟩; have HW2 : Hid (Below w.heap.size w w2) := below_trans HW1.out hb2; have HT2 : Hid (Trio w.heap.size [.string nm, .slice pa pl pc, .int .u8 r, .slice va vl vc, .slice aa al ac, .slice ba bl bc] [.int .u8 2, .int .i64 a, .int .i64 x, .int .i64 y, .int .u8 z] [.int .u8 2, .int .i64 a, .int .i64 x, .int .i64 y, .int .u8 0] w2) := HT1.out.below hb2; obtain ⟨e02, e12, e22, e32, e42, e52⟩ := box6 HT2.out.g; obtain ⟨t02, t12, t22, t32, t42⟩ := box5 HT2.out.t; obtain ⟨o02, o12, o22, o32, o42⟩ := box5 HT2.out.o; clear hb2)))
        go_ret
        exact ⟨ret_bool (by simp), HW2.out⟩
      | true =>
        have HB2 : Hid (∀ W, Below w.heap.size w W → Calls Tryz.prog 116 #[.agg #[.string nm, .slice pa pl pc, .int .u8 r, .slice va vl vc, .slice aa al ac, .slice ba bl bc], .int .i64 x] W fun e w' => e = .returned (.bool true) ∧ Below W.heap.size W w') := by intro W hW; rw [← hx]; exact HBE.out x W hW
        cases hy : behindB bl y with
        | false =>
          have HB3 : Hid (∀ W, Below w.heap.size w W → Calls Tryz.prog 116 #[.agg #[.string nm, .slice pa pl pc, .int .u8 r, .slice va vl vc, .slice aa al ac, .slice ba bl bc], .int .i64 y] W fun e w' => e = .returned (.bool false) ∧ Below W.heap.size W w') := by intro W hW; rw [← hy]; exact HBE.out y W hW
          have T1 : True := trivial
          have T2 : True := trivial
          clear HBE HOF hb B0 hx hy
          go_enter Tryz.func92, Tryz.ntmps92
          go_wp2
          go_region
          go_wp2_with (first | (go_at_call 98; go_loud (refine Calls.mono (by exact HB1.out _ BD.out.1) ?_; rintro e w1 ⟨rfl, hb1⟩; have HW1 : Hid (Below w.heap.size w w1) := below_trans BD.out.1 hb1; have HT1 : Hid (Trio w.heap.size [.string nm, .slice pa pl pc, .int .u8 r, .slice va vl vc, .slice aa al ac, .slice ba bl bc] [.int .u8 2, .int .i64 a, .int .i64 x, .int .i64 y, .int .u8 z] [.int .u8 2, .int .i64 a, .int .i64 x, .int .i64 y, .int .u8 0] w1) := BD.out.2.below hb1; obtain ⟨e01, e11, e21, e31, e41, e51⟩ := box6 HT1.out.g; obtain ⟨t01, t11, t21, t31, t41⟩ := box5 HT1.out.t; obtain ⟨o01, o11, o21, o31, o41⟩ := box5 HT1.out.o; clear hb1)) | (go_at_call 116; clear T1; go_loud (refine Calls.mono (by exact HB2.out _ HW1.out) ?_; rintro e w2 ⟨rfl, hb2⟩; have HW2 : Hid (Below w.heap.size w w2) := below_trans HW1.out hb2; have HT2 : Hid (Trio w.heap.size [.string nm, .slice pa pl pc, .int .u8 r, .slice va vl vc, .slice aa al ac, .slice ba bl bc] [.int .u8 2, .int .i64 a, .int .i64 x, .int .i64 y, .int .u8 z] [.int .u8 2, .int .i64 a, .int .i64 x, .int .i64 y, .int .u8 0] w2) := HT1.out.below hb2; obtain ⟨e02, e12, e22, e32, e42, e52⟩ := box6 HT2.out.g; obtain ⟨t02, t12, t22, t32, t42⟩ := box5 HT2.out.t; obtain ⟨o02, o12, o22, o32, o42⟩ := box5 HT2.out.o; clear hb2)) | (go_at_call 116; clear T2; go_loud (refine Calls.mono (by exact HB3.out _ HW2.out) ?_; rintro e w3 ⟨rfl, hb3⟩; have HW3 : Hid (Below w.heap.size w w3) := below_trans HW2.out hb3; have HT3 : Hid (Trio w.heap.size [.string nm, .slice pa pl pc, .int .u8 r, .slice va vl vc, .slice aa al ac, .slice ba bl bc] [.int .u8 2, .int .i64 a, .int .i64 x, .int .i64 y, .int .u8 z] [.int .u8 2, .int .i64 a, .int .i64 x, .int .i64 y, .int .u8 0] w3) := HT2.out.below hb3; obtain ⟨e03, e13, e23, e33, e43, e53⟩ := box6 HT3.out.g; obtain ⟨t03, t13, t23, t33, t43⟩ := box5 HT3.out.t; obtain ⟨o03, o13, o23, o33, o43⟩ := box5 HT3.out.o; clear hb3)))
          go_ret
          exact ⟨ret_bool (by simp), HW3.out⟩
        | true =>
          have HB3 : Hid (∀ W, Below w.heap.size w W → Calls Tryz.prog 116 #[.agg #[.string nm, .slice pa pl pc, .int .u8 r, .slice va vl vc, .slice aa al ac, .slice ba bl bc], .int .i64 y] W fun e w' => e = .returned (.bool true) ∧ Below W.heap.size W w') := by intro W hW; rw [← hy]; exact HBE.out y W hW
          have T1 : True := trivial
          have T2 : True := trivial
          clear HBE HOF hb B0 hx hy
          go_enter Tryz.func92, Tryz.ntmps92
          go_wp2
          go_region
          go_wp2_with (first | (go_at_call 98; go_loud (refine Calls.mono (by exact HB1.out _ BD.out.1) ?_; rintro e w1 ⟨rfl, hb1⟩; have HW1 : Hid (Below w.heap.size w w1) := below_trans BD.out.1 hb1; have HT1 : Hid (Trio w.heap.size [.string nm, .slice pa pl pc, .int .u8 r, .slice va vl vc, .slice aa al ac, .slice ba bl bc] [.int .u8 2, .int .i64 a, .int .i64 x, .int .i64 y, .int .u8 z] [.int .u8 2, .int .i64 a, .int .i64 x, .int .i64 y, .int .u8 0] w1) := BD.out.2.below hb1; obtain ⟨e01, e11, e21, e31, e41, e51⟩ := box6 HT1.out.g; obtain ⟨t01, t11, t21, t31, t41⟩ := box5 HT1.out.t; obtain ⟨o01, o11, o21, o31, o41⟩ := box5 HT1.out.o; clear hb1)) | (go_at_call 116; clear T1; go_loud (refine Calls.mono (by exact HB2.out _ HW1.out) ?_; rintro e w2 ⟨rfl, hb2⟩; have HW2 : Hid (Below w.heap.size w w2) := below_trans HW1.out hb2; have HT2 : Hid (Trio w.heap.size [.string nm, .slice pa pl pc, .int .u8 r, .slice va vl vc, .slice aa al ac, .slice ba bl bc] [.int .u8 2, .int .i64 a, .int .i64 x, .int .i64 y, .int .u8 z] [.int .u8 2, .int .i64 a, .int .i64 x, .int .i64 y, .int .u8 0] w2) := HT1.out.below hb2; obtain ⟨e02, e12, e22, e32, e42, e52⟩ := box6 HT2.out.g; obtain ⟨t02, t12, t22, t32, t42⟩ := box5 HT2.out.t; obtain ⟨o02, o12, o22, o32, o42⟩ := box5 HT2.out.o; clear hb2)) | (go_at_call 116; clear T2; go_loud (refine Calls.mono (by exact HB3.out _ HW2.out) ?_; rintro e w3 ⟨rfl, hb3⟩; have HW3 : Hid (Below w.heap.size w w3) := below_trans HW2.out hb3; have HT3 : Hid (Trio w.heap.size [.string nm, .slice pa pl pc, .int .u8 r, .slice va vl vc, .slice aa al ac, .slice ba bl bc] [.int .u8 2, .int .i64 a, .int .i64 x, .int .i64 y, .int .u8 z] [.int .u8 2, .int .i64 a, .int .i64 x, .int .i64 y, .int .u8 0] w3) := HT2.out.below hb3; obtain ⟨e03, e13, e23, e33, e43, e53⟩ := box6 HT3.out.g; obtain ⟨t03, t13, t23, t33, t43⟩ := box5 HT3.out.t; obtain ⟨o03, o13, o23, o33, o43⟩ := box5 HT3.out.o; clear hb3)))
          go_ret
          exact ⟨ret_bool (by simp), HW3.out⟩
  · simp only [h1, h2, h3, h4, if_false]
    clear HBE HOF
    go_enter Tryz.func92, Tryz.ntmps92
    go_wp2
    go_ret
    exact ⟨ret_bool (by simp), B0.out _⟩
end Go.Proofs.YtabpnjakfoofpaaGreatDoor
