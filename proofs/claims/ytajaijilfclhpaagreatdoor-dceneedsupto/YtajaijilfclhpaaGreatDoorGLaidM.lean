/- Right ends of blocks. -/
import Derived.Test.YtajaijilfclhpaaGreatDoorGChk3M
import Derived.Test.YtajaijilfclhpaaGreatDoorTie
import Derived.ProofKit
import Derived.OpenShut
import Derived.LaidMore
import Derived.Lay
namespace Go.Proofs.YtajaijilfclhpaaGreatDoor
open Go.RowKit

def endB (G : Gr) (t : Tm) : Bool :=
 if t.kind = 1 then behindB G.blocks.length t.t0 && (t.arg == 0 && t.t1 == 0 && t.trap == 0)
 else if t.kind = 2 then isOfB G.vars t.arg 1 && behindB G.blocks.length t.t0 && behindB G.blocks.length t.t1 && t.trap == 0
 else if t.kind = 3 then isOfB G.vars t.arg G.result && (t.t0 == 0 && t.t1 == 0 && t.trap == 0)
 else if t.kind = 4 then decide (1 ≤ t.trap) && decide (t.trap ≤ 3) && (t.arg == 0 && t.t0 == 0 && t.t1 == 0)
 else false
theorem box5 {w : World} {b : Nat} {a0 a1 a2 a3 a4 : Value} (h : Box w b [a0, a1, a2, a3, a4]) : w.cell? ⟨b, 0, none⟩ = some a0 ∧ w.cell? ⟨b, 1, none⟩ = some a1 ∧ w.cell? ⟨b, 2, none⟩ = some a2 ∧ w.cell? ⟨b, 3, none⟩ = some a3 ∧ w.cell? ⟨b, 4, none⟩ = some a4 :=
 ⟨h.cell 0 _ rfl, h.cell 1 _ rfl, h.cell 2 _ rfl, h.cell 3 _ rfl, h.cell 4 _ rfl⟩
structure Trio (B : Nat) (g t o : List Value) (w : World) : Prop where
 g : Box w B g
 t : Box w (B + 1) t
 o : Box w (B + 1 + 1) o
theorem Trio.below {B : Nat} {g t o : List Value} {w w' : World} (h : Trio B g t o w) (hb : Below w.heap.size w w') : Trio B g t o w' := ⟨h.g.below hb, h.t.below hb, h.o.below hb⟩
theorem Trio.new (w : World) (g t o : List Value) (tg tt to : TypeId) : Trio w.heap.size g t o (((w.alloc (.cells g.toArray tg)).alloc (.cells t.toArray tt)).alloc (.cells o.toArray to)) := by
 have al : ∀ (W : World) (o : Obj), Below W.heap.size W (W.alloc o) := fun W o => below_alloc (Below.refl _ _) o
 have b0 := Box.new w g tg
 have b1 := Box.new (w.alloc (.cells g.toArray tg)) t tt
 have b2 := Box.new ((w.alloc (.cells g.toArray tg)).alloc (.cells t.toArray tt)) o to
 rw [show (w.alloc (.cells g.toArray tg)).heap.size = w.heap.size + 1 by simp] at b1
 rw [show ((w.alloc (.cells g.toArray tg)).alloc (.cells t.toArray tt)).heap.size = w.heap.size + 1 + 1 by simp] at b2
 exact ⟨(b0.below (al _ _)).below (al _ _), b1.below (al _ _), b2⟩
set_option maxRecDepth 100000 in
set_option maxHeartbeats 2000000 in
theorem end_any (G : Gr) (pv vv av bv : Value) (t : Tm) (w : World) (h : GrAt w pv vv av bv G) :
  Calls Tryz.prog 180 #[.agg #[.string G.name, pv, .int .u8 G.result, vv, av, bv], tmV t] w fun e w' => e = .returned (.bool (endB G t)) ∧ Below w.heap.size w w' := by
 have HOF : Hid (∀ v t W, Below w.heap.size w W → Calls Tryz.prog 191 #[.agg #[.string G.name, pv, .int .u8 G.result, vv, av, bv], .int .i64 v, .int .u8 t] W fun e w' => e = .returned (.bool (isOfB G.vars v t)) ∧ Below W.heap.size W w') := fun v t W hb => isOf_any G pv vv av bv v t W (h.below hb)
 have HBE : Hid (∀ to W, Below w.heap.size w W → Calls Tryz.prog 190 #[.agg #[.string G.name, pv, .int .u8 G.result, vv, av, bv], .int .i64 to] W fun e w' => e = .returned (.bool (behindB G.blocks.length to)) ∧ Below W.heap.size W w') := fun to W hb => behind_any G pv vv av bv to W (h.below hb)
 obtain ⟨pa, pc, va, vc, aa, ac, ba, bc, rfl, rfl, rfl, rfl, _, _, _, _⟩ := h.openF
 have heq := eql_term
 unfold endB
 clear h
 generalize G.name = nm at *
 generalize G.params.length = pl at *
 generalize G.vars.length = vl at *
 generalize G.arrs.length = al at *
 generalize G.blocks.length = bl at *
 generalize G.result = r at *
 obtain ⟨k, a, x, y, z⟩ := t
 have B0 : Hid (∀ (c : Array Value), Below w.heap.size w (((w.alloc (.cells #[.string nm, .slice pa pl pc, .int .u8 r, .slice va vl vc, .slice aa al ac, .slice ba bl bc] 28)).alloc (.cells #[.int .u8 k, .int .i64 a, .int .i64 x, .int .i64 y, .int .u8 z] 61)).alloc (.cells c 61))) := fun c => below_alloc (below_alloc (below_alloc (Below.refl _ _) _) _) _
 dsimp only
 by_cases h1 : k = 1
 ·subst h1
  simp only [if_true]
  cases hb : behindB bl x with
  | false =>
   have HB1 : Hid (∀ W, Below w.heap.size w W → Calls Tryz.prog 190 #[.agg #[.string nm, .slice pa pl pc, .int .u8 r, .slice va vl vc, .slice aa al ac, .slice ba bl bc], .int .i64 x] W fun e w' => e = .returned (.bool false) ∧ Below W.heap.size W w') := by intro W hW; rw [← hb]; exact HBE.out x W hW
   clear HBE HOF hb
   go_enter Tryz.func180, Tryz.ntmps180
   go_wp2_with (go_at_call 190; go_loud (refine Calls.mono (by exact HB1.out _ (B0.out _)) ?_; rintro e w1 ⟨rfl, hb1⟩; have HW1 : Hid (Below w.heap.size w w1) := below_trans (B0.out _) hb1; clear hb1))
   go_ret
   exact ⟨ret_bool (by simp), HW1.out⟩
  | true =>
   have HB1 : Hid (∀ W, Below w.heap.size w W → Calls Tryz.prog 190 #[.agg #[.string nm, .slice pa pl pc, .int .u8 r, .slice va vl vc, .slice aa al ac, .slice ba bl bc], .int .i64 x] W fun e w' => e = .returned (.bool true) ∧ Below W.heap.size W w') := by intro W hW; rw [← hb]; exact HBE.out x W hW
   clear HBE HOF hb
   go_enter Tryz.func180, Tryz.ntmps180
   go_wp2_with (go_at_call 190; go_loud (refine Calls.mono (by exact HB1.out _ (B0.out _)) ?_; rintro e w1 ⟨rfl, hb1⟩; obtain ⟨hc1, hf1⟩ := bcell hb1; have HW1 : Hid (Below w.heap.size w w1) := below_trans (B0.out _) hb1; clear hb1))
   go_ret
   exact ⟨ret_bool (by simp), HW1.out⟩
 by_cases h3 : k = 3
 ·subst h3
  simp only [if_true, show ¬ ((3 : Int) = 1) by omega, show ¬ ((3 : Int) = 2) by omega, if_false]
  cases hb : isOfB G.vars a r with
  | false =>
   have HB1 : Hid (∀ W, Below w.heap.size w W → Calls Tryz.prog 191 #[.agg #[.string nm, .slice pa pl pc, .int .u8 r, .slice va vl vc, .slice aa al ac, .slice ba bl bc], .int .i64 a, .int .u8 r] W fun e w' => e = .returned (.bool false) ∧ Below W.heap.size W w') := by intro W hW; rw [← hb]; exact HOF.out a r W hW
   clear HBE HOF hb
   go_enter Tryz.func180, Tryz.ntmps180
   go_wp2_with (go_at_call 191; go_loud (refine Calls.mono (by exact HB1.out _ (B0.out _)) ?_; rintro e w1 ⟨rfl, hb1⟩; have HW1 : Hid (Below w.heap.size w w1) := below_trans (B0.out _) hb1; clear hb1))
   go_ret
   exact ⟨ret_bool (by simp), HW1.out⟩
  | true =>
   have HB1 : Hid (∀ W, Below w.heap.size w W → Calls Tryz.prog 191 #[.agg #[.string nm, .slice pa pl pc, .int .u8 r, .slice va vl vc, .slice aa al ac, .slice ba bl bc], .int .i64 a, .int .u8 r] W fun e w' => e = .returned (.bool true) ∧ Below W.heap.size W w') := by intro W hW; rw [← hb]; exact HOF.out a r W hW
   clear HBE HOF hb
   go_enter Tryz.func180, Tryz.ntmps180
   go_wp2_with (go_at_call 191; go_loud (refine Calls.mono (by exact HB1.out _ (B0.out _)) ?_; rintro e w1 ⟨rfl, hb1⟩; obtain ⟨hc1, hf1⟩ := bcell hb1; have HW1 : Hid (Below w.heap.size w w1) := below_trans (B0.out _) hb1; clear hb1))
   go_ret
   exact ⟨ret_bool (by simp), HW1.out⟩
 by_cases h4 : k = 4
 ·subst h4
  simp only [if_true, show ¬ ((4 : Int) = 1) by omega, show ¬ ((4 : Int) = 2) by omega, show ¬ ((4 : Int) = 3) by omega, if_false]
  clear HBE HOF
  by_cases hz1 : 1 ≤ z
  ·by_cases hz3 : z ≤ 3
   ·go_enter Tryz.func180, Tryz.ntmps180
    go_wp2
    go_ret
    exact ⟨ret_bool (by simp [hz1, hz3]), B0.out _⟩
   ·go_enter Tryz.func180, Tryz.ntmps180
    go_wp2
    go_ret
    exact ⟨ret_bool (by simp; omega), B0.out _⟩
  ·go_enter Tryz.func180, Tryz.ntmps180
   go_wp2
   go_ret
   exact ⟨ret_bool (by simp; omega), B0.out _⟩
 by_cases h2 : k = 2
 ·subst h2
  simp only [if_true, show ¬ ((2 : Int) = 1) by omega, if_false]
  have BD : Hid (Below w.heap.size w ((((w.alloc (.cells #[.string nm, .slice pa pl pc, .int .u8 r, .slice va vl vc, .slice aa al ac, .slice ba bl bc] 28)).alloc (.cells #[.int .u8 2, .int .i64 a, .int .i64 x, .int .i64 y, .int .u8 z] 61)).alloc (.cells #[.int .u8 2, .int .i64 a, .int .i64 x, .int .i64 y, .int .u8 0] 61)).drew) ∧ Trio w.heap.size [.string nm, .slice pa pl pc, .int .u8 r, .slice va vl vc, .slice aa al ac, .slice ba bl bc] [.int .u8 2, .int .i64 a, .int .i64 x, .int .i64 y, .int .u8 z] [.int .u8 2, .int .i64 a, .int .i64 x, .int .i64 y, .int .u8 0] ((((w.alloc (.cells #[.string nm, .slice pa pl pc, .int .u8 r, .slice va vl vc, .slice aa al ac, .slice ba bl bc] 28)).alloc (.cells #[.int .u8 2, .int .i64 a, .int .i64 x, .int .i64 y, .int .u8 z] 61)).alloc (.cells #[.int .u8 2, .int .i64 a, .int .i64 x, .int .i64 y, .int .u8 0] 61)).drew)) := ⟨below_drew (B0.out _), (Trio.new w [.string nm, .slice pa pl pc, .int .u8 r, .slice va vl vc, .slice aa al ac, .slice ba bl bc] [.int .u8 2, .int .i64 a, .int .i64 x, .int .i64 y, .int .u8 z] [.int .u8 2, .int .i64 a, .int .i64 x, .int .i64 y, .int .u8 0] 28 61 61).below (below_drew (Below.refl _ _))⟩
  cases hb : isOfB G.vars a 1 with
  | false =>
   have HB1 : Hid (∀ W, Below w.heap.size w W → Calls Tryz.prog 191 #[.agg #[.string nm, .slice pa pl pc, .int .u8 r, .slice va vl vc, .slice aa al ac, .slice ba bl bc], .int .i64 a, .int .u8 1] W fun e w' => e = .returned (.bool false) ∧ Below W.heap.size W w') := by intro W hW; rw [← hb]; exact HOF.out a 1 W hW
   clear HBE HOF hb B0
   go_enter Tryz.func180, Tryz.ntmps180
   go_wp2
   go_region
   go_wp2_with (go_at_call 191; go_loud (refine Calls.mono (by exact HB1.out _ BD.out.1) ?_; rintro e w1 ⟨rfl, hb1⟩; have HW1 : Hid (Below w.heap.size w w1) := below_trans BD.out.1 hb1; have HT1 : Hid (Trio w.heap.size [.string nm, .slice pa pl pc, .int .u8 r, .slice va vl vc, .slice aa al ac, .slice ba bl bc] [.int .u8 2, .int .i64 a, .int .i64 x, .int .i64 y, .int .u8 z] [.int .u8 2, .int .i64 a, .int .i64 x, .int .i64 y, .int .u8 0] w1) := BD.out.2.below hb1; obtain ⟨e01, e11, e21, e31, e41, e51⟩ := box6 HT1.out.g; obtain ⟨t01, t11, t21, t31, t41⟩ := box5 HT1.out.t; obtain ⟨o01, o11, o21, o31, o41⟩ := box5 HT1.out.o; clear hb1))
   go_ret
   exact ⟨ret_bool (by simp), HW1.out⟩
  | true =>
   have HB1 : Hid (∀ W, Below w.heap.size w W → Calls Tryz.prog 191 #[.agg #[.string nm, .slice pa pl pc, .int .u8 r, .slice va vl vc, .slice aa al ac, .slice ba bl bc], .int .i64 a, .int .u8 1] W fun e w' => e = .returned (.bool true) ∧ Below W.heap.size W w') := by intro W hW; rw [← hb]; exact HOF.out a 1 W hW
   cases hx : behindB bl x with
   | false =>
    have HB2 : Hid (∀ W, Below w.heap.size w W → Calls Tryz.prog 190 #[.agg #[.string nm, .slice pa pl pc, .int .u8 r, .slice va vl vc, .slice aa al ac, .slice ba bl bc], .int .i64 x] W fun e w' => e = .returned (.bool false) ∧ Below W.heap.size W w') := by intro W hW; rw [← hx]; exact HBE.out x W hW
    have T1 : True := trivial
    clear HBE HOF hb B0 hx
    go_enter Tryz.func180, Tryz.ntmps180
    go_wp2
    go_region
    go_wp2_with (first | (go_at_call 191; go_loud (refine Calls.mono (by exact HB1.out _ BD.out.1) ?_; rintro e w1 ⟨rfl, hb1⟩; have HW1 : Hid (Below w.heap.size w w1) := below_trans BD.out.1 hb1; have HT1 : Hid (Trio w.heap.size [.string nm, .slice pa pl pc, .int .u8 r, .slice va vl vc, .slice aa al ac, .slice ba bl bc] [.int .u8 2, .int .i64 a, .int .i64 x, .int .i64 y, .int .u8 z] [.int .u8 2, .int .i64 a, .int .i64 x, .int .i64 y, .int .u8 0] w1) := BD.out.2.below hb1; obtain ⟨e01, e11, e21, e31, e41, e51⟩ := box6 HT1.out.g; obtain ⟨t01, t11, t21, t31, t41⟩ := box5 HT1.out.t; obtain ⟨o01, o11, o21, o31, o41⟩ := box5 HT1.out.o; clear hb1)) | (go_at_call 190; clear T1; go_loud (refine Calls.mono (by exact HB2.out _ HW1.out) ?_; rintro e w2 ⟨rfl, hb2⟩; have HW2 : Hid (Below w.heap.size w w2) := below_trans HW1.out hb2; have HT2 : Hid (Trio w.heap.size [.string nm, .slice pa pl pc, .int .u8 r, .slice va vl vc, .slice aa al ac, .slice ba bl bc] [.int .u8 2, .int .i64 a, .int .i64 x, .int .i64 y, .int .u8 z] [.int .u8 2, .int .i64 a, .int .i64 x, .int .i64 y, .int .u8 0] w2) := HT1.out.below hb2; obtain ⟨e02, e12, e22, e32, e42, e52⟩ := box6 HT2.out.g; obtain ⟨t02, t12, t22, t32, t42⟩ := box5 HT2.out.t; obtain ⟨o02, o12, o22, o32, o42⟩ := box5 HT2.out.o; clear hb2)))
    go_ret
    exact ⟨ret_bool (by simp), HW2.out⟩
   | true =>
    have HB2 : Hid (∀ W, Below w.heap.size w W → Calls Tryz.prog 190 #[.agg #[.string nm, .slice pa pl pc, .int .u8 r, .slice va vl vc, .slice aa al ac, .slice ba bl bc], .int .i64 x] W fun e w' => e = .returned (.bool true) ∧ Below W.heap.size W w') := by intro W hW; rw [← hx]; exact HBE.out x W hW
    cases hy : behindB bl y with
    | false =>
     have HB3 : Hid (∀ W, Below w.heap.size w W → Calls Tryz.prog 190 #[.agg #[.string nm, .slice pa pl pc, .int .u8 r, .slice va vl vc, .slice aa al ac, .slice ba bl bc], .int .i64 y] W fun e w' => e = .returned (.bool false) ∧ Below W.heap.size W w') := by intro W hW; rw [← hy]; exact HBE.out y W hW
     have T1 : True := trivial
     have T2 : True := trivial
     clear HBE HOF hb B0 hx hy
     go_enter Tryz.func180, Tryz.ntmps180
     go_wp2
     go_region
     go_wp2_with (first | (go_at_call 191; go_loud (refine Calls.mono (by exact HB1.out _ BD.out.1) ?_; rintro e w1 ⟨rfl, hb1⟩; have HW1 : Hid (Below w.heap.size w w1) := below_trans BD.out.1 hb1; have HT1 : Hid (Trio w.heap.size [.string nm, .slice pa pl pc, .int .u8 r, .slice va vl vc, .slice aa al ac, .slice ba bl bc] [.int .u8 2, .int .i64 a, .int .i64 x, .int .i64 y, .int .u8 z] [.int .u8 2, .int .i64 a, .int .i64 x, .int .i64 y, .int .u8 0] w1) := BD.out.2.below hb1; obtain ⟨e01, e11, e21, e31, e41, e51⟩ := box6 HT1.out.g; obtain ⟨t01, t11, t21, t31, t41⟩ := box5 HT1.out.t; obtain ⟨o01, o11, o21, o31, o41⟩ := box5 HT1.out.o; clear hb1)) | (go_at_call 190; clear T1; go_loud (refine Calls.mono (by exact HB2.out _ HW1.out) ?_; rintro e w2 ⟨rfl, hb2⟩; have HW2 : Hid (Below w.heap.size w w2) := below_trans HW1.out hb2; have HT2 : Hid (Trio w.heap.size [.string nm, .slice pa pl pc, .int .u8 r, .slice va vl vc, .slice aa al ac, .slice ba bl bc] [.int .u8 2, .int .i64 a, .int .i64 x, .int .i64 y, .int .u8 z] [.int .u8 2, .int .i64 a, .int .i64 x, .int .i64 y, .int .u8 0] w2) := HT1.out.below hb2; obtain ⟨e02, e12, e22, e32, e42, e52⟩ := box6 HT2.out.g; obtain ⟨t02, t12, t22, t32, t42⟩ := box5 HT2.out.t; obtain ⟨o02, o12, o22, o32, o42⟩ := box5 HT2.out.o; clear hb2)) | (go_at_call 190; clear T2; go_loud (refine Calls.mono (by exact HB3.out _ HW2.out) ?_; rintro e w3 ⟨rfl, hb3⟩; have HW3 : Hid (Below w.heap.size w w3) := below_trans HW2.out hb3; have HT3 : Hid (Trio w.heap.size [.string nm, .slice pa pl pc, .int .u8 r, .slice va vl vc, .slice aa al ac, .slice ba bl bc] [.int .u8 2, .int .i64 a, .int .i64 x, .int .i64 y, .int .u8 z] [.int .u8 2, .int .i64 a, .int .i64 x, .int .i64 y, .int .u8 0] w3) := HT2.out.below hb3; obtain ⟨e03, e13, e23, e33, e43, e53⟩ := box6 HT3.out.g; obtain ⟨t03, t13, t23, t33, t43⟩ := box5 HT3.out.t; obtain ⟨o03, o13, o23, o33, o43⟩ := box5 HT3.out.o; clear hb3)))
     go_ret
     exact ⟨ret_bool (by simp), HW3.out⟩
    | true =>
     have HB3 : Hid (∀ W, Below w.heap.size w W → Calls Tryz.prog 190 #[.agg #[.string nm, .slice pa pl pc, .int .u8 r, .slice va vl vc, .slice aa al ac, .slice ba bl bc], .int .i64 y] W fun e w' => e = .returned (.bool true) ∧ Below W.heap.size W w') := by intro W hW; rw [← hy]; exact HBE.out y W hW
     have T1 : True := trivial
     have T2 : True := trivial
     clear HBE HOF hb B0 hx hy
     go_enter Tryz.func180, Tryz.ntmps180
     go_wp2
     go_region
     go_wp2_with (first | (go_at_call 191; go_loud (refine Calls.mono (by exact HB1.out _ BD.out.1) ?_; rintro e w1 ⟨rfl, hb1⟩; have HW1 : Hid (Below w.heap.size w w1) := below_trans BD.out.1 hb1; have HT1 : Hid (Trio w.heap.size [.string nm, .slice pa pl pc, .int .u8 r, .slice va vl vc, .slice aa al ac, .slice ba bl bc] [.int .u8 2, .int .i64 a, .int .i64 x, .int .i64 y, .int .u8 z] [.int .u8 2, .int .i64 a, .int .i64 x, .int .i64 y, .int .u8 0] w1) := BD.out.2.below hb1; obtain ⟨e01, e11, e21, e31, e41, e51⟩ := box6 HT1.out.g; obtain ⟨t01, t11, t21, t31, t41⟩ := box5 HT1.out.t; obtain ⟨o01, o11, o21, o31, o41⟩ := box5 HT1.out.o; clear hb1)) | (go_at_call 190; clear T1; go_loud (refine Calls.mono (by exact HB2.out _ HW1.out) ?_; rintro e w2 ⟨rfl, hb2⟩; have HW2 : Hid (Below w.heap.size w w2) := below_trans HW1.out hb2; have HT2 : Hid (Trio w.heap.size [.string nm, .slice pa pl pc, .int .u8 r, .slice va vl vc, .slice aa al ac, .slice ba bl bc] [.int .u8 2, .int .i64 a, .int .i64 x, .int .i64 y, .int .u8 z] [.int .u8 2, .int .i64 a, .int .i64 x, .int .i64 y, .int .u8 0] w2) := HT1.out.below hb2; obtain ⟨e02, e12, e22, e32, e42, e52⟩ := box6 HT2.out.g; obtain ⟨t02, t12, t22, t32, t42⟩ := box5 HT2.out.t; obtain ⟨o02, o12, o22, o32, o42⟩ := box5 HT2.out.o; clear hb2)) | (go_at_call 190; clear T2; go_loud (refine Calls.mono (by exact HB3.out _ HW2.out) ?_; rintro e w3 ⟨rfl, hb3⟩; have HW3 : Hid (Below w.heap.size w w3) := below_trans HW2.out hb3; have HT3 : Hid (Trio w.heap.size [.string nm, .slice pa pl pc, .int .u8 r, .slice va vl vc, .slice aa al ac, .slice ba bl bc] [.int .u8 2, .int .i64 a, .int .i64 x, .int .i64 y, .int .u8 z] [.int .u8 2, .int .i64 a, .int .i64 x, .int .i64 y, .int .u8 0] w3) := HT2.out.below hb3; obtain ⟨e03, e13, e23, e33, e43, e53⟩ := box6 HT3.out.g; obtain ⟨t03, t13, t23, t33, t43⟩ := box5 HT3.out.t; obtain ⟨o03, o13, o23, o33, o43⟩ := box5 HT3.out.o; clear hb3)))
     go_ret
     exact ⟨ret_bool (by simp), HW3.out⟩
 ·simp only [h1, h2, h3, h4, if_false]
  clear HBE HOF
  go_enter Tryz.func180, Tryz.ntmps180
  go_wp2
  go_ret
  exact ⟨ret_bool (by simp), B0.out _⟩
end Go.Proofs.YtajaijilfclhpaaGreatDoor
/- An instruction has the parts of its kind, and nothing else. -/
namespace Go.Proofs.YtajaijilfclhpaaGreatDoor
open Go.RowKit

/-- What an instruction of a kind has. -/
structure Has where
 op : Bool
 dst : Bool
 bits : Bool
 ref : Bool
 least : Int
 most : Int
def hasL : List Has := [⟨false, false, false, false, 0, 0⟩, ⟨false, true, false, false, 0, 9223372036854775807⟩, ⟨false, true, true, false, 0, 0⟩, ⟨false, true, false, false, 1, 1⟩, ⟨true, true, false, false, 1, 2⟩, ⟨false, true, false, false, 1, 1⟩, ⟨false, true, false, true, 1, 1⟩, ⟨false, false, false, true, 2, 2⟩, ⟨false, false, false, true, 0, 0⟩, ⟨false, true, false, true, 0, 9223372036854775807⟩, ⟨false, false, false, false, 1, 1⟩]
/-- The table, where the program lays it. -/
def PartsAt (w : World) : Prop := 0 < w.heap.size ∧ ∀ (k : Nat) (h : Has), hasL[k]? = some h → w.cell? ⟨0, k * 6, none⟩ = some (.bool h.op) ∧ w.cell? ⟨0, k * 6 + 1, none⟩ = some (.bool h.dst) ∧ w.cell? ⟨0, k * 6 + 2, none⟩ = some (.bool h.bits) ∧ w.cell? ⟨0, k * 6 + 3, none⟩ = some (.bool h.ref) ∧ w.cell? ⟨0, k * 6 + 4, none⟩ = some (.int .i64 h.least) ∧ w.cell? ⟨0, k * 6 + 5, none⟩ = some (.int .i64 h.most)
theorem PartsAt.below {w w' : World} (h : PartsAt w) (hb : Below w.heap.size w w') : PartsAt w' := by
 refine ⟨Nat.lt_of_lt_of_le h.1 hb.size, fun k x hk => ?_⟩
 have hc : ∀ j, w'.cell? ⟨0, j, none⟩ = w.cell? ⟨0, j, none⟩ := fun j => hb.cell (p := ⟨0, j, none⟩) h.1
 rw [hc, hc, hc, hc, hc, hc]
 exact h.2 k x hk
def hasB (h : Has) (n : Nat) (x : In) : Bool := (h.op || x.op == 0) && (h.bits || x.bits == 0) && (h.ref || x.ref == 0) && (if h.dst then inB x.dst n else x.dst == 0) && (x.args.all (inB · n) && (decide (h.least ≤ (x.args.length : Int)) && decide ((x.args.length : Int) ≤ h.most)))
def partsB (n : Nat) (x : In) : Bool := decide (1 ≤ x.kind) && decide (x.kind ≤ 10) && hasB (hasL.getD x.kind.toNat ⟨false, false, false, false, 0, 0⟩) n x
abbrev inV (x : In) (av : Value) : Value := .agg #[.int .u8 x.kind, .int .u8 x.op, .int .i64 x.dst, av, .int .u64 x.bits, .int .i64 x.ref]
end Go.Proofs.YtajaijilfclhpaaGreatDoor
/- What the listed variable gives: the table's cells. -/
namespace Go.Proofs.YtajaijilfclhpaaGreatDoor
open Go.ChangeShapes Go.WideShapes Go.ChangeAt Go.RowKit

theorem laid_at {P : Program} {w : World} : ∀ {laid : List (String × DataW Unit)} {ps : List MemPlace}, DataW.LaidVars P w laid ps → ∀ {n : String} {d : DataW Unit}, (n, d) ∈ laid → ∃ g t cs fuel p, P.globalNamed n = some g ∧ (P.globals[g]?).map (·.type) = some t ∧ w.var? P n = some cs ∧ DataW.trod (fun _ => ()) P w 0 (fun _ => true) false fuel t cs.toList = some (d, p)
 | (n0, d0) :: r, ps, h, n, d, hm => by
  obtain ⟨g, t, cs, fuel, p, q, h1, h2, h3, h4, h5, _⟩ := h
  rcases List.mem_cons.1 hm with he | hm
  ·cases he
   exact ⟨g, t, cs, fuel, p, h1, h2, h3, h4⟩
  ·exact laid_at h5 hm
 | [], _, _, _, _, hm => by cases hm
theorem parts_data : (Rows.laid_smithy_graph_partsOf : DataW Unit) = .agg (hasL.map fun h => .agg [.lit (.bool h.op), .lit (.bool h.dst), .lit (.bool h.bits), .lit (.bool h.ref), .lit (.int .i64 h.least), .lit (.int .i64 h.most)]) := by rfl
theorem take_one {l : List Value} {j : Nat} {v : Value} (h : (l.drop j).take 1 = [v]) : l[j]? = some v := by
 have h0 : ((l.drop j).take 1)[0]? = some v := by rw [h]; rfl
 simpa using h0
theorem chunk_at {l : List Value} {a n j : Nat} {v : Value} (hj : j < n) (h : ((l.drop a).take n)[j]? = some v) : l[a + j]? = some v := by
 rw [List.getElem?_take, if_pos hj, List.getElem?_drop] at h
 exact h
theorem c3 : Tryz.prog.cellsOf 3 = 1 := by kernel_rfl
theorem c4b : Tryz.prog.cellsOf 4 = 1 := by kernel_rfl
theorem cell_of {W : World} {g : Nat} {cs : Array Value} (hcell : ∀ j, W.cell? ⟨g, j, none⟩ = cs[j]?) {a n j c : Nat} {v : Value} (hj : j < n) (hc : c = 1) (h : (((cs.toList.drop a).take n).drop j).take c = [v]) : W.cell? ⟨g, a + j, none⟩ = some v := by
 subst hc
 rw [hcell]
 have := chunk_at hj (take_one h)
 simpa using this
theorem parts_of {W : World} (h : laidMet Tryz.prog [("smithy/graph.partsOf", Rows.laid_smithy_graph_partsOf)] W) : PartsAt W := by
 obtain ⟨ps, h, _, _⟩ := h
 obtain ⟨g, t, cs, fuel, p, hg, ht, hv, hd⟩ := laid_at h (n := "smithy/graph.partsOf") (d := Rows.laid_smithy_graph_partsOf) (by simp)
 obtain rfl := Option.some.inj ((show Tryz.prog.globalNamed "smithy/graph.partsOf" = some 0 by kernel_rfl).symm.trans hg)
 obtain rfl := Option.some.inj ((show (Tryz.prog.globals[0]?).map (·.type) = some 278 by kernel_rfl).symm.trans ht)
 have hcell := fun j => World.var?_cell hg hv j
 rw [parts_data] at hd
 obtain ⟨xs, m, _, ex, _, hl, hel⟩ := DataW.trod_array (show Tryz.prog.underlying 278 = some (.array 11 277) by kernel_rfl) hd
 have e3 := (DataW.agg.inj (Prod.mk.inj ex).1).symm
 have c6 : Tryz.prog.cellsOf 277 = 6 := by kernel_rfl
 have main : ∀ (i : Nat) (o : Has), hasL[i]? = some o → W.cell? ⟨0, i * 6, none⟩ = some (.bool o.op) ∧ W.cell? ⟨0, i * 6 + 1, none⟩ = some (.bool o.dst) ∧ W.cell? ⟨0, i * 6 + 2, none⟩ = some (.bool o.bits) ∧ W.cell? ⟨0, i * 6 + 3, none⟩ = some (.bool o.ref) ∧ W.cell? ⟨0, i * 6 + 4, none⟩ = some (.int .i64 o.least) ∧ W.cell? ⟨0, i * 6 + 5, none⟩ = some (.int .i64 o.most) := by
  intro i o hi
  have h11 : i < 11 := by have := (List.getElem?_eq_some_iff.1 hi).1; simpa [hasL] using this
  have hE := hel i h11
  rw [c6, List.getElem?_eq_getElem (by omega)] at hE
  obtain ⟨ys, m2, _, ey, _, hl2, hel2⟩ := DataW.trod_struct Tryz.underlying277 hE
  have e4 : (xs.map (·.1))[i]? = some (.agg [.lit (.bool o.op), .lit (.bool o.dst), .lit (.bool o.bits), .lit (.bool o.ref), .lit (.int .i64 o.least), .lit (.int .i64 o.most)]) := by rw [e3, List.getElem?_map, hi]; rfl
  rw [List.getElem?_map, List.getElem?_eq_getElem (by omega : i < xs.length), ey] at e4
  have e5 := DataW.agg.inj (Option.some.inj e4)
  match ys, hl2, e5, hel2 with
  | [y0, y1, y2, y3, y4, y5], _, e5, hel2 =>
   simp only [List.map_cons, List.map_nil, List.cons.injEq, and_true] at e5
   obtain ⟨n0, s1, s2⟩ := DataW.trod_bool Tryz.underlying4 (hel2 0 _ rfl)
   obtain ⟨n1, a1, a2⟩ := DataW.trod_bool Tryz.underlying4 (hel2 1 _ rfl)
   obtain ⟨n2, b1, b2⟩ := DataW.trod_bool Tryz.underlying4 (hel2 2 _ rfl)
   obtain ⟨n3, d1, d2⟩ := DataW.trod_bool Tryz.underlying4 (hel2 3 _ rfl)
   obtain ⟨n4, f1, f2, _⟩ := DataW.trod_int Tryz.underlying3 (hel2 4 _ rfl)
   obtain ⟨n5, g1, g2, _⟩ := DataW.trod_int Tryz.underlying3 (hel2 5 _ rfl)
   have q0 := cell_of hcell (by omega : 0 < 6) c4b s1
   have q1 := cell_of hcell (by omega : 1 < 6) c4b a1
   have q2 := cell_of hcell (by omega : 2 < 6) c4b b1
   have q3 := cell_of hcell (by omega : 3 < 6) c4b d1
   have q4 := cell_of hcell (by omega : 4 < 6) c3 f1
   have q5 := cell_of hcell (by omega : 5 < 6) c3 g1
   rw [s2, a2, b2, d2, f2, g2] at e5
   simp only [DataW.lit.injEq, Lit.bool.injEq, Lit.int.injEq, true_and] at e5
   obtain ⟨r0, r1, r2, r3, r4, r5⟩ := e5
   refine ⟨?_, ?_, ?_, ?_, ?_, ?_⟩
   ·rw [← r0]; exact q0
   ·rw [← r1]; exact q1
   ·rw [← r2]; exact q2
   ·rw [← r3]; exact q3
   ·rw [← r4]; exact q4
   ·rw [← r5]; exact q5
 refine ⟨?_, main⟩
 have h1 := (main 0 _ rfl).1
 rcases Nat.eq_zero_or_pos W.heap.size with h0 | h0
 ·simp [World.cell?, Array.getElem?_eq_none (show W.heap.size ≤ 0 by omega)] at h1
 ·exact h0
end Go.Proofs.YtajaijilfclhpaaGreatDoor
