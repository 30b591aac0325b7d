/- Whether an instruction may stand, and what it sets. -/
import Derived.Test.YtajaijilfclhpaaGreatDoorGFit5
import Derived.Test.YtajaijilfclhpaaGreatDoorGPartsBM
import Derived.Test.YtajaijilfclhpaaGreatDoorGPartsDM
namespace Go.Proofs.YtajaijilfclhpaaGreatDoor
open Go.RowKit Go.Sort

set_option maxRecDepth 100000 in
set_option maxHeartbeats 1000000 in
theorem parts_any (G : Gr) (pv vv av bv : Value) (x : In) (xv : Value) (w : World) (h : GrAt w pv vv av bv G) (hA : IntsAt w xv x.args) (hP : PartsAt w) :
  Calls Tryz.prog 192 #[.agg #[.string G.name, pv, .int .u8 G.result, vv, av, bv], inV x xv] w fun e w' => e = .returned (.bool (partsB G.vars.length x)) ∧ Below w.heap.size w w' := by
 obtain ⟨pa, pc, va, vc, aa, ac, ba, bc, rfl, rfl, rfl, rfl, _, _, _, _⟩ := h.openF
 obtain ⟨xa, xc, rfl, hxl⟩ := hA.form
 obtain ⟨kind, op, dst, args, bits, ref⟩ := x
 dsimp only at *
 unfold partsB
 dsimp only
 by_cases h1 : 1 ≤ kind
 ·by_cases h10 : kind ≤ 10
  ·have hk : kind = 1 ∨ kind = 2 ∨ kind = 3 ∨ kind = 4 ∨ kind = 5 ∨ kind = 6 ∨ kind = 7 ∨ kind = 8 ∨ kind = 9 ∨ kind = 10 := by omega
   rcases hk with rfl | rfl | rfl | rfl | rfl | rfl | rfl | rfl | rfl | rfl
   ·exact parts_1 _ _ _ _ _ _ _ _ _ _ _ _ _ _ _ _ _ _ _ _ _ args rfl w hP hA hxl
   ·exact parts_2 _ _ _ _ _ _ _ _ _ _ _ _ _ _ _ _ _ _ _ _ _ args rfl w hP hA hxl
   ·exact parts_3 _ _ _ _ _ _ _ _ _ _ _ _ _ _ _ _ _ _ _ _ _ args rfl w hP hA hxl
   ·exact parts_4 _ _ _ _ _ _ _ _ _ _ _ _ _ _ _ _ _ _ _ _ _ args rfl w hP hA hxl
   ·exact parts_5 _ _ _ _ _ _ _ _ _ _ _ _ _ _ _ _ _ _ _ _ _ args rfl w hP hA hxl
   ·exact parts_6 _ _ _ _ _ _ _ _ _ _ _ _ _ _ _ _ _ _ _ _ _ args rfl w hP hA hxl
   ·exact parts_7 _ _ _ _ _ _ _ _ _ _ _ _ _ _ _ _ _ _ _ _ _ args rfl w hP hA hxl
   ·exact parts_8 _ _ _ _ _ _ _ _ _ _ _ _ _ _ _ _ _ _ _ _ _ args rfl w hP hA hxl
   ·exact parts_9 _ _ _ _ _ _ _ _ _ _ _ _ _ _ _ _ _ _ _ _ _ args rfl w hP hA hxl
   ·exact parts_10 _ _ _ _ _ _ _ _ _ _ _ _ _ _ _ _ _ _ _ _ _ args rfl w hP hA hxl
  ·rw [decide_eq_false h10, Bool.and_false, Bool.false_and]
   have h10' : (10 : Int) < kind := by omega
   clear h hA hP hxl h10
   go_enter Tryz.func192, Tryz.ntmps192
   go_wp2
   go_ret
   exact ⟨rfl, below_alloc (below_alloc (Below.refl _ _) _) _⟩
 ·rw [decide_eq_false h1, Bool.false_and, Bool.false_and]
  have h1' : kind < 1 := by omega
  clear h hA hP hxl h1
  go_enter Tryz.func192, Tryz.ntmps192
  go_wp2
  go_ret
  exact ⟨rfl, below_alloc (below_alloc (Below.refl _ _) _) _⟩
def setsB (x : In) : Bool := (hasL.getD x.kind.toNat ⟨false, false, false, false, 0, 0⟩).dst
def standsB (p : List Gr) (g : Gr) (x : In) : Bool := partsB g.vars.length x && fitsB p g x
def typeI (p : List Gr) (g : Gr) (x : In) : Int := if standsB p g x = true ∧ setsB x = true then varT g.vars x.dst else 0
theorem ret_tb {a b : Int} {x y : Bool} (h : a = b) (g : x = y) : Ending.returned (.tuple #[.int .u8 a, .bool x]) = .returned (.tuple #[.int .u8 b, .bool y]) := by rw [h, g]
set_option maxRecDepth 100000 in
set_option maxHeartbeats 1000000 in
theorem type_any (p : List Gr) (ppv : Value) (G : Gr) (pv vv av bv : Value) (x : In) (xv : Value) (w : World) (hp : GrsAt w ppv p) (h : GrAt w pv vv av bv G) (hA : IntsAt w xv x.args) (hbits : 0 ≤ x.bits ∧ x.bits < 18446744073709551616) (hP : PartsAt w) :
  Calls Tryz.prog 181 #[ppv, .agg #[.string G.name, pv, .int .u8 G.result, vv, av, bv], inV x xv] w fun e w' => e = .returned (.tuple #[.int .u8 (typeI p G x), .bool (standsB p G x)]) ∧ Below w.heap.size w w' := by
 have HPA : Hid (∀ W, Below w.heap.size w W → Calls Tryz.prog 192 #[.agg #[.string G.name, pv, .int .u8 G.result, vv, av, bv], inV x xv] W fun e w' => e = .returned (.bool (partsB G.vars.length x)) ∧ Below W.heap.size W w') := fun W hb => parts_any G pv vv av bv x xv W (h.below hb) (hA.below hb) (hP.below hb)
 have HFI : Hid (∀ W, Below w.heap.size w W → partsB G.vars.length x = true → Calls Tryz.prog 193 #[ppv, .agg #[.string G.name, pv, .int .u8 G.result, vv, av, bv], inV x xv] W fun e w' => e = .returned (.bool (fitsB p G x)) ∧ Below W.heap.size W w') := fun W hb hpb => fits_any p ppv G pv vv av bv x xv W (hp.below hb) (h.below hb) (hA.below hb) hbits hpb
 obtain ⟨pa, pc, va, vc, aa, ac, ba, bc, rfl, rfl, rfl, rfl, _, _, _, _⟩ := h.openF
 obtain ⟨xa, xc, rfl, hxl⟩ := hA.form
 obtain ⟨qa, qc, rfl, hql⟩ := hp.form
 have HVV : Hid (∀ v, inB v G.vars.length = true → _) := fun v hv => TysAt.var h.vs hv
 have HPP : Hid (PartsAt w) := hP
 obtain ⟨T, hT⟩ : ∃ T, T = typeI p G x := ⟨_, rfl⟩
 obtain ⟨S, hS⟩ : ∃ S, S = standsB p G x := ⟨_, rfl⟩
 rw [← hT, ← hS]
 unfold typeI standsB setsB at hT
 unfold standsB at hS
 cases hpb : partsB G.vars.length x with
 | false =>
  have HC1 : Hid (∀ W, Below w.heap.size w W → _) := fun W hb => (HPA.out W hb)
  rw [hpb] at HC1 hT hS
  have HT : Hid (T = 0) := by show _ = _; rw [hT]; simp
  have HS : Hid (S = false) := by show _ = _; rw [hS]; simp
  obtain ⟨kind, op, dst, args, bits, ref⟩ := x
  dsimp only at *
  clear h hA hp hP HPA HFI HVV HPP hpb hT hS
  generalize G.name = nm at *
  generalize G.params.length = pl at *
  generalize G.vars.length = vl at *
  generalize G.arrs.length = al at *
  generalize G.blocks.length = bl at *
  generalize G.result = r at *
  generalize args.length = xn at *
  generalize p.length = pn at *
  have HB0 : Hid (Below w.heap.size w ((w.alloc (.cells #[.string nm, .slice pa pl pc, .int .u8 r, .slice va vl vc, .slice aa al ac, .slice ba bl bc] 28)).alloc (.cells #[.int .u8 kind, .int .u8 op, .int .i64 dst, .slice xa xn xc, .int .u64 bits, .int .i64 ref] 55)) ∧ Duo w.heap.size [.string nm, .slice pa pl pc, .int .u8 r, .slice va vl vc, .slice aa al ac, .slice ba bl bc] [.int .u8 kind, .int .u8 op, .int .i64 dst, .slice xa xn xc, .int .u64 bits, .int .i64 ref] ((w.alloc (.cells #[.string nm, .slice pa pl pc, .int .u8 r, .slice va vl vc, .slice aa al ac, .slice ba bl bc] 28)).alloc (.cells #[.int .u8 kind, .int .u8 op, .int .i64 dst, .slice xa xn xc, .int .u64 bits, .int .i64 ref] 55))) := ⟨below_alloc (below_alloc (Below.refl _ _) _) _, Duo.new w [.string nm, .slice pa pl pc, .int .u8 r, .slice va vl vc, .slice aa al ac, .slice ba bl bc] [.int .u8 kind, .int .u8 op, .int .i64 dst, .slice xa xn xc, .int .u64 bits, .int .i64 ref] 28 55⟩
  clear hxl hql hbits
  go_enter Tryz.func181, Tryz.ntmps181
  go_wp2_with (go_at_call 192; go_loud (refine Calls.mono (by exact HC1.out _ HB0.out.1) ?_; rintro e w1 ⟨rfl, hb1⟩; have HW1 : Hid (Below w.heap.size w w1) := below_trans HB0.out.1 hb1; have HT1 : Hid (Duo w.heap.size [.string nm, .slice pa pl pc, .int .u8 r, .slice va vl vc, .slice aa al ac, .slice ba bl bc] [.int .u8 kind, .int .u8 op, .int .i64 dst, .slice xa xn xc, .int .u64 bits, .int .i64 ref] w1) := HB0.out.2.below hb1; obtain ⟨e01, e11, e21, e31, e41, e51⟩ := box6 HT1.out.g; obtain ⟨x01, x11, x21, x31, x41, x51⟩ := box6 HT1.out.t; clear hb1))
  go_ret2
  exact ⟨ret_tb HT.out.symm HS.out.symm, HW1.out⟩
 | true =>
  have HC1 : Hid (∀ W, Below w.heap.size w W → _) := fun W hb => (HPA.out W hb)
  rw [hpb] at HC1 hT hS
  simp only [Bool.true_and] at hT hS
  have HC2 : Hid (∀ W, Below w.heap.size w W → _) := fun W hb => (HFI.out W hb hpb)
  unfold partsB at hpb
  simp only [Bool.and_eq_true, decide_eq_true_eq] at hpb
  obtain ⟨⟨hk1, hk10⟩, hhas⟩ := hpb
  have hdst := fun hd => hasB_dst hhas hd
  obtain ⟨kind, op, dst, args, bits, ref⟩ := x
  dsimp only at *
  obtain ⟨k, hk⟩ : ∃ k : Nat, kind = (k : Int) := Int.eq_ofNat_of_zero_le (by omega)
  subst hk
  rw [Int.toNat_natCast] at hdst hT
  obtain ⟨_, c1, _, _, _, _⟩ := HPP.out.2 k (hasL.getD k ⟨false, false, false, false, 0, 0⟩) (by
   have hlt : k < hasL.length := by simp [hasL]; omega
   rw [List.getD, List.getElem?_eq_getElem hlt]; rfl)
  have h0 := HPP.out.1
  have hk11 : (k : Int) < 11 := by omega
  generalize (hasL.getD k ⟨false, false, false, false, 0, 0⟩).dst = sd at *
  generalize fitsB p G ⟨(k : Int), op, dst, args, bits, ref⟩ = fb at *
  clear h hA hp hP HPA HFI hk1 hk10 hhas hxl hql hbits
  generalize G.name = nm at *
  generalize G.params.length = pl at *
  generalize G.vars.length = vl at *
  generalize G.arrs.length = al at *
  generalize G.blocks.length = bl at *
  generalize G.result = r at *
  generalize args.length = xn at *
  generalize p.length = pn at *
  cases fb with
  | false =>
   have HT : Hid (T = 0) := by show _ = _; rw [hT]; simp
   have HS : Hid (S = false) := hS
   clear hT hS
   have HB0 : Hid (Below w.heap.size w ((w.alloc (.cells #[.string nm, .slice pa pl pc, .int .u8 r, .slice va vl vc, .slice aa al ac, .slice ba bl bc] 28)).alloc (.cells #[.int .u8 (k : Int), .int .u8 op, .int .i64 dst, .slice xa xn xc, .int .u64 bits, .int .i64 ref] 55)) ∧ Duo w.heap.size [.string nm, .slice pa pl pc, .int .u8 r, .slice va vl vc, .slice aa al ac, .slice ba bl bc] [.int .u8 (k : Int), .int .u8 op, .int .i64 dst, .slice xa xn xc, .int .u64 bits, .int .i64 ref] ((w.alloc (.cells #[.string nm, .slice pa pl pc, .int .u8 r, .slice va vl vc, .slice aa al ac, .slice ba bl bc] 28)).alloc (.cells #[.int .u8 (k : Int), .int .u8 op, .int .i64 dst, .slice xa xn xc, .int .u64 bits, .int .i64 ref] 55))) := ⟨below_alloc (below_alloc (Below.refl _ _) _) _, Duo.new w [.string nm, .slice pa pl pc, .int .u8 r, .slice va vl vc, .slice aa al ac, .slice ba bl bc] [.int .u8 (k : Int), .int .u8 op, .int .i64 dst, .slice xa xn xc, .int .u64 bits, .int .i64 ref] 28 55⟩
   go_enter Tryz.func181, Tryz.ntmps181
   go_wp2_with (first | (go_at_call 192; go_loud (refine Calls.mono (by exact HC1.out _ HB0.out.1) ?_; rintro e w1 ⟨rfl, hb1⟩; have HW1 : Hid (Below w.heap.size w w1) := below_trans HB0.out.1 hb1; have HT1 : Hid (Duo w.heap.size [.string nm, .slice pa pl pc, .int .u8 r, .slice va vl vc, .slice aa al ac, .slice ba bl bc] [.int .u8 (k : Int), .int .u8 op, .int .i64 dst, .slice xa xn xc, .int .u64 bits, .int .i64 ref] w1) := HB0.out.2.below hb1; obtain ⟨e01, e11, e21, e31, e41, e51⟩ := box6 HT1.out.g; obtain ⟨x01, x11, x21, x31, x41, x51⟩ := box6 HT1.out.t; clear hb1)) | (go_at_call 193; go_loud (refine Calls.mono (by exact HC2.out _ HW1.out) ?_; rintro e w2 ⟨rfl, hb2⟩; have HW2 : Hid (Below w.heap.size w w2) := below_trans HW1.out hb2; have HT2 : Hid (Duo w.heap.size [.string nm, .slice pa pl pc, .int .u8 r, .slice va vl vc, .slice aa al ac, .slice ba bl bc] [.int .u8 (k : Int), .int .u8 op, .int .i64 dst, .slice xa xn xc, .int .u64 bits, .int .i64 ref] w2) := HT1.out.below hb2; obtain ⟨e02, e12, e22, e32, e42, e52⟩ := box6 HT2.out.g; obtain ⟨x02, x12, x22, x32, x42, x52⟩ := box6 HT2.out.t; have ck := (HW2.out.cell (p := ⟨0, k * 6 + 1, none⟩) h0).trans c1; clear hb2)))
   go_ret2
   exact ⟨ret_tb HT.out.symm HS.out.symm, HW2.out⟩
  | true =>
   cases sd with
   | false =>
    have HT : Hid (T = 0) := by show _ = _; rw [hT]; simp
    have HS : Hid (S = true) := hS
    clear hT hS
    have HB0 : Hid (Below w.heap.size w ((w.alloc (.cells #[.string nm, .slice pa pl pc, .int .u8 r, .slice va vl vc, .slice aa al ac, .slice ba bl bc] 28)).alloc (.cells #[.int .u8 (k : Int), .int .u8 op, .int .i64 dst, .slice xa xn xc, .int .u64 bits, .int .i64 ref] 55)) ∧ Duo w.heap.size [.string nm, .slice pa pl pc, .int .u8 r, .slice va vl vc, .slice aa al ac, .slice ba bl bc] [.int .u8 (k : Int), .int .u8 op, .int .i64 dst, .slice xa xn xc, .int .u64 bits, .int .i64 ref] ((w.alloc (.cells #[.string nm, .slice pa pl pc, .int .u8 r, .slice va vl vc, .slice aa al ac, .slice ba bl bc] 28)).alloc (.cells #[.int .u8 (k : Int), .int .u8 op, .int .i64 dst, .slice xa xn xc, .int .u64 bits, .int .i64 ref] 55))) := ⟨below_alloc (below_alloc (Below.refl _ _) _) _, Duo.new w [.string nm, .slice pa pl pc, .int .u8 r, .slice va vl vc, .slice aa al ac, .slice ba bl bc] [.int .u8 (k : Int), .int .u8 op, .int .i64 dst, .slice xa xn xc, .int .u64 bits, .int .i64 ref] 28 55⟩
    go_enter Tryz.func181, Tryz.ntmps181
    go_wp2_with (first | (go_at_call 192; go_loud (refine Calls.mono (by exact HC1.out _ HB0.out.1) ?_; rintro e w1 ⟨rfl, hb1⟩; have HW1 : Hid (Below w.heap.size w w1) := below_trans HB0.out.1 hb1; have HT1 : Hid (Duo w.heap.size [.string nm, .slice pa pl pc, .int .u8 r, .slice va vl vc, .slice aa al ac, .slice ba bl bc] [.int .u8 (k : Int), .int .u8 op, .int .i64 dst, .slice xa xn xc, .int .u64 bits, .int .i64 ref] w1) := HB0.out.2.below hb1; obtain ⟨e01, e11, e21, e31, e41, e51⟩ := box6 HT1.out.g; obtain ⟨x01, x11, x21, x31, x41, x51⟩ := box6 HT1.out.t; clear hb1)) | (go_at_call 193; go_loud (refine Calls.mono (by exact HC2.out _ HW1.out) ?_; rintro e w2 ⟨rfl, hb2⟩; have HW2 : Hid (Below w.heap.size w w2) := below_trans HW1.out hb2; have HT2 : Hid (Duo w.heap.size [.string nm, .slice pa pl pc, .int .u8 r, .slice va vl vc, .slice aa al ac, .slice ba bl bc] [.int .u8 (k : Int), .int .u8 op, .int .i64 dst, .slice xa xn xc, .int .u64 bits, .int .i64 ref] w2) := HT1.out.below hb2; obtain ⟨e02, e12, e22, e32, e42, e52⟩ := box6 HT2.out.g; obtain ⟨x02, x12, x22, x32, x42, x52⟩ := box6 HT2.out.t; have ck := (HW2.out.cell (p := ⟨0, k * 6 + 1, none⟩) h0).trans c1; clear hb2)))
    go_ret2
    exact ⟨ret_tb HT.out.symm HS.out.symm, HW2.out⟩
   | true =>
    obtain ⟨g, o, kd, rfl, rfl, hkn, hg, cd⟩ := HVV.out dst (hdst rfl)
    generalize varT G.vars (kd : Int) = td at *
    have HT : Hid (T = td) := by show _ = _; rw [hT]; simp
    have HS : Hid (S = true) := hS
    clear hT hS
    have HB0 : Hid (Below w.heap.size w ((w.alloc (.cells #[.string nm, .slice pa pl pc, .int .u8 r, .slice (some ⟨g, o, none⟩) vl vc, .slice aa al ac, .slice ba bl bc] 28)).alloc (.cells #[.int .u8 (k : Int), .int .u8 op, .int .i64 (kd : Int), .slice xa xn xc, .int .u64 bits, .int .i64 ref] 55)) ∧ Duo w.heap.size [.string nm, .slice pa pl pc, .int .u8 r, .slice (some ⟨g, o, none⟩) vl vc, .slice aa al ac, .slice ba bl bc] [.int .u8 (k : Int), .int .u8 op, .int .i64 (kd : Int), .slice xa xn xc, .int .u64 bits, .int .i64 ref] ((w.alloc (.cells #[.string nm, .slice pa pl pc, .int .u8 r, .slice (some ⟨g, o, none⟩) vl vc, .slice aa al ac, .slice ba bl bc] 28)).alloc (.cells #[.int .u8 (k : Int), .int .u8 op, .int .i64 (kd : Int), .slice xa xn xc, .int .u64 bits, .int .i64 ref] 55))) := ⟨below_alloc (below_alloc (Below.refl _ _) _) _, Duo.new w [.string nm, .slice pa pl pc, .int .u8 r, .slice (some ⟨g, o, none⟩) vl vc, .slice aa al ac, .slice ba bl bc] [.int .u8 (k : Int), .int .u8 op, .int .i64 (kd : Int), .slice xa xn xc, .int .u64 bits, .int .i64 ref] 28 55⟩
    go_enter Tryz.func181, Tryz.ntmps181
    go_wp2_with (first | (go_at_call 192; go_loud (refine Calls.mono (by exact HC1.out _ HB0.out.1) ?_; rintro e w1 ⟨rfl, hb1⟩; have HW1 : Hid (Below w.heap.size w w1) := below_trans HB0.out.1 hb1; have HT1 : Hid (Duo w.heap.size [.string nm, .slice pa pl pc, .int .u8 r, .slice (some ⟨g, o, none⟩) vl vc, .slice aa al ac, .slice ba bl bc] [.int .u8 (k : Int), .int .u8 op, .int .i64 (kd : Int), .slice xa xn xc, .int .u64 bits, .int .i64 ref] w1) := HB0.out.2.below hb1; obtain ⟨e01, e11, e21, e31, e41, e51⟩ := box6 HT1.out.g; obtain ⟨x01, x11, x21, x31, x41, x51⟩ := box6 HT1.out.t; clear hb1)) | (go_at_call 193; go_loud (refine Calls.mono (by exact HC2.out _ HW1.out) ?_; rintro e w2 ⟨rfl, hb2⟩; have HW2 : Hid (Below w.heap.size w w2) := below_trans HW1.out hb2; have HT2 : Hid (Duo w.heap.size [.string nm, .slice pa pl pc, .int .u8 r, .slice (some ⟨g, o, none⟩) vl vc, .slice aa al ac, .slice ba bl bc] [.int .u8 (k : Int), .int .u8 op, .int .i64 (kd : Int), .slice xa xn xc, .int .u64 bits, .int .i64 ref] w2) := HT1.out.below hb2; obtain ⟨e02, e12, e22, e32, e42, e52⟩ := box6 HT2.out.g; obtain ⟨x02, x12, x22, x32, x42, x52⟩ := box6 HT2.out.t; have ck := (HW2.out.cell (p := ⟨0, k * 6 + 1, none⟩) h0).trans c1; have cdd := (HW2.out.cell (p := ⟨g, o + kd, none⟩) hg).trans cd; clear hb2)))
    go_ret2
    exact ⟨ret_tb HT.out.symm HS.out.symm, HW2.out⟩
end Go.Proofs.YtajaijilfclhpaaGreatDoor
/- All ends are right; all instructions may stand. -/
namespace Go.Proofs.YtajaijilfclhpaaGreatDoor
open Go.RowKit Go.Sort

set_option maxRecDepth 100000 in
set_option maxHeartbeats 1000000 in
theorem ends_any (G : Gr) (pv vv av bv : Value) (w : World) (h : GrAt w pv vv av bv G) :
  Calls Tryz.prog 153 #[.agg #[.string G.name, pv, .int .u8 G.result, vv, av, bv]] w fun e w' => e = .returned (.bool (G.blocks.all fun b => endB G b.tm)) ∧ Below w.heap.size w w' := by
 have HE : Hid (∀ t W, Below w.heap.size w W → Calls Tryz.prog 180 #[.agg #[.string G.name, pv, .int .u8 G.result, vv, av, bv], tmV t] W fun e w' => e = .returned (.bool (endB G t)) ∧ Below W.heap.size W w') := fun t W hb => end_any G pv vv av bv t W (h.below hb)
 obtain ⟨pa, pc, va, vc, aa, ac, ba, bc, rfl, rfl, rfl, rfl, _, _, _, hbl⟩ := h.openF
 have HB : Hid (∀ i, i < G.blocks.length → _) := fun i hi => h.bs.get (i := i) hi
 have HN : Hid (∀ i, i < G.blocks.length → (G.blocks.drop i).all (fun b => endB G b.tm) = (endB G (G.blocks.getD i default).tm && (G.blocks.drop (i + 1)).all (fun b => endB G b.tm))) := fun i hi => all_drop (p := fun b => endB G b.tm) hi
 have HZ : Hid ((G.blocks.drop G.blocks.length).all (fun b => endB G b.tm) = true) := by show _ = _; rw [List.drop_length]; rfl
 obtain ⟨R, hR⟩ : ∃ R, R = G.blocks.all fun b => endB G b.tm := ⟨_, rfl⟩
 rw [← hR]
 have HR : Hid (R = (G.blocks.drop 0).all fun b => endB G b.tm) := hR
 clear h hR
 generalize hn : G.blocks.length = n at *
 clear hn
 generalize G.name = nm at *
 generalize G.params.length = pl at *
 generalize G.vars.length = vl at *
 generalize G.arrs.length = al at *
 have H0 : Hid (Below w.heap.size w (w.alloc (.cells #[.string nm, .slice pa pl pc, .int .u8 G.result, .slice va vl vc, .slice aa al ac, .slice ba n bc] 28)) ∧ Box (w.alloc (.cells #[.string nm, .slice pa pl pc, .int .u8 G.result, .slice va vl vc, .slice aa al ac, .slice ba n bc] 28)) w.heap.size [.string nm, .slice pa pl pc, .int .u8 G.result, .slice va vl vc, .slice aa al ac, .slice ba n bc]) := ⟨below_alloc (Below.refl _ _) _, Box.new w [.string nm, .slice pa pl pc, .int .u8 G.result, .slice va vl vc, .slice aa al ac, .slice ba n bc] 28⟩
 go_enter Tryz.func153, Tryz.ntmps153
 go_wp2
 go_loopw [8] (fun vi wr => ∃ i : Nat, vi = .int .i64 i ∧ i ≤ n ∧ Hid (R = ((G.blocks.drop i).all fun b => endB G b.tm) ∧ Below w.heap.size w wr ∧ Box wr w.heap.size [.string nm, .slice pa pl pc, .int .u8 G.result, .slice va vl vc, .slice aa al ac, .slice ba n bc])) (fun vi _ => n - (intOf vi).toNat)
 case atStart => exact ⟨0, rfl, by omega, HR.out, H0.out.1, H0.out.2⟩
 case round =>
  obtain ⟨i, rfl, hi, hr⟩ := hrel
  clear HR H0
  obtain ⟨e0, e1, e2, e3, e4, e5⟩ := box6 hr.out.2.2
  have hwl := hr.out.2.2.lt
  by_cases hin : i < n
  ·obtain ⟨g, o, iv, rfl, hg, c0, c1, c2, c3, c4, c5, hins⟩ := HB.out i hin
   obtain ⟨ia, ic, rfl, _⟩ := hins.form
   clear hins
   have hin' : (i : Int) < n := by omega
   have hcl : ∀ j, wr.cell? ⟨g, j, none⟩ = w.cell? ⟨g, j, none⟩ := fun j => hr.out.2.1.cell (p := ⟨g, j, none⟩) hg
   rw [← hcl] at c0 c1 c2 c3 c4 c5
   have hd := hr.out.1
   rw [HN.out i hin] at hd
   have HEI := fun W (hb : Below w.heap.size w W) => HE.out (G.blocks.getD i default).tm W hb
   generalize (G.blocks.getD i default).ins.length = il at *
   unfold tmV at HEI
   generalize htl : (G.blocks.drop (i + 1)).all (fun b => endB G b.tm) = tl at *
   have HTL : Hid _ := htl
   clear htl
   generalize endB G (G.blocks.getD i default).tm = eb at *
   generalize (G.blocks.getD i default).tm.kind = t0 at *
   generalize (G.blocks.getD i default).tm.arg = t1 at *
   generalize (G.blocks.getD i default).tm.t0 = t2 at *
   generalize (G.blocks.getD i default).tm.t1 = t3 at *
   generalize (G.blocks.getD i default).tm.trap = t4 at *
   have HB1 : Hid (Below w.heap.size w (wr.alloc (.cells #[.slice ia il ic, .int .u8 t0, .int .i64 t1, .int .i64 t2, .int .i64 t3, .int .u8 t4] 63))) := below_alloc hr.out.2.1 _
   have HD : Hid (R = (eb && tl)) := hd
   have HEJ : Hid _ := HEI
   clear hcl HB HE HN HZ hd HEI
   cases eb with
   | true =>
    go_wp2_with (go_at_call 180; go_loud (refine Calls.mono (by exact HEJ.out _ HB1.out) ?_; rintro e w1 ⟨rfl, hb1⟩; have HW1 : Hid _ := hb1; clear hb1))
    go_roundw
    case rel => exact ⟨i + 1, by first | rfl | (congr 1; omega), by omega, by rw [HTL.out, HD.out]; rfl, below_trans HB1.out HW1.out, (hr.out.2.2.below (below_alloc (Below.refl _ _) _)).below HW1.out⟩
    case measure => simp [intOf]; omega
   | false =>
    go_wp2_with (go_at_call 180; go_loud (refine Calls.mono (by exact HEJ.out _ HB1.out) ?_; rintro e w1 ⟨rfl, hb1⟩; have HW1 : Hid _ := hb1; clear hb1))
    go_ret
    exact ⟨ret_bool (by rw [HD.out]; rfl), below_trans HB1.out HW1.out⟩
  ·obtain rfl : i = n := by omega
   have hd : R = true := hr.out.1.trans HZ.out
   have HD : Hid _ := hd
   clear hd HB HE HN HZ
   go_wp2
   go_ret
   exact ⟨ret_bool HD.out.symm, hr.out.2.1⟩
set_option maxRecDepth 100000 in
set_option maxHeartbeats 2000000 in
theorem ins_any (p : List Gr) (ppv : Value) (G : Gr) (pv vv av bv : Value) (w : World) (hp : GrsAt w ppv p) (h : GrAt w pv vv av bv G) (hP : PartsAt w) :
  Calls Tryz.prog 154 #[ppv, .agg #[.string G.name, pv, .int .u8 G.result, vv, av, bv]] w fun e w' => e = .returned (.bool (G.blocks.all fun b => b.ins.all (standsB p G))) ∧ Below w.heap.size w w' := by
 have HE : Hid (∀ x xv W, Below w.heap.size w W → IntsAt w xv x.args → (0 ≤ x.bits ∧ x.bits < 18446744073709551616) → Calls Tryz.prog 181 #[ppv, .agg #[.string G.name, pv, .int .u8 G.result, vv, av, bv], inV x xv] W fun e w' => e = .returned (.tuple #[.int .u8 (typeI p G x), .bool (standsB p G x)]) ∧ Below W.heap.size W w') := fun x xv W hb hA hbits => type_any p ppv G pv vv av bv x xv W (hp.below hb) (h.below hb) (hA.below hb) hbits (hP.below hb)
 obtain ⟨pa, pc, va, vc, aa, ac, ba, bc, rfl, rfl, rfl, rfl, _, _, _, hbl⟩ := h.openF
 obtain ⟨qa, qc, rfl, _⟩ := hp.form
 have HB : Hid (∀ i, i < G.blocks.length → _) := fun i hi => h.bs.get (i := i) hi
 have HN : Hid (∀ i, i < G.blocks.length → (G.blocks.drop i).all (fun b => b.ins.all (standsB p G)) = ((G.blocks.getD i default).ins.all (standsB p G) && (G.blocks.drop (i + 1)).all (fun b => b.ins.all (standsB p G)))) := fun i hi => all_drop (p := fun b => b.ins.all (standsB p G)) hi
 have HZ : Hid ((G.blocks.drop G.blocks.length).all (fun b => b.ins.all (standsB p G)) = true) := by show _ = _; rw [List.drop_length]; rfl
 obtain ⟨R, hR⟩ : ∃ R, R = G.blocks.all fun b => b.ins.all (standsB p G) := ⟨_, rfl⟩
 rw [← hR]
 have HR : Hid (R = (G.blocks.drop 0).all fun b => b.ins.all (standsB p G)) := hR
 clear h hR hp hP
 generalize G.blocks.length = n at *
 generalize G.name = nm at *
 generalize G.params.length = pl at *
 generalize G.vars.length = vl at *
 generalize G.arrs.length = al at *
 generalize p.length = pn at *
 have H0 : Hid (Below w.heap.size w (w.alloc (.cells #[.string nm, .slice pa pl pc, .int .u8 G.result, .slice va vl vc, .slice aa al ac, .slice ba n bc] 28)) ∧ Box (w.alloc (.cells #[.string nm, .slice pa pl pc, .int .u8 G.result, .slice va vl vc, .slice aa al ac, .slice ba n bc] 28)) w.heap.size [.string nm, .slice pa pl pc, .int .u8 G.result, .slice va vl vc, .slice aa al ac, .slice ba n bc]) := ⟨below_alloc (Below.refl _ _) _, Box.new w [.string nm, .slice pa pl pc, .int .u8 G.result, .slice va vl vc, .slice aa al ac, .slice ba n bc] 28⟩
 go_enter Tryz.func154, Tryz.ntmps154
 go_wp2
 go_loopw [14] (fun vi wr => ∃ i : Nat, vi = .int .i64 i ∧ i ≤ n ∧ Hid (R = ((G.blocks.drop i).all fun b => b.ins.all (standsB p G)) ∧ Below w.heap.size w wr ∧ Box wr w.heap.size [.string nm, .slice pa pl pc, .int .u8 G.result, .slice va vl vc, .slice aa al ac, .slice ba n bc])) (fun vi _ => n - (intOf vi).toNat)
 case atStart => exact ⟨0, rfl, by omega, HR.out, H0.out.1, H0.out.2⟩
 case round =>
  obtain ⟨i, rfl, hi, hr⟩ := hrel
  clear HR H0
  obtain ⟨e0, e1, e2, e3, e4, e5⟩ := box6 hr.out.2.2
  have hwl := hr.out.2.2.lt
  by_cases hin : i < n
  ·obtain ⟨g, o, iv, rfl, hg, c0, c1, c2, c3, c4, c5, hins⟩ := HB.out i hin
   obtain ⟨ia, ic, rfl, _⟩ := hins.form
   have hin' : (i : Int) < n := by omega
   have hcl : ∀ j, wr.cell? ⟨g, j, none⟩ = w.cell? ⟨g, j, none⟩ := fun j => hr.out.2.1.cell (p := ⟨g, j, none⟩) hg
   rw [← hcl] at c0 c1 c2 c3 c4 c5
   have hd := hr.out.1
   rw [HN.out i hin] at hd
   generalize htl : (G.blocks.drop (i + 1)).all (fun b => b.ins.all (standsB p G)) = tl at *
   have HTL : Hid _ := htl
   generalize (G.blocks.getD i default).ins = L at *
   have HI : Hid (∀ k, k < L.length → _) := fun k hk => hins.get (i := k) hk
   have HWF : Hid (∀ x ∈ L, 0 ≤ x.bits ∧ x.bits < 18446744073709551616) := hins.wf
   generalize (G.blocks.getD i default).tm.kind = t0 at *
   generalize (G.blocks.getD i default).tm.arg = t1 at *
   generalize (G.blocks.getD i default).tm.t0 = t2 at *
   generalize (G.blocks.getD i default).tm.t1 = t3 at *
   generalize (G.blocks.getD i default).tm.trap = t4 at *
   have HB1 : Hid (R = ((L.drop 0).all (standsB p G) && tl) ∧ Below w.heap.size w (wr.alloc (.cells #[.slice ia L.length ic, .int .u8 t0, .int .i64 t1, .int .i64 t2, .int .i64 t3, .int .u8 t4] 63)) ∧ Box (wr.alloc (.cells #[.slice ia L.length ic, .int .u8 t0, .int .i64 t1, .int .i64 t2, .int .i64 t3, .int .u8 t4] 63)) w.heap.size [.string nm, .slice pa pl pc, .int .u8 G.result, .slice va vl vc, .slice aa al ac, .slice (some ⟨g, o, none⟩) n bc]) := ⟨hd, below_alloc hr.out.2.1 _, hr.out.2.2.below (below_alloc (Below.refl _ _) _)⟩
   clear hcl HB HN HZ hd htl hins
   generalize wr = wo at *
   go_wp2
   go_loopw [21] (fun vk wr => ∃ k : Nat, vk = .int .i64 k ∧ k ≤ L.length ∧ Hid (R = ((L.drop k).all (standsB p G) && tl) ∧ Below w.heap.size w wr ∧ Box wr w.heap.size [.string nm, .slice pa pl pc, .int .u8 G.result, .slice va vl vc, .slice aa al ac, .slice (some ⟨g, o, none⟩) n bc])) (fun vk _ => L.length - (intOf vk).toNat)
   case atStart => exact ⟨0, rfl, by omega, HB1.out⟩
   case round =>
    obtain ⟨k, rfl, hk, hq⟩ := hrel
    clear HB1 e0 e1 e2 e3 e4 e5
    obtain ⟨e0, e1, e2, e3, e4, e5⟩ := box6 hq.out.2.2
    have hwl2 := hq.out.2.2.lt
    by_cases hkn : k < L.length
    ·obtain ⟨gi, oi, xv, rfl, hgi, d0, d1, d2, d3, d4, d5, hxa⟩ := HI.out k hkn
     obtain ⟨xa, xc, rfl, _⟩ := hxa.form
     have hkn' : (k : Int) < L.length := by omega
     have hcl : ∀ j, wr.cell? ⟨gi, j, none⟩ = w.cell? ⟨gi, j, none⟩ := fun j => hq.out.2.1.cell (p := ⟨gi, j, none⟩) hgi
     rw [← hcl] at d0 d1 d2 d3 d4 d5
     have hd := hq.out.1
     rw [all_drop (d := default) hkn] at hd
     have hwf := HWF.out (L.getD k default) (by rw [List.getD, List.getElem?_eq_getElem hkn]; exact List.getElem_mem hkn)
     have HEI := fun W (hb : Below w.heap.size w W) => HE.out (L.getD k default) (.slice xa (L.getD k default).args.length xc) W hb hxa hwf
     unfold inV at HEI
     generalize hsb : standsB p G (L.getD k default) = sb at *
     generalize typeI p G (L.getD k default) = ty at *
     generalize (L.getD k default).args.length = xn at *
     generalize (L.getD k default).kind = x0 at *
     generalize (L.getD k default).op = x1 at *
     generalize (L.getD k default).dst = x2 at *
     generalize (L.getD k default).bits = x4 at *
     generalize (L.getD k default).ref = x5 at *
     have HB2 : Hid (Below w.heap.size w (wr.alloc (.cells #[.int .u8 x0, .int .u8 x1, .int .i64 x2, .slice xa xn xc, .int .u64 x4, .int .i64 x5] 55))) := below_alloc hq.out.2.1 _
     have HD : Hid (R = (sb && (L.drop (k + 1)).all (standsB p G) && tl)) := hd
     have HEJ : Hid _ := HEI
     clear hcl hd HEI hsb hwf HI HE
     cases sb with
     | true =>
      go_wp2_with (go_at_call 181; go_loud (refine Calls.mono (by exact HEJ.out _ HB2.out) ?_; rintro e w1 ⟨rfl, hb1⟩; have HW1 : Hid _ := hb1; clear hb1))
      go_roundw
      case rel => exact ⟨k + 1, by first | rfl | (congr 1; omega), by omega, by rw [HD.out]; simp, below_trans HB2.out HW1.out, (hq.out.2.2.below (below_alloc (Below.refl _ _) _)).below HW1.out⟩
      case measure => simp [intOf]; omega
     | false =>
      go_wp2_with (go_at_call 181; go_loud (refine Calls.mono (by exact HEJ.out _ HB2.out) ?_; rintro e w1 ⟨rfl, hb1⟩; have HW1 : Hid _ := hb1; clear hb1))
      go_ret
      exact ⟨ret_bool (by rw [HD.out]; simp), below_trans HB2.out HW1.out⟩
    ·obtain rfl : k = L.length := by omega
     have hd : R = tl := by rw [hq.out.1, List.drop_length]; simp
     have HD : Hid _ := hd
     clear hd HI HE
     go_wp2
     go_roundw
     case rel => exact ⟨i + 1, by first | rfl | (congr 1; omega), by omega, by rw [HTL.out]; exact HD.out, hq.out.2⟩
     case measure => simp [intOf]; omega
  ·obtain rfl : i = n := by omega
   have hd : R = true := hr.out.1.trans HZ.out
   have HD : Hid _ := hd
   clear hd HB HE HN HZ
   go_wp2
   go_ret
   exact ⟨ret_bool HD.out.symm, hr.out.2.1⟩
end Go.Proofs.YtajaijilfclhpaaGreatDoor
