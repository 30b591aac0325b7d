/- Whether an instruction may stand, and what it sets. -/
import Derived.Test.YtabpnjakfoofpaaGreatDoorGFit5
import Derived.Test.YtabpnjakfoofpaaGreatDoorGPartsA
import Derived.Test.YtabpnjakfoofpaaGreatDoorGPartsB
import Derived.Test.YtabpnjakfoofpaaGreatDoorGPartsC
import Derived.Test.YtabpnjakfoofpaaGreatDoorGPartsD
namespace Go.Proofs.YtabpnjakfoofpaaGreatDoor
open Go.RowKit Go.Sort

set_option maxRecDepth 100000 in
set_option maxHeartbeats 1000000 in
theorem parts_any (G : Gr) (pv vv av bv : Value) (x : In) (xv : Value) (w : World) (h : GrAt w pv vv av bv G) (hA : IntsAt w xv x.args) (hP : PartsAt w) :
    Calls Tryz.prog 47 #[.agg #[.string G.name, pv, .int .u8 G.result, vv, av, bv], inV x xv] w fun e w' => e = .returned (.bool (partsB G.vars.length x)) ∧ Below w.heap.size w w' := by
  obtain ⟨pa, pc, va, vc, aa, ac, ba, bc, rfl, rfl, rfl, rfl, _, _, _, _⟩ := h.openF
  obtain ⟨xa, xc, rfl, hxl⟩ := hA.form
  obtain ⟨kind, op, dst, args, bits, ref⟩ := x
  dsimp only at *
  unfold partsB
  dsimp only
  by_cases h1 : 1 ≤ kind
  · by_cases h10 : kind ≤ 10
    · have hk : kind = 1 ∨ kind = 2 ∨ kind = 3 ∨ kind = 4 ∨ kind = 5 ∨ kind = 6 ∨ kind = 7 ∨ kind = 8 ∨ kind = 9 ∨ kind = 10 := by omega
      rcases hk with rfl | rfl | rfl | rfl | rfl | rfl | rfl | rfl | rfl | rfl
      · exact parts_1 _ _ _ _ _ _ _ _ _ _ _ _ _ _ _ _ _ _ _ _ _ args rfl w hP hA hxl
      · exact parts_2 _ _ _ _ _ _ _ _ _ _ _ _ _ _ _ _ _ _ _ _ _ args rfl w hP hA hxl
      · exact parts_3 _ _ _ _ _ _ _ _ _ _ _ _ _ _ _ _ _ _ _ _ _ args rfl w hP hA hxl
      · exact parts_4 _ _ _ _ _ _ _ _ _ _ _ _ _ _ _ _ _ _ _ _ _ args rfl w hP hA hxl
      · exact parts_5 _ _ _ _ _ _ _ _ _ _ _ _ _ _ _ _ _ _ _ _ _ args rfl w hP hA hxl
      · exact parts_6 _ _ _ _ _ _ _ _ _ _ _ _ _ _ _ _ _ _ _ _ _ args rfl w hP hA hxl
      · exact parts_7 _ _ _ _ _ _ _ _ _ _ _ _ _ _ _ _ _ _ _ _ _ args rfl w hP hA hxl
      · exact parts_8 _ _ _ _ _ _ _ _ _ _ _ _ _ _ _ _ _ _ _ _ _ args rfl w hP hA hxl
      · exact parts_9 _ _ _ _ _ _ _ _ _ _ _ _ _ _ _ _ _ _ _ _ _ args rfl w hP hA hxl
      · exact parts_10 _ _ _ _ _ _ _ _ _ _ _ _ _ _ _ _ _ _ _ _ _ args rfl w hP hA hxl
    · rw [decide_eq_false h10, Bool.and_false, Bool.false_and]
      have h10' : (10 : Int) < kind := by omega
      clear h hA hP hxl h10
      go_enter Tryz.func47, Tryz.ntmps47
      go_wp2
      go_ret
      exact ⟨rfl, below_alloc (below_alloc (Below.refl _ _) _) _⟩
  · rw [decide_eq_false h1, Bool.false_and, Bool.false_and]
    have h1' : kind < 1 := by omega
    clear h hA hP hxl h1
    go_enter Tryz.func47, Tryz.ntmps47
    go_wp2
    go_ret
    exact ⟨rfl, below_alloc (below_alloc (Below.refl _ _) _) _⟩
def setsB (x : In) : Bool := (hasL.getD x.kind.toNat ⟨false, false, false, false, 0, 0⟩).dst
def standsB (p : List Gr) (g : Gr) (x : In) : Bool := partsB g.vars.length x && fitsB p g x
def typeI (p : List Gr) (g : Gr) (x : In) : Int := if standsB p g x = true ∧ setsB x = true then varT g.vars x.dst else 0
theorem ret_tb {a b : Int} {x y : Bool} (h : a = b) (g : x = y) : Ending.returned (.tuple #[.int .u8 a, .bool x]) = .returned (.tuple #[.int .u8 b, .bool y]) := by rw [h, g]
set_option maxRecDepth 100000 in
set_option maxHeartbeats 1000000 in
theorem type_any (p : List Gr) (ppv : Value) (G : Gr) (pv vv av bv : Value) (x : In) (xv : Value) (w : World) (hp : GrsAt w ppv p) (h : GrAt w pv vv av bv G) (hA : IntsAt w xv x.args) (hbits : 0 ≤ x.bits ∧ x.bits < 18446744073709551616) (hP : PartsAt w) :
    Calls Tryz.prog 24 #[ppv, .agg #[.string G.name, pv, .int .u8 G.result, vv, av, bv], inV x xv] w fun e w' => e = .returned (.tuple #[.int .u8 (typeI p G x), .bool (standsB p G x)]) ∧ Below w.heap.size w w' := by
  have HPA : Hid (∀ W, Below w.heap.size w W → Calls Tryz.prog 47 #[.agg #[.string G.name, pv, .int .u8 G.result, vv, av, bv], inV x xv] W fun e w' => e = .returned (.bool (partsB G.vars.length x)) ∧ Below W.heap.size W w') := fun W hb => parts_any G pv vv av bv x xv W (h.below hb) (hA.below hb) (hP.below hb)
  have HFI : Hid (∀ W, Below w.heap.size w W → partsB G.vars.length x = true → Calls Tryz.prog 48 #[ppv, .agg #[.string G.name, pv, .int .u8 G.result, vv, av, bv], inV x xv] W fun e w' => e = .returned (.bool (fitsB p G x)) ∧ Below W.heap.size W w') := fun W hb hpb => fits_any p ppv G pv vv av bv x xv W (hp.below hb) (h.below hb) (hA.below hb) hbits hpb
  obtain ⟨pa, pc, va, vc, aa, ac, ba, bc, rfl, rfl, rfl, rfl, _, _, _, _⟩ := h.openF
  obtain ⟨xa, xc, rfl, hxl⟩ := hA.form
  obtain ⟨qa, qc, rfl, hql⟩ := hp.form
  have HVV : Hid (∀ v, inB v G.vars.length = true → _) := fun v hv => TysAt.var h.vs hv
  have HPP : Hid (PartsAt w) := hP
  obtain ⟨T, hT⟩ : ∃ T, T = typeI p G x := ⟨_, rfl⟩
  obtain ⟨S, hS⟩ : ∃ S, S = standsB p G x := ⟨_, rfl⟩
  rw [← hT, ← hS]
  unfold typeI standsB setsB at hT
  unfold standsB at hS
  cases hpb : partsB G.vars.length x with
  | false =>
    have HC1 : Hid (∀ W, Below w.heap.size w W → _) := fun W hb => (HPA.out W hb)
    rw [hpb] at HC1 hT hS
    have HT : Hid (T = 0) := by show _ = _; rw [hT]; simp
    have HS : Hid (S = false) := by show _ = _; rw [hS]; simp
    obtain ⟨kind, op, dst, args, bits, ref⟩ := x
    dsimp only at *
    clear h hA hp hP HPA HFI HVV HPP hpb hT hS
    generalize G.name = nm at *
    generalize G.params.length = pl at *
    generalize G.vars.length = vl at *
    generalize G.arrs.length = al at *
    generalize G.blocks.length = bl at *
    generalize G.result = r at *
    generalize args.length = xn at *
    generalize p.length = pn at *
    have HB0 : Hid (Below w.heap.size w ((w.alloc (.cells #[.string nm, .slice pa pl pc, .int .u8 r, .slice va vl vc, .slice aa al ac, .slice ba bl bc] 28)).alloc (.cells #[.int .u8 kind, .int .u8 op, .int .i64 dst, .slice xa xn xc, .int .u64 bits, .int .i64 ref] 58)) ∧ Duo w.heap.size [.string nm, .slice pa pl pc, .int .u8 r, .slice va vl vc, .slice aa al ac, .slice ba bl bc] [.int .u8 kind, .int .u8 op, .int .i64 dst, .slice xa xn xc, .int .u64 bits, .int .i64 ref] ((w.alloc (.cells #[.string nm, .slice pa pl pc, .int .u8 r, .slice va vl vc, .slice aa al ac, .slice ba bl bc] 28)).alloc (.cells #[.int .u8 kind, .int .u8 op, .int .i64 dst, .slice xa xn xc, .int .u64 bits, .int .i64 ref] 58))) := ⟨below_alloc (below_alloc (Below.refl _ _) _) _, Duo.new w [.string nm, .slice pa pl pc, .int .u8 r, .slice va vl vc, .slice aa al ac, .slice ba bl bc] [.int .u8 kind, .int .u8 op, .int .i64 dst, .slice xa xn xc, .int .u64 bits, .int .i64 ref] 28 58⟩
    clear hxl hql hbits
    go_enter Tryz.func24, Tryz.ntmps24
    go_wp2_with (go_at_call 47; go_loud (refine Calls.mono (by exact HC1.out _ HB0.out.1) ?_; rintro e w1 ⟨rfl, hb1⟩; have HW1 : Hid (Below w.heap.size w w1) := below_trans HB0.out.1 hb1; have HT1 : Hid (Duo w.heap.size [.string nm, .slice pa pl pc, .int .u8 r, .slice va vl vc, .slice aa al ac, .slice ba bl bc] [.int .u8 kind, .int .u8 op, .int .i64 dst, .slice xa xn xc, .int .u64 bits, .int .i64 ref] w1) := HB0.out.2.below hb1; obtain ⟨e01, e11, e21, e31, e41, e51⟩ := box6 HT1.out.g; obtain ⟨x01, x11, x21, x31, x41, x51⟩ := box6 HT1.out.t; clear hb1))
    go_ret2
    exact ⟨ret_tb HT.out.symm HS.out.symm, HW1.out⟩
  | true =>
    have HC1 : Hid (∀ W, Below w.heap.size w W → _) := fun W hb => (HPA.out W hb)
    rw [hpb] at HC1 hT hS
    simp only [Bool.true_and] at hT hS
    have HC2 : Hid (∀ W, Below w.heap.size w W → _) := fun W hb => (HFI.out W hb hpb)
    unfold partsB at hpb
    simp only [Bool.and_eq_true, decide_eq_true_eq] at hpb
    obtain ⟨⟨hk1, hk10⟩, hhas⟩ := hpb
    have hdst := fun hd => hasB_dst hhas hd
    obtain ⟨kind, op, dst, args, bits, ref⟩ := x
    dsimp only at *
    obtain ⟨k, hk⟩ : ∃ k : Nat, kind = (k : Int) := Int.eq_ofNat_of_zero_le (by omega)
    subst hk
    rw [Int.toNat_natCast] at hdst hT
    obtain ⟨_, c1, _, _, _, _⟩ := HPP.out.2 k (hasL.getD k ⟨false, false, false, false, 0, 0⟩) (by
      have hlt : k < hasL.length := by simp [hasL]; omega
      rw [List.getD, List.getElem?_eq_getElem hlt]; rfl)
    have h0 := HPP.out.1
    have hk11 : (k : Int) < 11 := by omega
    generalize (hasL.getD k ⟨false, false, false, false, 0, 0⟩).dst = sd at *
    generalize fitsB p G ⟨(k : Int), op, dst, args, bits, ref⟩ = fb at *
    clear h hA hp hP HPA HFI hk1 hk10 hhas hxl hql hbits
    generalize G.name = nm at *
    generalize G.params.length = pl at *
    generalize G.vars.length = vl at *
    generalize G.arrs.length = al at *
    generalize G.blocks.length = bl at *
    generalize G.result = r at *
    generalize args.length = xn at *
    generalize p.length = pn at *
    cases fb with
    | false =>
      have HT : Hid (T = 0) := by show _ = _; rw [hT]; simp
      have HS : Hid (S = false) := hS
      clear hT hS
      have HB0 : Hid (Below w.heap.size w ((w.alloc (.cells #[.string nm, .slice pa pl pc, .int .u8 r, .slice va vl vc, .slice aa al ac, .slice ba bl bc] 28)).alloc (.cells #[.int .u8 (k : Int), .int .u8 op, .int .i64 dst, .slice xa xn xc, .int .u64 bits, .int .i64 ref] 58)) ∧ Duo w.heap.size [.string nm, .slice pa pl pc, .int .u8 r, .slice va vl vc, .slice aa al ac, .slice ba bl bc] [.int .u8 (k : Int), .int .u8 op, .int .i64 dst, .slice xa xn xc, .int .u64 bits, .int .i64 ref] ((w.alloc (.cells #[.string nm, .slice pa pl pc, .int .u8 r, .slice va vl vc, .slice aa al ac, .slice ba bl bc] 28)).alloc (.cells #[.int .u8 (k : Int), .int .u8 op, .int .i64 dst, .slice xa xn xc, .int .u64 bits, .int .i64 ref] 58))) := ⟨below_alloc (below_alloc (Below.refl _ _) _) _, Duo.new w [.string nm, .slice pa pl pc, .int .u8 r, .slice va vl vc, .slice aa al ac, .slice ba bl bc] [.int .u8 (k : Int), .int .u8 op, .int .i64 dst, .slice xa xn xc, .int .u64 bits, .int .i64 ref] 28 58⟩
      go_enter Tryz.func24, Tryz.ntmps24
      go_wp2_with (first | (go_at_call 47; go_loud (refine Calls.mono (by exact HC1.out _ HB0.out.1) ?_; rintro e w1 ⟨rfl, hb1⟩; have HW1 : Hid (Below w.heap.size w w1) := below_trans HB0.out.1 hb1; have HT1 : Hid (Duo w.heap.size [.string nm, .slice pa pl pc, .int .u8 r, .slice va vl vc, .slice aa al ac, .slice ba bl bc] [.int .u8 (k : Int), .int .u8 op, .int .i64 dst, .slice xa xn xc, .int .u64 bits, .int .i64 ref] w1) := HB0.out.2.below hb1; obtain ⟨e01, e11, e21, e31, e41, e51⟩ := box6 HT1.out.g; obtain ⟨x01, x11, x21, x31, x41, x51⟩ := box6 HT1.out.t; clear hb1)) | (go_at_call 48; go_loud (refine Calls.mono (by exact HC2.out _ HW1.out) ?_; rintro e w2 ⟨rfl, hb2⟩; have HW2 : Hid (Below w.heap.size w w2) := below_trans HW1.out hb2; have HT2 : Hid (Duo w.heap.size [.string nm, .slice pa pl pc, .int .u8 r, .slice va vl vc, .slice aa al ac, .slice ba bl bc] [.int .u8 (k : Int), .int .u8 op, .int .i64 dst, .slice xa xn xc, .int .u64 bits, .int .i64 ref] w2) := HT1.out.below hb2; obtain ⟨e02, e12, e22, e32, e42, e52⟩ := box6 HT2.out.g; obtain ⟨x02, x12, x22, x32, x42, x52⟩ := box6 HT2.out.t; have ck := (HW2.out.cell (p := ⟨0, k * 6 + 1, none⟩) h0).trans c1; clear hb2)))
      go_ret2
      exact ⟨ret_tb HT.out.symm HS.out.symm, HW2.out⟩
    | true =>
      cases sd with
      | false =>
        have HT : Hid (T = 0) := by show _ = _; rw [hT]; simp
        have HS : Hid (S = true) := hS
        clear hT hS
        have HB0 : Hid (Below w.heap.size w ((w.alloc (.cells #[.string nm, .slice pa pl pc, .int .u8 r, .slice va vl vc, .slice aa al ac, .slice ba bl bc] 28)).alloc (.cells #[.int .u8 (k : Int), .int .u8 op, .int .i64 dst, .slice xa xn xc, .int .u64 bits, .int .i64 ref] 58)) ∧ Duo w.heap.size [.string nm, .slice pa pl pc, .int .u8 r, .slice va vl vc, .slice aa al ac, .slice ba bl bc] [.int .u8 (k : Int), .int .u8 op, .int .i64 dst, .slice xa xn xc, .int .u64 bits, .int .i64 ref] ((w.alloc (.cells #[.string nm, .slice pa pl pc, .int .u8 r, .slice va vl vc, .slice aa al ac, .slice ba bl bc] 28)).alloc (.cells #[.int .u8 (k : Int), .int .u8 op, .int .i64 dst, .slice xa xn xc, .int .u64 bits, .int .i64 ref] 58))) := ⟨below_alloc (below_alloc (Below.refl _ _) _) _, Duo.new w [.string nm, .slice pa pl pc, .int .u8 r, .slice va vl vc, .slice aa al ac, .slice ba bl bc] [.int .u8 (k : Int), .int .u8 op, .int .i64 dst, .slice xa xn xc, .int .u64 bits, .int .i64 ref] 28 58⟩
        go_enter Tryz.func24, Tryz.ntmps24
        go_wp2_with (first | (go_at_call 47; go_loud (refine Calls.mono (by exact HC1.out _ HB0.out.1) ?_; rintro e w1 ⟨rfl, hb1⟩; have HW1 : Hid (Below w.heap.size w w1) := below_trans HB0.out.1 hb1; have HT1 : Hid (Duo w.heap.size [.string nm, .slice pa pl pc, .int .u8 r, .slice va vl vc, .slice aa al ac, .slice ba bl bc] [.int .u8 (k : Int), .int .u8 op, .int .i64 dst, .slice xa xn xc, .int .u64 bits, .int .i64 ref] w1) := HB0.out.2.below hb1; obtain ⟨e01, e11, e21, e31, e41, e51⟩ := box6 HT1.out.g; obtain ⟨x01, x11, x21, x31, x41, x51⟩ := box6 HT1.out.t; clear hb1)) | (go_at_call 48; go_loud (refine Calls.mono (by exact HC2.out _ HW1.out) ?_; rintro e w2 ⟨rfl, hb2⟩; have HW2 : Hid (Below w.heap.size w w2) := below_trans HW1.out hb2; have HT2 : Hid (Duo w.heap.size [.string nm, .slice pa pl pc, .int .u8 r, .slice va vl vc, .slice aa al ac, .slice ba bl bc] [.int .u8 (k : Int), .int .u8 op, .int .i64 dst, .slice xa xn xc, .int .u64 bits, .int .i64 ref] w2) := HT1.out.below hb2; obtain ⟨e02, e12, e22, e32, e42, e52⟩ := box6 HT2.out.g; obtain ⟨x02, x12, x22, x32, x42, x52⟩ := box6 HT2.out.t; have ck := (HW2.out.cell (p := ⟨0, k * 6 + 1, none⟩) h0).trans c1; clear hb2)))
        go_ret2
        exact ⟨ret_tb HT.out.symm HS.out.symm, HW2.out⟩
      | true =>
        obtain ⟨g, o, kd, rfl, rfl, hkn, hg, cd⟩ := HVV.out dst (hdst rfl)
        generalize varT G.vars (kd : Int) = td at *
        have HT : Hid (T = td) := by show _ = _; rw [hT]; simp
        have HS : Hid (S = true) := hS
        clear hT hS
        have HB0 : Hid (Below w.heap.size w ((w.alloc (.cells #[.string nm, .slice pa pl pc, .int .u8 r, .slice (some ⟨g, o, none⟩) vl vc, .slice aa al ac, .slice ba bl bc] 28)).alloc (.cells #[.int .u8 (k : Int), .int .u8 op, .int .i64 (kd : Int), .slice xa xn xc, .int .u64 bits, .int .i64 ref] 58)) ∧ Duo w.heap.size [.string nm, .slice pa pl pc, .int .u8 r, .slice (some ⟨g, o, none⟩) vl vc, .slice aa al ac, .slice ba bl bc] [.int .u8 (k : Int), .int .u8 op, .int .i64 (kd : Int), .slice xa xn xc, .int .u64 bits, .int .i64 ref] ((w.alloc (.cells #[.string nm, .slice pa pl pc, .int .u8 r, .slice (some ⟨g, o, none⟩) vl vc, .slice aa al ac, .slice ba bl bc] 28)).alloc (.cells #[.int .u8 (k : Int), .int .u8 op, .int .i64 (kd : Int), .slice xa xn xc, .int .u64 bits, .int .i64 ref] 58))) := ⟨below_alloc (below_alloc (Below.refl _ _) _) _, Duo.new w [.string nm, .slice pa pl pc, .int .u8 r, .slice (some ⟨g, o, none⟩) vl vc, .slice aa al ac, .slice ba bl bc] [.int .u8 (k : Int), .int .u8 op, .int .i64 (kd : Int), .slice xa xn xc, .int .u64 bits, .int .i64 ref] 28 58⟩
        go_enter Tryz.func24, Tryz.ntmps24
        go_wp2_with (first | (go_at_call 47; go_loud (refine Calls.mono (by exact HC1.out _ HB0.out.1) ?_; rintro e w1 ⟨rfl, hb1⟩; have HW1 : Hid (Below w.heap.size w w1) := below_trans HB0.out.1 hb1; have HT1 : Hid (Duo w.heap.size [.string nm, .slice pa pl pc, .int .u8 r, .slice (some ⟨g, o, none⟩) vl vc, .slice aa al ac, .slice ba bl bc] [.int .u8 (k : Int), .int .u8 op, .int .i64 (kd : Int), .slice xa xn xc, .int .u64 bits, .int .i64 ref] w1) := HB0.out.2.below hb1; obtain ⟨e01, e11, e21, e31, e41, e51⟩ := box6 HT1.out.g; obtain ⟨x01, x11, x21, x31, x41, x51⟩ := box6 HT1.out.t; clear hb1)) | (go_at_call 48; go_loud (refine Calls.mono (by exact HC2.out _ HW1.out) ?_; rintro e w2 ⟨rfl, hb2⟩; have HW2 : Hid (Below w.heap.size w w2) := below_trans HW1.out hb2; have HT2 : Hid (Duo w.heap.size [.string nm, .slice pa pl pc, .int .u8 r, .slice (some ⟨g, o, none⟩) vl vc, .slice aa al ac, .slice ba bl bc] [.int .u8 (k : Int), .int .u8 op, .int .i64 (kd : Int), .slice xa xn xc, .int .u64 bits, .int .i64 ref] w2) := HT1.out.below hb2; obtain ⟨e02, e12, e22, e32, e42, e52⟩ := box6 HT2.out.g; obtain ⟨x02, x12, x22, x32, x42, x52⟩ := box6 HT2.out.t; have ck := (HW2.out.cell (p := ⟨0, k * 6 + 1, none⟩) h0).trans c1; have cdd := (HW2.out.cell (p := ⟨g, o + kd, none⟩) hg).trans cd; clear hb2)))
        go_ret2
        exact ⟨ret_tb HT.out.symm HS.out.symm, HW2.out⟩
end Go.Proofs.YtabpnjakfoofpaaGreatDoor
