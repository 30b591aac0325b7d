/- Whether the types of an instruction are as they must be. -/
import Derived.Test.YtajaijilfclhpaaGreatDoorGScalRM
import Derived.Test.YtajaijilfclhpaaGreatDoorGFit3M
import Derived.Test.YtajaijilfclhpaaGreatDoorGFit4M
namespace Go.Proofs.YtajaijilfclhpaaGreatDoor
open Go.RowKit Go.Sort

def fitsB (p : List Gr) (g : Gr) (x : In) : Bool :=
 if x.kind = 1 ∨ x.kind = 3 then alikeB g.vars x
 else if x.kind = 2 then rightB (varT g.vars x.dst) x.bits
 else if x.kind = 4 then opOkB g.vars x
 else if x.kind = 5 then turnsB (varT g.vars x.dst) (varT g.vars (x.args.getD 0 0))
 else if x.kind = 6 ∨ x.kind = 7 ∨ x.kind = 8 then inB x.ref g.arrs.length && arrOkB g.vars (g.arrs.getD x.ref.toNat default).1 x
 else if x.kind = 9 then inB x.ref p.length && callOkB g.vars x (p.getD x.ref.toNat default)
 else true
theorem fitsK_1 (p : List Gr) (g : Gr) (o d : Int) (a : List Int) (b f : Int) : fitsB p g ⟨1, o, d, a, b, f⟩ = alikeB g.vars ⟨1, o, d, a, b, f⟩ := by
 unfold fitsB
 dsimp only
 repeat (first | rw [if_pos (by decide)] | rw [if_neg (by decide)])
theorem fitsK_2 (p : List Gr) (g : Gr) (o d : Int) (a : List Int) (b f : Int) : fitsB p g ⟨2, o, d, a, b, f⟩ = rightB (varT g.vars d) b := by
 unfold fitsB
 dsimp only
 repeat (first | rw [if_pos (by decide)] | rw [if_neg (by decide)])
theorem fitsK_3 (p : List Gr) (g : Gr) (o d : Int) (a : List Int) (b f : Int) : fitsB p g ⟨3, o, d, a, b, f⟩ = alikeB g.vars ⟨3, o, d, a, b, f⟩ := by
 unfold fitsB
 dsimp only
 repeat (first | rw [if_pos (by decide)] | rw [if_neg (by decide)])
theorem fitsK_4 (p : List Gr) (g : Gr) (o d : Int) (a : List Int) (b f : Int) : fitsB p g ⟨4, o, d, a, b, f⟩ = opOkB g.vars ⟨4, o, d, a, b, f⟩ := by
 unfold fitsB
 dsimp only
 repeat (first | rw [if_pos (by decide)] | rw [if_neg (by decide)])
theorem fitsK_5 (p : List Gr) (g : Gr) (o d : Int) (a : List Int) (b f : Int) : fitsB p g ⟨5, o, d, a, b, f⟩ = turnsB (varT g.vars d) (varT g.vars (a.getD 0 0)) := by
 unfold fitsB
 dsimp only
 repeat (first | rw [if_pos (by decide)] | rw [if_neg (by decide)])
theorem fitsK_6 (p : List Gr) (g : Gr) (o d : Int) (a : List Int) (b f : Int) : fitsB p g ⟨6, o, d, a, b, f⟩ = (inB f g.arrs.length && arrOkB g.vars (g.arrs.getD f.toNat default).1 ⟨6, o, d, a, b, f⟩) := by
 unfold fitsB
 dsimp only
 repeat (first | rw [if_pos (by decide)] | rw [if_neg (by decide)])
theorem fitsK_7 (p : List Gr) (g : Gr) (o d : Int) (a : List Int) (b f : Int) : fitsB p g ⟨7, o, d, a, b, f⟩ = (inB f g.arrs.length && arrOkB g.vars (g.arrs.getD f.toNat default).1 ⟨7, o, d, a, b, f⟩) := by
 unfold fitsB
 dsimp only
 repeat (first | rw [if_pos (by decide)] | rw [if_neg (by decide)])
theorem fitsK_8 (p : List Gr) (g : Gr) (o d : Int) (a : List Int) (b f : Int) : fitsB p g ⟨8, o, d, a, b, f⟩ = (inB f g.arrs.length && arrOkB g.vars (g.arrs.getD f.toNat default).1 ⟨8, o, d, a, b, f⟩) := by
 unfold fitsB
 dsimp only
 repeat (first | rw [if_pos (by decide)] | rw [if_neg (by decide)])
theorem fitsK_9 (p : List Gr) (g : Gr) (o d : Int) (a : List Int) (b f : Int) : fitsB p g ⟨9, o, d, a, b, f⟩ = (inB f p.length && callOkB g.vars ⟨9, o, d, a, b, f⟩ (p.getD f.toNat default)) := by
 unfold fitsB
 dsimp only
 repeat (first | rw [if_pos (by decide)] | rw [if_neg (by decide)])
theorem fitsK_10 (p : List Gr) (g : Gr) (o d : Int) (a : List Int) (b f : Int) : fitsB p g ⟨10, o, d, a, b, f⟩ = true := by
 unfold fitsB
 dsimp only
 repeat (first | rw [if_pos (by decide)] | rw [if_neg (by decide)])
theorem hasB_dst {h : Has} {n : Nat} {x : In} (hh : hasB h n x = true) (hd : h.dst = true) : inB x.dst n = true := by
 unfold hasB at hh
 simp only [Bool.and_eq_true] at hh
 have := hh.1.2
 rw [if_pos hd] at this
 exact this
theorem hasB_args {h : Has} {n : Nat} {x : In} (hh : hasB h n x = true) : x.args.all (inB · n) = true ∧ h.least ≤ (x.args.length : Int) ∧ (x.args.length : Int) ≤ h.most := by
 unfold hasB at hh
 simp only [Bool.and_eq_true, decide_eq_true_eq] at hh
 exact ⟨hh.2.1, hh.2.2.1, hh.2.2.2⟩
set_option maxRecDepth 100000 in
set_option maxHeartbeats 2000000 in
theorem fits_any (p : List Gr) (ppv : Value) (G : Gr) (pv vv av bv : Value) (x : In) (xv : Value) (w : World) (hp : GrsAt w ppv p) (h : GrAt w pv vv av bv G) (hA : IntsAt w xv x.args) (hbits : 0 ≤ x.bits ∧ x.bits < 18446744073709551616) (hpar : partsB G.vars.length x = true) :
  Calls Tryz.prog 193 #[ppv, .agg #[.string G.name, pv, .int .u8 G.result, vv, av, bv], inV x xv] w fun e w' => e = .returned (.bool (fitsB p G x)) ∧ Below w.heap.size w w' := by
 unfold partsB at hpar
 simp only [Bool.and_eq_true, decide_eq_true_eq] at hpar
 obtain ⟨⟨hk1, hk10⟩, hhas⟩ := hpar
 have HAL : Hid (∀ W, Below w.heap.size w W → inB x.dst G.vars.length = true → x.args.all (inB · G.vars.length) = true → Calls Tryz.prog 200 #[.agg #[.string G.name, pv, .int .u8 G.result, vv, av, bv], inV x xv] W fun e w' => e = .returned (.bool (alikeB G.vars x)) ∧ Below W.heap.size W w') := fun W hb hd ha => alike_any G pv vv av bv x xv W (h.below hb) (hA.below hb) hd ha
 have HOP : Hid (∀ W, Below w.heap.size w W → inB x.dst G.vars.length = true → x.args.all (inB · G.vars.length) = true → 1 ≤ x.args.length → x.args.length ≤ 2 → Calls Tryz.prog 201 #[.agg #[.string G.name, pv, .int .u8 G.result, vv, av, bv], inV x xv] W fun e w' => e = .returned (.bool (opOkB G.vars x)) ∧ Below W.heap.size W w') := fun W hb hd ha h1 h2 => fitsOp_any G pv vv av bv x xv W (h.below hb) (hA.below hb) hd ha h1 h2
 have HAR : Hid (∀ t W, Below w.heap.size w W → (x.kind = 6 → x.args.length = 1) → (x.kind = 7 → x.args.length = 2) → Calls Tryz.prog 203 #[.agg #[.string G.name, pv, .int .u8 G.result, vv, av, bv], inV x xv, .int .u8 t] W fun e w' => e = .returned (.bool (arrOkB G.vars t x)) ∧ Below W.heap.size W w') := fun t W hb h6 h7 => fitsArr_any G pv vv av bv x xv t W (h.below hb) (hA.below hb) h6 h7
 have HCA : Hid (∀ F fpv fvv fav fbv W, Below w.heap.size w W → GrAt w fpv fvv fav fbv F → Calls Tryz.prog 204 #[.agg #[.string G.name, pv, .int .u8 G.result, vv, av, bv], inV x xv, .agg #[.string F.name, fpv, .int .u8 F.result, fvv, fav, fbv]] W fun e w' => e = .returned (.bool (callOkB G.vars x F)) ∧ Below W.heap.size W w') := fun F a b c d W hb hF => fitsCall_any G pv vv av bv x xv F a b c d W (h.below hb) (hA.below hb) (hF.below hb)
 obtain ⟨pa, pc, va, vc, aa, ac, ba, bc, rfl, rfl, rfl, rfl, _, _, _, _⟩ := h.openF
 obtain ⟨xa, xc, rfl, hxl⟩ := hA.form
 obtain ⟨qa, qc, rfl, hql⟩ := hp.form
 have HVV : Hid (∀ v, inB v G.vars.length = true → _) := fun v hv => TysAt.var h.vs hv
 have HAA : Hid (∀ i, i < G.arrs.length → _) := fun i hi => ArrsAt.get h.ars hi
 have HPP : Hid (∀ i, i < p.length → _) := fun i hi => GrsAt.get hp hi
 have HXX : Hid (∀ i, i < x.args.length → _) := fun i hi => IntsAt.get hA hi
 have HPL : Hid (∀ v n W, Calls Tryz.prog 178 #[.int .i64 v, .int .i64 ((n : Nat) : Int)] W fun e w' => e = .returned (.bool (inB v n)) ∧ w' = W) := fun v n W => isPlace_any v n W
 obtain ⟨kind, op, dst, args, bits, ref⟩ := x
 dsimp only at *
 clear h hp hA
 generalize hxn : args.length = xn at *
 generalize G.vars.length = vl at *
 generalize hal : G.arrs.length = al at *
 generalize hpn : p.length = pn at *
 have HL : Hid (args.length = xn) := hxn
 have HAQ : Hid (G.arrs.length = al) := hal
 have HPQ : Hid (p.length = pn) := hpn
 clear hxn hxl hql hal hpn
 generalize G.name = nm at *
 generalize G.params.length = pl at *
 generalize G.blocks.length = bl at *
 generalize G.result = r at *
 by_cases k1 : kind = 1
 ·subst k1
  have hga := hasB_args hhas
  dsimp only at hga
  rw [fitsK_1]
  have HB0 : Hid (Below w.heap.size w ((w.alloc (.cells #[.string nm, .slice pa pl pc, .int .u8 r, .slice va vl vc, .slice aa al ac, .slice ba bl bc] 28)).alloc (.cells #[.int .u8 1, .int .u8 op, .int .i64 dst, .slice xa xn xc, .int .u64 bits, .int .i64 ref] 55)) ∧ Duo w.heap.size [.string nm, .slice pa pl pc, .int .u8 r, .slice va vl vc, .slice aa al ac, .slice ba bl bc] [.int .u8 1, .int .u8 op, .int .i64 dst, .slice xa xn xc, .int .u64 bits, .int .i64 ref] ((w.alloc (.cells #[.string nm, .slice pa pl pc, .int .u8 r, .slice va vl vc, .slice aa al ac, .slice ba bl bc] 28)).alloc (.cells #[.int .u8 1, .int .u8 op, .int .i64 dst, .slice xa xn xc, .int .u64 bits, .int .i64 ref] 55))) := ⟨below_alloc (below_alloc (Below.refl _ _) _) _, Duo.new w [.string nm, .slice pa pl pc, .int .u8 r, .slice va vl vc, .slice aa al ac, .slice ba bl bc] [.int .u8 1, .int .u8 op, .int .i64 dst, .slice xa xn xc, .int .u64 bits, .int .i64 ref] 28 55⟩
  have hd := hasB_dst hhas rfl
  have HC0 := fun W (hb : Below w.heap.size w W) => HAL.out W hb hd hga.1
  have HC : Hid _ := HC0
  clear hga hd hhas HAL HOP HAR HCA HVV HAA HPP HXX HPL HC0
  go_enter Tryz.func193, Tryz.ntmps193
  go_wp2_with (go_at_call 200; go_loud (refine Calls.mono (by exact HC.out _ HB0.out.1) ?_; rintro e w1 ⟨rfl, hb1⟩))
  go_ret
  exact ⟨rfl, below_trans HB0.out.1 hb1⟩
 by_cases k2 : kind = 2
 ·subst k2
  have hga := hasB_args hhas
  dsimp only at hga
  rw [fitsK_2]
  have HB0 : Hid (Below w.heap.size w ((w.alloc (.cells #[.string nm, .slice pa pl pc, .int .u8 r, .slice va vl vc, .slice aa al ac, .slice ba bl bc] 28)).alloc (.cells #[.int .u8 2, .int .u8 op, .int .i64 dst, .slice xa xn xc, .int .u64 bits, .int .i64 ref] 55)) ∧ Duo w.heap.size [.string nm, .slice pa pl pc, .int .u8 r, .slice va vl vc, .slice aa al ac, .slice ba bl bc] [.int .u8 2, .int .u8 op, .int .i64 dst, .slice xa xn xc, .int .u64 bits, .int .i64 ref] ((w.alloc (.cells #[.string nm, .slice pa pl pc, .int .u8 r, .slice va vl vc, .slice aa al ac, .slice ba bl bc] 28)).alloc (.cells #[.int .u8 2, .int .u8 op, .int .i64 dst, .slice xa xn xc, .int .u64 bits, .int .i64 ref] 55))) := ⟨below_alloc (below_alloc (Below.refl _ _) _) _, Duo.new w [.string nm, .slice pa pl pc, .int .u8 r, .slice va vl vc, .slice aa al ac, .slice ba bl bc] [.int .u8 2, .int .u8 op, .int .i64 dst, .slice xa xn xc, .int .u64 bits, .int .i64 ref] 28 55⟩
  have hd := hasB_dst hhas rfl
  obtain ⟨g, o, kd, rfl, rfl, hkn, hg, cd⟩ := HVV.out dst hd
  have HC : Hid (∀ W, Calls Tryz.prog 188 #[.int .u8 (varT G.vars (kd : Int)), .int .u64 bits] W fun e w' => e = .returned (.bool (rightB (varT G.vars (kd : Int)) bits)) ∧ w' = W) := fun W => right_any _ bits W hbits
  generalize varT G.vars (kd : Int) = td at *
  clear hga hd hhas HAL HOP HAR HCA HVV HAA HPP HXX HPL hbits
  go_enter Tryz.func193, Tryz.ntmps193
  go_wp2
  go_quiet ((go_at_call 188; exact Calls.quiet_of_same (HC.out _)))
  go_wp2
  go_ret
  exact ⟨rfl, below_drewN HB0.out.1 _⟩
 by_cases k3 : kind = 3
 ·subst k3
  have hga := hasB_args hhas
  dsimp only at hga
  rw [fitsK_3]
  have HB0 : Hid (Below w.heap.size w ((w.alloc (.cells #[.string nm, .slice pa pl pc, .int .u8 r, .slice va vl vc, .slice aa al ac, .slice ba bl bc] 28)).alloc (.cells #[.int .u8 3, .int .u8 op, .int .i64 dst, .slice xa xn xc, .int .u64 bits, .int .i64 ref] 55)) ∧ Duo w.heap.size [.string nm, .slice pa pl pc, .int .u8 r, .slice va vl vc, .slice aa al ac, .slice ba bl bc] [.int .u8 3, .int .u8 op, .int .i64 dst, .slice xa xn xc, .int .u64 bits, .int .i64 ref] ((w.alloc (.cells #[.string nm, .slice pa pl pc, .int .u8 r, .slice va vl vc, .slice aa al ac, .slice ba bl bc] 28)).alloc (.cells #[.int .u8 3, .int .u8 op, .int .i64 dst, .slice xa xn xc, .int .u64 bits, .int .i64 ref] 55))) := ⟨below_alloc (below_alloc (Below.refl _ _) _) _, Duo.new w [.string nm, .slice pa pl pc, .int .u8 r, .slice va vl vc, .slice aa al ac, .slice ba bl bc] [.int .u8 3, .int .u8 op, .int .i64 dst, .slice xa xn xc, .int .u64 bits, .int .i64 ref] 28 55⟩
  have hd := hasB_dst hhas rfl
  have HC0 := fun W (hb : Below w.heap.size w W) => HAL.out W hb hd hga.1
  have HC : Hid _ := HC0
  clear hga hd hhas HAL HOP HAR HCA HVV HAA HPP HXX HPL HC0
  go_enter Tryz.func193, Tryz.ntmps193
  go_wp2_with (go_at_call 200; go_loud (refine Calls.mono (by exact HC.out _ HB0.out.1) ?_; rintro e w1 ⟨rfl, hb1⟩))
  go_ret
  exact ⟨rfl, below_trans HB0.out.1 hb1⟩
 by_cases k4 : kind = 4
 ·subst k4
  have hga := hasB_args hhas
  dsimp only at hga
  rw [fitsK_4]
  have HB0 : Hid (Below w.heap.size w ((w.alloc (.cells #[.string nm, .slice pa pl pc, .int .u8 r, .slice va vl vc, .slice aa al ac, .slice ba bl bc] 28)).alloc (.cells #[.int .u8 4, .int .u8 op, .int .i64 dst, .slice xa xn xc, .int .u64 bits, .int .i64 ref] 55)) ∧ Duo w.heap.size [.string nm, .slice pa pl pc, .int .u8 r, .slice va vl vc, .slice aa al ac, .slice ba bl bc] [.int .u8 4, .int .u8 op, .int .i64 dst, .slice xa xn xc, .int .u64 bits, .int .i64 ref] ((w.alloc (.cells #[.string nm, .slice pa pl pc, .int .u8 r, .slice va vl vc, .slice aa al ac, .slice ba bl bc] 28)).alloc (.cells #[.int .u8 4, .int .u8 op, .int .i64 dst, .slice xa xn xc, .int .u64 bits, .int .i64 ref] 55))) := ⟨below_alloc (below_alloc (Below.refl _ _) _) _, Duo.new w [.string nm, .slice pa pl pc, .int .u8 r, .slice va vl vc, .slice aa al ac, .slice ba bl bc] [.int .u8 4, .int .u8 op, .int .i64 dst, .slice xa xn xc, .int .u64 bits, .int .i64 ref] 28 55⟩
  have hd := hasB_dst hhas rfl
  have h12 : 1 ≤ xn ∧ xn ≤ 2 := by have h1 : (1 : Int) ≤ (args.length : Int) := hga.2.1; have h2 : (args.length : Int) ≤ 2 := hga.2.2; have := HL.out; omega
  have HC0 := fun W (hb : Below w.heap.size w W) => HOP.out W hb hd hga.1 h12.1 h12.2
  have HC : Hid _ := HC0
  clear hga hd hhas HAL HOP HAR HCA HVV HAA HPP HXX HPL h12 HC0
  go_enter Tryz.func193, Tryz.ntmps193
  go_wp2_with (go_at_call 201; go_loud (refine Calls.mono (by exact HC.out _ HB0.out.1) ?_; rintro e w1 ⟨rfl, hb1⟩))
  go_ret
  exact ⟨rfl, below_trans HB0.out.1 hb1⟩
 by_cases k5 : kind = 5
 ·subst k5
  have hga := hasB_args hhas
  dsimp only at hga
  rw [fitsK_5]
  have HB0 : Hid (Below w.heap.size w ((w.alloc (.cells #[.string nm, .slice pa pl pc, .int .u8 r, .slice va vl vc, .slice aa al ac, .slice ba bl bc] 28)).alloc (.cells #[.int .u8 5, .int .u8 op, .int .i64 dst, .slice xa xn xc, .int .u64 bits, .int .i64 ref] 55)) ∧ Duo w.heap.size [.string nm, .slice pa pl pc, .int .u8 r, .slice va vl vc, .slice aa al ac, .slice ba bl bc] [.int .u8 5, .int .u8 op, .int .i64 dst, .slice xa xn xc, .int .u64 bits, .int .i64 ref] ((w.alloc (.cells #[.string nm, .slice pa pl pc, .int .u8 r, .slice va vl vc, .slice aa al ac, .slice ba bl bc] 28)).alloc (.cells #[.int .u8 5, .int .u8 op, .int .i64 dst, .slice xa xn xc, .int .u64 bits, .int .i64 ref] 55))) := ⟨below_alloc (below_alloc (Below.refl _ _) _) _, Duo.new w [.string nm, .slice pa pl pc, .int .u8 r, .slice va vl vc, .slice aa al ac, .slice ba bl bc] [.int .u8 5, .int .u8 op, .int .i64 dst, .slice xa xn xc, .int .u64 bits, .int .i64 ref] 28 55⟩
  have hd := hasB_dst hhas rfl
  obtain ⟨g, o, kd, rfl, rfl, hkn, hg, cd⟩ := HVV.out dst hd
  have h1 : xn = 1 := by have h1 : (1 : Int) ≤ (args.length : Int) := hga.2.1; have h2 : (args.length : Int) ≤ 1 := hga.2.2; have := HL.out; omega
  subst h1
  obtain ⟨ga, oa, rfl, hgal, ca⟩ := HXX.out 0 (by omega)
  rw [Nat.add_zero] at ca
  have h0 : inB (args.getD 0 0) vl = true := List.all_eq_true.1 hga.1 (args.getD 0 0) (by rw [List.getD, List.getElem?_eq_getElem (by have := HL.out; omega)]; exact List.getElem_mem _)
  obtain ⟨g', o', k0, he, hv0, hk0n, _, c0⟩ := HVV.out _ h0
  cases he
  rw [hv0] at ca c0 ⊢
  have HC : Hid (∀ W, Calls Tryz.prog 202 #[.int .u8 (varT G.vars (kd : Int)), .int .u8 (varT G.vars (k0 : Int))] W fun e w' => e = .returned (.bool (turnsB (varT G.vars (kd : Int)) (varT G.vars (k0 : Int)))) ∧ w' = W) := fun W => turns_any _ _ W
  generalize varT G.vars (k0 : Int) = t0 at *
  generalize varT G.vars (kd : Int) = td at *
  clear hga hd hhas HAL HOP HAR HCA HVV HAA HPP HXX HPL hv0 h0 hbits
  go_enter Tryz.func193, Tryz.ntmps193
  go_wp2
  go_quiet ((go_at_call 202; exact Calls.quiet_of_same (HC.out _)))
  go_wp2
  go_ret
  exact ⟨rfl, below_drewN HB0.out.1 _⟩
 by_cases k6 : kind = 6
 ·subst k6
  have hga := hasB_args hhas
  dsimp only at hga
  rw [fitsK_6, HAQ.out]
  have HB0 : Hid (Below w.heap.size w ((w.alloc (.cells #[.string nm, .slice pa pl pc, .int .u8 r, .slice va vl vc, .slice aa al ac, .slice ba bl bc] 28)).alloc (.cells #[.int .u8 6, .int .u8 op, .int .i64 dst, .slice xa xn xc, .int .u64 bits, .int .i64 ref] 55)) ∧ Duo w.heap.size [.string nm, .slice pa pl pc, .int .u8 r, .slice va vl vc, .slice aa al ac, .slice ba bl bc] [.int .u8 6, .int .u8 op, .int .i64 dst, .slice xa xn xc, .int .u64 bits, .int .i64 ref] ((w.alloc (.cells #[.string nm, .slice pa pl pc, .int .u8 r, .slice va vl vc, .slice aa al ac, .slice ba bl bc] 28)).alloc (.cells #[.int .u8 6, .int .u8 op, .int .i64 dst, .slice xa xn xc, .int .u64 bits, .int .i64 ref] 55))) := ⟨below_alloc (below_alloc (Below.refl _ _) _) _, Duo.new w [.string nm, .slice pa pl pc, .int .u8 r, .slice va vl vc, .slice aa al ac, .slice ba bl bc] [.int .u8 6, .int .u8 op, .int .i64 dst, .slice xa xn xc, .int .u64 bits, .int .i64 ref] 28 55⟩
  have hl : xn = 1 := by have h1 : (1 : Int) ≤ (args.length : Int) := hga.2.1; have h2 : (args.length : Int) ≤ 1 := hga.2.2; have := HL.out; omega
  cases hb : inB ref al with
  | false =>
   have D1 : ∀ W, Calls Tryz.prog 178 #[.int .i64 ref, .int .i64 (al : Int)] W fun e w' => e = .returned (.bool false) ∧ Below W.heap.size W w' := fun W => (by have := HPL.out ref al W; rw [hb] at this; exact this.mono fun e w' ⟨he, hw⟩ => ⟨he, by rw [hw]; exact Below.refl _ _⟩)
   clear hga hhas HAL HOP HAR HCA HVV HAA HPP HXX HPL hbits hl
   go_enter Tryz.func193, Tryz.ntmps193
   go_wp2
   obtain ⟨W, hW⟩ : ∃ W, W = ((w.alloc (.cells #[.string nm, .slice pa pl pc, .int .u8 r, .slice va vl vc, .slice aa al ac, .slice ba bl bc] 28)).alloc (.cells #[.int .u8 6, .int .u8 op, .int .i64 dst, .slice xa xn xc, .int .u64 bits, .int .i64 ref] 55)) := ⟨_, rfl⟩
   rw [← hW] at HB0 ⊢
   clear hW
   obtain ⟨e0, e1, e2, e3, e4, e5⟩ := box6 HB0.out.2.g
   obtain ⟨x0, x1, x2, x3, x4, x5⟩ := box6 HB0.out.2.t
   have ke0 := cell_regrown e0
   have ke1 := cell_regrown e1
   have ke2 := cell_regrown e2
   have ke3 := cell_regrown e3
   have ke4 := cell_regrown e4
   have ke5 := cell_regrown e5
   have kx0 := cell_regrown x0
   have kx1 := cell_regrown x1
   have kx2 := cell_regrown x2
   have kx3 := cell_regrown x3
   have kx4 := cell_regrown x4
   have kx5 := cell_regrown x5
   have c1 : ∀ d os, _ := fun d os => Calls.regrown_of (D1 (grow (redrawn W d) os))
   have E1 : Hid _ := c1
   clear c1 D1 e0 e1 e2 e3 e4 e5 x0 x1 x2 x3 x4 x5
   refine wp_region_quiet_below (by kernel_rfl) (by kernel_rfl) ?_
   repeat (go_big_quiet_step ((first | with_reducible exact E1.out _ _)))
   refine wpQuiet_nil ?_
   intro _ hw'
   obtain ⟨⟨dq, osq⟩, hw''⟩ := hw'
   subst hw''
   go_wp2
   go_ret
   exact ⟨ret_bool (by simp), below_trans HB0.out.1 (below_regrown W dq osq)⟩
  | true =>
   have D1 : ∀ W, Calls Tryz.prog 178 #[.int .i64 ref, .int .i64 (al : Int)] W fun e w' => e = .returned (.bool true) ∧ Below W.heap.size W w' := fun W => (by have := HPL.out ref al W; rw [hb] at this; exact this.mono fun e w' ⟨he, hw⟩ => ⟨he, by rw [hw]; exact Below.refl _ _⟩)
   obtain ⟨kr, hkr⟩ : ∃ kr : Nat, ref = (kr : Int) := Int.eq_ofNat_of_zero_le (inB_iff.1 hb).1
   subst hkr
   have hkrn : kr < al := by have := (inB_iff.1 hb).2; omega
   have hkrn' : (kr : Int) < al := by omega
   obtain ⟨gr, orr, rfl, hgr, cr, _⟩ := HAA.out kr hkrn
   rw [Int.toNat_natCast]
   have HC := fun W hb => HAR.out (G.arrs.getD kr default).1 W hb (fun _ => hl) (fun h => absurd h (by omega))
   generalize (G.arrs.getD kr default).1 = ta at *
   generalize arrOkB G.vars ta ⟨6, op, dst, args, bits, (kr : Int)⟩ = ok at *
   clear hga hhas HAL HOP HAR HCA HVV HAA HPP HXX HPL hbits hl
   go_enter Tryz.func193, Tryz.ntmps193
   go_wp2
   obtain ⟨W, hW⟩ : ∃ W, W = ((w.alloc (.cells #[.string nm, .slice pa pl pc, .int .u8 r, .slice va vl vc, .slice (some ⟨gr, orr, none⟩) al ac, .slice ba bl bc] 28)).alloc (.cells #[.int .u8 6, .int .u8 op, .int .i64 dst, .slice xa xn xc, .int .u64 bits, .int .i64 (kr : Int)] 55)) := ⟨_, rfl⟩
   rw [← hW] at HB0 ⊢
   clear hW
   obtain ⟨e0, e1, e2, e3, e4, e5⟩ := box6 HB0.out.2.g
   obtain ⟨x0, x1, x2, x3, x4, x5⟩ := box6 HB0.out.2.t
   have ke0 := cell_regrown e0
   have ke1 := cell_regrown e1
   have ke2 := cell_regrown e2
   have ke3 := cell_regrown e3
   have ke4 := cell_regrown e4
   have ke5 := cell_regrown e5
   have kx0 := cell_regrown x0
   have kx1 := cell_regrown x1
   have kx2 := cell_regrown x2
   have kx3 := cell_regrown x3
   have kx4 := cell_regrown x4
   have kx5 := cell_regrown x5
   have kcr := cell_regrown ((HB0.out.1.cell (p := ⟨gr, orr + kr * 2, none⟩) hgr).trans cr)
   have c1 : ∀ d os, _ := fun d os => Calls.regrown_of (D1 (grow (redrawn W d) os))
   have E1 : Hid _ := c1
   have c2 : ∀ d os, _ := fun d os => Calls.regrown_of (HC _ (below_trans HB0.out.1 (below_regrown W d os)))
   have E2 : Hid _ := c2
   clear c1 D1 e0 e1 e2 e3 e4 e5 x0 x1 x2 x3 x4 x5 c2 HC cr
   refine wp_region_quiet_below (by kernel_rfl) (by kernel_rfl) ?_
   repeat (go_big_quiet_step ((first | with_reducible exact E1.out _ _ | with_reducible exact E2.out _ _)))
   refine wpQuiet_nil ?_
   intro _ hw'
   obtain ⟨⟨dq, osq⟩, hw''⟩ := hw'
   subst hw''
   go_wp2
   go_ret
   exact ⟨ret_bool (by simp), below_trans HB0.out.1 (below_regrown W dq osq)⟩
 by_cases k7 : kind = 7
 ·subst k7
  have hga := hasB_args hhas
  dsimp only at hga
  rw [fitsK_7, HAQ.out]
  have HB0 : Hid (Below w.heap.size w ((w.alloc (.cells #[.string nm, .slice pa pl pc, .int .u8 r, .slice va vl vc, .slice aa al ac, .slice ba bl bc] 28)).alloc (.cells #[.int .u8 7, .int .u8 op, .int .i64 dst, .slice xa xn xc, .int .u64 bits, .int .i64 ref] 55)) ∧ Duo w.heap.size [.string nm, .slice pa pl pc, .int .u8 r, .slice va vl vc, .slice aa al ac, .slice ba bl bc] [.int .u8 7, .int .u8 op, .int .i64 dst, .slice xa xn xc, .int .u64 bits, .int .i64 ref] ((w.alloc (.cells #[.string nm, .slice pa pl pc, .int .u8 r, .slice va vl vc, .slice aa al ac, .slice ba bl bc] 28)).alloc (.cells #[.int .u8 7, .int .u8 op, .int .i64 dst, .slice xa xn xc, .int .u64 bits, .int .i64 ref] 55))) := ⟨below_alloc (below_alloc (Below.refl _ _) _) _, Duo.new w [.string nm, .slice pa pl pc, .int .u8 r, .slice va vl vc, .slice aa al ac, .slice ba bl bc] [.int .u8 7, .int .u8 op, .int .i64 dst, .slice xa xn xc, .int .u64 bits, .int .i64 ref] 28 55⟩
  have hl : xn = 2 := by have h1 : (2 : Int) ≤ (args.length : Int) := hga.2.1; have h2 : (args.length : Int) ≤ 2 := hga.2.2; have := HL.out; omega
  cases hb : inB ref al with
  | false =>
   have D1 : ∀ W, Calls Tryz.prog 178 #[.int .i64 ref, .int .i64 (al : Int)] W fun e w' => e = .returned (.bool false) ∧ Below W.heap.size W w' := fun W => (by have := HPL.out ref al W; rw [hb] at this; exact this.mono fun e w' ⟨he, hw⟩ => ⟨he, by rw [hw]; exact Below.refl _ _⟩)
   clear hga hhas HAL HOP HAR HCA HVV HAA HPP HXX HPL hbits hl
   go_enter Tryz.func193, Tryz.ntmps193
   go_wp2
   obtain ⟨W, hW⟩ : ∃ W, W = ((w.alloc (.cells #[.string nm, .slice pa pl pc, .int .u8 r, .slice va vl vc, .slice aa al ac, .slice ba bl bc] 28)).alloc (.cells #[.int .u8 7, .int .u8 op, .int .i64 dst, .slice xa xn xc, .int .u64 bits, .int .i64 ref] 55)) := ⟨_, rfl⟩
   rw [← hW] at HB0 ⊢
   clear hW
   obtain ⟨e0, e1, e2, e3, e4, e5⟩ := box6 HB0.out.2.g
   obtain ⟨x0, x1, x2, x3, x4, x5⟩ := box6 HB0.out.2.t
   have ke0 := cell_regrown e0
   have ke1 := cell_regrown e1
   have ke2 := cell_regrown e2
   have ke3 := cell_regrown e3
   have ke4 := cell_regrown e4
   have ke5 := cell_regrown e5
   have kx0 := cell_regrown x0
   have kx1 := cell_regrown x1
   have kx2 := cell_regrown x2
   have kx3 := cell_regrown x3
   have kx4 := cell_regrown x4
   have kx5 := cell_regrown x5
   have c1 : ∀ d os, _ := fun d os => Calls.regrown_of (D1 (grow (redrawn W d) os))
   have E1 : Hid _ := c1
   clear c1 D1 e0 e1 e2 e3 e4 e5 x0 x1 x2 x3 x4 x5
   refine wp_region_quiet_below (by kernel_rfl) (by kernel_rfl) ?_
   repeat (go_big_quiet_step ((first | with_reducible exact E1.out _ _)))
   refine wpQuiet_nil ?_
   intro _ hw'
   obtain ⟨⟨dq, osq⟩, hw''⟩ := hw'
   subst hw''
   go_wp2
   go_ret
   exact ⟨ret_bool (by simp), below_trans HB0.out.1 (below_regrown W dq osq)⟩
  | true =>
   have D1 : ∀ W, Calls Tryz.prog 178 #[.int .i64 ref, .int .i64 (al : Int)] W fun e w' => e = .returned (.bool true) ∧ Below W.heap.size W w' := fun W => (by have := HPL.out ref al W; rw [hb] at this; exact this.mono fun e w' ⟨he, hw⟩ => ⟨he, by rw [hw]; exact Below.refl _ _⟩)
   obtain ⟨kr, hkr⟩ : ∃ kr : Nat, ref = (kr : Int) := Int.eq_ofNat_of_zero_le (inB_iff.1 hb).1
   subst hkr
   have hkrn : kr < al := by have := (inB_iff.1 hb).2; omega
   have hkrn' : (kr : Int) < al := by omega
   obtain ⟨gr, orr, rfl, hgr, cr, _⟩ := HAA.out kr hkrn
   rw [Int.toNat_natCast]
   have HC := fun W hb => HAR.out (G.arrs.getD kr default).1 W hb (fun h => absurd h (by omega)) (fun _ => hl)
   generalize (G.arrs.getD kr default).1 = ta at *
   generalize arrOkB G.vars ta ⟨7, op, dst, args, bits, (kr : Int)⟩ = ok at *
   clear hga hhas HAL HOP HAR HCA HVV HAA HPP HXX HPL hbits hl
   go_enter Tryz.func193, Tryz.ntmps193
   go_wp2
   obtain ⟨W, hW⟩ : ∃ W, W = ((w.alloc (.cells #[.string nm, .slice pa pl pc, .int .u8 r, .slice va vl vc, .slice (some ⟨gr, orr, none⟩) al ac, .slice ba bl bc] 28)).alloc (.cells #[.int .u8 7, .int .u8 op, .int .i64 dst, .slice xa xn xc, .int .u64 bits, .int .i64 (kr : Int)] 55)) := ⟨_, rfl⟩
   rw [← hW] at HB0 ⊢
   clear hW
   obtain ⟨e0, e1, e2, e3, e4, e5⟩ := box6 HB0.out.2.g
   obtain ⟨x0, x1, x2, x3, x4, x5⟩ := box6 HB0.out.2.t
   have ke0 := cell_regrown e0
   have ke1 := cell_regrown e1
   have ke2 := cell_regrown e2
   have ke3 := cell_regrown e3
   have ke4 := cell_regrown e4
   have ke5 := cell_regrown e5
   have kx0 := cell_regrown x0
   have kx1 := cell_regrown x1
   have kx2 := cell_regrown x2
   have kx3 := cell_regrown x3
   have kx4 := cell_regrown x4
   have kx5 := cell_regrown x5
   have kcr := cell_regrown ((HB0.out.1.cell (p := ⟨gr, orr + kr * 2, none⟩) hgr).trans cr)
   have c1 : ∀ d os, _ := fun d os => Calls.regrown_of (D1 (grow (redrawn W d) os))
   have E1 : Hid _ := c1
   have c2 : ∀ d os, _ := fun d os => Calls.regrown_of (HC _ (below_trans HB0.out.1 (below_regrown W d os)))
   have E2 : Hid _ := c2
   clear c1 D1 e0 e1 e2 e3 e4 e5 x0 x1 x2 x3 x4 x5 c2 HC cr
   refine wp_region_quiet_below (by kernel_rfl) (by kernel_rfl) ?_
   repeat (go_big_quiet_step ((first | with_reducible exact E1.out _ _ | with_reducible exact E2.out _ _)))
   refine wpQuiet_nil ?_
   intro _ hw'
   obtain ⟨⟨dq, osq⟩, hw''⟩ := hw'
   subst hw''
   go_wp2
   go_ret
   exact ⟨ret_bool (by simp), below_trans HB0.out.1 (below_regrown W dq osq)⟩
 by_cases k8 : kind = 8
 ·subst k8
  have hga := hasB_args hhas
  dsimp only at hga
  rw [fitsK_8, HAQ.out]
  have HB0 : Hid (Below w.heap.size w ((w.alloc (.cells #[.string nm, .slice pa pl pc, .int .u8 r, .slice va vl vc, .slice aa al ac, .slice ba bl bc] 28)).alloc (.cells #[.int .u8 8, .int .u8 op, .int .i64 dst, .slice xa xn xc, .int .u64 bits, .int .i64 ref] 55)) ∧ Duo w.heap.size [.string nm, .slice pa pl pc, .int .u8 r, .slice va vl vc, .slice aa al ac, .slice ba bl bc] [.int .u8 8, .int .u8 op, .int .i64 dst, .slice xa xn xc, .int .u64 bits, .int .i64 ref] ((w.alloc (.cells #[.string nm, .slice pa pl pc, .int .u8 r, .slice va vl vc, .slice aa al ac, .slice ba bl bc] 28)).alloc (.cells #[.int .u8 8, .int .u8 op, .int .i64 dst, .slice xa xn xc, .int .u64 bits, .int .i64 ref] 55))) := ⟨below_alloc (below_alloc (Below.refl _ _) _) _, Duo.new w [.string nm, .slice pa pl pc, .int .u8 r, .slice va vl vc, .slice aa al ac, .slice ba bl bc] [.int .u8 8, .int .u8 op, .int .i64 dst, .slice xa xn xc, .int .u64 bits, .int .i64 ref] 28 55⟩
  cases hb : inB ref al with
  | false =>
   have D1 : ∀ W, Calls Tryz.prog 178 #[.int .i64 ref, .int .i64 (al : Int)] W fun e w' => e = .returned (.bool false) ∧ Below W.heap.size W w' := fun W => (by have := HPL.out ref al W; rw [hb] at this; exact this.mono fun e w' ⟨he, hw⟩ => ⟨he, by rw [hw]; exact Below.refl _ _⟩)
   clear hga hhas HAL HOP HAR HCA HVV HAA HPP HXX HPL hbits
   go_enter Tryz.func193, Tryz.ntmps193
   go_wp2
   obtain ⟨W, hW⟩ : ∃ W, W = ((w.alloc (.cells #[.string nm, .slice pa pl pc, .int .u8 r, .slice va vl vc, .slice aa al ac, .slice ba bl bc] 28)).alloc (.cells #[.int .u8 8, .int .u8 op, .int .i64 dst, .slice xa xn xc, .int .u64 bits, .int .i64 ref] 55)) := ⟨_, rfl⟩
   rw [← hW] at HB0 ⊢
   clear hW
   obtain ⟨e0, e1, e2, e3, e4, e5⟩ := box6 HB0.out.2.g
   obtain ⟨x0, x1, x2, x3, x4, x5⟩ := box6 HB0.out.2.t
   have ke0 := cell_regrown e0
   have ke1 := cell_regrown e1
   have ke2 := cell_regrown e2
   have ke3 := cell_regrown e3
   have ke4 := cell_regrown e4
   have ke5 := cell_regrown e5
   have kx0 := cell_regrown x0
   have kx1 := cell_regrown x1
   have kx2 := cell_regrown x2
   have kx3 := cell_regrown x3
   have kx4 := cell_regrown x4
   have kx5 := cell_regrown x5
   have c1 : ∀ d os, _ := fun d os => Calls.regrown_of (D1 (grow (redrawn W d) os))
   have E1 : Hid _ := c1
   clear c1 D1 e0 e1 e2 e3 e4 e5 x0 x1 x2 x3 x4 x5
   refine wp_region_quiet_below (by kernel_rfl) (by kernel_rfl) ?_
   repeat (go_big_quiet_step ((first | with_reducible exact E1.out _ _)))
   refine wpQuiet_nil ?_
   intro _ hw'
   obtain ⟨⟨dq, osq⟩, hw''⟩ := hw'
   subst hw''
   go_wp2
   go_ret
   exact ⟨ret_bool (by simp), below_trans HB0.out.1 (below_regrown W dq osq)⟩
  | true =>
   have D1 : ∀ W, Calls Tryz.prog 178 #[.int .i64 ref, .int .i64 (al : Int)] W fun e w' => e = .returned (.bool true) ∧ Below W.heap.size W w' := fun W => (by have := HPL.out ref al W; rw [hb] at this; exact this.mono fun e w' ⟨he, hw⟩ => ⟨he, by rw [hw]; exact Below.refl _ _⟩)
   obtain ⟨kr, hkr⟩ : ∃ kr : Nat, ref = (kr : Int) := Int.eq_ofNat_of_zero_le (inB_iff.1 hb).1
   subst hkr
   have hkrn : kr < al := by have := (inB_iff.1 hb).2; omega
   have hkrn' : (kr : Int) < al := by omega
   obtain ⟨gr, orr, rfl, hgr, cr, _⟩ := HAA.out kr hkrn
   rw [Int.toNat_natCast]
   have HC := fun W hb => HAR.out (G.arrs.getD kr default).1 W hb (fun h => absurd h (by omega)) (fun h => absurd h (by omega))
   generalize (G.arrs.getD kr default).1 = ta at *
   generalize arrOkB G.vars ta ⟨8, op, dst, args, bits, (kr : Int)⟩ = ok at *
   clear hga hhas HAL HOP HAR HCA HVV HAA HPP HXX HPL hbits
   go_enter Tryz.func193, Tryz.ntmps193
   go_wp2
   obtain ⟨W, hW⟩ : ∃ W, W = ((w.alloc (.cells #[.string nm, .slice pa pl pc, .int .u8 r, .slice va vl vc, .slice (some ⟨gr, orr, none⟩) al ac, .slice ba bl bc] 28)).alloc (.cells #[.int .u8 8, .int .u8 op, .int .i64 dst, .slice xa xn xc, .int .u64 bits, .int .i64 (kr : Int)] 55)) := ⟨_, rfl⟩
   rw [← hW] at HB0 ⊢
   clear hW
   obtain ⟨e0, e1, e2, e3, e4, e5⟩ := box6 HB0.out.2.g
   obtain ⟨x0, x1, x2, x3, x4, x5⟩ := box6 HB0.out.2.t
   have ke0 := cell_regrown e0
   have ke1 := cell_regrown e1
   have ke2 := cell_regrown e2
   have ke3 := cell_regrown e3
   have ke4 := cell_regrown e4
   have ke5 := cell_regrown e5
   have kx0 := cell_regrown x0
   have kx1 := cell_regrown x1
   have kx2 := cell_regrown x2
   have kx3 := cell_regrown x3
   have kx4 := cell_regrown x4
   have kx5 := cell_regrown x5
   have kcr := cell_regrown ((HB0.out.1.cell (p := ⟨gr, orr + kr * 2, none⟩) hgr).trans cr)
   have c1 : ∀ d os, _ := fun d os => Calls.regrown_of (D1 (grow (redrawn W d) os))
   have E1 : Hid _ := c1
   have c2 : ∀ d os, _ := fun d os => Calls.regrown_of (HC _ (below_trans HB0.out.1 (below_regrown W d os)))
   have E2 : Hid _ := c2
   clear c1 D1 e0 e1 e2 e3 e4 e5 x0 x1 x2 x3 x4 x5 c2 HC cr
   refine wp_region_quiet_below (by kernel_rfl) (by kernel_rfl) ?_
   repeat (go_big_quiet_step ((first | with_reducible exact E1.out _ _ | with_reducible exact E2.out _ _)))
   refine wpQuiet_nil ?_
   intro _ hw'
   obtain ⟨⟨dq, osq⟩, hw''⟩ := hw'
   subst hw''
   go_wp2
   go_ret
   exact ⟨ret_bool (by simp), below_trans HB0.out.1 (below_regrown W dq osq)⟩
 by_cases k9 : kind = 9
 ·subst k9
  have hga := hasB_args hhas
  dsimp only at hga
  rw [fitsK_9, HPQ.out]
  have HB0 : Hid (Below w.heap.size w ((w.alloc (.cells #[.string nm, .slice pa pl pc, .int .u8 r, .slice va vl vc, .slice aa al ac, .slice ba bl bc] 28)).alloc (.cells #[.int .u8 9, .int .u8 op, .int .i64 dst, .slice xa xn xc, .int .u64 bits, .int .i64 ref] 55)) ∧ Duo w.heap.size [.string nm, .slice pa pl pc, .int .u8 r, .slice va vl vc, .slice aa al ac, .slice ba bl bc] [.int .u8 9, .int .u8 op, .int .i64 dst, .slice xa xn xc, .int .u64 bits, .int .i64 ref] ((w.alloc (.cells #[.string nm, .slice pa pl pc, .int .u8 r, .slice va vl vc, .slice aa al ac, .slice ba bl bc] 28)).alloc (.cells #[.int .u8 9, .int .u8 op, .int .i64 dst, .slice xa xn xc, .int .u64 bits, .int .i64 ref] 55))) := ⟨below_alloc (below_alloc (Below.refl _ _) _) _, Duo.new w [.string nm, .slice pa pl pc, .int .u8 r, .slice va vl vc, .slice aa al ac, .slice ba bl bc] [.int .u8 9, .int .u8 op, .int .i64 dst, .slice xa xn xc, .int .u64 bits, .int .i64 ref] 28 55⟩
  cases hb : inB ref pn with
  | false =>
   have D1 : ∀ W, Calls Tryz.prog 178 #[.int .i64 ref, .int .i64 (pn : Int)] W fun e w' => e = .returned (.bool false) ∧ Below W.heap.size W w' := fun W => (by have := HPL.out ref pn W; rw [hb] at this; exact this.mono fun e w' ⟨he, hw⟩ => ⟨he, by rw [hw]; exact Below.refl _ _⟩)
   clear hga hhas HAL HOP HAR HCA HVV HAA HPP HXX HPL hbits
   go_enter Tryz.func193, Tryz.ntmps193
   go_wp2
   obtain ⟨W, hW⟩ : ∃ W, W = ((w.alloc (.cells #[.string nm, .slice pa pl pc, .int .u8 r, .slice va vl vc, .slice aa al ac, .slice ba bl bc] 28)).alloc (.cells #[.int .u8 9, .int .u8 op, .int .i64 dst, .slice xa xn xc, .int .u64 bits, .int .i64 ref] 55)) := ⟨_, rfl⟩
   rw [← hW] at HB0 ⊢
   clear hW
   obtain ⟨e0, e1, e2, e3, e4, e5⟩ := box6 HB0.out.2.g
   obtain ⟨x0, x1, x2, x3, x4, x5⟩ := box6 HB0.out.2.t
   have ke0 := cell_regrown e0
   have ke1 := cell_regrown e1
   have ke2 := cell_regrown e2
   have ke3 := cell_regrown e3
   have ke4 := cell_regrown e4
   have ke5 := cell_regrown e5
   have kx0 := cell_regrown x0
   have kx1 := cell_regrown x1
   have kx2 := cell_regrown x2
   have kx3 := cell_regrown x3
   have kx4 := cell_regrown x4
   have kx5 := cell_regrown x5
   have c1 : ∀ d os, _ := fun d os => Calls.regrown_of (D1 (grow (redrawn W d) os))
   have E1 : Hid _ := c1
   clear c1 D1 e0 e1 e2 e3 e4 e5 x0 x1 x2 x3 x4 x5
   refine wp_region_quiet_below (by kernel_rfl) (by kernel_rfl) ?_
   repeat (go_big_quiet_step ((first | with_reducible exact E1.out _ _)))
   refine wpQuiet_nil ?_
   intro _ hw'
   obtain ⟨⟨dq, osq⟩, hw''⟩ := hw'
   subst hw''
   go_wp2
   go_ret
   exact ⟨ret_bool (by simp), below_trans HB0.out.1 (below_regrown W dq osq)⟩
  | true =>
   have D1 : ∀ W, Calls Tryz.prog 178 #[.int .i64 ref, .int .i64 (pn : Int)] W fun e w' => e = .returned (.bool true) ∧ Below W.heap.size W w' := fun W => (by have := HPL.out ref pn W; rw [hb] at this; exact this.mono fun e w' ⟨he, hw⟩ => ⟨he, by rw [hw]; exact Below.refl _ _⟩)
   obtain ⟨kr, hkr⟩ : ∃ kr : Nat, ref = (kr : Int) := Int.eq_ofNat_of_zero_le (inB_iff.1 hb).1
   subst hkr
   have hkrn : kr < pn := by have := (inB_iff.1 hb).2; omega
   have hkrn' : (kr : Int) < pn := by omega
   obtain ⟨gr, orr, fpv, fvv, fav, fbv, rfl, hgr, r0, r1, r2, r3, r4, r5, hGF⟩ := HPP.out kr hkrn
   rw [Int.toNat_natCast]
   have HC := fun W hb => HCA.out (p.getD kr default) fpv fvv fav fbv W hb hGF
   obtain ⟨fpa, fpc, fva, fvc, faa, fac, fba, fbc, rfl, rfl, rfl, rfl, _, _, _, _⟩ := hGF.openF
   generalize callOkB G.vars ⟨9, op, dst, args, bits, (kr : Int)⟩ (p.getD kr default) = ok at *
   generalize (p.getD kr default).name = zname at *
   generalize (p.getD kr default).params.length = zparamslength at *
   generalize (p.getD kr default).result = zresult at *
   generalize (p.getD kr default).vars.length = zvarslength at *
   generalize (p.getD kr default).arrs.length = zarrslength at *
   generalize (p.getD kr default).blocks.length = zblockslength at *
   clear hga hhas HAL HOP HAR HCA HVV HAA HPP HXX HPL hbits hGF
   go_enter Tryz.func193, Tryz.ntmps193
   go_wp2
   obtain ⟨W, hW⟩ : ∃ W, W = ((w.alloc (.cells #[.string nm, .slice pa pl pc, .int .u8 r, .slice va vl vc, .slice aa al ac, .slice ba bl bc] 28)).alloc (.cells #[.int .u8 9, .int .u8 op, .int .i64 dst, .slice xa xn xc, .int .u64 bits, .int .i64 (kr : Int)] 55)) := ⟨_, rfl⟩
   rw [← hW] at HB0 ⊢
   clear hW
   obtain ⟨e0, e1, e2, e3, e4, e5⟩ := box6 HB0.out.2.g
   obtain ⟨x0, x1, x2, x3, x4, x5⟩ := box6 HB0.out.2.t
   have ke0 := cell_regrown e0
   have ke1 := cell_regrown e1
   have ke2 := cell_regrown e2
   have ke3 := cell_regrown e3
   have ke4 := cell_regrown e4
   have ke5 := cell_regrown e5
   have kx0 := cell_regrown x0
   have kx1 := cell_regrown x1
   have kx2 := cell_regrown x2
   have kx3 := cell_regrown x3
   have kx4 := cell_regrown x4
   have kx5 := cell_regrown x5
   have kr0 := cell_regrown ((HB0.out.1.cell (p := ⟨gr, orr + kr * 6, none⟩) hgr).trans r0)
   have kr1 := cell_regrown ((HB0.out.1.cell (p := ⟨gr, orr + kr * 6 + 1, none⟩) hgr).trans r1)
   have kr2 := cell_regrown ((HB0.out.1.cell (p := ⟨gr, orr + kr * 6 + 2, none⟩) hgr).trans r2)
   have kr3 := cell_regrown ((HB0.out.1.cell (p := ⟨gr, orr + kr * 6 + 3, none⟩) hgr).trans r3)
   have kr4 := cell_regrown ((HB0.out.1.cell (p := ⟨gr, orr + kr * 6 + 4, none⟩) hgr).trans r4)
   have kr5 := cell_regrown ((HB0.out.1.cell (p := ⟨gr, orr + kr * 6 + 5, none⟩) hgr).trans r5)
   have c1 : ∀ d os, _ := fun d os => Calls.regrown_of (D1 (grow (redrawn W d) os))
   have E1 : Hid _ := c1
   have c2 : ∀ d os, _ := fun d os => Calls.regrown_of (HC _ (below_trans HB0.out.1 (below_regrown W d os)))
   have E2 : Hid _ := c2
   clear c1 D1 e0 e1 e2 e3 e4 e5 x0 x1 x2 x3 x4 x5 c2 HC r0 r1 r2 r3 r4 r5
   refine wp_region_quiet_below (by kernel_rfl) (by kernel_rfl) ?_
   repeat (go_big_quiet_step ((first | with_reducible exact E1.out _ _ | with_reducible exact E2.out _ _)))
   refine wpQuiet_nil ?_
   intro _ hw'
   obtain ⟨⟨dq, osq⟩, hw''⟩ := hw'
   subst hw''
   go_wp2
   go_ret
   exact ⟨ret_bool (by simp), below_trans HB0.out.1 (below_regrown W dq osq)⟩
 by_cases k10 : kind = 10
 ·subst k10
  have hga := hasB_args hhas
  dsimp only at hga
  rw [fitsK_10]
  have HB0 : Hid (Below w.heap.size w ((w.alloc (.cells #[.string nm, .slice pa pl pc, .int .u8 r, .slice va vl vc, .slice aa al ac, .slice ba bl bc] 28)).alloc (.cells #[.int .u8 10, .int .u8 op, .int .i64 dst, .slice xa xn xc, .int .u64 bits, .int .i64 ref] 55)) ∧ Duo w.heap.size [.string nm, .slice pa pl pc, .int .u8 r, .slice va vl vc, .slice aa al ac, .slice ba bl bc] [.int .u8 10, .int .u8 op, .int .i64 dst, .slice xa xn xc, .int .u64 bits, .int .i64 ref] ((w.alloc (.cells #[.string nm, .slice pa pl pc, .int .u8 r, .slice va vl vc, .slice aa al ac, .slice ba bl bc] 28)).alloc (.cells #[.int .u8 10, .int .u8 op, .int .i64 dst, .slice xa xn xc, .int .u64 bits, .int .i64 ref] 55))) := ⟨below_alloc (below_alloc (Below.refl _ _) _) _, Duo.new w [.string nm, .slice pa pl pc, .int .u8 r, .slice va vl vc, .slice aa al ac, .slice ba bl bc] [.int .u8 10, .int .u8 op, .int .i64 dst, .slice xa xn xc, .int .u64 bits, .int .i64 ref] 28 55⟩
  clear hga hhas HAL HOP HAR HCA HVV HAA HPP HXX HPL hbits
  go_enter Tryz.func193, Tryz.ntmps193
  go_wp2
  go_ret
  exact ⟨rfl, HB0.out.1⟩
 exfalso
 omega
end Go.Proofs.YtajaijilfclhpaaGreatDoor
