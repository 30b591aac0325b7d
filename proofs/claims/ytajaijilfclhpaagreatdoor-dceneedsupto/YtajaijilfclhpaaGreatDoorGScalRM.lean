/- Types of an instruction: phis and copies; operations. -/
import Derived.Test.YtajaijilfclhpaaGreatDoorGLaidM
import Derived.Test.YtajaijilfclhpaaGreatDoorGBoxM
namespace Go.Proofs.YtajaijilfclhpaaGreatDoor
open Go.RowKit

theorem quiet_add {P : Program} {f : FuncId} {args : Array Value} {w : World} {a x : Nat} {v : Value} (h : Calls P f args (w.drewN (a + x)) fun e w' => e = .returned v ∧ w' = w.drewN (a + x)) : Calls P f args (w.drewN (a + x)) fun e w'' => e = .returned v ∧ ∃ n, w'' = w.drewN (a + n) :=
 h.mono fun _ _ ⟨he, hm⟩ => ⟨he, x, hm⟩
def varT (vars : List Int) (v : Int) : Int := vars.getD v.toNat 0
theorem TysAt.var {w : World} {a : Option Addr} {n c : Nat} {l : List Int} (h : TysAt w (.slice a n c) l) {v : Int} (hv : inB v l.length = true) : ∃ g o, ∃ k : Nat, a = some ⟨g, o, none⟩ ∧ v = (k : Int) ∧ (k : Int) < (l.length : Int) ∧ g < w.heap.size ∧ w.cell? ⟨g, o + k, none⟩ = some (.int .u8 (varT l v)) := by
 obtain ⟨k, hk⟩ : ∃ k : Nat, v = (k : Int) := Int.eq_ofNat_of_zero_le (inB_iff.1 hv).1
 have hlt : k < l.length := by have := (inB_iff.1 hv).2; omega
 obtain ⟨g, o, ha, hg, hc⟩ := h.get hlt
 refine ⟨g, o, k, ha, hk, by omega, hg, ?_⟩
 rw [hc, hk, varT, Int.toNat_natCast]
def alikeB (vars : List Int) (x : In) : Bool := x.args.all (fun v => varT vars v == varT vars x.dst) && typedB (varT vars x.dst)
structure Duo (B : Nat) (g t : List Value) (w : World) : Prop where
 g : Box w B g
 t : Box w (B + 1) t
theorem Duo.below {B : Nat} {g t : List Value} {w w' : World} (h : Duo B g t w) (hb : Below w.heap.size w w') : Duo B g t w' := ⟨h.g.below hb, h.t.below hb⟩
theorem Duo.new (w : World) (g t : List Value) (tg tt : TypeId) : Duo w.heap.size g t ((w.alloc (.cells g.toArray tg)).alloc (.cells t.toArray tt)) := by
 have al : ∀ (W : World) (o : Obj), Below W.heap.size W (W.alloc o) := fun W o => below_alloc (Below.refl _ _) o
 have b0 := Box.new w g tg
 have b1 := Box.new (w.alloc (.cells g.toArray tg)) t tt
 rw [show (w.alloc (.cells g.toArray tg)).heap.size = w.heap.size + 1 by simp] at b1
 exact ⟨b0.below (al _ _), b1⟩
set_option maxRecDepth 100000 in
set_option maxHeartbeats 1000000 in
theorem alike_any (G : Gr) (pv vv av bv : Value) (x : In) (xv : Value) (w : World) (h : GrAt w pv vv av bv G) (hA : IntsAt w xv x.args) (hd : inB x.dst G.vars.length = true) (hal : x.args.all (inB · G.vars.length) = true) :
  Calls Tryz.prog 200 #[.agg #[.string G.name, pv, .int .u8 G.result, vv, av, bv], inV x xv] w fun e w' => e = .returned (.bool (alikeB G.vars x)) ∧ Below w.heap.size w w' := by
 obtain ⟨pa, pc, va, vc, aa, ac, ba, bc, rfl, rfl, rfl, rfl, _, hvl, _, _⟩ := h.openF
 obtain ⟨xa, xc, rfl, hxl⟩ := hA.form
 obtain ⟨kind, op, dst, args, bits, ref⟩ := x
 obtain ⟨nm, ps, r, vs, ars, bs⟩ := G
 dsimp only at *
 have HV := h.vs
 dsimp only at HV
 obtain ⟨g, o, k, rfl, rfl, hkn, hg, cd⟩ := HV.var hd
 have HVA : Hid (∀ v, inB v vs.length = true → ∃ k : Nat, v = (k : Int) ∧ (k : Int) < vs.length ∧ w.cell? ⟨g, o + k, none⟩ = some (.int .u8 (varT vs v))) := fun v hv => by
  obtain ⟨g', o', k', e1, e2, e3, _, e5⟩ := HV.var hv
  cases e1
  exact ⟨k', e2, e3, e5⟩
 have HAA : Hid (∀ i, i < args.length → _) := fun i hi => hA.get (i := i) hi
 have HAL : Hid (∀ i, i < args.length → inB (args.getD i 0) vs.length = true) := fun i hi => by
  have := List.all_eq_true.1 hal (args.getD i 0) (by rw [List.getD, List.getElem?_eq_getElem hi]; exact List.getElem_mem hi)
  exact this
 have HT : Hid (∀ t W, _) := fun t W => isType_any t W
 unfold alikeB
 dsimp only
 generalize varT vs (k : Int) = td at *
 obtain ⟨R, hR⟩ : ∃ R, R = (args.all (fun v => varT vs v == td) && typedB td) := ⟨_, rfl⟩
 rw [← hR]
 have HR : Hid (R = ((args.drop 0).all (fun v => varT vs v == td) && typedB td)) := hR
 have H0 : Hid (Below w.heap.size w ((w.alloc (.cells #[.string nm, .slice pa ps.length pc, .int .u8 r, .slice (some ⟨g, o, none⟩) vs.length vc, .slice aa ars.length ac, .slice ba bs.length bc] 28)).alloc (.cells #[.int .u8 kind, .int .u8 op, .int .i64 (k : Int), .slice xa args.length xc, .int .u64 bits, .int .i64 ref] 55)) ∧ Duo w.heap.size [.string nm, .slice pa ps.length pc, .int .u8 r, .slice (some ⟨g, o, none⟩) vs.length vc, .slice aa ars.length ac, .slice ba bs.length bc] [.int .u8 kind, .int .u8 op, .int .i64 (k : Int), .slice xa args.length xc, .int .u64 bits, .int .i64 ref] ((w.alloc (.cells #[.string nm, .slice pa ps.length pc, .int .u8 r, .slice (some ⟨g, o, none⟩) vs.length vc, .slice aa ars.length ac, .slice ba bs.length bc] 28)).alloc (.cells #[.int .u8 kind, .int .u8 op, .int .i64 (k : Int), .slice xa args.length xc, .int .u64 bits, .int .i64 ref] 55))) := ⟨below_alloc (below_alloc (Below.refl _ _) _) _, Duo.new w [.string nm, .slice pa ps.length pc, .int .u8 r, .slice (some ⟨g, o, none⟩) vs.length vc, .slice aa ars.length ac, .slice ba bs.length bc] [.int .u8 kind, .int .u8 op, .int .i64 (k : Int), .slice xa args.length xc, .int .u64 bits, .int .i64 ref] 28 55⟩
 clear hR h hA HV hal hd
 go_enter Tryz.func200, Tryz.ntmps200
 go_wp2
 go_loopw [17] (fun vi wr => ∃ i : Nat, vi = .int .i64 i ∧ i ≤ args.length ∧ Hid (R = ((args.drop i).all (fun v => varT vs v == td) && typedB td) ∧ Below w.heap.size w wr ∧ Duo w.heap.size [.string nm, .slice pa ps.length pc, .int .u8 r, .slice (some ⟨g, o, none⟩) vs.length vc, .slice aa ars.length ac, .slice ba bs.length bc] [.int .u8 kind, .int .u8 op, .int .i64 (k : Int), .slice xa args.length xc, .int .u64 bits, .int .i64 ref] wr)) (fun vi _ => args.length - (intOf vi).toNat)
 case atStart => exact ⟨0, rfl, by omega, HR.out, H0.out.1, H0.out.2⟩
 case round =>
  obtain ⟨i, rfl, hi, hr⟩ := hrel
  clear HR H0
  obtain ⟨e0, e1, e2, e3, e4, e5⟩ := box6 hr.out.2.2.g
  obtain ⟨x0, x1, x2, x3, x4, x5⟩ := box6 hr.out.2.2.t
  by_cases hin : i < args.length
  ·obtain ⟨ga, oa, rfl, hga, ca⟩ := HAA.out i hin
   have hin' : (i : Int) < args.length := by omega
   obtain ⟨ka, hka, hkan, cva⟩ := HVA.out _ (HAL.out i hin)
   have hd : R = ((varT vs (args.getD i 0) == td) && (args.drop (i + 1)).all (fun v => varT vs v == td) && typedB td) := by rw [hr.out.1, all_drop (d := 0) hin]
   rw [hka] at ca cva hd
   have ca' := (hr.out.2.1.cell (p := ⟨ga, oa + i, none⟩) hga).trans ca
   have cva' := (hr.out.2.1.cell (p := ⟨g, o + ka, none⟩) hg).trans cva
   generalize varT vs (ka : Int) = ta at *
   clear ca cva hka HVA HAL HAA
   by_cases hne : ta = td
   ·subst hne
    simp only [BEq.rfl, Bool.true_and] at hd
    have HD : Hid _ := hd
    clear hd
    go_wp2
    go_roundw
    case rel => exact ⟨i + 1, by first | rfl | (congr 1; omega), by omega, HD.out, hr.out.2⟩
    case measure => simp [intOf]; omega
   ·have hf : (ta == td) = false := beq_false_of_ne hne
    have hf2 : (ta != td) = true := by simp [hne]
    rw [hf] at hd
    simp only [Bool.false_and] at hd
    have HD : Hid _ := hd
    clear hd
    go_wp2
    go_ret
    exact ⟨ret_bool HD.out.symm, hr.out.2.1⟩
  ·obtain rfl : i = args.length := by omega
   have hd : R = typedB td := by rw [hr.out.1, List.drop_length]; simp
   have HD : Hid _ := hd
   have HTJ : Hid _ := HT.out td
   clear hd HVA HAL HAA
   go_wp2_with (go_at_call 177; refine Calls.mono (HTJ.out _) ?_; rintro e wx ⟨rfl, hwx⟩; subst wx)
   go_ret
   exact ⟨ret_bool HD.out.symm, hr.out.2.1⟩
end Go.Proofs.YtajaijilfclhpaaGreatDoor
/- Types of an operation. -/
namespace Go.Proofs.YtajaijilfclhpaaGreatDoor
open Go.RowKit

def nOp (op : Int) : Int := if op = 17 ∨ op = 18 then 1 else 2
def opOkB (vars : List Int) (x : In) : Bool := ofB x.op (varT vars (x.args.getD 0 0)) && ((x.args.length : Int) == nOp x.op) && (varT vars (x.args.getD (x.args.length - 1) 0) == varT vars (x.args.getD 0 0)) && (varT vars x.dst == ofT x.op (varT vars (x.args.getD 0 0)))
set_option maxRecDepth 100000 in
set_option maxHeartbeats 2000000 in
theorem fitsOp_any (G : Gr) (pv vv av bv : Value) (x : In) (xv : Value) (w : World) (h : GrAt w pv vv av bv G) (hA : IntsAt w xv x.args) (hd : inB x.dst G.vars.length = true) (hal : x.args.all (inB · G.vars.length) = true) (h1 : 1 ≤ x.args.length) (h2 : x.args.length ≤ 2) :
  Calls Tryz.prog 201 #[.agg #[.string G.name, pv, .int .u8 G.result, vv, av, bv], inV x xv] w fun e w' => e = .returned (.bool (opOkB G.vars x)) ∧ Below w.heap.size w w' := by
 obtain ⟨pa, pc, va, vc, aa, ac, ba, bc, rfl, rfl, rfl, rfl, _, hvl, _, _⟩ := h.openF
 obtain ⟨xa, xc, rfl, hxl⟩ := hA.form
 obtain ⟨kind, op, dst, args, bits, ref⟩ := x
 obtain ⟨nm, ps, r, vs, ars, bs⟩ := G
 dsimp only at *
 have HV := h.vs
 dsimp only at HV
 obtain ⟨g, o, k, rfl, rfl, hkn, hg, cd⟩ := HV.var hd
 have HVA : ∀ v, inB v vs.length = true → ∃ k : Nat, v = (k : Int) ∧ (k : Int) < vs.length ∧ w.cell? ⟨g, o + k, none⟩ = some (.int .u8 (varT vs v)) := fun v hv => by
  obtain ⟨g', o', k', e1, e2, e3, _, e5⟩ := HV.var hv
  cases e1
  exact ⟨k', e2, e3, e5⟩
 have HAL : ∀ i, i < args.length → inB (args.getD i 0) vs.length = true := fun i hi => by
  have := List.all_eq_true.1 hal (args.getD i 0) (by rw [List.getD, List.getElem?_eq_getElem hi]; exact List.getElem_mem hi)
  exact this
 obtain ⟨ga, oa, rfl, hga, ca⟩ := hA.get (i := 0) (by omega)
 obtain ⟨ga2, oa2, he2, _, cb⟩ := hA.get (i := args.length - 1) (by omega)
 cases he2
 obtain ⟨k0, hk0, hk0n, c0⟩ := HVA _ (HAL 0 (by omega))
 obtain ⟨k1, hk1, hk1n, c1⟩ := HVA _ (HAL (args.length - 1) (by omega))
 unfold opOkB
 dsimp only
 rw [hk0] at ca c0 ⊢
 rw [hk1] at cb c1 ⊢
 have HOF : Hid (∀ W, Calls Tryz.prog 211 #[.int .u8 op, .int .u8 (varT vs (k0 : Int))] W fun e w' => e = .returned (.tuple #[.int .u8 (ofT op (varT vs (k0 : Int))), .bool (ofB op (varT vs (k0 : Int)))]) ∧ w' = W) := fun W => of_any op _ W
 generalize varT vs (k : Int) = td at *
 generalize varT vs (k0 : Int) = t0 at *
 generalize varT vs (k1 : Int) = t1 at *
 generalize ofT op t0 = told at *
 generalize ofB op t0 = ok at *
 have hm : ∃ m, args.length = m + 1 := ⟨args.length - 1, by omega⟩
 obtain ⟨m, hm⟩ := hm
 rw [hm] at cb hxl ⊢
 rw [show m + 1 - 1 = m by omega] at cb
 have HB : Hid (∀ W, Below w.heap.size w W → Below w.heap.size w W) := fun W hW => hW
 have hm' : (m : Int) ≤ 1 := by omega
 rw [Nat.add_zero] at ca
 clear h hA hd hal HV HVA HAL hk0 hk1 h1 hm hxl hvl h2
 have HB0 : Hid (Below w.heap.size w ((w.alloc (.cells #[.string nm, .slice pa ps.length pc, .int .u8 r, .slice (some ⟨g, o, none⟩) vs.length vc, .slice aa ars.length ac, .slice ba bs.length bc] 28)).alloc (.cells #[.int .u8 kind, .int .u8 op, .int .i64 (k : Int), .slice (some ⟨ga, oa, none⟩) (m + 1) xc, .int .u64 bits, .int .i64 ref] 55))) := below_alloc (below_alloc (Below.refl _ _) _) _
 by_cases o17 : op = 17
 ·subst o17
  have hnop : nOp 17 = 1 := rfl
  rw [hnop]
  clear hnop
  cases ok with
  | false =>
   go_enter Tryz.func201, Tryz.ntmps201
   go_wp2
   go_quiet (fail)
   go_wp2
   go_quiet ((go_at_call 211; exact quiet_add (HOF.out _)))
   go_wp2
   go_quiet (fail)
   go_wp2
   go_ret
   exact ⟨ret_bool (by first | rfl | simp), by repeat (first | exact HB0.out | refine below_drewN ?_ _ | refine below_drew ?_)⟩
  | true =>
   by_cases hN : m = 0
   ·subst hN
    by_cases ht : t1 = t0
    ·subst ht
     go_enter Tryz.func201, Tryz.ntmps201
     go_wp2
     go_quiet (fail)
     go_wp2
     go_quiet ((go_at_call 211; exact quiet_add (HOF.out _)))
     go_wp2
     go_quiet (fail)
     go_wp2
     go_ret
     exact ⟨ret_bool (by first | rfl | simp), by repeat (first | exact HB0.out | refine below_drewN ?_ _ | refine below_drew ?_)⟩
    ·exfalso
     rw [Nat.add_zero] at cb
     have e1 := ca.symm.trans cb
     simp only [Option.some.injEq, Value.int.injEq, true_and] at e1
     obtain rfl : k0 = k1 := by omega
     have e2 := c0.symm.trans c1
     simp only [Option.some.injEq, Value.int.injEq, true_and] at e2
     exact ht e2.symm
   ·have hN' : (((m + 1 : Nat) : Int) == 1) = false := beq_false_of_ne (by omega)
    rw [hN']
    have hN2 : ((m : Int) + 1 == 1) = false := beq_false_of_ne (by omega)
    go_enter Tryz.func201, Tryz.ntmps201
    go_wp2
    go_quiet (fail)
    go_wp2
    go_quiet ((go_at_call 211; exact quiet_add (HOF.out _)))
    go_wp2
    go_quiet (fail)
    go_wp2
    go_ret
    exact ⟨ret_bool (by simp), by repeat (first | exact HB0.out | refine below_drewN ?_ _ | refine below_drew ?_)⟩
 by_cases o18 : op = 18
 ·subst o18
  have hnop : nOp 18 = 1 := rfl
  rw [hnop]
  clear hnop
  cases ok with
  | false =>
   go_enter Tryz.func201, Tryz.ntmps201
   go_wp2
   go_quiet (fail)
   go_wp2
   go_quiet ((go_at_call 211; exact quiet_add (HOF.out _)))
   go_wp2
   go_quiet (fail)
   go_wp2
   go_ret
   exact ⟨ret_bool (by first | rfl | simp), by repeat (first | exact HB0.out | refine below_drewN ?_ _ | refine below_drew ?_)⟩
  | true =>
   by_cases hN : m = 0
   ·subst hN
    by_cases ht : t1 = t0
    ·subst ht
     go_enter Tryz.func201, Tryz.ntmps201
     go_wp2
     go_quiet (fail)
     go_wp2
     go_quiet ((go_at_call 211; exact quiet_add (HOF.out _)))
     go_wp2
     go_quiet (fail)
     go_wp2
     go_ret
     exact ⟨ret_bool (by first | rfl | simp), by repeat (first | exact HB0.out | refine below_drewN ?_ _ | refine below_drew ?_)⟩
    ·exfalso
     rw [Nat.add_zero] at cb
     have e1 := ca.symm.trans cb
     simp only [Option.some.injEq, Value.int.injEq, true_and] at e1
     obtain rfl : k0 = k1 := by omega
     have e2 := c0.symm.trans c1
     simp only [Option.some.injEq, Value.int.injEq, true_and] at e2
     exact ht e2.symm
   ·have hN' : (((m + 1 : Nat) : Int) == 1) = false := beq_false_of_ne (by omega)
    rw [hN']
    have hN2 : ((m : Int) + 1 == 1) = false := beq_false_of_ne (by omega)
    go_enter Tryz.func201, Tryz.ntmps201
    go_wp2
    go_quiet (fail)
    go_wp2
    go_quiet ((go_at_call 211; exact quiet_add (HOF.out _)))
    go_wp2
    go_quiet (fail)
    go_wp2
    go_ret
    exact ⟨ret_bool (by simp), by repeat (first | exact HB0.out | refine below_drewN ?_ _ | refine below_drew ?_)⟩
 have hnop : nOp op = 2 := by simp [nOp, o17, o18]
 have p17 : (op == 17) = false := beq_false_of_ne o17
 have p18 : (op == 18) = false := beq_false_of_ne o18
 rw [hnop]
 clear hnop
 cases ok with
 | false =>
  go_enter Tryz.func201, Tryz.ntmps201
  go_wp2
  go_quiet (fail)
  go_wp2
  go_quiet ((go_at_call 211; exact quiet_add (HOF.out _)))
  go_wp2
  go_quiet (fail)
  go_wp2
  go_ret
  exact ⟨ret_bool (by first | rfl | simp), by repeat (first | exact HB0.out | refine below_drewN ?_ _ | refine below_drew ?_)⟩
 | true =>
  by_cases hN : m = 1
  ·subst hN
   by_cases ht : t1 = t0
   ·subst ht
    go_enter Tryz.func201, Tryz.ntmps201
    go_wp2
    go_quiet (fail)
    go_wp2
    go_quiet ((go_at_call 211; exact quiet_add (HOF.out _)))
    go_wp2
    go_quiet (fail)
    go_wp2
    go_ret
    exact ⟨ret_bool (by first | rfl | simp), by repeat (first | exact HB0.out | refine below_drewN ?_ _ | refine below_drew ?_)⟩
   ·have ht' : (t1 == t0) = false := beq_false_of_ne ht
    rw [ht']
    go_enter Tryz.func201, Tryz.ntmps201
    go_wp2
    go_quiet (fail)
    go_wp2
    go_quiet ((go_at_call 211; exact quiet_add (HOF.out _)))
    go_wp2
    go_quiet (fail)
    go_wp2
    go_ret
    exact ⟨ret_bool (by simp), by repeat (first | exact HB0.out | refine below_drewN ?_ _ | refine below_drew ?_)⟩
  ·have hN' : (((m + 1 : Nat) : Int) == 2) = false := beq_false_of_ne (by omega)
   rw [hN']
   have hN2 : ((m : Int) + 1 == 2) = false := beq_false_of_ne (by omega)
   go_enter Tryz.func201, Tryz.ntmps201
   go_wp2
   go_quiet (fail)
   go_wp2
   go_quiet ((go_at_call 211; exact quiet_add (HOF.out _)))
   go_wp2
   go_quiet (fail)
   go_wp2
   go_ret
   exact ⟨ret_bool (by simp), by repeat (first | exact HB0.out | refine below_drewN ?_ _ | refine below_drew ?_)⟩
end Go.Proofs.YtajaijilfclhpaaGreatDoor
/- The same of the document's answer. -/
namespace Go.Proofs.YtajaijilfclhpaaGreatDoor
open Go.RowKit

theorem wrap_u64 (n : Int) : IntKind.u64.wrap n = n % 18446744073709551616 := by simp [IntKind.wrap, IntKind.bits, IntKind.signed]
theorem w32_hi (a : Int) (h : word a) (g : 2147483648 ≤ a.tmod 4294967296) : IntKind.u64.wrap (a.tmod 4294967296 + 18446744069414584320) = IntKind.u64.wrap (wrap32 a) := by
 obtain ⟨h0, h1⟩ := h
 have e : a.tmod 4294967296 = a % 4294967296 := Int.tmod_eq_emod_of_nonneg h0
 rw [wrap_u64, wrap_u64]; unfold wrap32; omega
theorem w32_lo (a : Int) (h : word a) (g : a.tmod 4294967296 < 2147483648) : a.tmod 4294967296 = IntKind.u64.wrap (wrap32 a) := by
 obtain ⟨h0, h1⟩ := h
 have e : a.tmod 4294967296 = a % 4294967296 := Int.tmod_eq_emod_of_nonneg h0
 rw [wrap_u64]; unfold wrap32; omega
set_option maxHeartbeats 400000 in
theorem rcut_any (t a : Int) (w : World) (ha : Hid (word a)) :
  Calls Tryz.prog 166 #[.int .u8 t, .int .u64 a] w fun e w' => e = .returned (.int .u64 (cutI t a)) ∧ w' = w := by
 have f1 := run_frombits
 by_cases h1 : t = 1
 ·subst h1
  go_enter Tryz.func166, Tryz.ntmps166
  go_wp2
  go_ret
  exact ⟨ret_u64 (Int.tmod_eq_emod_of_nonneg ha.out.1), rfl⟩
 by_cases h2 : t = 2
 ·subst h2
  go_enter Tryz.func166, Tryz.ntmps166
  go_wp2
  go_ret
  exact ⟨ret_u64 (Int.tmod_eq_emod_of_nonneg ha.out.1), rfl⟩
 by_cases h3 : t = 3
 ·subst h3
  go_enter Tryz.func166, Tryz.ntmps166
  go_wp2
  all_goals go_ret
  ·exact ⟨ret_u64 (w32_hi a ha.out (by assumption)), rfl⟩
  ·exact ⟨ret_u64 (w32_lo a ha.out (by assumption)), rfl⟩
 by_cases h4 : t = 4
 ·subst h4
  go_enter Tryz.func166, Tryz.ntmps166
  go_wp2
  go_ret
  exact ⟨rfl, rfl⟩
 by_cases h5 : t = 5
 ·subst h5
  by_cases hn : (FloatKind.f64.format.order a.toNat a.toNat != some .eq) = true
  ·go_enter Tryz.func166, Tryz.ntmps166
   go_wp2
   go_ret
   exact ⟨ret_u64 (by simp [cutI, nanI, hn]), rfl⟩
  ·have hn' : (FloatKind.f64.format.order a.toNat a.toNat != some .eq) = false := by simpa using hn
   go_enter Tryz.func166, Tryz.ntmps166
   go_wp2
   go_ret
   exact ⟨ret_u64 (by simp [cutI, nanI, hn']), rfl⟩
 ·go_enter Tryz.func166, Tryz.ntmps166
  go_wp2
  go_ret
  exact ⟨ret_u64 (by simp [cutI, h1, h2, h3, h4, h5]), rfl⟩
theorem typedB_iff (t : Int) : typedB t = true ↔ 1 ≤ t ∧ t ≤ 5 := by
 simp [typedB, numberB, wholeB]; omega
set_option maxHeartbeats 400000 in
theorem rright_any (t a : Int) (w : World) (ha : Hid (word a)) :
  Calls Tryz.prog 120 #[.int .u8 t, .int .u64 a] w fun e w' => e = .returned (.bool (rightB t a)) ∧ w' = w := by
 have hi := typedB_iff t
 by_cases h : typedB t = true
 ·have h1 : 1 ≤ t := (hi.1 h).1
  have h2 : t ≤ 5 := (hi.1 h).2
  clear hi
  go_enter Tryz.func120, Tryz.ntmps120
  go_wp2_with (go_at_call 166; refine (rcut_any _ _ _ ha).mono ?_; rintro e w' ⟨rfl, rfl⟩)
  go_ret
  exact ⟨ret_bool (by simp [rightB, h]), rfl⟩
 ·have h' : typedB t = false := by simpa using h
  by_cases g : 1 ≤ t
  ·have g2 : ¬ t ≤ 5 := fun k => h (hi.2 ⟨g, k⟩)
   clear hi
   go_enter Tryz.func120, Tryz.ntmps120
   go_wp2
   go_ret
   exact ⟨ret_bool (by simp [rightB, h']), rfl⟩
  ·clear hi
   go_enter Tryz.func120, Tryz.ntmps120
   go_wp2
   go_ret
   exact ⟨ret_bool (by simp [rightB, h']), rfl⟩
set_option maxHeartbeats 1000000 in
theorem rof_typed (o t : Int) (w : World) (ht : t = 1 ∨ t = 2 ∨ t = 3 ∨ t = 4 ∨ t = 5) :
  Calls Tryz.prog 167 #[.int .u8 o, .int .u8 t] w fun e w' => e = .returned (.tuple #[.int .u8 (ofT o t), .bool (ofB o t)]) ∧ w' = w := by
 rcases ht with rfl | rfl | rfl | rfl | rfl
 all_goals
  go_enter Tryz.func167, Tryz.ntmps167
  go_wp2
  all_goals go_ret2
  all_goals exact ⟨ret_pair (by simp_all [ofT, typedB, numberB, wholeB]) (by simp_all [ofB, typedB, numberB, wholeB]), rfl⟩
theorem of_untyped (o t : Int) (h : typedB t = false) : ofT o t = 0 ∧ ofB o t = false := by
 have h1 : numberB t = false := by simp [typedB] at h; exact h.2
 have h2 : wholeB t = false := by simp [numberB] at h1; exact h1.2
 have h3 : ¬ t = 1 := by simp [typedB] at h; exact h.1
 constructor
 ·simp [ofT, h, h1, h2, h3]
 ·simp [ofB, h, h1, h2, h3]
set_option maxHeartbeats 400000 in
theorem rof_any (o t : Int) (w : World) :
  Calls Tryz.prog 167 #[.int .u8 o, .int .u8 t] w fun e w' => e = .returned (.tuple #[.int .u8 (ofT o t), .bool (ofB o t)]) ∧ w' = w := by
 by_cases ht : t = 1 ∨ t = 2 ∨ t = 3 ∨ t = 4 ∨ t = 5
 ·exact rof_typed o t w ht
 ·have hu : typedB t = false := by simp [typedB, numberB, wholeB]; omega
  have h0 : Hid (ofT o t = 0 ∧ ofB o t = false) := of_untyped o t hu
  by_cases h1 : t < 1
  ·go_enter Tryz.func167, Tryz.ntmps167
   go_wp2
   go_ret2
   exact ⟨ret_pair h0.out.1.symm h0.out.2.symm, rfl⟩
  ·have h2 : 5 < t := by omega
   go_enter Tryz.func167, Tryz.ntmps167
   go_wp2
   go_ret2
   exact ⟨ret_pair h0.out.1.symm h0.out.2.symm, rfl⟩
theorem numberB_iff (t : Int) : numberB t = true ↔ 2 ≤ t ∧ t ≤ 5 := by
 simp [numberB, wholeB]; omega
set_option maxHeartbeats 400000 in
theorem rturns_any (to fr : Int) (w : World) : Calls Tryz.prog 122 #[.int .u8 to, .int .u8 fr] w fun e w' => e = .returned (.bool (turnsB to fr)) ∧ w' = w := by
 have hi : Hid (numberB to = true ↔ 2 ≤ to ∧ to ≤ 5) := numberB_iff to
 have hj : Hid (numberB fr = true ↔ 2 ≤ fr ∧ fr ≤ 5) := numberB_iff fr
 by_cases c1 : 2 ≤ to
 ·by_cases c2 : to ≤ 5
  ·by_cases c3 : 2 ≤ fr
   ·by_cases c4 : fr ≤ 5
    ·go_enter Tryz.func122, Tryz.ntmps122
     go_wp2
     go_ret
     exact ⟨ret_bool (by simp [turnsB, hi.out.2 ⟨c1, c2⟩, hj.out.2 ⟨c3, c4⟩]), rfl⟩
    ·go_enter Tryz.func122, Tryz.ntmps122
     go_wp2
     go_ret
     have : numberB fr = false := by
      cases h : numberB fr
      ·rfl
      ·have := hj.out.1 h; omega
     exact ⟨ret_bool (by simp [turnsB, this]), rfl⟩
   ·go_enter Tryz.func122, Tryz.ntmps122
    go_wp2
    go_ret
    have : numberB fr = false := by
     cases h : numberB fr
     ·rfl
     ·have := hj.out.1 h; omega
    exact ⟨ret_bool (by simp [turnsB, this]), rfl⟩
  ·go_enter Tryz.func122, Tryz.ntmps122
   go_wp2
   go_ret
   have : numberB to = false := by
    cases h : numberB to
    ·rfl
    ·have := hi.out.1 h; omega
   exact ⟨ret_bool (by simp [turnsB, this]), rfl⟩
 ·go_enter Tryz.func122, Tryz.ntmps122
  go_wp2
  go_ret
  have : numberB to = false := by
   cases h : numberB to
   ·rfl
   ·have := hi.out.1 h; omega
  exact ⟨ret_bool (by simp [turnsB, this]), rfl⟩
end Go.Proofs.YtajaijilfclhpaaGreatDoor
