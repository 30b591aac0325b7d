/- The document's side: may an operation stand? -/
import Derived.Test.YtajaijilfclhpaaGreatDoorGScalRM
import Derived.Test.YtajaijilfclhpaaGreatDoorGLaidM
import Derived.Lib.QuietBelow
namespace Go.Proofs.YtajaijilfclhpaaGreatDoor
open Go.RowKit

def opR (vars : List Int) (x : In) : Bool := ((x.args.length : Int) == nOp x.op) && (decide (1 ≤ x.op) && (decide (x.op ≤ 18) && (ofB x.op (varT vars (x.args.getD 0 0)) && (varT vars (x.args.getD (x.args.length - 1) 0) == varT vars (x.args.getD 0 0) && varT vars x.dst == ofT x.op (varT vars (x.args.getD 0 0))))))
set_option maxRecDepth 100000 in
set_option maxHeartbeats 2000000 in
theorem rop_any (G : Gr) (pv vv av bv : Value) (x : In) (xv : Value) (w : World) (h : GrAt w pv vv av bv G) (hA : IntsAt w xv x.args) (hd : inB x.dst G.vars.length = true) (hal : x.args.all (inB · G.vars.length) = true) :
  Calls Tryz.prog 121 #[.agg #[.string G.name, pv, .int .u8 G.result, vv, av, bv], inV x xv] w fun e w' => e = .returned (.bool (opR G.vars x)) ∧ Below w.heap.size w w' := by
 obtain ⟨pa, pc, va, vc, aa, ac, ba, bc, rfl, rfl, rfl, rfl, _, hvl, _, _⟩ := h.openF
 obtain ⟨xa, xc, rfl, hxl⟩ := hA.form
 obtain ⟨kind, op, dst, args, bits, ref⟩ := x
 obtain ⟨nm, ps, r, vs, ars, bs⟩ := G
 dsimp only at *
 have HV := h.vs
 dsimp only at HV
 obtain ⟨g, o, k, rfl, rfl, hkn, hg, cd⟩ := HV.var hd
 have HB0 : Hid (∀ c d : Array Value, Below w.heap.size w ((w.alloc (.cells c 28)).alloc (.cells d 55))) := fun c d => below_alloc (below_alloc (Below.refl _ _) _) _
 obtain ⟨R, hR⟩ : ∃ R, R = opR vs ⟨kind, op, (k : Int), args, bits, ref⟩ := ⟨_, rfl⟩
 rw [← hR]
 unfold opR at hR
 dsimp only at hR
 by_cases hN : (args.length : Int) = nOp op
 rotate_left
 ·have HR : Hid (R = false) := by show _ = _; rw [hR, beq_false_of_ne hN]; simp
  clear hR h hA HV hal hd
  generalize args.length = n at *
  by_cases o17 : op = 17
  ·subst o17
   have hN' : ((n : Int) != 1) = true := bne_iff_ne.2 hN
   clear hN
   go_enter Tryz.func121, Tryz.ntmps121
   go_wp2
   go_ret
   exact ⟨ret_bool HR.out.symm, HB0.out _ _⟩
  by_cases o18 : op = 18
  ·subst o18
   have hN' : ((n : Int) != 1) = true := bne_iff_ne.2 hN
   clear hN
   go_enter Tryz.func121, Tryz.ntmps121
   go_wp2
   go_ret
   exact ⟨ret_bool HR.out.symm, HB0.out _ _⟩
  ·have hn2 : nOp op = 2 := by simp [nOp, o17, o18]
   rw [hn2] at hN
   have hN' : ((n : Int) != 2) = true := bne_iff_ne.2 hN
   have p17 : (op == 17) = false := beq_false_of_ne o17
   have p18 : (op == 18) = false := beq_false_of_ne o18
   clear hN hn2 o17 o18
   go_enter Tryz.func121, Tryz.ntmps121
   go_wp2
   go_ret
   exact ⟨ret_bool HR.out.symm, HB0.out _ _⟩
 have hlen : 1 ≤ args.length ∧ args.length ≤ 2 := by
  unfold nOp at hN
  split at hN <;> omega
 rw [beq_iff_eq.2 hN, Bool.true_and] at hR
 have HVA : ∀ v, inB v vs.length = true → ∃ k : Nat, v = (k : Int) ∧ (k : Int) < vs.length ∧ w.cell? ⟨g, o + k, none⟩ = some (.int .u8 (varT vs v)) := fun v hv => by
  obtain ⟨g', o', k', e1, e2, e3, _, e5⟩ := HV.var hv
  cases e1
  exact ⟨k', e2, e3, e5⟩
 have HAL : ∀ i, i < args.length → inB (args.getD i 0) vs.length = true := fun i hi => by
  have := List.all_eq_true.1 hal (args.getD i 0) (by rw [List.getD, List.getElem?_eq_getElem hi]; exact List.getElem_mem hi)
  exact this
 obtain ⟨ga, oa, rfl, hga, ca⟩ := hA.get (i := 0) (by omega)
 obtain ⟨ga2, oa2, he2, _, cb⟩ := hA.get (i := args.length - 1) (by omega)
 cases he2
 obtain ⟨k0, hk0, hk0n, c0⟩ := HVA _ (HAL 0 (by omega))
 obtain ⟨k1, hk1, hk1n, c1⟩ := HVA _ (HAL (args.length - 1) (by omega))
 rw [hk0] at ca c0 hR
 rw [hk1] at cb c1 hR
 have HOF : Hid (∀ W, Calls Tryz.prog 167 #[.int .u8 op, .int .u8 (varT vs (k0 : Int))] W fun e w' => e = .returned (.tuple #[.int .u8 (ofT op (varT vs (k0 : Int))), .bool (ofB op (varT vs (k0 : Int)))]) ∧ w' = W) := fun W => rof_any op _ W
 generalize varT vs (k : Int) = td at *
 generalize varT vs (k0 : Int) = t0 at *
 generalize varT vs (k1 : Int) = t1 at *
 generalize ofT op t0 = told at *
 generalize ofB op t0 = ok at *
 have hm : ∃ m, args.length = m + 1 := ⟨args.length - 1, by omega⟩
 obtain ⟨m, hm⟩ := hm
 rw [hm] at cb hxl hN hlen ⊢
 rw [show m + 1 - 1 = m by omega] at cb
 rw [Nat.add_zero] at ca
 clear h hA hd hal HV HVA HAL hk0 hk1 hm hxl hvl
 by_cases o17 : op = 17
 ·subst o17
  have hm0 : m = 0 := by have h9 : nOp 17 = 1 := rfl; rw [h9] at hN; omega
  subst hm0
  clear hN hlen
  cases ok with
  | false =>
   have HR : Hid (R = false) := by show _ = _; rw [hR]; simp
   clear hR
   go_enter Tryz.func121, Tryz.ntmps121
   go_wp2
   go_quiet (fail)
   go_wp2_with (go_at_call 167; refine Calls.mono (HOF.out _) ?_; rintro e wx ⟨rfl, hwx⟩; subst wx)
   go_quiet (fail)
   go_wp2
   go_ret
   exact ⟨ret_bool HR.out.symm, by repeat (first | exact HB0.out _ _ | refine below_drewN ?_ _ | refine below_drew ?_)⟩
  | true =>
   rw [Nat.add_zero] at cb
   have e1 := ca.symm.trans cb
   simp only [Option.some.injEq, Value.int.injEq, true_and] at e1
   obtain rfl : k0 = k1 := by omega
   have e2 := c0.symm.trans c1
   simp only [Option.some.injEq, Value.int.injEq, true_and] at e2
   subst e2
   clear e1
   have HR : Hid (R = (td == told)) := by show _ = _; rw [hR]; simp
   clear hR
   go_enter Tryz.func121, Tryz.ntmps121
   go_wp2
   go_quiet (fail)
   go_wp2_with (go_at_call 167; refine Calls.mono (HOF.out _) ?_; rintro e wx ⟨rfl, hwx⟩; subst wx)
   go_quiet (fail)
   go_wp2
   go_ret
   exact ⟨ret_bool (by rw [HR.out]), by repeat (first | exact HB0.out _ _ | refine below_drewN ?_ _ | refine below_drew ?_)⟩
 by_cases o18 : op = 18
 ·subst o18
  have hm0 : m = 0 := by have h9 : nOp 18 = 1 := rfl; rw [h9] at hN; omega
  subst hm0
  clear hN hlen
  cases ok with
  | false =>
   have HR : Hid (R = false) := by show _ = _; rw [hR]; simp
   clear hR
   go_enter Tryz.func121, Tryz.ntmps121
   go_wp2
   go_quiet (fail)
   go_wp2_with (go_at_call 167; refine Calls.mono (HOF.out _) ?_; rintro e wx ⟨rfl, hwx⟩; subst wx)
   go_quiet (fail)
   go_wp2
   go_ret
   exact ⟨ret_bool HR.out.symm, by repeat (first | exact HB0.out _ _ | refine below_drewN ?_ _ | refine below_drew ?_)⟩
  | true =>
   rw [Nat.add_zero] at cb
   have e1 := ca.symm.trans cb
   simp only [Option.some.injEq, Value.int.injEq, true_and] at e1
   obtain rfl : k0 = k1 := by omega
   have e2 := c0.symm.trans c1
   simp only [Option.some.injEq, Value.int.injEq, true_and] at e2
   subst e2
   clear e1
   have HR : Hid (R = (td == told)) := by show _ = _; rw [hR]; simp
   clear hR
   go_enter Tryz.func121, Tryz.ntmps121
   go_wp2
   go_quiet (fail)
   go_wp2_with (go_at_call 167; refine Calls.mono (HOF.out _) ?_; rintro e wx ⟨rfl, hwx⟩; subst wx)
   go_quiet (fail)
   go_wp2
   go_ret
   exact ⟨ret_bool (by rw [HR.out]), by repeat (first | exact HB0.out _ _ | refine below_drewN ?_ _ | refine below_drew ?_)⟩
 have hnop : nOp op = 2 := by simp [nOp, o17, o18]
 have p17 : (op == 17) = false := beq_false_of_ne o17
 have p18 : (op == 18) = false := beq_false_of_ne o18
 have hm1 : m = 1 := by rw [hnop] at hN; omega
 subst hm1
 clear hnop hN hlen o17 o18
 by_cases q1 : 1 ≤ op
 rotate_left
 ·have q1' : op < 1 := by omega
  have HR : Hid (R = false) := by show _ = _; rw [hR, decide_eq_false q1]; simp
  clear hR q1 p17 p18
  have p17 : (op == 17) = false := beq_false_of_ne (by omega)
  have p18 : (op == 18) = false := beq_false_of_ne (by omega)
  go_enter Tryz.func121, Tryz.ntmps121
  go_wp2
  go_ret
  exact ⟨ret_bool HR.out.symm, HB0.out _ _⟩
 by_cases q2 : op ≤ 18
 rotate_left
 ·have q2' : 18 < op := by omega
  have HR : Hid (R = false) := by show _ = _; rw [hR, decide_eq_false q2]; simp
  clear hR q2
  go_enter Tryz.func121, Tryz.ntmps121
  go_wp2
  go_ret
  exact ⟨ret_bool HR.out.symm, HB0.out _ _⟩
 rw [decide_eq_true q1, decide_eq_true q2, Bool.true_and, Bool.true_and] at hR
 cases ok with
 | false =>
  have HR : Hid (R = false) := by show _ = _; rw [hR]; simp
  clear hR
  go_enter Tryz.func121, Tryz.ntmps121
  go_wp2
  go_quiet (fail)
  go_wp2_with (go_at_call 167; refine Calls.mono (HOF.out _) ?_; rintro e wx ⟨rfl, hwx⟩; subst wx)
  go_quiet (fail)
  go_wp2
  go_ret
  exact ⟨ret_bool HR.out.symm, by repeat (first | exact HB0.out _ _ | refine below_drewN ?_ _ | refine below_drew ?_)⟩
 | true =>
  by_cases ht : t1 = t0
  ·subst ht
   have HR : Hid (R = (td == told)) := by show _ = _; rw [hR]; simp [*]
   clear hR
   go_enter Tryz.func121, Tryz.ntmps121
   go_wp2
   go_quiet (fail)
   go_wp2_with (go_at_call 167; refine Calls.mono (HOF.out _) ?_; rintro e wx ⟨rfl, hwx⟩; subst wx)
   go_quiet (fail)
   go_wp2
   go_ret
   exact ⟨ret_bool (by rw [HR.out]), by repeat (first | exact HB0.out _ _ | refine below_drewN ?_ _ | refine below_drew ?_)⟩
  ·have ht' : (t1 == t0) = false := beq_false_of_ne ht
   have HR : Hid (R = false) := by show _ = _; rw [hR, ht']; simp
   clear hR ht
   go_enter Tryz.func121, Tryz.ntmps121
   go_wp2
   go_quiet (fail)
   go_wp2_with (go_at_call 167; refine Calls.mono (HOF.out _) ?_; rintro e wx ⟨rfl, hwx⟩; subst wx)
   go_quiet (fail)
   go_wp2
   go_ret
   exact ⟨ret_bool HR.out.symm, by repeat (first | exact HB0.out _ _ | refine below_drewN ?_ _ | refine below_drew ?_)⟩
end Go.Proofs.YtajaijilfclhpaaGreatDoor
/- The document's side: places, types, variables. -/
namespace Go.Proofs.YtajaijilfclhpaaGreatDoor
open Go.RowKit

theorem rin_any (a b : Int) (w : World) : Calls Tryz.prog 118 #[.int .i64 a, .int .i64 b] w fun e w' => e = .returned (.bool (placeB a b)) ∧ w' = w := by
 unfold placeB
 go_enter Tryz.func118, Tryz.ntmps118
 by_cases h : 0 ≤ a
 ·go_wp2
  go_ret
  exact ⟨ret_bool (by simp [h]), rfl⟩
 ·go_wp2
  go_ret
  exact ⟨ret_bool (by simp; omega), rfl⟩
def innerB (a b : Int) : Bool := decide (0 < a ∧ a < b)
theorem rinner_any (a b : Int) (w : World) : Calls Tryz.prog 117 #[.int .i64 a, .int .i64 b] w fun e w' => e = .returned (.bool (innerB a b)) ∧ w' = w := by
 unfold innerB
 go_enter Tryz.func117, Tryz.ntmps117
 by_cases h : 0 < a
 ·go_wp2
  go_ret
  exact ⟨ret_bool (by simp [h]), rfl⟩
 ·go_wp2
  go_ret
  exact ⟨ret_bool (by simp; omega), rfl⟩
def scB (t : Int) : Bool := decide (1 ≤ t ∧ t ≤ 5)
theorem rscalar_any (t : Int) (w : World) : Calls Tryz.prog 114 #[.int .u8 t] w fun e w' => e = .returned (.bool (scB t)) ∧ w' = w := by
 unfold scB
 go_enter Tryz.func114, Tryz.ntmps114
 by_cases h : 1 ≤ t
 ·go_wp2
  go_ret
  exact ⟨ret_bool (by simp [h]), rfl⟩
 ·go_wp2
  go_ret
  exact ⟨ret_bool (by simp; omega), rfl⟩
set_option maxRecDepth 100000 in
set_option maxHeartbeats 1000000 in
theorem rvars_any (G : Gr) (pv vv av bv : Value) (l : List Int) (lv : Value) (w : World) (h : GrAt w pv vv av bv G) (hl : IntsAt w lv l) :
  Calls Tryz.prog 115 #[.agg #[.string G.name, pv, .int .u8 G.result, vv, av, bv], lv] w fun e w' => e = .returned (.bool (l.all (inB · G.vars.length))) ∧ Below w.heap.size w w' := by
 obtain ⟨pa, pc, va, vc, aa, ac, ba, bc, rfl, rfl, rfl, rfl, _, _, _, _⟩ := h.openF
 obtain ⟨la, lc, rfl, hll⟩ := hl.form
 have HI : Hid (∀ i, i < l.length → _) := fun i hi => hl.get (i := i) hi
 have HD : Hid (∀ i, i < l.length → (l.drop i).all (inB · G.vars.length) = (inB (l.getD i 0) G.vars.length && (l.drop (i + 1)).all (inB · G.vars.length))) := fun i hi => all_drop (p := (inB · G.vars.length)) hi
 have HZ : Hid ((l.drop l.length).all (inB · G.vars.length) = true) := by show (l.drop l.length).all (inB · G.vars.length) = true; rw [List.drop_length]; rfl
 obtain ⟨R, hR⟩ : ∃ R, R = l.all (inB · G.vars.length) := ⟨_, rfl⟩
 rw [← hR]
 have HR : Hid ((l.drop 0).all (inB · G.vars.length) = R) := hR.symm
 obtain ⟨n, hn⟩ : ∃ n, n = l.length := ⟨_, rfl⟩
 rw [← hn] at HI HD HZ hll ⊢
 clear h hl hR hn
 generalize G.blocks.length = bl at *
 generalize G.name = nm at *
 generalize G.params.length = pl at *
 generalize G.vars.length = m at *
 generalize G.arrs.length = al at *
 generalize G.result = r at *
 have H0 : Hid (Below w.heap.size w (w.alloc (.cells #[.string nm, .slice pa pl pc, .int .u8 r, .slice va m vc, .slice aa al ac, .slice ba bl bc] 28)) ∧ Box (w.alloc (.cells #[.string nm, .slice pa pl pc, .int .u8 r, .slice va m vc, .slice aa al ac, .slice ba bl bc] 28)) w.heap.size [.string nm, .slice pa pl pc, .int .u8 r, .slice va m vc, .slice aa al ac, .slice ba bl bc]) := ⟨below_alloc (Below.refl _ _) _, Box.new w [.string nm, .slice pa pl pc, .int .u8 r, .slice va m vc, .slice aa al ac, .slice ba bl bc] 28⟩
 go_enter Tryz.func115, Tryz.ntmps115
 go_wp2
 go_loopw [5] (fun vi wr => ∃ i : Nat, vi = .int .i64 i ∧ i ≤ n ∧ Hid ((l.drop i).all (inB · m) = R ∧ Below w.heap.size w wr ∧ Box wr w.heap.size [.string nm, .slice pa pl pc, .int .u8 r, .slice va m vc, .slice aa al ac, .slice ba bl bc])) (fun vi _ => n - (intOf vi).toNat)
 case atStart => exact ⟨0, rfl, by omega, HR.out, H0.out⟩
 case round =>
  obtain ⟨i, rfl, hi, hr⟩ := hrel
  clear HR H0
  obtain ⟨e0, e1, e2, e3, e4, e5⟩ := box6 hr.out.2.2
  by_cases hin : i < n
  ·obtain ⟨g, o, rfl, hg, c0⟩ := HI.out i hin
   have hin' : (i : Int) < n := by omega
   have c0' := (hr.out.2.1.cell (p := ⟨g, o + i, none⟩) hg).trans c0
   have HDD : Hid _ := HD.out i hin
   rw [hr.out.1] at HDD
   clear HI HD HZ c0
   generalize l.getD i 0 = y at *
   have HPL : Hid (∀ W, Calls Tryz.prog 118 #[.int .i64 y, .int .i64 (m : Int)] W fun e w' => e = .returned (.bool (inB y m)) ∧ w' = W) := fun W => rin_any y m W
   generalize hb : inB y m = b at *
   clear hb
   cases b with
   | true =>
    have HX : Hid ((l.drop (i + 1)).all (inB · m) = R) := by have h9 := HDD.out; rw [Bool.true_and] at h9; exact h9.symm
    clear HDD
    go_wp2
    go_quiet ((go_at_call 118; exact Calls.quiet_of_same (HPL.out _)))
    go_wp2
    go_roundw
    case rel => exact ⟨i + 1, by first | rfl | (congr 1; omega), by omega, HX.out, by repeat (first | exact hr.out.2.1 | refine below_drewN ?_ _ | refine below_drew ?_), hr.out.2.2.same (by rfl)⟩
    case measure => simp [intOf]; omega
   | false =>
    have HX : Hid (false = R) := by have h9 := HDD.out; rw [Bool.false_and] at h9; exact h9.symm
    clear HDD
    go_wp2
    go_quiet ((go_at_call 118; exact Calls.quiet_of_same (HPL.out _)))
    go_wp2
    go_ret
    exact ⟨ret_bool HX.out, by repeat (first | exact hr.out.2.1 | refine below_drewN ?_ _ | refine below_drew ?_)⟩
  ·obtain rfl : i = n := by omega
   have HX : Hid (true = R) := by have h9 := hr.out.1; rw [HZ.out] at h9; exact h9
   clear HI HD HZ
   go_wp2
   go_ret
   exact ⟨ret_bool HX.out, hr.out.2.1⟩
def plcF (x : Int) : List Int → Nat → Int
 | [], _ => -1
 | y :: l, i => if y = x then (i : Int) else plcF x l (i + 1)
theorem plcF_drop {x : Int} {l : List Int} {i : Nat} (h : i < l.length) : plcF x (l.drop i) i = if l.getD i 0 = x then (i : Int) else plcF x (l.drop (i + 1)) (i + 1) := by
 have e : l.getD i 0 = l[i] := by simp [List.getD, List.getElem?_eq_getElem h]
 rw [e, List.drop_eq_getElem_cons h]
 rfl
set_option maxRecDepth 100000 in
set_option maxHeartbeats 1000000 in
theorem rplace_any (l : List Int) (x : Int) (v : Value) (w : World) (h : IntsAt w v l) : Calls Tryz.prog 116 #[v, .int .i64 x] w fun e w' => e = .returned (.int .i64 (plcF x l 0)) ∧ w' = w := by
 obtain ⟨a, c, rfl, hll⟩ := h.form
 have HI : Hid (∀ i, i < l.length → _) := fun i hi => h.get (i := i) hi
 have HD : Hid (∀ i, i < l.length → _) := fun i hi => plcF_drop (x := x) (l := l) hi
 have HZ : Hid (plcF x (l.drop l.length) l.length = -1) := by show plcF x (l.drop l.length) l.length = -1; rw [List.drop_length]; rfl
 obtain ⟨R, hR⟩ : ∃ R, R = plcF x l 0 := ⟨_, rfl⟩
 rw [← hR]
 have HR : Hid (plcF x (l.drop 0) 0 = R) := hR.symm
 obtain ⟨n, hn⟩ : ∃ n, n = l.length := ⟨_, rfl⟩
 rw [← hn] at HI HD HZ hll ⊢
 clear h hR hn
 go_enter Tryz.func116, Tryz.ntmps116
 go_wp2
 go_loopw [5] (fun vi wr => ∃ i : Nat, vi = .int .i64 i ∧ i ≤ n ∧ Hid (plcF x (l.drop i) i = R ∧ wr = w)) (fun vi _ => n - (intOf vi).toNat)
 case atStart => exact ⟨0, rfl, by omega, HR.out, rfl⟩
 case round =>
  obtain ⟨i, rfl, hi, hr⟩ := hrel
  have hw := hr.out.2
  subst hw
  clear HR
  by_cases hin : i < n
  ·obtain ⟨g, o, rfl, hg, c0⟩ := HI.out i hin
   have hin' : (i : Int) < n := by omega
   have HDD : Hid _ := HD.out i hin
   rw [hr.out.1] at HDD
   clear HI HD HZ
   generalize l.getD i 0 = y at *
   by_cases hy : y = x
   ·subst hy
    have HX : Hid (R = (i : Int)) := by show R = (i : Int); have h9 := HDD.out; simpa using h9
    clear HDD
    go_wp2
    go_ret
    exact ⟨ret_int HX.out.symm, rfl⟩
   ·have hyf : (y == x) = false := beq_false_of_ne hy
    have HX : Hid (R = plcF x (l.drop (i + 1)) (i + 1)) := by show R = plcF x (l.drop (i + 1)) (i + 1); have h9 := HDD.out; simpa [hy] using h9
    clear HDD
    go_wp2
    go_roundw
    case rel => exact ⟨i + 1, by first | rfl | (congr 1; omega), by omega, HX.out.symm, by first | rfl | trivial⟩
    case measure => simp [intOf]; omega
  ·obtain rfl : i = n := by omega
   have HX : Hid (-1 = R) := by have h9 := hr.out.1; rw [HZ.out] at h9; exact h9
   clear HI HD HZ
   go_wp2
   go_ret
   exact ⟨ret_int HX.out, rfl⟩
end Go.Proofs.YtajaijilfclhpaaGreatDoor
/- Types of a call. -/
namespace Go.Proofs.YtajaijilfclhpaaGreatDoor
open Go.RowKit Go.Sort

def callOk (vars : List Int) (x : In) (f : Gr) (i : Nat) : Bool := inB (f.params.getD i 0) f.vars.length && isOfB vars (x.args.getD i 0) (varT f.vars (f.params.getD i 0))
def callOkB (vars : List Int) (x : In) (f : Gr) : Bool := ((x.args.length : Int) == (f.params.length : Int)) && ((List.range f.params.length).all (callOk vars x f) && isOfB vars x.dst f.result)
set_option maxRecDepth 100000 in
set_option maxHeartbeats 2000000 in
theorem fitsCall_any (G : Gr) (pv vv av bv : Value) (x : In) (xv : Value) (F : Gr) (fpv fvv fav fbv : Value) (w : World) (h : GrAt w pv vv av bv G) (hA : IntsAt w xv x.args) (hF : GrAt w fpv fvv fav fbv F) :
  Calls Tryz.prog 204 #[.agg #[.string G.name, pv, .int .u8 G.result, vv, av, bv], inV x xv, .agg #[.string F.name, fpv, .int .u8 F.result, fvv, fav, fbv]] w fun e w' => e = .returned (.bool (callOkB G.vars x F)) ∧ Below w.heap.size w w' := by
 have HOF : Hid (∀ v t W, Below w.heap.size w W → Calls Tryz.prog 191 #[.agg #[.string G.name, pv, .int .u8 G.result, vv, av, bv], .int .i64 v, .int .u8 t] W fun e w' => e = .returned (.bool (isOfB G.vars v t)) ∧ Below W.heap.size W w') := fun v t W hb => isOf_any G pv vv av bv v t W (h.below hb)
 obtain ⟨pa, pc, va, vc, aa, ac, ba, bc, rfl, rfl, rfl, rfl, _, _, _, _⟩ := h.openF
 obtain ⟨fpa, fpc, fva, fvc, faa, fac, fba, fbc, rfl, rfl, rfl, rfl, hfpl, _, _, _⟩ := hF.openF
 obtain ⟨xa, xc, rfl, hxl⟩ := hA.form
 obtain ⟨kind, op, dst, args, bits, ref⟩ := x
 have HFP : Hid (∀ i, i < F.params.length → _) := fun i hi => hF.ps.get (i := i) hi
 have HFV : Hid (∀ v, inB v F.vars.length = true → _) := fun v hv => TysAt.var hF.vs hv
 have HXA : Hid (∀ i, i < args.length → _) := fun i hi => hA.get (i := i) hi
 have HPL : Hid (∀ v W, Calls Tryz.prog 178 #[.int .i64 v, .int .i64 (F.vars.length : Int)] W fun e w' => e = .returned (.bool (inB v F.vars.length)) ∧ w' = W) := fun v W => isPlace_any v _ W
 unfold callOkB
 dsimp only at *
 obtain ⟨fps, hfps⟩ : ∃ l, l = F.params := ⟨_, rfl⟩
 have HCO : Hid (∀ i, callOk G.vars ⟨kind, op, dst, args, bits, ref⟩ F i = (inB (F.params.getD i 0) F.vars.length && isOfB G.vars (args.getD i 0) (varT F.vars (F.params.getD i 0)))) := fun i => rfl
 rw [← hfps] at HFP HCO hfpl ⊢
 clear h hF hA hfps
 generalize callOk G.vars ⟨kind, op, dst, args, bits, ref⟩ F = co at *
 generalize G.name = nm at *
 generalize G.params.length = pl at *
 generalize G.vars.length = vl at *
 generalize G.arrs.length = al at *
 generalize G.blocks.length = bl at *
 generalize G.result = r at *
 generalize F.name = fnm at *
 generalize F.result = fr at *
 generalize F.vars.length = fvl at *
 generalize F.arrs.length = fal at *
 generalize F.blocks.length = fbl at *
 have HB0 : Hid (Below w.heap.size w (((w.alloc (.cells #[.string nm, .slice pa pl pc, .int .u8 r, .slice va vl vc, .slice aa al ac, .slice ba bl bc] 28)).alloc (.cells #[.int .u8 kind, .int .u8 op, .int .i64 dst, .slice xa args.length xc, .int .u64 bits, .int .i64 ref] 55)).alloc (.cells #[.string fnm, .slice fpa fps.length fpc, .int .u8 fr, .slice fva fvl fvc, .slice faa fal fac, .slice fba fbl fbc] 28)) ∧ Trio w.heap.size [.string nm, .slice pa pl pc, .int .u8 r, .slice va vl vc, .slice aa al ac, .slice ba bl bc] [.int .u8 kind, .int .u8 op, .int .i64 dst, .slice xa args.length xc, .int .u64 bits, .int .i64 ref] [.string fnm, .slice fpa fps.length fpc, .int .u8 fr, .slice fva fvl fvc, .slice faa fal fac, .slice fba fbl fbc] (((w.alloc (.cells #[.string nm, .slice pa pl pc, .int .u8 r, .slice va vl vc, .slice aa al ac, .slice ba bl bc] 28)).alloc (.cells #[.int .u8 kind, .int .u8 op, .int .i64 dst, .slice xa args.length xc, .int .u64 bits, .int .i64 ref] 55)).alloc (.cells #[.string fnm, .slice fpa fps.length fpc, .int .u8 fr, .slice fva fvl fvc, .slice faa fal fac, .slice fba fbl fbc] 28))) := ⟨below_alloc (below_alloc (below_alloc (Below.refl _ _) _) _) _, Trio.new w [.string nm, .slice pa pl pc, .int .u8 r, .slice va vl vc, .slice aa al ac, .slice ba bl bc] [.int .u8 kind, .int .u8 op, .int .i64 dst, .slice xa args.length xc, .int .u64 bits, .int .i64 ref] [.string fnm, .slice fpa fps.length fpc, .int .u8 fr, .slice fva fvl fvc, .slice faa fal fac, .slice fba fbl fbc] 28 55 28⟩
 by_cases hl : args.length = fps.length
 ·rw [hl] at HB0 HXA ⊢
  clear hl hxl
  obtain ⟨R, hR⟩ : ∃ R, R = (((fps.length : Int) == (fps.length : Int)) && ((List.range fps.length).all co && isOfB G.vars dst fr)) := ⟨_, rfl⟩
  rw [← hR]
  have HR : Hid (R = (((List.range fps.length).drop 0).all co && isOfB G.vars dst fr)) := by show _ = _; rw [hR]; simp
  clear hR
  go_enter Tryz.func204, Tryz.ntmps204
  go_wp2
  go_loopw [19] (fun vi wr => ∃ i : Nat, vi = .int .i64 i ∧ i ≤ fps.length ∧ Hid (R = (((List.range fps.length).drop i).all co && isOfB G.vars dst fr) ∧ Below w.heap.size w wr ∧ Trio w.heap.size [.string nm, .slice pa pl pc, .int .u8 r, .slice va vl vc, .slice aa al ac, .slice ba bl bc] [.int .u8 kind, .int .u8 op, .int .i64 dst, .slice xa fps.length xc, .int .u64 bits, .int .i64 ref] [.string fnm, .slice fpa fps.length fpc, .int .u8 fr, .slice fva fvl fvc, .slice faa fal fac, .slice fba fbl fbc] wr)) (fun vi _ => fps.length - (intOf vi).toNat)
  case atStart => exact ⟨0, rfl, by omega, HR.out, HB0.out.1, HB0.out.2⟩
  case round =>
   obtain ⟨i, rfl, hi, hr⟩ := hrel
   clear HR HB0
   obtain ⟨e0, e1, e2, e3, e4, e5⟩ := box6 hr.out.2.2.g
   obtain ⟨x0, x1, x2, x3, x4, x5⟩ := box6 hr.out.2.2.t
   obtain ⟨o0, o1, o2, o3, o4, o5⟩ := box6 hr.out.2.2.o
   by_cases hin : i < fps.length
   ·obtain ⟨gp, op', rfl, hgp, cp⟩ := HFP.out i hin
    obtain ⟨ga, oa, rfl, hga, ca⟩ := HXA.out i hin
    have hin' : (i : Int) < fps.length := by omega
    have hd : R = (co i && ((List.range fps.length).drop (i + 1)).all co && isOfB G.vars dst fr) := by
     rw [hr.out.1, all_drop (d := 0) (by simpa using hin)]
     congr 3
     simp [List.getD, hin]
    rw [HCO.out i] at hd
    have cp' := (hr.out.2.1.cell (p := ⟨gp, op' + i, none⟩) hgp).trans cp
    have ca' := (hr.out.2.1.cell (p := ⟨ga, oa + i, none⟩) hga).trans ca
    have HPI := HPL.out (fps.getD i 0)
    have HVI := HFV.out (fps.getD i 0)
    have HOI := HOF.out (args.getD i 0)
    generalize fps.getD i 0 = fv at *
    generalize args.getD i 0 = xv at *
    clear cp ca HXA HFP HFV
    cases hb : inB fv fvl with
    | false =>
     rw [hb] at hd HPI
     simp only [Bool.false_and] at hd
     have HD : Hid (R = false) := hd
     have D1 : Hid (∀ W, Calls Tryz.prog 178 #[.int .i64 fv, .int .i64 (fvl : Int)] W fun e w' => e = .returned (.bool false) ∧ Below W.heap.size W w') := fun W => (HPI W).mono fun e w' ⟨he, hw⟩ => ⟨he, by rw [hw]; exact Below.refl _ _⟩
     have ko3 := cell_regrown o3
     have c1 : ∀ d os, _ := fun d os => Calls.regrown_of (D1.out (grow (redrawn wr d) os))
     have E1 : Hid _ := c1
     clear hd HPI HVI HOI hb c1 D1
     go_wp2
     refine wp_region_quiet_below (by kernel_rfl) (by kernel_rfl) ?_
     repeat (go_big_quiet_step ((with_reducible exact E1.out _ _)))
     refine wpQuiet_nil ?_
     intro _ hw'
     obtain ⟨⟨dq, osq⟩, hw''⟩ := hw'
     subst hw''
     go_wp2
     go_ret
     exact ⟨ret_bool HD.out.symm, below_trans hr.out.2.1 (below_regrown wr dq osq)⟩
    | true =>
     obtain ⟨gv, ov, k, rfl, rfl, hkn, hgv, cv⟩ := HVI hb
     rw [hb] at hd HPI
     have cv' := (hr.out.2.1.cell (p := ⟨gv, ov + k, none⟩) hgv).trans cv
     have HOJ := HOI (varT F.vars (k : Int))
     generalize varT F.vars (k : Int) = ty at *
     have D1 : Hid (∀ W, Calls Tryz.prog 178 #[.int .i64 (k : Int), .int .i64 (fvl : Int)] W fun e w' => e = .returned (.bool true) ∧ Below W.heap.size W w') := fun W => (HPI W).mono fun e w' ⟨he, hw⟩ => ⟨he, by rw [hw]; exact Below.refl _ _⟩
     have ke0 := cell_regrown e0
     have ke1 := cell_regrown e1
     have ke2 := cell_regrown e2
     have ke3 := cell_regrown e3
     have ke4 := cell_regrown e4
     have ke5 := cell_regrown e5
     have kx3 := cell_regrown x3
     have ko3 := cell_regrown o3
     have kca := cell_regrown ca'
     have kcv := cell_regrown cv'
     have HBR : Hid (Below w.heap.size w wr) := hr.out.2.1
     cases hc : isOfB G.vars xv ty with
     | true =>
      rw [hc] at hd HOJ
      simp only [Bool.true_and] at hd
      have HD : Hid _ := hd
      have c1 : ∀ d os, _ := fun d os => Calls.regrown_of (D1.out (grow (redrawn wr d) os))
      have c2 : ∀ d os, _ := fun d os => Calls.regrown_of (HOJ _ (below_trans HBR.out (below_regrown wr d os)))
      have E1 : Hid _ := c1
      have E2 : Hid _ := c2
      clear hd HPI HVI HOI hb hc HOJ cv c1 c2 D1
      go_wp2
      refine wp_region_quiet_below (by kernel_rfl) (by kernel_rfl) ?_
      repeat (go_big_quiet_step ((first | with_reducible exact E1.out _ _ | with_reducible exact E2.out _ _)))
      refine wpQuiet_nil ?_
      intro _ hw'
      obtain ⟨⟨dq, osq⟩, hw''⟩ := hw'
      subst hw''
      go_wp2
      go_roundw
      case rel => exact ⟨i + 1, by first | rfl | (congr 1; omega), by omega, HD.out, below_trans HBR.out (below_regrown wr dq osq), hr.out.2.2.below (below_regrown wr dq osq)⟩
      case measure => simp [intOf]; omega
     | false =>
      rw [hc] at hd HOJ
      simp only [Bool.false_and, Bool.and_false] at hd
      have HD : Hid (R = false) := hd
      have c1 : ∀ d os, _ := fun d os => Calls.regrown_of (D1.out (grow (redrawn wr d) os))
      have c2 : ∀ d os, _ := fun d os => Calls.regrown_of (HOJ _ (below_trans HBR.out (below_regrown wr d os)))
      have E1 : Hid _ := c1
      have E2 : Hid _ := c2
      clear hd HPI HVI HOI hb hc HOJ cv c1 c2 D1
      go_wp2
      refine wp_region_quiet_below (by kernel_rfl) (by kernel_rfl) ?_
      repeat (go_big_quiet_step ((first | with_reducible exact E1.out _ _ | with_reducible exact E2.out _ _)))
      refine wpQuiet_nil ?_
      intro _ hw'
      obtain ⟨⟨dq, osq⟩, hw''⟩ := hw'
      subst hw''
      go_wp2
      go_ret
      exact ⟨ret_bool HD.out.symm, below_trans HBR.out (below_regrown wr dq osq)⟩
   ·obtain rfl : i = fps.length := by omega
    have hd : R = isOfB G.vars dst fr := by rw [hr.out.1, List.drop_eq_nil_of_le (by simp)]; simp
    have HD : Hid _ := hd
    have HOJ : Hid _ := HOF.out dst fr wr hr.out.2.1
    have HBR : Hid (Below w.heap.size w wr) := hr.out.2.1
    clear hd HFP HXA HFV HOF HPL hr
    go_wp2_with (go_at_call 191; go_loud (refine Calls.mono (by exact HOJ.out) ?_; rintro e w1 ⟨rfl, hb1⟩))
    go_ret
    exact ⟨ret_bool HD.out.symm, below_trans HBR.out hb1⟩
 ·have hl1 : ((args.length : Int) == (fps.length : Int)) = false := beq_false_of_ne (by omega)
  have hl2 : ((args.length : Int) != (fps.length : Int)) = true := by simp; omega
  rw [hl1]
  clear HFP HXA HFV HOF HPL hl
  go_enter Tryz.func204, Tryz.ntmps204
  go_wp2
  go_ret
  exact ⟨rfl, HB0.out.1⟩
end Go.Proofs.YtajaijilfclhpaaGreatDoor
