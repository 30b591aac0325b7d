/- The same of the document's answer. -/
import Derived.Test.YtcggbedjhglmmaaGreatDoorGBoxM
import Derived.Test.YtcggbedjhglmmaaGreatDoorGFit2M
import Derived.Lib.QuietBelow
namespace Go.Proofs.YtcggbedjhglmmaaGreatDoor
open Go.RowKit

theorem wrap_u64 (n : Int) : IntKind.u64.wrap n = n % 18446744073709551616 := by simp [IntKind.wrap, IntKind.bits, IntKind.signed]
theorem w32_hi (a : Int) (h : word a) (g : 2147483648 ≤ a.tmod 4294967296) : IntKind.u64.wrap (a.tmod 4294967296 + 18446744069414584320) = IntKind.u64.wrap (wrap32 a) := by
  obtain ⟨h0, h1⟩ := h
  have e : a.tmod 4294967296 = a % 4294967296 := Int.tmod_eq_emod_of_nonneg h0
  rw [wrap_u64, wrap_u64]; unfold wrap32; omega
theorem w32_lo (a : Int) (h : word a) (g : a.tmod 4294967296 < 2147483648) : a.tmod 4294967296 = IntKind.u64.wrap (wrap32 a) := by
  obtain ⟨h0, h1⟩ := h
  have e : a.tmod 4294967296 = a % 4294967296 := Int.tmod_eq_emod_of_nonneg h0
  rw [wrap_u64]; unfold wrap32; omega
set_option maxHeartbeats 400000 in
theorem rcut_any (t a : Int) (w : World) (ha : Hid (word a)) :
    Calls Tryz.prog 95 #[.int .u8 t, .int .u64 a] w fun e w' => e = .returned (.int .u64 (cutI t a)) ∧ w' = w := by
  have f1 := run_frombits
  by_cases h1 : t = 1
  · subst h1
    go_enter Tryz.func95, Tryz.ntmps95
    go_wp2
    go_ret
    exact ⟨ret_u64 (Int.tmod_eq_emod_of_nonneg ha.out.1), rfl⟩
  by_cases h2 : t = 2
  · subst h2
    go_enter Tryz.func95, Tryz.ntmps95
    go_wp2
    go_ret
    exact ⟨ret_u64 (Int.tmod_eq_emod_of_nonneg ha.out.1), rfl⟩
  by_cases h3 : t = 3
  · subst h3
    go_enter Tryz.func95, Tryz.ntmps95
    go_wp2
    all_goals go_ret
    · exact ⟨ret_u64 (w32_hi a ha.out (by assumption)), rfl⟩
    · exact ⟨ret_u64 (w32_lo a ha.out (by assumption)), rfl⟩
  by_cases h4 : t = 4
  · subst h4
    go_enter Tryz.func95, Tryz.ntmps95
    go_wp2
    go_ret
    exact ⟨rfl, rfl⟩
  by_cases h5 : t = 5
  · subst h5
    by_cases hn : (FloatKind.f64.format.order a.toNat a.toNat != some .eq) = true
    · go_enter Tryz.func95, Tryz.ntmps95
      go_wp2
      go_ret
      exact ⟨ret_u64 (by simp [cutI, nanI, hn]), rfl⟩
    · have hn' : (FloatKind.f64.format.order a.toNat a.toNat != some .eq) = false := by simpa using hn
      go_enter Tryz.func95, Tryz.ntmps95
      go_wp2
      go_ret
      exact ⟨ret_u64 (by simp [cutI, nanI, hn']), rfl⟩
  · go_enter Tryz.func95, Tryz.ntmps95
    go_wp2
    go_ret
    exact ⟨ret_u64 (by simp [cutI, h1, h2, h3, h4, h5]), rfl⟩
theorem typedB_iff (t : Int) : typedB t = true ↔ 1 ≤ t ∧ t ≤ 5 := by
  simp [typedB, numberB, wholeB]; omega
set_option maxHeartbeats 400000 in
theorem rright_any (t a : Int) (w : World) (ha : Hid (word a)) :
    Calls Tryz.prog 81 #[.int .u8 t, .int .u64 a] w fun e w' => e = .returned (.bool (rightB t a)) ∧ w' = w := by
  have hi := typedB_iff t
  by_cases h : typedB t = true
  · have h1 : 1 ≤ t := (hi.1 h).1
    have h2 : t ≤ 5 := (hi.1 h).2
    clear hi
    go_enter Tryz.func81, Tryz.ntmps81
    go_wp2_with (go_at_call 95; refine (rcut_any _ _ _ ha).mono ?_; rintro e w' ⟨rfl, rfl⟩)
    go_ret
    exact ⟨ret_bool (by simp [rightB, h]), rfl⟩
  · have h' : typedB t = false := by simpa using h
    by_cases g : 1 ≤ t
    · have g2 : ¬ t ≤ 5 := fun k => h (hi.2 ⟨g, k⟩)
      clear hi
      go_enter Tryz.func81, Tryz.ntmps81
      go_wp2
      go_ret
      exact ⟨ret_bool (by simp [rightB, h']), rfl⟩
    · clear hi
      go_enter Tryz.func81, Tryz.ntmps81
      go_wp2
      go_ret
      exact ⟨ret_bool (by simp [rightB, h']), rfl⟩
set_option maxHeartbeats 400000 in
theorem rWhole_any (t : Int) (w : World) : Calls Tryz.prog 116 #[.int .u8 t] w fun e w' => e = .returned (.bool (wholeB t)) ∧ w' = w := by
  by_cases h2 : t = 2
  · subst h2
    go_enter Tryz.func116, Tryz.ntmps116
    go_wp2
    go_ret
    exact ⟨rfl, rfl⟩
  by_cases h3 : t = 3
  · subst h3
    go_enter Tryz.func116, Tryz.ntmps116
    go_wp2
    go_ret
    exact ⟨rfl, rfl⟩
  · have h2' : (t == 2) = false := by simpa using h2
    have h3' : (t == 3) = false := by simpa using h3
    go_enter Tryz.func116, Tryz.ntmps116
    go_wp2
    go_ret
    exact ⟨ret_bool (by simp [wholeB, h2', h3']), rfl⟩
set_option maxHeartbeats 1000000 in
theorem rof_typed (o t : Int) (w : World) (ht : t = 1 ∨ t = 2 ∨ t = 3 ∨ t = 4 ∨ t = 5) :
    Calls Tryz.prog 96 #[.int .u8 o, .int .u8 t] w fun e w' => e = .returned (.tuple #[.int .u8 (ofT o t), .bool (ofB o t)]) ∧ w' = w := by
  rcases ht with rfl | rfl | rfl | rfl | rfl
  all_goals
    go_enter Tryz.func96, Tryz.ntmps96
    go_wp2
    all_goals go_ret2
    all_goals exact ⟨ret_pair (by simp_all [ofT, typedB, numberB, wholeB]) (by simp_all [ofB, typedB, numberB, wholeB]), rfl⟩
theorem of_untyped (o t : Int) (h : typedB t = false) : ofT o t = 0 ∧ ofB o t = false := by
  have h1 : numberB t = false := by simp [typedB] at h; exact h.2
  have h2 : wholeB t = false := by simp [numberB] at h1; exact h1.2
  have h3 : ¬ t = 1 := by simp [typedB] at h; exact h.1
  constructor
  · simp [ofT, h, h1, h2, h3]
  · simp [ofB, h, h1, h2, h3]
set_option maxHeartbeats 400000 in
theorem rof_any (o t : Int) (w : World) :
    Calls Tryz.prog 96 #[.int .u8 o, .int .u8 t] w fun e w' => e = .returned (.tuple #[.int .u8 (ofT o t), .bool (ofB o t)]) ∧ w' = w := by
  by_cases ht : t = 1 ∨ t = 2 ∨ t = 3 ∨ t = 4 ∨ t = 5
  · exact rof_typed o t w ht
  · have hu : typedB t = false := by simp [typedB, numberB, wholeB]; omega
    have h0 : Hid (ofT o t = 0 ∧ ofB o t = false) := of_untyped o t hu
    by_cases h1 : t < 1
    · go_enter Tryz.func96, Tryz.ntmps96
      go_wp2
      go_ret2
      exact ⟨ret_pair h0.out.1.symm h0.out.2.symm, rfl⟩
    · have h2 : 5 < t := by omega
      go_enter Tryz.func96, Tryz.ntmps96
      go_wp2
      go_ret2
      exact ⟨ret_pair h0.out.1.symm h0.out.2.symm, rfl⟩
theorem numberB_iff (t : Int) : numberB t = true ↔ 2 ≤ t ∧ t ≤ 5 := by
  simp [numberB, wholeB]; omega
set_option maxHeartbeats 400000 in
theorem rturns_any (to fr : Int) (w : World) : Calls Tryz.prog 83 #[.int .u8 to, .int .u8 fr] w fun e w' => e = .returned (.bool (turnsB to fr)) ∧ w' = w := by
  have hi : Hid (numberB to = true ↔ 2 ≤ to ∧ to ≤ 5) := numberB_iff to
  have hj : Hid (numberB fr = true ↔ 2 ≤ fr ∧ fr ≤ 5) := numberB_iff fr
  by_cases c1 : 2 ≤ to
  · by_cases c2 : to ≤ 5
    · by_cases c3 : 2 ≤ fr
      · by_cases c4 : fr ≤ 5
        · go_enter Tryz.func83, Tryz.ntmps83
          go_wp2
          go_ret
          exact ⟨ret_bool (by simp [turnsB, hi.out.2 ⟨c1, c2⟩, hj.out.2 ⟨c3, c4⟩]), rfl⟩
        · go_enter Tryz.func83, Tryz.ntmps83
          go_wp2
          go_ret
          have : numberB fr = false := by
            cases h : numberB fr
            · rfl
            · have := hj.out.1 h; omega
          exact ⟨ret_bool (by simp [turnsB, this]), rfl⟩
      · go_enter Tryz.func83, Tryz.ntmps83
        go_wp2
        go_ret
        have : numberB fr = false := by
          cases h : numberB fr
          · rfl
          · have := hj.out.1 h; omega
        exact ⟨ret_bool (by simp [turnsB, this]), rfl⟩
    · go_enter Tryz.func83, Tryz.ntmps83
      go_wp2
      go_ret
      have : numberB to = false := by
        cases h : numberB to
        · rfl
        · have := hi.out.1 h; omega
      exact ⟨ret_bool (by simp [turnsB, this]), rfl⟩
  · go_enter Tryz.func83, Tryz.ntmps83
    go_wp2
    go_ret
    have : numberB to = false := by
      cases h : numberB to
      · rfl
      · have := hi.out.1 h; omega
    exact ⟨ret_bool (by simp [turnsB, this]), rfl⟩
end Go.Proofs.YtcggbedjhglmmaaGreatDoor
/- The document's side: may an operation stand? -/
namespace Go.Proofs.YtcggbedjhglmmaaGreatDoor
open Go.RowKit

def opR (vars : List Int) (x : In) : Bool := ((x.args.length : Int) == nOp x.op) && (decide (1 ≤ x.op) && (decide (x.op ≤ 18) && (ofB x.op (varT vars (x.args.getD 0 0)) && (varT vars (x.args.getD (x.args.length - 1) 0) == varT vars (x.args.getD 0 0) && varT vars x.dst == ofT x.op (varT vars (x.args.getD 0 0))))))
set_option maxRecDepth 100000 in
set_option maxHeartbeats 2000000 in
theorem rop_any (G : Gr) (pv vv av bv : Value) (x : In) (xv : Value) (w : World) (h : GrAt w pv vv av bv G) (hA : IntsAt w xv x.args) (hd : inB x.dst G.vars.length = true) (hal : x.args.all (inB · G.vars.length) = true) :
    Calls Tryz.prog 82 #[.agg #[.string G.name, pv, .int .u8 G.result, vv, av, bv], inV x xv] w fun e w' => e = .returned (.bool (opR G.vars x)) ∧ Below w.heap.size w w' := by
  obtain ⟨pa, pc, va, vc, aa, ac, ba, bc, rfl, rfl, rfl, rfl, _, hvl, _, _⟩ := h.openF
  obtain ⟨xa, xc, rfl, hxl⟩ := hA.form
  obtain ⟨kind, op, dst, args, bits, ref⟩ := x
  obtain ⟨nm, ps, r, vs, ars, bs⟩ := G
  dsimp only at *
  have HV := h.vs
  dsimp only at HV
  obtain ⟨g, o, k, rfl, rfl, hkn, hg, cd⟩ := HV.var hd
  have HB0 : Hid (∀ c d : Array Value, Below w.heap.size w ((w.alloc (.cells c 28)).alloc (.cells d 54))) := fun c d => below_alloc (below_alloc (Below.refl _ _) _) _
  obtain ⟨R, hR⟩ : ∃ R, R = opR vs ⟨kind, op, (k : Int), args, bits, ref⟩ := ⟨_, rfl⟩
  rw [← hR]
  unfold opR at hR
  dsimp only at hR
  by_cases hN : (args.length : Int) = nOp op
  rotate_left
  · have HR : Hid (R = false) := by show _ = _; rw [hR, beq_false_of_ne hN]; simp
    clear hR h hA HV hal hd
    generalize args.length = n at *
    by_cases o17 : op = 17
    · subst o17
      have hN' : ((n : Int) != 1) = true := bne_iff_ne.2 hN
      clear hN
      go_enter Tryz.func82, Tryz.ntmps82
      go_wp2
      go_ret
      exact ⟨ret_bool HR.out.symm, HB0.out _ _⟩
    by_cases o18 : op = 18
    · subst o18
      have hN' : ((n : Int) != 1) = true := bne_iff_ne.2 hN
      clear hN
      go_enter Tryz.func82, Tryz.ntmps82
      go_wp2
      go_ret
      exact ⟨ret_bool HR.out.symm, HB0.out _ _⟩
    · have hn2 : nOp op = 2 := by simp [nOp, o17, o18]
      rw [hn2] at hN
      have hN' : ((n : Int) != 2) = true := bne_iff_ne.2 hN
      have p17 : (op == 17) = false := beq_false_of_ne o17
      have p18 : (op == 18) = false := beq_false_of_ne o18
      clear hN hn2 o17 o18
      go_enter Tryz.func82, Tryz.ntmps82
      go_wp2
      go_ret
      exact ⟨ret_bool HR.out.symm, HB0.out _ _⟩
  have hlen : 1 ≤ args.length ∧ args.length ≤ 2 := by
    unfold nOp at hN
    split at hN <;> omega
  rw [beq_iff_eq.2 hN, Bool.true_and] at hR
  have HVA : ∀ v, inB v vs.length = true → ∃ k : Nat, v = (k : Int) ∧ (k : Int) < vs.length ∧ w.cell? ⟨g, o + k, none⟩ = some (.int .u8 (varT vs v)) := fun v hv => by
    obtain ⟨g', o', k', e1, e2, e3, _, e5⟩ := HV.var hv
    cases e1
    exact ⟨k', e2, e3, e5⟩
  have HAL : ∀ i, i < args.length → inB (args.getD i 0) vs.length = true := fun i hi => by
    have := List.all_eq_true.1 hal (args.getD i 0) (by rw [List.getD, List.getElem?_eq_getElem hi]; exact List.getElem_mem hi)
    exact this
  obtain ⟨ga, oa, rfl, hga, ca⟩ := hA.get (i := 0) (by omega)
  obtain ⟨ga2, oa2, he2, _, cb⟩ := hA.get (i := args.length - 1) (by omega)
  cases he2
  obtain ⟨k0, hk0, hk0n, c0⟩ := HVA _ (HAL 0 (by omega))
  obtain ⟨k1, hk1, hk1n, c1⟩ := HVA _ (HAL (args.length - 1) (by omega))
  rw [hk0] at ca c0 hR
  rw [hk1] at cb c1 hR
  have HOF : Hid (∀ W, Calls Tryz.prog 96 #[.int .u8 op, .int .u8 (varT vs (k0 : Int))] W fun e w' => e = .returned (.tuple #[.int .u8 (ofT op (varT vs (k0 : Int))), .bool (ofB op (varT vs (k0 : Int)))]) ∧ w' = W) := fun W => rof_any op _ W
  generalize varT vs (k : Int) = td at *
  generalize varT vs (k0 : Int) = t0 at *
  generalize varT vs (k1 : Int) = t1 at *
  generalize ofT op t0 = told at *
  generalize ofB op t0 = ok at *
  have hm : ∃ m, args.length = m + 1 := ⟨args.length - 1, by omega⟩
  obtain ⟨m, hm⟩ := hm
  rw [hm] at cb hxl hN hlen ⊢
  rw [show m + 1 - 1 = m by omega] at cb
  rw [Nat.add_zero] at ca
  clear h hA hd hal HV HVA HAL hk0 hk1 hm hxl hvl
  by_cases o17 : op = 17
  · subst o17
    have hm0 : m = 0 := by have h9 : nOp 17 = 1 := rfl; rw [h9] at hN; omega
    subst hm0
    clear hN hlen
    cases ok with
    | false =>
      have HR : Hid (R = false) := by show _ = _; rw [hR]; simp
      clear hR
      go_enter Tryz.func82, Tryz.ntmps82
      go_wp2
      go_quiet (fail)
      go_wp2_with (go_at_call 96; refine Calls.mono (HOF.out _) ?_; rintro e wx ⟨rfl, hwx⟩; subst wx)
      go_quiet (fail)
      go_wp2
      go_ret
      exact ⟨ret_bool HR.out.symm, by repeat (first | exact HB0.out _ _ | refine below_drewN ?_ _ | refine below_drew ?_)⟩
    | true =>
      rw [Nat.add_zero] at cb
      have e1 := ca.symm.trans cb
      simp only [Option.some.injEq, Value.int.injEq, true_and] at e1
      obtain rfl : k0 = k1 := by omega
      have e2 := c0.symm.trans c1
      simp only [Option.some.injEq, Value.int.injEq, true_and] at e2
      subst e2
      clear e1
      have HR : Hid (R = (td == told)) := by show _ = _; rw [hR]; simp
      clear hR
      go_enter Tryz.func82, Tryz.ntmps82
      go_wp2
      go_quiet (fail)
      go_wp2_with (go_at_call 96; refine Calls.mono (HOF.out _) ?_; rintro e wx ⟨rfl, hwx⟩; subst wx)
      go_quiet (fail)
      go_wp2
      go_ret
      exact ⟨ret_bool (by rw [HR.out]), by repeat (first | exact HB0.out _ _ | refine below_drewN ?_ _ | refine below_drew ?_)⟩
  by_cases o18 : op = 18
  · subst o18
    have hm0 : m = 0 := by have h9 : nOp 18 = 1 := rfl; rw [h9] at hN; omega
    subst hm0
    clear hN hlen
    cases ok with
    | false =>
      have HR : Hid (R = false) := by show _ = _; rw [hR]; simp
      clear hR
      go_enter Tryz.func82, Tryz.ntmps82
      go_wp2
      go_quiet (fail)
      go_wp2_with (go_at_call 96; refine Calls.mono (HOF.out _) ?_; rintro e wx ⟨rfl, hwx⟩; subst wx)
      go_quiet (fail)
      go_wp2
      go_ret
      exact ⟨ret_bool HR.out.symm, by repeat (first | exact HB0.out _ _ | refine below_drewN ?_ _ | refine below_drew ?_)⟩
    | true =>
      rw [Nat.add_zero] at cb
      have e1 := ca.symm.trans cb
      simp only [Option.some.injEq, Value.int.injEq, true_and] at e1
      obtain rfl : k0 = k1 := by omega
      have e2 := c0.symm.trans c1
      simp only [Option.some.injEq, Value.int.injEq, true_and] at e2
      subst e2
      clear e1
      have HR : Hid (R = (td == told)) := by show _ = _; rw [hR]; simp
      clear hR
      go_enter Tryz.func82, Tryz.ntmps82
      go_wp2
      go_quiet (fail)
      go_wp2_with (go_at_call 96; refine Calls.mono (HOF.out _) ?_; rintro e wx ⟨rfl, hwx⟩; subst wx)
      go_quiet (fail)
      go_wp2
      go_ret
      exact ⟨ret_bool (by rw [HR.out]), by repeat (first | exact HB0.out _ _ | refine below_drewN ?_ _ | refine below_drew ?_)⟩
  have hnop : nOp op = 2 := by simp [nOp, o17, o18]
  have p17 : (op == 17) = false := beq_false_of_ne o17
  have p18 : (op == 18) = false := beq_false_of_ne o18
  have hm1 : m = 1 := by rw [hnop] at hN; omega
  subst hm1
  clear hnop hN hlen o17 o18
  by_cases q1 : 1 ≤ op
  rotate_left
  · have q1' : op < 1 := by omega
    have HR : Hid (R = false) := by show _ = _; rw [hR, decide_eq_false q1]; simp
    clear hR q1 p17 p18
    have p17 : (op == 17) = false := beq_false_of_ne (by omega)
    have p18 : (op == 18) = false := beq_false_of_ne (by omega)
    go_enter Tryz.func82, Tryz.ntmps82
    go_wp2
    go_ret
    exact ⟨ret_bool HR.out.symm, HB0.out _ _⟩
  by_cases q2 : op ≤ 18
  rotate_left
  · have q2' : 18 < op := by omega
    have HR : Hid (R = false) := by show _ = _; rw [hR, decide_eq_false q2]; simp
    clear hR q2
    go_enter Tryz.func82, Tryz.ntmps82
    go_wp2
    go_ret
    exact ⟨ret_bool HR.out.symm, HB0.out _ _⟩
  rw [decide_eq_true q1, decide_eq_true q2, Bool.true_and, Bool.true_and] at hR
  cases ok with
  | false =>
    have HR : Hid (R = false) := by show _ = _; rw [hR]; simp
    clear hR
    go_enter Tryz.func82, Tryz.ntmps82
    go_wp2
    go_quiet (fail)
    go_wp2_with (go_at_call 96; refine Calls.mono (HOF.out _) ?_; rintro e wx ⟨rfl, hwx⟩; subst wx)
    go_quiet (fail)
    go_wp2
    go_ret
    exact ⟨ret_bool HR.out.symm, by repeat (first | exact HB0.out _ _ | refine below_drewN ?_ _ | refine below_drew ?_)⟩
  | true =>
    by_cases ht : t1 = t0
    · subst ht
      have HR : Hid (R = (td == told)) := by show _ = _; rw [hR]; simp [*]
      clear hR
      go_enter Tryz.func82, Tryz.ntmps82
      go_wp2
      go_quiet (fail)
      go_wp2_with (go_at_call 96; refine Calls.mono (HOF.out _) ?_; rintro e wx ⟨rfl, hwx⟩; subst wx)
      go_quiet (fail)
      go_wp2
      go_ret
      exact ⟨ret_bool (by rw [HR.out]), by repeat (first | exact HB0.out _ _ | refine below_drewN ?_ _ | refine below_drew ?_)⟩
    · have ht' : (t1 == t0) = false := beq_false_of_ne ht
      have HR : Hid (R = false) := by show _ = _; rw [hR, ht']; simp
      clear hR ht
      go_enter Tryz.func82, Tryz.ntmps82
      go_wp2
      go_quiet (fail)
      go_wp2_with (go_at_call 96; refine Calls.mono (HOF.out _) ?_; rintro e wx ⟨rfl, hwx⟩; subst wx)
      go_quiet (fail)
      go_wp2
      go_ret
      exact ⟨ret_bool HR.out.symm, by repeat (first | exact HB0.out _ _ | refine below_drewN ?_ _ | refine below_drew ?_)⟩
end Go.Proofs.YtcggbedjhglmmaaGreatDoor
/- Types of a call. -/
namespace Go.Proofs.YtcggbedjhglmmaaGreatDoor
open Go.RowKit Go.Sort

def callOk (vars : List Int) (x : In) (f : Gr) (i : Nat) : Bool := inB (f.params.getD i 0) f.vars.length && isOfB vars (x.args.getD i 0) (varT f.vars (f.params.getD i 0))
def callOkB (vars : List Int) (x : In) (f : Gr) : Bool := ((x.args.length : Int) == (f.params.length : Int)) && ((List.range f.params.length).all (callOk vars x f) && isOfB vars x.dst f.result)
set_option maxRecDepth 100000 in
set_option maxHeartbeats 2000000 in
theorem fitsCall_any (G : Gr) (pv vv av bv : Value) (x : In) (xv : Value) (F : Gr) (fpv fvv fav fbv : Value) (w : World) (h : GrAt w pv vv av bv G) (hA : IntsAt w xv x.args) (hF : GrAt w fpv fvv fav fbv F) :
    Calls Tryz.prog 129 #[.agg #[.string G.name, pv, .int .u8 G.result, vv, av, bv], inV x xv, .agg #[.string F.name, fpv, .int .u8 F.result, fvv, fav, fbv]] w fun e w' => e = .returned (.bool (callOkB G.vars x F)) ∧ Below w.heap.size w w' := by
  have HOF : Hid (∀ v t W, Below w.heap.size w W → Calls Tryz.prog 111 #[.agg #[.string G.name, pv, .int .u8 G.result, vv, av, bv], .int .i64 v, .int .u8 t] W fun e w' => e = .returned (.bool (isOfB G.vars v t)) ∧ Below W.heap.size W w') := fun v t W hb => isOf_any G pv vv av bv v t W (h.below hb)
  obtain ⟨pa, pc, va, vc, aa, ac, ba, bc, rfl, rfl, rfl, rfl, _, _, _, _⟩ := h.openF
  obtain ⟨fpa, fpc, fva, fvc, faa, fac, fba, fbc, rfl, rfl, rfl, rfl, hfpl, _, _, _⟩ := hF.openF
  obtain ⟨xa, xc, rfl, hxl⟩ := hA.form
  obtain ⟨kind, op, dst, args, bits, ref⟩ := x
  have HFP : Hid (∀ i, i < F.params.length → _) := fun i hi => hF.ps.get (i := i) hi
  have HFV : Hid (∀ v, inB v F.vars.length = true → _) := fun v hv => TysAt.var hF.vs hv
  have HXA : Hid (∀ i, i < args.length → _) := fun i hi => hA.get (i := i) hi
  have HPL : Hid (∀ v W, Calls Tryz.prog 29 #[.int .i64 v, .int .i64 (F.vars.length : Int)] W fun e w' => e = .returned (.bool (inB v F.vars.length)) ∧ w' = W) := fun v W => isPlace_any v _ W
  unfold callOkB
  dsimp only at *
  obtain ⟨fps, hfps⟩ : ∃ l, l = F.params := ⟨_, rfl⟩
  have HCO : Hid (∀ i, callOk G.vars ⟨kind, op, dst, args, bits, ref⟩ F i = (inB (F.params.getD i 0) F.vars.length && isOfB G.vars (args.getD i 0) (varT F.vars (F.params.getD i 0)))) := fun i => rfl
  rw [← hfps] at HFP HCO hfpl ⊢
  clear h hF hA hfps
  generalize callOk G.vars ⟨kind, op, dst, args, bits, ref⟩ F = co at *
  generalize G.name = nm at *
  generalize G.params.length = pl at *
  generalize G.vars.length = vl at *
  generalize G.arrs.length = al at *
  generalize G.blocks.length = bl at *
  generalize G.result = r at *
  generalize F.name = fnm at *
  generalize F.result = fr at *
  generalize F.vars.length = fvl at *
  generalize F.arrs.length = fal at *
  generalize F.blocks.length = fbl at *
  have HB0 : Hid (Below w.heap.size w (((w.alloc (.cells #[.string nm, .slice pa pl pc, .int .u8 r, .slice va vl vc, .slice aa al ac, .slice ba bl bc] 28)).alloc (.cells #[.int .u8 kind, .int .u8 op, .int .i64 dst, .slice xa args.length xc, .int .u64 bits, .int .i64 ref] 54)).alloc (.cells #[.string fnm, .slice fpa fps.length fpc, .int .u8 fr, .slice fva fvl fvc, .slice faa fal fac, .slice fba fbl fbc] 28)) ∧ Trio w.heap.size [.string nm, .slice pa pl pc, .int .u8 r, .slice va vl vc, .slice aa al ac, .slice ba bl bc] [.int .u8 kind, .int .u8 op, .int .i64 dst, .slice xa args.length xc, .int .u64 bits, .int .i64 ref] [.string fnm, .slice fpa fps.length fpc, .int .u8 fr, .slice fva fvl fvc, .slice faa fal fac, .slice fba fbl fbc] (((w.alloc (.cells #[.string nm, .slice pa pl pc, .int .u8 r, .slice va vl vc, .slice aa al ac, .slice ba bl bc] 28)).alloc (.cells #[.int .u8 kind, .int .u8 op, .int .i64 dst, .slice xa args.length xc, .int .u64 bits, .int .i64 ref] 54)).alloc (.cells #[.string fnm, .slice fpa fps.length fpc, .int .u8 fr, .slice fva fvl fvc, .slice faa fal fac, .slice fba fbl fbc] 28))) := ⟨below_alloc (below_alloc (below_alloc (Below.refl _ _) _) _) _, Trio.new w [.string nm, .slice pa pl pc, .int .u8 r, .slice va vl vc, .slice aa al ac, .slice ba bl bc] [.int .u8 kind, .int .u8 op, .int .i64 dst, .slice xa args.length xc, .int .u64 bits, .int .i64 ref] [.string fnm, .slice fpa fps.length fpc, .int .u8 fr, .slice fva fvl fvc, .slice faa fal fac, .slice fba fbl fbc] 28 54 28⟩
  by_cases hl : args.length = fps.length
  · rw [hl] at HB0 HXA ⊢
    clear hl hxl
    obtain ⟨R, hR⟩ : ∃ R, R = (((fps.length : Int) == (fps.length : Int)) && ((List.range fps.length).all co && isOfB G.vars dst fr)) := ⟨_, rfl⟩
    rw [← hR]
    have HR : Hid (R = (((List.range fps.length).drop 0).all co && isOfB G.vars dst fr)) := by show _ = _; rw [hR]; simp
    clear hR
    go_enter Tryz.func129, Tryz.ntmps129
    go_wp2
    go_loopw [19] (fun vi wr => ∃ i : Nat, vi = .int .i64 i ∧ i ≤ fps.length ∧ Hid (R = (((List.range fps.length).drop i).all co && isOfB G.vars dst fr) ∧ Below w.heap.size w wr ∧ Trio w.heap.size [.string nm, .slice pa pl pc, .int .u8 r, .slice va vl vc, .slice aa al ac, .slice ba bl bc] [.int .u8 kind, .int .u8 op, .int .i64 dst, .slice xa fps.length xc, .int .u64 bits, .int .i64 ref] [.string fnm, .slice fpa fps.length fpc, .int .u8 fr, .slice fva fvl fvc, .slice faa fal fac, .slice fba fbl fbc] wr)) (fun vi _ => fps.length - (intOf vi).toNat)
    case atStart => exact ⟨0, rfl, by omega, HR.out, HB0.out.1, HB0.out.2⟩
    case round =>
      obtain ⟨i, rfl, hi, hr⟩ := hrel
      clear HR HB0
      obtain ⟨e0, e1, e2, e3, e4, e5⟩ := box6 hr.out.2.2.g
      obtain ⟨x0, x1, x2, x3, x4, x5⟩ := box6 hr.out.2.2.t
      obtain ⟨o0, o1, o2, o3, o4, o5⟩ := box6 hr.out.2.2.o
      by_cases hin : i < fps.length
      · obtain ⟨gp, op', rfl, hgp, cp⟩ := HFP.out i hin
        obtain ⟨ga, oa, rfl, hga, ca⟩ := HXA.out i hin
        have hin' : (i : Int) < fps.length := by omega
        have hd : R = (co i && ((List.range fps.length).drop (i + 1)).all co && isOfB G.vars dst fr) := by
          rw [hr.out.1, all_drop (d := 0) (by simpa using hin)]
          congr 3
          simp [List.getD, hin]
        rw [HCO.out i] at hd
        have cp' := (hr.out.2.1.cell (p := ⟨gp, op' + i, none⟩) hgp).trans cp
        have ca' := (hr.out.2.1.cell (p := ⟨ga, oa + i, none⟩) hga).trans ca
        have HPI := HPL.out (fps.getD i 0)
        have HVI := HFV.out (fps.getD i 0)
        have HOI := HOF.out (args.getD i 0)
        generalize fps.getD i 0 = fv at *
        generalize args.getD i 0 = xv at *
        clear cp ca HXA HFP HFV
        cases hb : inB fv fvl with
        | false =>
          rw [hb] at hd HPI
          simp only [Bool.false_and] at hd
          have HD : Hid (R = false) := hd
          have D1 : Hid (∀ W, Calls Tryz.prog 29 #[.int .i64 fv, .int .i64 (fvl : Int)] W fun e w' => e = .returned (.bool false) ∧ Below W.heap.size W w') := fun W => (HPI W).mono fun e w' ⟨he, hw⟩ => ⟨he, by rw [hw]; exact Below.refl _ _⟩
          have ko3 := cell_regrown o3
          have c1 : ∀ d os, _ := fun d os => Calls.regrown_of (D1.out (grow (redrawn wr d) os))
          have E1 : Hid _ := c1
          clear hd HPI HVI HOI hb c1 D1
          go_wp2
          refine wp_region_quiet_below (by kernel_rfl) (by kernel_rfl) ?_
          repeat (go_big_quiet_step ((with_reducible exact E1.out _ _)))
          refine wpQuiet_nil ?_
          intro _ hw'
          obtain ⟨⟨dq, osq⟩, hw''⟩ := hw'
          subst hw''
          go_wp2
          go_ret
          exact ⟨ret_bool HD.out.symm, below_trans hr.out.2.1 (below_regrown wr dq osq)⟩
        | true =>
          obtain ⟨gv, ov, k, rfl, rfl, hkn, hgv, cv⟩ := HVI hb
          rw [hb] at hd HPI
          have cv' := (hr.out.2.1.cell (p := ⟨gv, ov + k, none⟩) hgv).trans cv
          have HOJ := HOI (varT F.vars (k : Int))
          generalize varT F.vars (k : Int) = ty at *
          have D1 : Hid (∀ W, Calls Tryz.prog 29 #[.int .i64 (k : Int), .int .i64 (fvl : Int)] W fun e w' => e = .returned (.bool true) ∧ Below W.heap.size W w') := fun W => (HPI W).mono fun e w' ⟨he, hw⟩ => ⟨he, by rw [hw]; exact Below.refl _ _⟩
          have ke0 := cell_regrown e0
          have ke1 := cell_regrown e1
          have ke2 := cell_regrown e2
          have ke3 := cell_regrown e3
          have ke4 := cell_regrown e4
          have ke5 := cell_regrown e5
          have kx3 := cell_regrown x3
          have ko3 := cell_regrown o3
          have kca := cell_regrown ca'
          have kcv := cell_regrown cv'
          have HBR : Hid (Below w.heap.size w wr) := hr.out.2.1
          cases hc : isOfB G.vars xv ty with
          | true =>
            rw [hc] at hd HOJ
            simp only [Bool.true_and] at hd
            have HD : Hid _ := hd
            have c1 : ∀ d os, _ := fun d os => Calls.regrown_of (D1.out (grow (redrawn wr d) os))
            have c2 : ∀ d os, _ := fun d os => Calls.regrown_of (HOJ _ (below_trans HBR.out (below_regrown wr d os)))
            have E1 : Hid _ := c1
            have E2 : Hid _ := c2
            clear hd HPI HVI HOI hb hc HOJ cv c1 c2 D1
            go_wp2
            refine wp_region_quiet_below (by kernel_rfl) (by kernel_rfl) ?_
            repeat (go_big_quiet_step ((first | with_reducible exact E1.out _ _ | with_reducible exact E2.out _ _)))
            refine wpQuiet_nil ?_
            intro _ hw'
            obtain ⟨⟨dq, osq⟩, hw''⟩ := hw'
            subst hw''
            go_wp2
            go_roundw
            case rel => exact ⟨i + 1, by first | rfl | (congr 1; omega), by omega, HD.out, below_trans HBR.out (below_regrown wr dq osq), hr.out.2.2.below (below_regrown wr dq osq)⟩
            case measure => simp [intOf]; omega
          | false =>
            rw [hc] at hd HOJ
            simp only [Bool.false_and, Bool.and_false] at hd
            have HD : Hid (R = false) := hd
            have c1 : ∀ d os, _ := fun d os => Calls.regrown_of (D1.out (grow (redrawn wr d) os))
            have c2 : ∀ d os, _ := fun d os => Calls.regrown_of (HOJ _ (below_trans HBR.out (below_regrown wr d os)))
            have E1 : Hid _ := c1
            have E2 : Hid _ := c2
            clear hd HPI HVI HOI hb hc HOJ cv c1 c2 D1
            go_wp2
            refine wp_region_quiet_below (by kernel_rfl) (by kernel_rfl) ?_
            repeat (go_big_quiet_step ((first | with_reducible exact E1.out _ _ | with_reducible exact E2.out _ _)))
            refine wpQuiet_nil ?_
            intro _ hw'
            obtain ⟨⟨dq, osq⟩, hw''⟩ := hw'
            subst hw''
            go_wp2
            go_ret
            exact ⟨ret_bool HD.out.symm, below_trans HBR.out (below_regrown wr dq osq)⟩
      · obtain rfl : i = fps.length := by omega
        have hd : R = isOfB G.vars dst fr := by rw [hr.out.1, List.drop_eq_nil_of_le (by simp)]; simp
        have HD : Hid _ := hd
        have HOJ : Hid _ := HOF.out dst fr wr hr.out.2.1
        have HBR : Hid (Below w.heap.size w wr) := hr.out.2.1
        clear hd HFP HXA HFV HOF HPL hr
        go_wp2_with (go_at_call 111; go_loud (refine Calls.mono (by exact HOJ.out) ?_; rintro e w1 ⟨rfl, hb1⟩))
        go_ret
        exact ⟨ret_bool HD.out.symm, below_trans HBR.out hb1⟩
  · have hl1 : ((args.length : Int) == (fps.length : Int)) = false := beq_false_of_ne (by omega)
    have hl2 : ((args.length : Int) != (fps.length : Int)) = true := by simp; omega
    rw [hl1]
    clear HFP HXA HFV HOF HPL hl
    go_enter Tryz.func129, Tryz.ntmps129
    go_wp2
    go_ret
    exact ⟨rfl, HB0.out.1⟩
end Go.Proofs.YtcggbedjhglmmaaGreatDoor
