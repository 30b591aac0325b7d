/- The document's side: may a block end so? -/
import Derived.Test.YtajaijilfclhpaaGreatDoorGFit4M
import Derived.Test.YtajaijilfclhpaaGreatDoorGScalRM
import Derived.Test.YtajaijilfclhpaaGreatDoorGAhd1M
import Derived.Test.YtajaijilfclhpaaGreatDoorGRHeadM
import Derived.Test.YtajaijilfclhpaaGreatDoorNPlM
import Derived.Test.YtajaijilfclhpaaGreatDoorRows
namespace Go.Proofs.YtajaijilfclhpaaGreatDoor
open Go.RowKit

def rendB (G : Gr) (t : Tm) : Bool :=
 if t.kind = 1 then innerB t.t0 G.blocks.length && (t.arg == 0 && t.t1 == 0 && t.trap == 0)
 else if t.kind = 2 then innerB t.t0 G.blocks.length && (innerB t.t1 G.blocks.length && (inB t.arg G.vars.length && (varT G.vars t.arg == 1 && t.trap == 0)))
 else if t.kind = 3 then inB t.arg G.vars.length && (varT G.vars t.arg == G.result && (t.t0 == 0 && t.t1 == 0 && t.trap == 0))
 else if t.kind = 4 then decide (1 ≤ t.trap) && (decide (t.trap ≤ 3) && (t.arg == 0 && t.t0 == 0 && t.t1 == 0))
 else false
set_option maxRecDepth 100000 in
set_option maxHeartbeats 4000000 in
theorem rend_any (G : Gr) (pv vv av bv : Value) (t : Tm) (w : World) (h : GrAt w pv vv av bv G) :
  Calls Tryz.prog 60 #[.agg #[.string G.name, pv, .int .u8 G.result, vv, av, bv], tmV t] w fun e w' => e = .returned (.bool (rendB G t)) ∧ Below w.heap.size w w' := by
 have HIN : Hid (∀ k W, Calls Tryz.prog 117 #[.int .i64 k, .int .i64 (G.blocks.length : Int)] W fun e w' => e = .returned (.bool (innerB k G.blocks.length)) ∧ w' = W) := fun k W => rinner_any k _ W
 have HI : Hid (∀ k W, Calls Tryz.prog 118 #[.int .i64 k, .int .i64 (G.vars.length : Int)] W fun e w' => e = .returned (.bool (inB k G.vars.length)) ∧ w' = W) := fun k W => rin_any k _ W
 obtain ⟨pa, pc, va, vc, aa, ac, ba, bc, rfl, rfl, rfl, rfl, _, _, _, _⟩ := h.openF
 have HVV : Hid (∀ v, inB v G.vars.length = true → _) := fun v hv => TysAt.var h.vs hv
 have heq := eql_term
 obtain ⟨R, hR⟩ : ∃ R, R = rendB G t := ⟨_, rfl⟩
 rw [← hR]
 unfold rendB at hR
 clear h
 generalize G.name = nm at *
 generalize G.params.length = pl at *
 generalize G.vars.length = m at *
 generalize G.arrs.length = al at *
 generalize G.blocks.length = n at *
 generalize G.result = r at *
 obtain ⟨k, a, x, y, z⟩ := t
 dsimp only at hR
 have HX := HIN.out x
 have HY := HIN.out y
 have HAI := HI.out a
 clear HIN HI
 have B0 : Hid (∀ (c d : Array Value), Below w.heap.size w ((w.alloc (.cells c 28)).alloc (.cells d 61))) := fun c d => below_alloc (below_alloc (Below.refl _ _) _) _
 generalize innerB x n = bx at *
 generalize innerB y n = byy at *
 have HXJ : Hid _ := HX
 have HYJ : Hid _ := HY
 clear HX HY
 by_cases k1 : k = 1
 ·subst k1
  rw [if_pos rfl] at hR
  have HR : Hid _ := hR
  clear hR HAI HVV
  cases bx
  all_goals cases byy
  all_goals
   go_enter Tryz.func60, Tryz.ntmps60
   go_wp2_with (first | (go_at_call 117; refine Calls.mono (by with_reducible exact HXJ.out _) ?_; rintro e wx ⟨rfl, hwx⟩; subst wx) | (go_at_call 117; refine Calls.mono (by with_reducible exact HYJ.out _) ?_; rintro e wx ⟨rfl, hwx⟩; subst wx))
   go_ret
   exact ⟨ret_bool (by rw [HR.out]; simp), B0.out _ _⟩
 by_cases k2 : k = 2
 ·subst k2
  rw [if_neg (by decide), if_pos rfl] at hR
  cases hia : inB a m with
  | false =>
   rw [hia] at hR HAI
   have HAJ : Hid _ := HAI
   have HR : Hid (R = false) := by show _ = _; rw [hR]; simp
   clear hR HAI HVV hia
   cases bx
   all_goals cases byy
   all_goals
    go_enter Tryz.func60, Tryz.ntmps60
    go_wp2_with (first | (go_at_call 117; refine Calls.mono (by with_reducible exact HXJ.out _) ?_; rintro e wx ⟨rfl, hwx⟩; subst wx) | (go_at_call 117; refine Calls.mono (by with_reducible exact HYJ.out _) ?_; rintro e wx ⟨rfl, hwx⟩; subst wx) | (go_at_call 118; refine Calls.mono (by with_reducible exact HAJ.out _) ?_; rintro e wx ⟨rfl, hwx⟩; subst wx))
    go_ret
    exact ⟨ret_bool (by rw [HR.out]), B0.out _ _⟩
  | true =>
   obtain ⟨g, o, kd, rfl, rfl, hkn, hg, cd⟩ := HVV.out a hia
   rw [hia] at hR HAI
   have HAJ : Hid _ := HAI
   clear HAI HVV hia
   generalize varT G.vars (kd : Int) = tv at *
   by_cases ht : tv = 1
   ·subst ht
    have HR : Hid _ := hR
    clear hR
    cases bx
    all_goals cases byy
    all_goals
     go_enter Tryz.func60, Tryz.ntmps60
     go_wp2_with (first | (go_at_call 117; refine Calls.mono (by with_reducible exact HXJ.out _) ?_; rintro e wx ⟨rfl, hwx⟩; subst wx) | (go_at_call 117; refine Calls.mono (by with_reducible exact HYJ.out _) ?_; rintro e wx ⟨rfl, hwx⟩; subst wx) | (go_at_call 118; refine Calls.mono (by with_reducible exact HAJ.out _) ?_; rintro e wx ⟨rfl, hwx⟩; subst wx))
     go_ret
     exact ⟨ret_bool (by rw [HR.out]; simp), B0.out _ _⟩
   ·have htf : (tv == 1) = false := beq_false_of_ne ht
    have HR : Hid (R = false) := by show _ = _; rw [hR, htf]; simp
    clear hR ht
    cases bx
    all_goals cases byy
    all_goals
     go_enter Tryz.func60, Tryz.ntmps60
     go_wp2_with (first | (go_at_call 117; refine Calls.mono (by with_reducible exact HXJ.out _) ?_; rintro e wx ⟨rfl, hwx⟩; subst wx) | (go_at_call 117; refine Calls.mono (by with_reducible exact HYJ.out _) ?_; rintro e wx ⟨rfl, hwx⟩; subst wx) | (go_at_call 118; refine Calls.mono (by with_reducible exact HAJ.out _) ?_; rintro e wx ⟨rfl, hwx⟩; subst wx))
     go_ret
     exact ⟨ret_bool (by rw [HR.out]), B0.out _ _⟩
 by_cases k3 : k = 3
 ·subst k3
  rw [if_neg (by decide), if_neg (by decide), if_pos rfl] at hR
  cases hia : inB a m with
  | false =>
   rw [hia] at hR HAI
   have HAJ : Hid _ := HAI
   have HR : Hid (R = false) := by show _ = _; rw [hR]; simp
   clear hR HAI HVV hia
   cases bx
   all_goals cases byy
   all_goals
    go_enter Tryz.func60, Tryz.ntmps60
    go_wp2_with (first | (go_at_call 117; refine Calls.mono (by with_reducible exact HXJ.out _) ?_; rintro e wx ⟨rfl, hwx⟩; subst wx) | (go_at_call 117; refine Calls.mono (by with_reducible exact HYJ.out _) ?_; rintro e wx ⟨rfl, hwx⟩; subst wx))
    go_quiet ((go_at_call 118; exact Calls.quiet_of_same (HAJ.out _)))
    go_wp2
    go_ret
    exact ⟨ret_bool (by rw [HR.out]), below_drewN (B0.out _ _) _⟩
  | true =>
   obtain ⟨g, o, kd, rfl, rfl, hkn, hg, cd⟩ := HVV.out a hia
   rw [hia] at hR HAI
   have HAJ : Hid _ := HAI
   clear HAI HVV hia
   generalize varT G.vars (kd : Int) = tv at *
   by_cases ht : tv = r
   ·subst ht
    have HR : Hid _ := hR
    clear hR
    cases bx
    all_goals cases byy
    all_goals
     go_enter Tryz.func60, Tryz.ntmps60
     go_wp2_with (first | (go_at_call 117; refine Calls.mono (by with_reducible exact HXJ.out _) ?_; rintro e wx ⟨rfl, hwx⟩; subst wx) | (go_at_call 117; refine Calls.mono (by with_reducible exact HYJ.out _) ?_; rintro e wx ⟨rfl, hwx⟩; subst wx))
     go_quiet ((go_at_call 118; exact Calls.quiet_of_same (HAJ.out _)))
     go_wp2
     go_ret
     exact ⟨ret_bool (by rw [HR.out]; simp), below_drewN (B0.out _ _) _⟩
   ·have htf : (tv == r) = false := beq_false_of_ne ht
    have HR : Hid (R = false) := by show _ = _; rw [hR, htf]; simp
    clear hR ht
    cases bx
    all_goals cases byy
    all_goals
     go_enter Tryz.func60, Tryz.ntmps60
     go_wp2_with (first | (go_at_call 117; refine Calls.mono (by with_reducible exact HXJ.out _) ?_; rintro e wx ⟨rfl, hwx⟩; subst wx) | (go_at_call 117; refine Calls.mono (by with_reducible exact HYJ.out _) ?_; rintro e wx ⟨rfl, hwx⟩; subst wx))
     go_quiet ((go_at_call 118; exact Calls.quiet_of_same (HAJ.out _)))
     go_wp2
     go_ret
     exact ⟨ret_bool (by rw [HR.out]), below_drewN (B0.out _ _) _⟩
 by_cases k4 : k = 4
 ·subst k4
  rw [if_neg (by decide), if_neg (by decide), if_neg (by decide), if_pos rfl] at hR
  have HR : Hid _ := hR
  clear hR HAI HVV
  by_cases hz1 : 1 ≤ z
  ·by_cases hz3 : z ≤ 3
   ·skip
    cases bx
    all_goals cases byy
    all_goals
     go_enter Tryz.func60, Tryz.ntmps60
     go_wp2_with (first | (go_at_call 117; refine Calls.mono (by with_reducible exact HXJ.out _) ?_; rintro e wx ⟨rfl, hwx⟩; subst wx) | (go_at_call 117; refine Calls.mono (by with_reducible exact HYJ.out _) ?_; rintro e wx ⟨rfl, hwx⟩; subst wx))
     go_ret
     exact ⟨ret_bool (by rw [HR.out]; simp [hz1, hz3]), B0.out _ _⟩
   ·skip
    cases bx
    all_goals cases byy
    all_goals
     go_enter Tryz.func60, Tryz.ntmps60
     go_wp2_with (first | (go_at_call 117; refine Calls.mono (by with_reducible exact HXJ.out _) ?_; rintro e wx ⟨rfl, hwx⟩; subst wx) | (go_at_call 117; refine Calls.mono (by with_reducible exact HYJ.out _) ?_; rintro e wx ⟨rfl, hwx⟩; subst wx))
     go_ret
     exact ⟨ret_bool (by rw [HR.out]; first | (simp; omega) | simp), B0.out _ _⟩
  ·skip
   cases bx
   all_goals cases byy
   all_goals
    go_enter Tryz.func60, Tryz.ntmps60
    go_wp2_with (first | (go_at_call 117; refine Calls.mono (by with_reducible exact HXJ.out _) ?_; rintro e wx ⟨rfl, hwx⟩; subst wx) | (go_at_call 117; refine Calls.mono (by with_reducible exact HYJ.out _) ?_; rintro e wx ⟨rfl, hwx⟩; subst wx))
    go_ret
    exact ⟨ret_bool (by rw [HR.out]; first | (simp; omega) | simp), B0.out _ _⟩
 rw [if_neg k1, if_neg k2, if_neg k3, if_neg k4] at hR
 have HR : Hid _ := hR
 have f1 : (k == 1) = false := beq_false_of_ne k1
 have f2 : (k == 2) = false := beq_false_of_ne k2
 have f3 : (k == 3) = false := beq_false_of_ne k3
 have f4 : (k == 4) = false := beq_false_of_ne k4
 clear hR HAI HVV k1 k2 k3 k4
 cases bx
 all_goals cases byy
 all_goals
  go_enter Tryz.func60, Tryz.ntmps60
  go_wp2_with (first | (go_at_call 117; refine Calls.mono (by with_reducible exact HXJ.out _) ?_; rintro e wx ⟨rfl, hwx⟩; subst wx) | (go_at_call 117; refine Calls.mono (by with_reducible exact HYJ.out _) ?_; rintro e wx ⟨rfl, hwx⟩; subst wx))
  go_ret
  exact ⟨ret_bool (by rw [HR.out]), B0.out _ _⟩
end Go.Proofs.YtajaijilfclhpaaGreatDoor
/- The document's side: is a graph right by itself? -/
namespace Go.Proofs.YtajaijilfclhpaaGreatDoor
open Go.RowKit Go.Sort

def blockR (G : Gr) (b : Bl) : Bool := rendB G b.tm && b.ins.all (aloneR G)
def aloneG (G : Gr) : Bool := headR G && (G.blocks.all (blockR G) && phisR G)
theorem headR_vars {G : Gr} (h : headR G = true) : G.vars.length ≤ 1048576 := by
 unfold headR at h
 simp only [Bool.and_eq_true, decide_eq_true_eq] at h
 exact h.2.2.1
theorem aloneR_dst {G : Gr} {x : In} (h : aloneR G x = true) (hk : x.kind ≤ 6 ∨ x.kind = 9) : inB x.dst G.vars.length = true := by
 unfold aloneR at h
 simp only [Bool.and_eq_true, Bool.or_eq_true, decide_eq_true_eq] at h
 rcases h.2.2.2.2.1 with h1 | h1
 ·omega
 ·exact h1
theorem aloneR_args {G : Gr} {x : In} (h : aloneR G x = true) : x.args.all (inB · G.vars.length) = true := by
 unfold aloneR at h
 simp only [Bool.and_eq_true] at h
 exact h.2.2.2.1
theorem blocks_dst {G : Gr} (h : G.blocks.all (blockR G) = true) : ∀ b ∈ G.blocks, ∀ x ∈ b.ins, x.kind = 1 → inB x.dst G.vars.length = true := by
 intro b hb x hx hk
 have h1 := List.all_eq_true.1 h b hb
 unfold blockR at h1
 rw [Bool.and_eq_true] at h1
 exact aloneR_dst (List.all_eq_true.1 h1.2 x hx) (by omega)
set_option maxRecDepth 100000 in
set_option maxHeartbeats 4000000 in
theorem raloneG_any (G : Gr) (pv vv av bv : Value) (w : World) (h : GrAt w pv vv av bv G) (hn : G.blocks.length ≤ 100000) :
  Calls Tryz.prog 28 #[.agg #[.string G.name, pv, .int .u8 G.result, vv, av, bv]] w fun e w' => e = .returned (.bool (aloneG G)) ∧ Below w.heap.size w w' := by
 have HC1 : Hid (∀ W, Below w.heap.size w W → Calls Tryz.prog 59 #[.agg #[.string G.name, pv, .int .u8 G.result, vv, av, bv]] W fun e w' => e = .returned (.bool (headR G)) ∧ Below W.heap.size W w') := fun W hb => rhead_any G pv vv av bv W (h.below hb)
 have HC2 : Hid (∀ t W, Below w.heap.size w W → Calls Tryz.prog 60 #[.agg #[.string G.name, pv, .int .u8 G.result, vv, av, bv], tmV t] W fun e w' => e = .returned (.bool (rendB G t)) ∧ Below W.heap.size W w') := fun t W hb => rend_any G pv vv av bv t W (h.below hb)
 have HC3 : Hid (∀ x xv W, Below w.heap.size w W → IntsAt w xv x.args → (0 ≤ x.bits ∧ x.bits < 18446744073709551616) → Calls Tryz.prog 61 #[.agg #[.string G.name, pv, .int .u8 G.result, vv, av, bv], inV x xv] W fun e w' => e = .returned (.bool (aloneR G x)) ∧ Below W.heap.size W w') := fun x xv W hb hA hbits => ralone_any G pv vv av bv x xv W (h.below hb) (hA.below hb) hbits
 have HC4 : Hid (∀ W, Below w.heap.size w W → headR G = true → G.blocks.all (blockR G) = true → Calls Tryz.prog 62 #[.agg #[.string G.name, pv, .int .u8 G.result, vv, av, bv]] W fun e w' => e = .returned (.bool (phisR G)) ∧ Below W.heap.size W w') := fun W hb h1 h2 => rphis_any G pv vv av bv W (h.below hb) hn (headR_vars h1) (blocks_dst h2)
 obtain ⟨pa, pc, va, vc, aa, ac, ba, bc, rfl, rfl, rfl, rfl, _, _, _, hbl⟩ := h.openF
 have HB : Hid (∀ i, i < G.blocks.length → _) := fun i hi => h.bs.get (i := i) hi
 have HN : Hid (∀ i, i < G.blocks.length → (G.blocks.drop i).all (blockR G) = (rendB G (G.blocks.getD i default).tm && (G.blocks.getD i default).ins.all (aloneR G) && (G.blocks.drop (i + 1)).all (blockR G))) := fun i hi => by
  rw [all_drop (d := default) hi]
  rfl
 have HZ : Hid ((G.blocks.drop G.blocks.length).all (blockR G) = true) := by show _ = _; rw [List.drop_length]; rfl
 obtain ⟨R, hR⟩ : ∃ R, R = aloneG G := ⟨_, rfl⟩
 rw [← hR]
 unfold aloneG at hR
 clear h hn
 generalize G.blocks.length = n at *
 generalize G.name = nm at *
 generalize G.params.length = pl at *
 generalize G.vars.length = m at *
 generalize G.arrs.length = al at *
 generalize G.result = r at *
 have H0 : Hid (Below w.heap.size w (w.alloc (.cells #[.string nm, .slice pa pl pc, .int .u8 r, .slice va m vc, .slice aa al ac, .slice ba n bc] 28)) ∧ Box (w.alloc (.cells #[.string nm, .slice pa pl pc, .int .u8 r, .slice va m vc, .slice aa al ac, .slice ba n bc] 28)) w.heap.size [.string nm, .slice pa pl pc, .int .u8 r, .slice va m vc, .slice aa al ac, .slice ba n bc]) := ⟨below_alloc (Below.refl _ _) _, Box.new w [.string nm, .slice pa pl pc, .int .u8 r, .slice va m vc, .slice aa al ac, .slice ba n bc] 28⟩
 cases hhd : headR G with
 | false =>
  rw [hhd] at HC1 hR
  have HR : Hid (R = false) := by show _ = _; rw [hR]; rfl
  clear hR HC2 HC3 HC4 HB HN HZ hhd
  go_enter Tryz.func28, Tryz.ntmps28
  go_wp2_with (go_at_call 59; go_loud (refine Calls.mono (by exact HC1.out _ H0.out.1) ?_; rintro e w1 ⟨rfl, hb⟩; have H1 : Hid (Below w.heap.size w w1 ∧ Box w1 w.heap.size [.string nm, .slice pa pl pc, .int .u8 r, .slice va m vc, .slice aa al ac, .slice ba n bc]) := ⟨below_trans H0.out.1 hb, H0.out.2.below hb⟩; obtain ⟨f0, f1, f2, f3, f4, f5⟩ := box6 H1.out.2; have hwl := H1.out.2.lt; clear hb))
  go_ret
  exact ⟨ret_bool HR.out.symm, H1.out.1⟩
 | true =>
  rw [hhd, Bool.true_and] at hR
  have HP : Hid (∀ W, Below w.heap.size w W → G.blocks.all (blockR G) = true → _) := fun W hb hbl => HC4.out W hb hhd hbl
  rw [hhd] at HC1
  have HR : Hid (R = ((G.blocks.drop 0).all (blockR G) && phisR G)) := hR
  obtain ⟨Q, hQ⟩ : ∃ Q, Q = G.blocks.all (blockR G) := ⟨_, rfl⟩
  have HQ : Hid (Q = (G.blocks.drop 0).all (blockR G)) := hQ
  have HRQ : Hid (R = (Q && phisR G)) := by show _ = _; rw [hQ]; exact hR
  have HPQ : Hid (∀ W, Below w.heap.size w W → Q = true → _) := fun W hb hq => HP.out W hb (hQ ▸ hq)
  clear hR HC4 hhd HP HR hQ
  go_enter Tryz.func28, Tryz.ntmps28
  go_wp2_with (go_at_call 59; go_loud (refine Calls.mono (by exact HC1.out _ H0.out.1) ?_; rintro e w1 ⟨rfl, hb⟩; have H1 : Hid (Below w.heap.size w w1 ∧ Box w1 w.heap.size [.string nm, .slice pa pl pc, .int .u8 r, .slice va m vc, .slice aa al ac, .slice ba n bc]) := ⟨below_trans H0.out.1 hb, H0.out.2.below hb⟩; obtain ⟨f0, f1, f2, f3, f4, f5⟩ := box6 H1.out.2; have hwl := H1.out.2.lt; clear hb))
  clear HC1
  go_loopw [3] (fun vi wr => ∃ i : Nat, vi = .int .i64 i ∧ i ≤ n ∧ Hid (Q = (G.blocks.drop i).all (blockR G) ∧ Below w.heap.size w wr ∧ Box wr w.heap.size [.string nm, .slice pa pl pc, .int .u8 r, .slice va m vc, .slice aa al ac, .slice ba n bc])) (fun vi _ => n - (intOf vi).toNat)
  case atStart => exact ⟨0, rfl, by omega, HQ.out, H1.out.1, H1.out.2⟩
  case round =>
   obtain ⟨i, rfl, hi, hr⟩ := hrel
   clear HQ H0 H1 f0 f1 f2 f3 f4 f5 hwl
   obtain ⟨e0, e1, e2, e3, e4, e5⟩ := box6 hr.out.2.2
   have hwl := hr.out.2.2.lt
   by_cases hin : i < n
   ·obtain ⟨g, o, iv, rfl, hg, c0, c1, c2, c3, c4, c5, hins⟩ := HB.out i hin
    obtain ⟨ia, ic, rfl, _⟩ := hins.form
    have hin' : (i : Int) < n := by omega
    have HC0 : Hid (w.cell? ⟨g, o + i * 6, none⟩ = _ ∧ g < w.heap.size) := ⟨c0, hg⟩
    have hcl : ∀ j, wr.cell? ⟨g, j, none⟩ = w.cell? ⟨g, j, none⟩ := fun j => hr.out.2.1.cell (p := ⟨g, j, none⟩) hg
    rw [← hcl] at c0 c1 c2 c3 c4 c5
    have hd := hr.out.1
    rw [HN.out i hin] at hd
    have HEI := fun W (hb : Below w.heap.size w W) => HC2.out (G.blocks.getD i default).tm W hb
    unfold tmV at HEI
    generalize rendB G (G.blocks.getD i default).tm = eb at *
    generalize htl : (G.blocks.drop (i + 1)).all (blockR G) = tl at *
    have HTL : Hid _ := htl
    clear htl
    have hwf := hins.wf
    generalize (G.blocks.getD i default).ins = L at *
    have HI : Hid (∀ k, k < L.length → _) := fun k hk => hins.get (i := k) hk
    have HWF : Hid (∀ k, k < L.length → 0 ≤ (L.getD k default).bits ∧ (L.getD k default).bits < 18446744073709551616) := fun k hk => hwf _ (by rw [List.getD, List.getElem?_eq_getElem hk]; exact List.getElem_mem hk)
    have HLN : Hid (∀ k, k < L.length → (L.drop k).all (aloneR G) = (aloneR G (L.getD k default) && (L.drop (k + 1)).all (aloneR G))) := fun k hk => all_drop (d := default) hk
    have HLZ : Hid ((L.drop L.length).all (aloneR G) = true) := by show _ = _; rw [List.drop_length]; rfl
    generalize (G.blocks.getD i default).tm.kind = t0 at *
    generalize (G.blocks.getD i default).tm.arg = t1 at *
    generalize (G.blocks.getD i default).tm.t0 = t2 at *
    generalize (G.blocks.getD i default).tm.t1 = t3 at *
    generalize (G.blocks.getD i default).tm.trap = t4 at *
    have HBR : Hid (Below w.heap.size w wr) := hr.out.2.1
    have HBX : Hid (Box wr w.heap.size [.string nm, .slice pa pl pc, .int .u8 r, .slice va m vc, .slice aa al ac, .slice (some ⟨g, o, none⟩) n bc]) := hr.out.2.2
    have C1 : ∀ d os, _ := fun d os => Calls.regrown_of (HEI (grow (redrawn wr d) os) (below_trans HBR.out (below_regrown wr d os)))
    have D1 : Hid _ := C1
    clear hcl HB HN HZ HC2 HEI C1 hins hwf hr
    have ke0 := cell_regrown e0
    have ke1 := cell_regrown e1
    have ke2 := cell_regrown e2
    have ke3 := cell_regrown e3
    have ke4 := cell_regrown e4
    have ke5 := cell_regrown e5
    have kc0 := cell_regrown c0
    have kc1 := cell_regrown c1
    have kc2 := cell_regrown c2
    have kc3 := cell_regrown c3
    have kc4 := cell_regrown c4
    have kc5 := cell_regrown c5
    cases eb with
    | false =>
     have HD : Hid (R = false) := by
      show R = false
      have h9 := HRQ.out
      rw [hd] at h9
      simpa using h9
     clear hd HRQ HPQ HC3 HI HWF HLN HLZ HTL
     go_wp2
     refine wp_region_quiet_below (by kernel_rfl) (by kernel_rfl) ?_
     repeat (go_big_quiet_step ((with_reducible exact D1.out _ _)))
     refine wpQuiet_nil ?_
     intro _ hw'
     obtain ⟨⟨dq, osq⟩, hw''⟩ := hw'
     subst hw''
     go_wp2
     go_ret
     exact ⟨ret_bool HD.out.symm, below_trans HBR.out (below_regrown wr dq osq)⟩
    | true =>
     have HD : Hid (Q = ((L.drop 0).all (aloneR G) && tl)) := by show _ = _; rw [hd, Bool.true_and]; rfl
     clear hd
     go_wp2
     refine wp_region_quiet_below (by kernel_rfl) (by kernel_rfl) ?_
     repeat (go_big_quiet_step ((with_reducible exact D1.out _ _)))
     refine wpQuiet_nil ?_
     intro _ hw'
     obtain ⟨⟨dq, osq⟩, hw''⟩ := hw'
     subst hw''
     clear ke0 ke1 ke2 ke3 ke4 ke5 kc0 kc1 kc2 kc3 kc4 kc5 D1 e0 e1 e2 e3 e4 e5 c0 c1 c2 c3 c4 c5
     have HS0 : Hid (Below w.heap.size w (grow (redrawn wr dq) osq) ∧ Box (grow (redrawn wr dq) osq) w.heap.size [.string nm, .slice pa pl pc, .int .u8 r, .slice va m vc, .slice aa al ac, .slice (some ⟨g, o, none⟩) n bc]) := ⟨below_trans HBR.out (below_regrown wr dq osq), HBX.out.below (below_regrown wr dq osq)⟩
     generalize grow (redrawn wr dq) osq = ws at *
     clear HBR HBX hwl
     go_wp2
     go_loopw [4] (fun vk wr => ∃ k : Nat, vk = .int .i64 k ∧ k ≤ L.length ∧ Hid (Q = ((L.drop k).all (aloneR G) && tl) ∧ Below w.heap.size w wr ∧ Box wr w.heap.size [.string nm, .slice pa pl pc, .int .u8 r, .slice va m vc, .slice aa al ac, .slice (some ⟨g, o, none⟩) n bc])) (fun vk _ => L.length - (intOf vk).toNat)
     case atStart => exact ⟨0, rfl, by omega, HD.out, HS0.out.1, HS0.out.2⟩
     case round =>
      obtain ⟨k, rfl, hk, hq⟩ := hrel
      clear HD HS0
      obtain ⟨e0, e1, e2, e3, e4, e5⟩ := box6 hq.out.2.2
      have hwl := hq.out.2.2.lt
      have c0 := (hq.out.2.1.cell (p := ⟨g, o + i * 6, none⟩) HC0.out.2).trans HC0.out.1
      by_cases hkn : k < L.length
      ·obtain ⟨gi, oi, xv, rfl, hgi, d0, d1, d2, d3, d4, d5, hxa⟩ := HI.out k hkn
       have hkn' : (k : Int) < L.length := by omega
       have hcl : ∀ j, wr.cell? ⟨gi, j, none⟩ = w.cell? ⟨gi, j, none⟩ := fun j => hq.out.2.1.cell (p := ⟨gi, j, none⟩) hgi
       rw [← hcl] at d0 d1 d2 d3 d4 d5
       have hd := hq.out.1
       rw [HLN.out k hkn] at hd
       have HXI := fun W (hb : Below w.heap.size w W) => HC3.out (L.getD k default) xv W hb hxa (HWF.out k hkn)
       obtain ⟨xa, xc, rfl, hxl⟩ := hxa.form
       unfold inV at HXI
       generalize aloneR G (L.getD k default) = ab at *
       generalize (L.getD k default).args.length = xn at *
       generalize (L.getD k default).kind = x0 at *
       generalize (L.getD k default).op = x1 at *
       generalize (L.getD k default).dst = x2 at *
       generalize (L.getD k default).bits = x4 at *
       generalize (L.getD k default).ref = x5 at *
       have HBR : Hid (Below w.heap.size w wr) := hq.out.2.1
       have HBX : Hid (Box wr w.heap.size [.string nm, .slice pa pl pc, .int .u8 r, .slice va m vc, .slice aa al ac, .slice (some ⟨g, o, none⟩) n bc]) := hq.out.2.2
       have C1 : ∀ d os, _ := fun d os => Calls.regrown_of (HXI (grow (redrawn wr d) os) (below_trans HBR.out (below_regrown wr d os)))
       have D1 : Hid _ := C1
       clear hcl HXI C1 hxa hq HI HWF HLN HLZ
       have ke0 := cell_regrown e0
       have ke1 := cell_regrown e1
       have ke2 := cell_regrown e2
       have ke3 := cell_regrown e3
       have ke4 := cell_regrown e4
       have ke5 := cell_regrown e5
       have kc0 := cell_regrown c0
       have kd0 := cell_regrown d0
       have kd1 := cell_regrown d1
       have kd2 := cell_regrown d2
       have kd3 := cell_regrown d3
       have kd4 := cell_regrown d4
       have kd5 := cell_regrown d5
       cases ab with
       | false =>
        have HD : Hid (R = false) := by
         show R = false
         have h9 := HRQ.out
         rw [hd] at h9
         simpa using h9
        clear hd HRQ HPQ HC3
        go_wp2
        refine wp_region_quiet_below (by kernel_rfl) (by kernel_rfl) ?_
        repeat (go_big_quiet_step ((with_reducible exact D1.out _ _)))
        refine wpQuiet_nil ?_
        intro _ hw'
        obtain ⟨⟨dq, osq⟩, hw''⟩ := hw'
        subst hw''
        go_wp2
        go_ret
        exact ⟨ret_bool HD.out.symm, below_trans HBR.out (below_regrown wr dq osq)⟩
       | true =>
        have HD : Hid (Q = ((L.drop (k + 1)).all (aloneR G) && tl)) := by show _ = _; rw [hd, Bool.true_and]
        clear hd
        go_wp2
        refine wp_region_quiet_below (by kernel_rfl) (by kernel_rfl) ?_
        repeat (go_big_quiet_step ((with_reducible exact D1.out _ _)))
        refine wpQuiet_nil ?_
        intro _ hw'
        obtain ⟨⟨dq, osq⟩, hw''⟩ := hw'
        subst hw''
        go_wp2
        go_roundw
        case rel => exact ⟨k + 1, by first | rfl | (congr 1; omega), by omega, HD.out, below_trans HBR.out (below_regrown wr dq osq), HBX.out.below (below_regrown wr dq osq)⟩
        case measure => simp [intOf]; omega
      ·obtain rfl : k = L.length := by omega
       have HD : Hid (Q = (G.blocks.drop (i + 1)).all (blockR G)) := by
        show _ = _
        rw [HTL.out]
        have h9 := hq.out.1
        rw [HLZ.out, Bool.true_and] at h9
        exact h9
       clear HI HWF HLN HLZ HC3
       go_wp2
       go_roundw
       case rel => exact ⟨i + 1, by first | rfl | (congr 1; omega), by omega, HD.out, hq.out.2.1, hq.out.2.2⟩
       case measure => simp [intOf]; omega
   ·obtain rfl : i = n := by omega
    have hd : Q = true := hr.out.1.trans HZ.out
    have HC := fun W (hb : Below w.heap.size w W) => HPQ.out W hb hd
    have HR : Hid (R = phisR G) := by
     show R = phisR G
     have h9 := HRQ.out
     rw [hd, Bool.true_and] at h9
     exact h9
    have HCC : Hid _ := HC
    have HBR : Hid (Below w.heap.size w wr) := hr.out.2.1
    clear hd HB HN HZ HC HC2 HC3 HPQ HRQ hr
    go_wp2_with (go_at_call 62; go_loud (refine Calls.mono (by exact HCC.out _ HBR.out) ?_; rintro e w3 ⟨rfl, hb⟩; have H3 : Hid (Below w.heap.size w w3) := below_trans HBR.out hb; clear hb))
    go_ret
    exact ⟨ret_bool (by rw [HR.out]), H3.out⟩
end Go.Proofs.YtajaijilfclhpaaGreatDoor
/- What stands in a graph that is right by itself lies among its variables. -/
namespace Go.Proofs.YtajaijilfclhpaaGreatDoor

theorem alone_inR {G : Gr} (h : aloneG G = true) : InR G := by
 unfold aloneG at h
 simp only [Bool.and_eq_true] at h
 have hb := fun b hb => List.all_eq_true.1 h.2.1 b hb
 have hi : ∀ b ∈ G.blocks, ∀ x ∈ b.ins, aloneR G x = true := fun b hbm x hx => by
  have h1 := hb b hbm
  unfold blockR at h1
  rw [Bool.and_eq_true] at h1
  exact List.all_eq_true.1 h1.2 x hx
 refine ⟨fun b hbm ht => ?_, fun b hbm x hx _ a ha => ?_, fun b hbm x hx hk => ?_⟩
 ·have h1 := hb b hbm
  unfold blockR at h1
  rw [Bool.and_eq_true] at h1
  have h2 := h1.1
  unfold rendB at h2
  unfold asksT at ht
  simp only [Bool.or_eq_true, beq_iff_eq] at ht
  rcases ht with ht | ht
  ·rw [if_neg (by omega), if_pos ht] at h2
   simp only [Bool.and_eq_true] at h2
   exact inB_iff.1 h2.2.2.1
  ·rw [if_neg (by omega), if_neg (by omega), if_pos ht] at h2
   simp only [Bool.and_eq_true] at h2
   exact inB_iff.1 h2.1
 ·exact inB_iff.1 (List.all_eq_true.1 (aloneR_args (hi b hbm x hx)) a ha)
 ·have h3 := hi b hbm x hx
  refine inB_iff.1 (aloneR_dst h3 ?_)
  unfold staysK at hk
  simp only [Bool.or_eq_false_iff, beq_eq_false_iff_ne] at hk
  unfold aloneR at h3
  simp only [Bool.and_eq_true, decide_eq_true_eq] at h3
  have h4 := h3.1
  have h5 := h3.2.1
  omega
/-- How many arguments there are. -/
def argsN (G : Gr) : Nat := (G.blocks.map fun b => (b.ins.map fun x => x.args.length).sum).sum
theorem sum_le {α : Type} (f : α → Nat) : ∀ {l : List α} {x : α}, x ∈ l → f x ≤ (l.map f).sum
 | y :: l, x, h => by
  rw [List.map_cons, List.sum_cons]
  rcases List.mem_cons.1 h with e | h
  ·subst e; omega
  ·have := sum_le f h; omega
theorem flat_len (out : List Bool) : ∀ (l : List In), (l.flatMap (askI out)).length ≤ (l.map fun x => x.args.length).sum
 | [] => by simp
 | x :: l => by
  have h1 := flat_len out l
  have h2 : (askI out x).length ≤ x.args.length := by
   unfold askI
   by_cases hk : (staysK x.kind || (setsK x.kind && atB out x.dst)) = true
   ·rw [if_pos hk]; exact Nat.le_refl _
   ·rw [if_neg hk]; simp
  rw [List.flatMap_cons, List.length_append, List.map_cons, List.sum_cons]
  omega
theorem take_sum (f : In → Nat) : ∀ (l : List In) (k : Nat), ((l.take k).map f).sum ≤ (l.map f).sum
 | [], k => by simp
 | x :: l, 0 => by simp
 | x :: l, k + 1 => by
  have := take_sum f l k
  rw [List.take_succ_cons, List.map_cons, List.sum_cons, List.map_cons, List.sum_cons]
  omega
theorem block_args {G : Gr} {b : Bl} (hb : b ∈ G.blocks) : (b.ins.map fun x => x.args.length).sum ≤ argsN G := sum_le (fun b : Bl => (b.ins.map fun x => x.args.length).sum) hb
end Go.Proofs.YtajaijilfclhpaaGreatDoor
/- A graph that comes in, with how much it holds. -/
namespace Go.Proofs.YtajaijilfclhpaaGreatDoor
open Go.RowKit Go.ChangeShapes

theorem bulk_one {H : Type} (d : DataW H) : 1 ≤ Rows.uptoBulk d := by
 cases d with
 | lit l => cases l <;> simp [Rows.uptoBulk]
 | nil => simp [Rows.uptoBulk]
 | ptr d => simp [Rows.uptoBulk]
 | slice elems spare => simp [Rows.uptoBulk]
 | agg parts => simp [Rows.uptoBulk]
 | iface t d => simp [Rows.uptoBulk]
 | map entries => simp [Rows.uptoBulk]
 | held h => simp [Rows.uptoBulk]
theorem bulk_part {H : Type} {d : DataW H} : ∀ {l : List (DataW H)}, d ∈ l → Rows.uptoBulk d ≤ Rows.uptoBulkAll l
 | x :: r, h => by
  simp only [Rows.uptoBulkAll]
  rcases List.mem_cons.1 h with e | e
  ·subst e; omega
  ·have := bulk_part e; omega
theorem bulk_len {H : Type} : ∀ (l : List (DataW H)), l.length ≤ Rows.uptoBulkAll l
 | [] => by simp [Rows.uptoBulkAll]
 | x :: r => by have := bulk_one x; have := bulk_len r; simp only [Rows.uptoBulkAll, List.length_cons]; omega
theorem bulk_sum {H α : Type} (f : α → Nat) : ∀ (l : List α) (ds : List (DataW H)), l.length = ds.length → (∀ (i : Nat) (x : α) (d : DataW H), l[i]? = some x → ds[i]? = some d → f x ≤ Rows.uptoBulk d) → (l.map f).sum ≤ Rows.uptoBulkAll ds
 | [], [], _, _ => by simp [Rows.uptoBulkAll]
 | x :: l, d :: ds, hl, h => by
  have h0 := h 0 x d rfl rfl
  have h1 := bulk_sum f l ds (by simpa using hl) fun i y e hy he => h (i + 1) y e (by simpa using hy) (by simpa using he)
  rw [List.map_cons, List.sum_cons]
  simp only [Rows.uptoBulkAll]
  omega
 | [], _ :: _, hl, _ => by simp at hl
 | _ :: _, [], hl, _ => by simp at hl
/-- A row's elements are read each, and hold together no more than the row. -/
theorem row_bulk {H : Type} {enc : TypeId × Value → H} {P : Program} {w : World} {spare : Nat → Bool} {held : Bool} {t e : TypeId} {sz fuel : Nat} {v : Value} {x : DataW H × List MemPlace} {α : Type} {l : List α} {cs : List Value} (f : α → Nat) (ht : P.underlying t = some (.slice e)) (hc : P.cellsOf e = sz) (h : DataW.trod enc P w 0 spare held fuel t [v] = some x) (hr : RowAt w v l.length cs)
  (hk : ∀ (i : Nat) (a : α), l[i]? = some a → ∃ ci : List Value, ci.length = sz ∧ (∀ j u, ci[j]? = some u → cs[i * sz + j]? = some u) ∧ ∀ m y, DataW.trod enc P w 0 spare held m e ci = some y → f a ≤ Rows.uptoBulk y.1) : (l.map f).sum ≤ Rows.uptoBulk x.1 ∧ l.length ≤ Rows.uptoBulk x.1 := by
 obtain ⟨a9, c9, hv, _, hcell⟩ := hr
 rcases DataW.trod_slice ht h with ⟨hnil, _⟩ | ⟨a, len, cap, elems, rest, n, _, hsl, rfl, _, hl, hm, hlen, hel, _, _⟩
 ·rw [hv] at hnil
  have e0 : l.length = 0 := by injection hnil with e1 _; injection e1
  rw [List.eq_nil_of_length_eq_zero e0]
  simp
 ·rw [hv] at hsl
  have e1 : a9 = some a ∧ l.length = len := by injection hsl with e1 _; injection e1 with e2 e3 _; exact ⟨e2, e3⟩
  obtain ⟨rfl, rfl⟩ := e1
  have hB : Rows.uptoBulkAll (elems.map (·.1)) + 1 ≤ Rows.uptoBulk (DataW.slice (elems.map (·.1)) (rest.map (·.1))) := by simp only [Rows.uptoBulk]; omega
  have hlen2 : l.length = (elems.map (·.1)).length := by rw [List.length_map]; omega
  have hs : (l.map f).sum ≤ Rows.uptoBulkAll (elems.map (·.1)) := by
   refine bulk_sum f l _ hlen2 fun i y d hy hd => ?_
   have hi : i < l.length := (List.getElem?_eq_some_iff.1 hy).1
   obtain ⟨ci, k1, k2, k3⟩ := hk i y hy
   have h1 := hel i hi
   have hie : i < elems.length := by rw [List.length_map] at hlen2; omega
   rw [List.getElem?_eq_getElem hie, Option.bind_eq_some_iff] at h1
   obtain ⟨c, h2, h3⟩ := h1
   rw [hc] at h2
   rcases hcell with h0 | ⟨g, o, ha, hg, hcell⟩
   ·omega
   ·cases ha
    have hce : c = ci := by
     unfold World.cells? at h2
     rw [if_pos (Nat.zero_le _)] at h2
     have l1 : c.length = sz := by simpa using mapM_some_length h2
     refine List.ext_getElem? fun j => ?_
     by_cases hj : j < sz
     ·have h9 := mapM_some_get h2 j j (by simp [hj])
      have hu : ci[j]? = some (ci[j]'(by omega)) := List.getElem?_eq_getElem _
      have h8 := hcell (i * sz + j) _ (k2 j _ hu)
      rw [Addr.add_lit, Addr.add_lit, show o + i * sz + j = o + (i * sz + j) by omega, h8] at h9
      rw [hu]
      exact h9.symm
     ·rw [List.getElem?_eq_none (by omega), List.getElem?_eq_none (by omega)]
    subst hce
    rw [List.getElem?_map, List.getElem?_eq_getElem hie] at hd
    cases hd
    exact k3 _ _ h3
  refine ⟨by show _ ≤ Rows.uptoBulk (DataW.slice (elems.map (·.1)) (rest.map (·.1))); omega, ?_⟩
  have h9 := bulk_len (elems.map (·.1))
  show _ ≤ Rows.uptoBulk (DataW.slice (elems.map (·.1)) (rest.map (·.1)))
  omega
/-- A field of a struct. -/
theorem field_bulk {H : Type} {enc : TypeId × Value → H} {P : Program} {w : World} {spare : Nat → Bool} {held : Bool} {t : TypeId} {fs : Array Field} {fuel : Nat} {cs : List Value} {x : DataW H × List MemPlace} (ht : P.underlying t = some (.struct fs)) (h : DataW.trod enc P w 0 spare held fuel t cs = some x)
  {i ty off sz : Nat} (hi : (fs[i]?).map (fun f => (f.type, f.offset)) = some (ty, off)) (hc : P.cellsOf ty = sz) : ∃ m y, DataW.trod enc P w 0 spare held m ty ((cs.drop off).take sz) = some y ∧ Rows.uptoBulk y.1 + 1 ≤ Rows.uptoBulk x.1 := by
 obtain ⟨xs, m, _, rfl, _, hl, hf⟩ := DataW.trod_struct ht h
 obtain ⟨f, hfi, he⟩ := Option.map_eq_some_iff.1 hi
 cases he
 have h1 := hf i f hfi
 have hil : i < xs.length := by rw [hl]; exact (Array.getElem?_eq_some_iff.1 hfi).1
 rw [hc, List.getElem?_eq_getElem hil] at h1
 refine ⟨m, _, h1, ?_⟩
 have h9 := bulk_part (List.mem_map.2 ⟨xs[i], List.getElem_mem hil, rfl⟩ : xs[i].1 ∈ xs.map (·.1))
 simp only [Rows.uptoBulk]
 omega
theorem ints_bulk {H : Type} {enc : TypeId × Value → H} {w : World} {spare : Nat → Bool} {held : Bool} {m : Nat} {v : Value} {y : DataW H × List MemPlace} {l : List Int} (h : DataW.trod enc Tryz.prog w 0 spare held m 22 [v] = some y) (hi : IntsAt w v l) : l.length ≤ Rows.uptoBulk y.1 :=
 (row_bulk (sz := 1) (fun _ : Int => 0) slI (by kernel_rfl) h hi fun i a ha => ⟨[intV a], rfl, fun j u hj => by
  rcases j with _ | j
  ·cases hj
   rw [Nat.mul_one, Nat.add_zero, List.getElem?_map, ha]; rfl
  ·simp at hj, fun _ _ _ => Nat.zero_le _⟩).2
theorem in_bulk {H : Type} {enc : TypeId × Value → H} {w : World} {spare : Nat → Bool} {held : Bool} {m : Nat} {x : In} {av : Value} {y : DataW H × List MemPlace} (h : DataW.trod enc Tryz.prog w 0 spare held m 55 (inCells x av) = some y) (hx : IntsAt w av x.args) : x.args.length ≤ Rows.uptoBulk y.1 := by
 obtain ⟨_, y3, q3, b3⟩ := field_bulk Tryz.underlying55 h (i := 3) (ty := 22) (off := 3) (sz := 1) rfl (by kernel_rfl)
 have := ints_bulk (v := av) q3 hx
 omega
def insN (l : List In) : Nat := (l.map fun x => x.args.length).sum
theorem ins_bulk {H : Type} {enc : TypeId × Value → H} {w : World} {spare : Nat → Bool} {held : Bool} {m : Nat} {v : Value} {y : DataW H × List MemPlace} {l : List In} (h : DataW.trod enc Tryz.prog w 0 spare held m 56 [v] = some y) (hi : InsAt w v l) : insN l ≤ Rows.uptoBulk y.1 ∧ l.length ≤ Rows.uptoBulk y.1 := by
 obtain ⟨avs, hl, hr, hk⟩ := hi.row
 refine row_bulk (sz := 6) (fun x : In => x.args.length) slN (by kernel_rfl) h hr fun i a ha => ?_
 have hi2 : i < avs.length := by rw [hl]; exact (List.getElem?_eq_some_iff.1 ha).1
 exact ⟨inCells a avs[i], rfl, insCells_get ha (List.getElem?_eq_getElem hi2), fun m y hy => in_bulk hy (hk i a _ ha (List.getElem?_eq_getElem hi2))⟩
theorem bl_bulk {H : Type} {enc : TypeId × Value → H} {w : World} {spare : Nat → Bool} {held : Bool} {m : Nat} {x : Bl} {iv : Value} {y : DataW H × List MemPlace} (h : DataW.trod enc Tryz.prog w 0 spare held m 63 (blCells x iv) = some y) (hx : InsAt w iv x.ins) : insN x.ins ≤ Rows.uptoBulk y.1 := by
 obtain ⟨_, y3, q3, b3⟩ := field_bulk Tryz.underlying63 h (i := 0) (ty := 56) (off := 0) (sz := 1) rfl (by kernel_rfl)
 have := (ins_bulk (v := iv) q3 hx).1
 omega
theorem bls_bulk {H : Type} {enc : TypeId × Value → H} {w : World} {spare : Nat → Bool} {held : Bool} {m : Nat} {v : Value} {y : DataW H × List MemPlace} {l : List Bl} (h : DataW.trod enc Tryz.prog w 0 spare held m 26 [v] = some y) (hi : BlsAt w v l) : (l.map fun b => insN b.ins).sum ≤ Rows.uptoBulk y.1 ∧ l.length ≤ Rows.uptoBulk y.1 := by
 obtain ⟨avs, hl, hr, hk⟩ := hi.row
 refine row_bulk (sz := 6) (fun x : Bl => insN x.ins) slB (by kernel_rfl) h hr fun i a ha => ?_
 have hi2 : i < avs.length := by rw [hl]; exact (List.getElem?_eq_some_iff.1 ha).1
 exact ⟨blCells a avs[i], rfl, blsCells_get ha (List.getElem?_eq_getElem hi2), fun m y hy => bl_bulk hy (hk i a _ ha (List.getElem?_eq_getElem hi2))⟩
/-- A graph holds no more than what came in. -/
theorem gr_bulk {H : Type} {enc : TypeId × Value → H} {w : World} {spare : Nat → Bool} {held : Bool} {m : Nat} {G : Gr} {pv vv av bv : Value} {y : DataW H × List MemPlace} (h : DataW.trod enc Tryz.prog w 0 spare held m 28 [.string G.name, pv, bytV G.result, vv, av, bv] = some y) (hG : GrAt w pv vv av bv G) : G.params.length ≤ Rows.uptoBulk y.1 ∧ G.arrs.length ≤ Rows.uptoBulk y.1 ∧ argsN G ≤ Rows.uptoBulk y.1 ∧ G.blocks.length ≤ Rows.uptoBulk y.1 := by
 obtain ⟨_, y1, q1, b1⟩ := field_bulk Tryz.underlying28 h (i := 1) (ty := 22) (off := 1) (sz := 1) rfl (by kernel_rfl)
 obtain ⟨_, y4, q4, b4⟩ := field_bulk Tryz.underlying28 h (i := 4) (ty := 25) (off := 4) (sz := 1) rfl (by kernel_rfl)
 obtain ⟨_, y5, q5, b5⟩ := field_bulk Tryz.underlying28 h (i := 5) (ty := 26) (off := 5) (sz := 1) rfl (by kernel_rfl)
 have k1 := ints_bulk (v := pv) q1 hG.ps
 have k5 := bls_bulk (v := bv) q5 hG.bs
 have k4 := (row_bulk (sz := 2) (v := av) (fun _ : Int × Int => 0) slA (by kernel_rfl) q4 hG.ars fun i a ha => ⟨[bytV a.1, intV a.2], rfl, fun j u hj => by
  obtain ⟨z0, z1⟩ := arrCells_get ha
  rcases j with _ | _ | j
  ·cases hj; exact z0
  ·cases hj; exact z1
  ·simp at hj, fun _ _ _ => Nat.zero_le _⟩).2
 exact ⟨by omega, by omega, by have := k5.1; unfold argsN; show ((G.blocks.map fun b => insN b.ins).sum) ≤ _; omega, by omega⟩
theorem args_le {G : Gr} {b : Bl} {x : In} (hb : b ∈ G.blocks) (hx : x ∈ b.ins) : x.args.length ≤ argsN G :=
 Nat.le_trans (sum_le (fun x : In => x.args.length) hx) (sum_le (fun b : Bl => (b.ins.map fun x => x.args.length).sum) hb)
end Go.Proofs.YtajaijilfclhpaaGreatDoor
