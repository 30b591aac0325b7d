/- Is a graph right? -/
import Derived.Test.YtajaijilfclhpaaGreatDoorGRight2
import Derived.Test.YtajaijilfclhpaaGreatDoorGOpUM
namespace Go.Proofs.YtajaijilfclhpaaGreatDoor
open Go.RowKit

def graphB (p : List Gr) (G : Gr) : Bool := sizesB G && (typesB G && (paramsB G && ((G.blocks.all fun b => endB G b.tm) && ((G.blocks.all fun b => b.ins.all (standsB p G)) && phisB G))))
theorem sizes_vars {G : Gr} (h : sizesB G = true) : G.vars.length ≤ 1048576 := by
 unfold sizesB at h
 simp only [Bool.and_eq_true, decide_eq_true_eq] at h
 omega
theorem stands_dst {p : List Gr} {G : Gr} (h : (G.blocks.all fun b => b.ins.all (standsB p G)) = true) : ∀ b ∈ G.blocks, ∀ x ∈ b.ins, x.kind = 1 → inB x.dst G.vars.length = true := by
 intro b hb x hx hk
 rw [List.all_eq_true] at h
 have h2 := h b hb
 rw [List.all_eq_true] at h2
 have h3 := h2 x hx
 unfold standsB partsB at h3
 rw [hk] at h3
 simp only [Bool.and_eq_true] at h3
 have h4 : hasB ⟨false, true, false, false, 0, 9223372036854775807⟩ G.vars.length x = true := h3.1.2
 unfold hasB at h4
 simp only [Bool.and_eq_true] at h4
 simpa using h4.1.2
set_option maxRecDepth 100000 in
set_option maxHeartbeats 4000000 in
theorem gright_any (p : List Gr) (ppv : Value) (G : Gr) (pv vv av bv : Value) (w : World) (hp : GrsAt w ppv p) (h : GrAt w pv vv av bv G) (hP : PartsAt w) (hn : G.blocks.length ≤ 100000) :
  Calls Tryz.prog 94 #[ppv, .agg #[.string G.name, pv, .int .u8 G.result, vv, av, bv]] w fun e w' => e = .returned (.bool (graphB p G)) ∧ Below w.heap.size w w' := by
 have HC1 : Hid (∀ W, Below w.heap.size w W → Calls Tryz.prog 150 #[.agg #[.string G.name, pv, .int .u8 G.result, vv, av, bv]] W fun e w' => e = .returned (.bool (sizesB G)) ∧ Below W.heap.size W w') := fun W hb => sizes_any G pv vv av bv W (h.below hb)
 have HC2 : Hid (∀ W, Below w.heap.size w W → Calls Tryz.prog 151 #[.agg #[.string G.name, pv, .int .u8 G.result, vv, av, bv]] W fun e w' => e = .returned (.bool (typesB G)) ∧ Below W.heap.size W w') := fun W hb => types_any G pv vv av bv W (h.below hb)
 have HC3 : Hid (∀ W, Below w.heap.size w W → Calls Tryz.prog 152 #[.agg #[.string G.name, pv, .int .u8 G.result, vv, av, bv]] W fun e w' => e = .returned (.bool (paramsB G)) ∧ Below W.heap.size W w') := fun W hb => params_any G pv vv av bv W (h.below hb)
 have HC4 : Hid (∀ W, Below w.heap.size w W → Calls Tryz.prog 153 #[.agg #[.string G.name, pv, .int .u8 G.result, vv, av, bv]] W fun e w' => e = .returned (.bool (G.blocks.all fun b => endB G b.tm)) ∧ Below W.heap.size W w') := fun W hb => ends_any G pv vv av bv W (h.below hb)
 have HC5 : Hid (∀ W, Below w.heap.size w W → Calls Tryz.prog 154 #[ppv, .agg #[.string G.name, pv, .int .u8 G.result, vv, av, bv]] W fun e w' => e = .returned (.bool (G.blocks.all fun b => b.ins.all (standsB p G))) ∧ Below W.heap.size W w') := fun W hb => ins_any p ppv G pv vv av bv W (hp.below hb) (h.below hb) (hP.below hb)
 have HC6 : Hid (∀ W, Below w.heap.size w W → sizesB G = true → (G.blocks.all fun b => b.ins.all (standsB p G)) = true → Calls Tryz.prog 155 #[.agg #[.string G.name, pv, .int .u8 G.result, vv, av, bv]] W fun e w' => e = .returned (.bool (phisB G)) ∧ Below W.heap.size W w') := fun W hb h1 h5 => phis_any G pv vv av bv W (h.below hb) hn (sizes_vars h1) (stands_dst h5)
 obtain ⟨pa, pc, va, vc, aa, ac, ba, bc, rfl, rfl, rfl, rfl, _, _, _, _⟩ := h.openF
 obtain ⟨qa, qc, rfl, _⟩ := hp.form
 unfold graphB
 clear h hp hP hn
 generalize (sizesB G) = s1 at *
 generalize (typesB G) = s2 at *
 generalize (paramsB G) = s3 at *
 generalize (G.blocks.all fun b => endB G b.tm) = s4 at *
 generalize (G.blocks.all fun b => b.ins.all (standsB p G)) = s5 at *
 generalize (phisB G) = s6 at *
 generalize G.blocks.length = n at *
 generalize G.name = nm at *
 generalize G.params.length = pl at *
 generalize G.vars.length = m at *
 generalize G.arrs.length = al at *
 generalize G.result = r at *
 generalize p.length = pn at *
 have H0 : Hid (Below w.heap.size w (w.alloc (.cells #[.string nm, .slice pa pl pc, .int .u8 r, .slice va m vc, .slice aa al ac, .slice ba n bc] 28)) ∧ Box (w.alloc (.cells #[.string nm, .slice pa pl pc, .int .u8 r, .slice va m vc, .slice aa al ac, .slice ba n bc] 28)) w.heap.size [.string nm, .slice pa pl pc, .int .u8 r, .slice va m vc, .slice aa al ac, .slice ba n bc]) := ⟨below_alloc (Below.refl _ _) _, Box.new w [.string nm, .slice pa pl pc, .int .u8 r, .slice va m vc, .slice aa al ac, .slice ba n bc] 28⟩
 cases s1 with
 | false =>
  go_enter Tryz.func94, Tryz.ntmps94
  go_wp2_with (first
   | (go_at_call 150; go_loud (refine Calls.mono (by exact HC1.out _ H0.out.1) ?_; rintro e w1 ⟨rfl, hb⟩; have H1 : Hid (Below w.heap.size w w1 ∧ Box w1 w.heap.size [.string nm, .slice pa pl pc, .int .u8 r, .slice va m vc, .slice aa al ac, .slice ba n bc]) := ⟨below_trans H0.out.1 hb, H0.out.2.below hb⟩; obtain ⟨f0, f1, f2, f3, f4, f5⟩ := box6 H1.out.2; have hwl := H1.out.2.lt; clear hb)))
  go_ret
  exact ⟨ret_bool (by simp), H1.out.1⟩
 | true =>
  cases s2 with
  | false =>
   go_enter Tryz.func94, Tryz.ntmps94
   go_wp2_with (first
    | (go_at_call 150; go_loud (refine Calls.mono (by exact HC1.out _ H0.out.1) ?_; rintro e w1 ⟨rfl, hb⟩; have H1 : Hid (Below w.heap.size w w1 ∧ Box w1 w.heap.size [.string nm, .slice pa pl pc, .int .u8 r, .slice va m vc, .slice aa al ac, .slice ba n bc]) := ⟨below_trans H0.out.1 hb, H0.out.2.below hb⟩; obtain ⟨f0, f1, f2, f3, f4, f5⟩ := box6 H1.out.2; have hwl := H1.out.2.lt; clear hb))
    | (go_at_call 151; go_loud (refine Calls.mono (by exact HC2.out _ H1.out.1) ?_; rintro e w2 ⟨rfl, hb⟩; have H2 : Hid (Below w.heap.size w w2 ∧ Box w2 w.heap.size [.string nm, .slice pa pl pc, .int .u8 r, .slice va m vc, .slice aa al ac, .slice ba n bc]) := ⟨below_trans H1.out.1 hb, H1.out.2.below hb⟩; obtain ⟨f0, f1, f2, f3, f4, f5⟩ := box6 H2.out.2; have hwl := H2.out.2.lt; clear hb)))
   go_ret
   exact ⟨ret_bool (by simp), H2.out.1⟩
  | true =>
   cases s3 with
   | false =>
    go_enter Tryz.func94, Tryz.ntmps94
    go_wp2_with (first
     | (go_at_call 150; go_loud (refine Calls.mono (by exact HC1.out _ H0.out.1) ?_; rintro e w1 ⟨rfl, hb⟩; have H1 : Hid (Below w.heap.size w w1 ∧ Box w1 w.heap.size [.string nm, .slice pa pl pc, .int .u8 r, .slice va m vc, .slice aa al ac, .slice ba n bc]) := ⟨below_trans H0.out.1 hb, H0.out.2.below hb⟩; obtain ⟨f0, f1, f2, f3, f4, f5⟩ := box6 H1.out.2; have hwl := H1.out.2.lt; clear hb))
     | (go_at_call 151; go_loud (refine Calls.mono (by exact HC2.out _ H1.out.1) ?_; rintro e w2 ⟨rfl, hb⟩; have H2 : Hid (Below w.heap.size w w2 ∧ Box w2 w.heap.size [.string nm, .slice pa pl pc, .int .u8 r, .slice va m vc, .slice aa al ac, .slice ba n bc]) := ⟨below_trans H1.out.1 hb, H1.out.2.below hb⟩; obtain ⟨f0, f1, f2, f3, f4, f5⟩ := box6 H2.out.2; have hwl := H2.out.2.lt; clear hb))
     | (go_at_call 152; go_loud (refine Calls.mono (by exact HC3.out _ H2.out.1) ?_; rintro e w3 ⟨rfl, hb⟩; have H3 : Hid (Below w.heap.size w w3 ∧ Box w3 w.heap.size [.string nm, .slice pa pl pc, .int .u8 r, .slice va m vc, .slice aa al ac, .slice ba n bc]) := ⟨below_trans H2.out.1 hb, H2.out.2.below hb⟩; obtain ⟨f0, f1, f2, f3, f4, f5⟩ := box6 H3.out.2; have hwl := H3.out.2.lt; clear hb)))
    go_ret
    exact ⟨ret_bool (by simp), H3.out.1⟩
   | true =>
    cases s4 with
    | false =>
     go_enter Tryz.func94, Tryz.ntmps94
     go_wp2_with (first
      | (go_at_call 150; go_loud (refine Calls.mono (by exact HC1.out _ H0.out.1) ?_; rintro e w1 ⟨rfl, hb⟩; have H1 : Hid (Below w.heap.size w w1 ∧ Box w1 w.heap.size [.string nm, .slice pa pl pc, .int .u8 r, .slice va m vc, .slice aa al ac, .slice ba n bc]) := ⟨below_trans H0.out.1 hb, H0.out.2.below hb⟩; obtain ⟨f0, f1, f2, f3, f4, f5⟩ := box6 H1.out.2; have hwl := H1.out.2.lt; clear hb))
      | (go_at_call 151; go_loud (refine Calls.mono (by exact HC2.out _ H1.out.1) ?_; rintro e w2 ⟨rfl, hb⟩; have H2 : Hid (Below w.heap.size w w2 ∧ Box w2 w.heap.size [.string nm, .slice pa pl pc, .int .u8 r, .slice va m vc, .slice aa al ac, .slice ba n bc]) := ⟨below_trans H1.out.1 hb, H1.out.2.below hb⟩; obtain ⟨f0, f1, f2, f3, f4, f5⟩ := box6 H2.out.2; have hwl := H2.out.2.lt; clear hb))
      | (go_at_call 152; go_loud (refine Calls.mono (by exact HC3.out _ H2.out.1) ?_; rintro e w3 ⟨rfl, hb⟩; have H3 : Hid (Below w.heap.size w w3 ∧ Box w3 w.heap.size [.string nm, .slice pa pl pc, .int .u8 r, .slice va m vc, .slice aa al ac, .slice ba n bc]) := ⟨below_trans H2.out.1 hb, H2.out.2.below hb⟩; obtain ⟨f0, f1, f2, f3, f4, f5⟩ := box6 H3.out.2; have hwl := H3.out.2.lt; clear hb))
      | (go_at_call 153; go_loud (refine Calls.mono (by exact HC4.out _ H3.out.1) ?_; rintro e w4 ⟨rfl, hb⟩; have H4 : Hid (Below w.heap.size w w4 ∧ Box w4 w.heap.size [.string nm, .slice pa pl pc, .int .u8 r, .slice va m vc, .slice aa al ac, .slice ba n bc]) := ⟨below_trans H3.out.1 hb, H3.out.2.below hb⟩; obtain ⟨f0, f1, f2, f3, f4, f5⟩ := box6 H4.out.2; have hwl := H4.out.2.lt; clear hb)))
     go_ret
     exact ⟨ret_bool (by simp), H4.out.1⟩
    | true =>
     cases s5 with
     | false =>
      go_enter Tryz.func94, Tryz.ntmps94
      go_wp2_with (first
       | (go_at_call 150; go_loud (refine Calls.mono (by exact HC1.out _ H0.out.1) ?_; rintro e w1 ⟨rfl, hb⟩; have H1 : Hid (Below w.heap.size w w1 ∧ Box w1 w.heap.size [.string nm, .slice pa pl pc, .int .u8 r, .slice va m vc, .slice aa al ac, .slice ba n bc]) := ⟨below_trans H0.out.1 hb, H0.out.2.below hb⟩; obtain ⟨f0, f1, f2, f3, f4, f5⟩ := box6 H1.out.2; have hwl := H1.out.2.lt; clear hb))
       | (go_at_call 151; go_loud (refine Calls.mono (by exact HC2.out _ H1.out.1) ?_; rintro e w2 ⟨rfl, hb⟩; have H2 : Hid (Below w.heap.size w w2 ∧ Box w2 w.heap.size [.string nm, .slice pa pl pc, .int .u8 r, .slice va m vc, .slice aa al ac, .slice ba n bc]) := ⟨below_trans H1.out.1 hb, H1.out.2.below hb⟩; obtain ⟨f0, f1, f2, f3, f4, f5⟩ := box6 H2.out.2; have hwl := H2.out.2.lt; clear hb))
       | (go_at_call 152; go_loud (refine Calls.mono (by exact HC3.out _ H2.out.1) ?_; rintro e w3 ⟨rfl, hb⟩; have H3 : Hid (Below w.heap.size w w3 ∧ Box w3 w.heap.size [.string nm, .slice pa pl pc, .int .u8 r, .slice va m vc, .slice aa al ac, .slice ba n bc]) := ⟨below_trans H2.out.1 hb, H2.out.2.below hb⟩; obtain ⟨f0, f1, f2, f3, f4, f5⟩ := box6 H3.out.2; have hwl := H3.out.2.lt; clear hb))
       | (go_at_call 153; go_loud (refine Calls.mono (by exact HC4.out _ H3.out.1) ?_; rintro e w4 ⟨rfl, hb⟩; have H4 : Hid (Below w.heap.size w w4 ∧ Box w4 w.heap.size [.string nm, .slice pa pl pc, .int .u8 r, .slice va m vc, .slice aa al ac, .slice ba n bc]) := ⟨below_trans H3.out.1 hb, H3.out.2.below hb⟩; obtain ⟨f0, f1, f2, f3, f4, f5⟩ := box6 H4.out.2; have hwl := H4.out.2.lt; clear hb))
       | (go_at_call 154; go_loud (refine Calls.mono (by exact HC5.out _ H4.out.1) ?_; rintro e w5 ⟨rfl, hb⟩; have H5 : Hid (Below w.heap.size w w5 ∧ Box w5 w.heap.size [.string nm, .slice pa pl pc, .int .u8 r, .slice va m vc, .slice aa al ac, .slice ba n bc]) := ⟨below_trans H4.out.1 hb, H4.out.2.below hb⟩; obtain ⟨f0, f1, f2, f3, f4, f5⟩ := box6 H5.out.2; have hwl := H5.out.2.lt; clear hb)))
      go_ret
      exact ⟨ret_bool (by simp), H5.out.1⟩
     | true =>
      cases s6 with
      | false =>
       go_enter Tryz.func94, Tryz.ntmps94
       go_wp2_with (first
        | (go_at_call 150; go_loud (refine Calls.mono (by exact HC1.out _ H0.out.1) ?_; rintro e w1 ⟨rfl, hb⟩; have H1 : Hid (Below w.heap.size w w1 ∧ Box w1 w.heap.size [.string nm, .slice pa pl pc, .int .u8 r, .slice va m vc, .slice aa al ac, .slice ba n bc]) := ⟨below_trans H0.out.1 hb, H0.out.2.below hb⟩; obtain ⟨f0, f1, f2, f3, f4, f5⟩ := box6 H1.out.2; have hwl := H1.out.2.lt; clear hb))
        | (go_at_call 151; go_loud (refine Calls.mono (by exact HC2.out _ H1.out.1) ?_; rintro e w2 ⟨rfl, hb⟩; have H2 : Hid (Below w.heap.size w w2 ∧ Box w2 w.heap.size [.string nm, .slice pa pl pc, .int .u8 r, .slice va m vc, .slice aa al ac, .slice ba n bc]) := ⟨below_trans H1.out.1 hb, H1.out.2.below hb⟩; obtain ⟨f0, f1, f2, f3, f4, f5⟩ := box6 H2.out.2; have hwl := H2.out.2.lt; clear hb))
        | (go_at_call 152; go_loud (refine Calls.mono (by exact HC3.out _ H2.out.1) ?_; rintro e w3 ⟨rfl, hb⟩; have H3 : Hid (Below w.heap.size w w3 ∧ Box w3 w.heap.size [.string nm, .slice pa pl pc, .int .u8 r, .slice va m vc, .slice aa al ac, .slice ba n bc]) := ⟨below_trans H2.out.1 hb, H2.out.2.below hb⟩; obtain ⟨f0, f1, f2, f3, f4, f5⟩ := box6 H3.out.2; have hwl := H3.out.2.lt; clear hb))
        | (go_at_call 153; go_loud (refine Calls.mono (by exact HC4.out _ H3.out.1) ?_; rintro e w4 ⟨rfl, hb⟩; have H4 : Hid (Below w.heap.size w w4 ∧ Box w4 w.heap.size [.string nm, .slice pa pl pc, .int .u8 r, .slice va m vc, .slice aa al ac, .slice ba n bc]) := ⟨below_trans H3.out.1 hb, H3.out.2.below hb⟩; obtain ⟨f0, f1, f2, f3, f4, f5⟩ := box6 H4.out.2; have hwl := H4.out.2.lt; clear hb))
        | (go_at_call 154; go_loud (refine Calls.mono (by exact HC5.out _ H4.out.1) ?_; rintro e w5 ⟨rfl, hb⟩; have H5 : Hid (Below w.heap.size w w5 ∧ Box w5 w.heap.size [.string nm, .slice pa pl pc, .int .u8 r, .slice va m vc, .slice aa al ac, .slice ba n bc]) := ⟨below_trans H4.out.1 hb, H4.out.2.below hb⟩; obtain ⟨f0, f1, f2, f3, f4, f5⟩ := box6 H5.out.2; have hwl := H5.out.2.lt; clear hb))
        | (go_at_call 155; go_loud (refine Calls.mono (by exact HC6.out _ H5.out.1 (by trivial) (by trivial)) ?_; rintro e w6 ⟨rfl, hb⟩; have H6 : Hid (Below w.heap.size w w6 ∧ Box w6 w.heap.size [.string nm, .slice pa pl pc, .int .u8 r, .slice va m vc, .slice aa al ac, .slice ba n bc]) := ⟨below_trans H5.out.1 hb, H5.out.2.below hb⟩; obtain ⟨f0, f1, f2, f3, f4, f5⟩ := box6 H6.out.2; have hwl := H6.out.2.lt; clear hb)))
       go_ret
       exact ⟨ret_bool (by simp), H6.out.1⟩
      | true =>
       go_enter Tryz.func94, Tryz.ntmps94
       go_wp2_with (first
        | (go_at_call 150; go_loud (refine Calls.mono (by exact HC1.out _ H0.out.1) ?_; rintro e w1 ⟨rfl, hb⟩; have H1 : Hid (Below w.heap.size w w1 ∧ Box w1 w.heap.size [.string nm, .slice pa pl pc, .int .u8 r, .slice va m vc, .slice aa al ac, .slice ba n bc]) := ⟨below_trans H0.out.1 hb, H0.out.2.below hb⟩; obtain ⟨f0, f1, f2, f3, f4, f5⟩ := box6 H1.out.2; have hwl := H1.out.2.lt; clear hb))
        | (go_at_call 151; go_loud (refine Calls.mono (by exact HC2.out _ H1.out.1) ?_; rintro e w2 ⟨rfl, hb⟩; have H2 : Hid (Below w.heap.size w w2 ∧ Box w2 w.heap.size [.string nm, .slice pa pl pc, .int .u8 r, .slice va m vc, .slice aa al ac, .slice ba n bc]) := ⟨below_trans H1.out.1 hb, H1.out.2.below hb⟩; obtain ⟨f0, f1, f2, f3, f4, f5⟩ := box6 H2.out.2; have hwl := H2.out.2.lt; clear hb))
        | (go_at_call 152; go_loud (refine Calls.mono (by exact HC3.out _ H2.out.1) ?_; rintro e w3 ⟨rfl, hb⟩; have H3 : Hid (Below w.heap.size w w3 ∧ Box w3 w.heap.size [.string nm, .slice pa pl pc, .int .u8 r, .slice va m vc, .slice aa al ac, .slice ba n bc]) := ⟨below_trans H2.out.1 hb, H2.out.2.below hb⟩; obtain ⟨f0, f1, f2, f3, f4, f5⟩ := box6 H3.out.2; have hwl := H3.out.2.lt; clear hb))
        | (go_at_call 153; go_loud (refine Calls.mono (by exact HC4.out _ H3.out.1) ?_; rintro e w4 ⟨rfl, hb⟩; have H4 : Hid (Below w.heap.size w w4 ∧ Box w4 w.heap.size [.string nm, .slice pa pl pc, .int .u8 r, .slice va m vc, .slice aa al ac, .slice ba n bc]) := ⟨below_trans H3.out.1 hb, H3.out.2.below hb⟩; obtain ⟨f0, f1, f2, f3, f4, f5⟩ := box6 H4.out.2; have hwl := H4.out.2.lt; clear hb))
        | (go_at_call 154; go_loud (refine Calls.mono (by exact HC5.out _ H4.out.1) ?_; rintro e w5 ⟨rfl, hb⟩; have H5 : Hid (Below w.heap.size w w5 ∧ Box w5 w.heap.size [.string nm, .slice pa pl pc, .int .u8 r, .slice va m vc, .slice aa al ac, .slice ba n bc]) := ⟨below_trans H4.out.1 hb, H4.out.2.below hb⟩; obtain ⟨f0, f1, f2, f3, f4, f5⟩ := box6 H5.out.2; have hwl := H5.out.2.lt; clear hb))
        | (go_at_call 155; go_loud (refine Calls.mono (by exact HC6.out _ H5.out.1 (by trivial) (by trivial)) ?_; rintro e w6 ⟨rfl, hb⟩; have H6 : Hid (Below w.heap.size w w6 ∧ Box w6 w.heap.size [.string nm, .slice pa pl pc, .int .u8 r, .slice va m vc, .slice aa al ac, .slice ba n bc]) := ⟨below_trans H5.out.1 hb, H5.out.2.below hb⟩; obtain ⟨f0, f1, f2, f3, f4, f5⟩ := box6 H6.out.2; have hwl := H6.out.2.lt; clear hb)))
       go_ret
       exact ⟨ret_bool (by simp), H6.out.1⟩
end Go.Proofs.YtajaijilfclhpaaGreatDoor
/- Check finds the first graph that is not right. -/
namespace Go.Proofs.YtajaijilfclhpaaGreatDoor
open Go.RowKit

def checkF (p : List Gr) : List Gr → Nat → Int × Int
 | [], _ => (0, 0)
 | G :: l, i => if graphB p G = true then checkF p l (i + 1) else (4, (i : Int))
def checkT (p : List Gr) : Int × Int := if 64 < p.length then (3, 0) else checkF p p 0
theorem checkF_drop {p l : List Gr} {i : Nat} (h : i < l.length) : checkF p (l.drop i) i = if graphB p (l.getD i default) = true then checkF p (l.drop (i + 1)) (i + 1) else (4, (i : Int)) := by
 have e : l.getD i default = l[i] := by simp [List.getD, List.getElem?_eq_getElem h]
 rw [e, List.drop_eq_getElem_cons h]
 rfl
theorem ret_errs {a b c d : Int} (h : (a, b) = (c, d)) : Ending.returned (.tuple #[.int .i64 a, .int .i64 b]) = .returned (.tuple #[.int .i64 c, .int .i64 d]) := by cases h; rfl
set_option maxRecDepth 100000 in
set_option maxHeartbeats 4000000 in
theorem check_any (p : List Gr) (ppv : Value) (w : World) (hp : GrsAt w ppv p) (hP : PartsAt w) (hn : p.length ≤ 64 → ∀ G ∈ p, G.blocks.length ≤ 100000) :
  Calls Tryz.prog 39 #[ppv] w fun e w' => e = .returned (.tuple #[.int .i64 (checkT p).1, .int .i64 (checkT p).2]) ∧ Below w.heap.size w w' := by
 obtain ⟨qa, qc, rfl, hql⟩ := hp.form
 have HC : Hid (∀ i, i < p.length → p.length ≤ 64 → ∀ pv vv av bv W, Below w.heap.size w W → GrAt w pv vv av bv (p.getD i default) → Calls Tryz.prog 94 #[.slice qa p.length qc, .agg #[.string (p.getD i default).name, pv, .int .u8 (p.getD i default).result, vv, av, bv]] W fun e w' => e = .returned (.bool (graphB p (p.getD i default))) ∧ Below W.heap.size W w') := fun i hi h64 pv vv av bv W hb h => gright_any p _ _ pv vv av bv W (hp.below hb) (h.below hb) (hP.below hb) (hn h64 _ (by rw [List.getD, List.getElem?_eq_getElem hi]; exact List.getElem_mem hi))
 have HG : Hid (∀ i, i < p.length → _) := fun i hi => hp.get (i := i) hi
 have HDR : Hid (∀ i, i < p.length → _) := fun i hi => checkF_drop (p := p) (l := p) (i := i) hi
 have HZ : Hid (checkF p (p.drop p.length) p.length = (0, 0)) := by show _ = _; rw [List.drop_length]; rfl
 obtain ⟨R, hR⟩ : ∃ R, R = checkT p := ⟨_, rfl⟩
 rw [← hR]
 clear hp hP hn
 by_cases h64 : 64 < p.length
 ·have HR : Hid ((3, 0) = R) := by show _ = _; rw [hR, checkT, if_pos h64]
  have h64' : (64 : Int) < p.length := by omega
  clear hR HC HG HDR HZ
  go_enter Tryz.func39, Tryz.ntmps39
  go_wp2
  go_ret2
  exact ⟨ret_errs HR.out, Below.refl _ _⟩
 ·have HR : Hid (checkF p (p.drop 0) 0 = R) := by show _ = _; rw [hR, checkT, if_neg h64]; rfl
  have hle : (p.length : Int) ≤ 64 := by omega
  have HLE : Hid (p.length ≤ 64) := by show p.length ≤ 64; omega
  clear hR
  obtain ⟨n, hnl⟩ : ∃ n, n = p.length := ⟨_, rfl⟩
  rw [← hnl] at HC HG HDR HZ HLE hle ⊢
  clear hnl h64 hql
  go_enter Tryz.func39, Tryz.ntmps39
  go_wp2
  go_loopw [11] (fun vi wr => ∃ i : Nat, vi = .int .i64 i ∧ i ≤ n ∧ Hid (checkF p (p.drop i) i = R ∧ Below w.heap.size w wr)) (fun vi _ => n - (intOf vi).toNat)
  case atStart => exact ⟨0, rfl, by omega, HR.out, Below.refl _ _⟩
  case round =>
   obtain ⟨i, rfl, hi, hr⟩ := hrel
   clear HR
   by_cases hin : i < n
   ·obtain ⟨g, o, pv, vv, av, bv, rfl, hg, c0, c1, c2, c3, c4, c5, hG⟩ := HG.out i hin
    have hin' : (i : Int) < n := by omega
    have hcl : ∀ j, wr.cell? ⟨g, j, none⟩ = w.cell? ⟨g, j, none⟩ := fun j => hr.out.2.cell (p := ⟨g, j, none⟩) hg
    rw [← hcl] at c0 c1 c2 c3 c4 c5
    have HD := HDR.out i hin
    rw [hr.out.1] at HD
    have HCI := fun W hb => HC.out i hin HLE.out pv vv av bv W hb hG
    obtain ⟨pa, pc, va, vc, aa, ac, ba, bc, rfl, rfl, rfl, rfl, _, _, _, _⟩ := hG.openF
    clear hG hcl HG HDR HC HZ
    generalize graphB p (p.getD i default) = gb at *
    generalize (p.getD i default).name = nm at *
    generalize (p.getD i default).result = r at *
    generalize (p.getD i default).params.length = pl at *
    generalize (p.getD i default).vars.length = m at *
    generalize (p.getD i default).arrs.length = al at *
    generalize (p.getD i default).blocks.length = bl at *
    have HB1 : Hid (Below w.heap.size w (wr.alloc (.cells #[.string nm, .slice pa pl pc, .int .u8 r, .slice va m vc, .slice aa al ac, .slice ba bl bc] 28))) := below_alloc hr.out.2 _
    have HCJ : Hid _ := HCI
    have HDD : Hid _ := HD
    clear HCI HD
    cases gb with
    | true =>
     go_wp2_with (go_at_call 94; go_loud (refine Calls.mono (by exact HCJ.out _ HB1.out) ?_; rintro e w1 ⟨rfl, hb1⟩; have HW1 : Hid _ := hb1; clear hb1))
     go_roundw
     case rel => exact ⟨i + 1, by first | rfl | (congr 1; omega), by omega, by have h9 := HDD.out; simpa using h9.symm, below_trans HB1.out HW1.out⟩
     case measure => simp [intOf]; omega
    | false =>
     go_wp2_with (go_at_call 94; go_loud (refine Calls.mono (by exact HCJ.out _ HB1.out) ?_; rintro e w1 ⟨rfl, hb1⟩; have HW1 : Hid _ := hb1; clear hb1))
     go_ret2
     have h8 : R = (4, (i : Int)) := by have h9 := HDD.out; rw [h9]; simp
     exact ⟨ret_errs h8.symm, below_trans HB1.out HW1.out⟩
   ·obtain rfl : i = n := by omega
    have hd : (0, 0) = R := by have h9 := hr.out.1; rw [HZ.out] at h9; exact h9
    have HD : Hid _ := hd
    clear hd HG HDR HC HZ
    go_wp2
    go_ret2
    exact ⟨ret_errs HD.out, hr.out.2⟩
end Go.Proofs.YtajaijilfclhpaaGreatDoor
/- The words of the document on right graphs: a program's. -/
namespace Go.Proofs.YtajaijilfclhpaaGreatDoor
open Go.RowKit Go.Sort
def calledR (p : List Gr) (vars : List Int) (x : In) : Bool := inB x.ref p.length && (((p.getD x.ref.toNat default).params.length == x.args.length) && ((p.getD x.ref.toNat default).params.all (inB · (p.getD x.ref.toNat default).vars.length) && ((varT vars x.dst == (p.getD x.ref.toNat default).result) && (List.range x.args.length).all (fun i => varT vars (x.args.getD i 0) == varT (p.getD x.ref.toNat default).vars ((p.getD x.ref.toNat default).params.getD i 0)))))
def insR (p : List Gr) (G : Gr) (x : In) : Bool := (x.kind != 9) || calledR p G.vars x
def bodyR (p : List Gr) (G : Gr) (b : Bl) : Bool := b.ins.all (insR p G)
def rightR (p : List Gr) (G : Gr) : Bool := aloneG G && G.blocks.all (bodyR p G)
end Go.Proofs.YtajaijilfclhpaaGreatDoor
