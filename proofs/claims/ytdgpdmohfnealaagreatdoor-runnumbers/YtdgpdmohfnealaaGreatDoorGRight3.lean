/- Is a graph right? -/
import Derived.Test.YtdgpdmohfnealaaGreatDoorGRight2
namespace Go.Proofs.YtdgpdmohfnealaaGreatDoor
open Go.RowKit

def graphB (p : List Gr) (G : Gr) : Bool := sizesB G && (typesB G && (paramsB G && ((G.blocks.all fun b => endB G b.tm) && ((G.blocks.all fun b => b.ins.all (standsB p G)) && phisB G))))
theorem sizes_vars {G : Gr} (h : sizesB G = true) : G.vars.length ≤ 1048576 := by
  unfold sizesB at h
  simp only [Bool.and_eq_true, decide_eq_true_eq] at h
  omega
theorem stands_dst {p : List Gr} {G : Gr} (h : (G.blocks.all fun b => b.ins.all (standsB p G)) = true) : ∀ b ∈ G.blocks, ∀ x ∈ b.ins, x.kind = 1 → inB x.dst G.vars.length = true := by
  intro b hb x hx hk
  rw [List.all_eq_true] at h
  have h2 := h b hb
  rw [List.all_eq_true] at h2
  have h3 := h2 x hx
  unfold standsB partsB at h3
  rw [hk] at h3
  simp only [Bool.and_eq_true] at h3
  have h4 : hasB ⟨false, true, false, false, 0, 9223372036854775807⟩ G.vars.length x = true := h3.1.2
  unfold hasB at h4
  simp only [Bool.and_eq_true] at h4
  simpa using h4.1.2
set_option maxRecDepth 100000 in
set_option maxHeartbeats 4000000 in
theorem gright_any (p : List Gr) (ppv : Value) (G : Gr) (pv vv av bv : Value) (w : World) (hp : GrsAt w ppv p) (h : GrAt w pv vv av bv G) (hP : PartsAt w) (hn : G.blocks.length ≤ 100000) :
    Calls Tryz.prog 14 #[ppv, .agg #[.string G.name, pv, .int .u8 G.result, vv, av, bv]] w fun e w' => e = .returned (.bool (graphB p G)) ∧ Below w.heap.size w w' := by
  have HC1 : Hid (∀ W, Below w.heap.size w W → Calls Tryz.prog 21 #[.agg #[.string G.name, pv, .int .u8 G.result, vv, av, bv]] W fun e w' => e = .returned (.bool (sizesB G)) ∧ Below W.heap.size W w') := fun W hb => sizes_any G pv vv av bv W (h.below hb)
  have HC2 : Hid (∀ W, Below w.heap.size w W → Calls Tryz.prog 22 #[.agg #[.string G.name, pv, .int .u8 G.result, vv, av, bv]] W fun e w' => e = .returned (.bool (typesB G)) ∧ Below W.heap.size W w') := fun W hb => types_any G pv vv av bv W (h.below hb)
  have HC3 : Hid (∀ W, Below w.heap.size w W → Calls Tryz.prog 23 #[.agg #[.string G.name, pv, .int .u8 G.result, vv, av, bv]] W fun e w' => e = .returned (.bool (paramsB G)) ∧ Below W.heap.size W w') := fun W hb => params_any G pv vv av bv W (h.below hb)
  have HC4 : Hid (∀ W, Below w.heap.size w W → Calls Tryz.prog 24 #[.agg #[.string G.name, pv, .int .u8 G.result, vv, av, bv]] W fun e w' => e = .returned (.bool (G.blocks.all fun b => endB G b.tm)) ∧ Below W.heap.size W w') := fun W hb => ends_any G pv vv av bv W (h.below hb)
  have HC5 : Hid (∀ W, Below w.heap.size w W → Calls Tryz.prog 25 #[ppv, .agg #[.string G.name, pv, .int .u8 G.result, vv, av, bv]] W fun e w' => e = .returned (.bool (G.blocks.all fun b => b.ins.all (standsB p G))) ∧ Below W.heap.size W w') := fun W hb => ins_any p ppv G pv vv av bv W (hp.below hb) (h.below hb) (hP.below hb)
  have HC6 : Hid (∀ W, Below w.heap.size w W → sizesB G = true → (G.blocks.all fun b => b.ins.all (standsB p G)) = true → Calls Tryz.prog 26 #[.agg #[.string G.name, pv, .int .u8 G.result, vv, av, bv]] W fun e w' => e = .returned (.bool (phisB G)) ∧ Below W.heap.size W w') := fun W hb h1 h5 => phis_any G pv vv av bv W (h.below hb) hn (sizes_vars h1) (stands_dst h5)
  obtain ⟨pa, pc, va, vc, aa, ac, ba, bc, rfl, rfl, rfl, rfl, _, _, _, _⟩ := h.openF
  obtain ⟨qa, qc, rfl, _⟩ := hp.form
  unfold graphB
  clear h hp hP hn
  generalize (sizesB G) = s1 at *
  generalize (typesB G) = s2 at *
  generalize (paramsB G) = s3 at *
  generalize (G.blocks.all fun b => endB G b.tm) = s4 at *
  generalize (G.blocks.all fun b => b.ins.all (standsB p G)) = s5 at *
  generalize (phisB G) = s6 at *
  generalize G.blocks.length = n at *
  generalize G.name = nm at *
  generalize G.params.length = pl at *
  generalize G.vars.length = m at *
  generalize G.arrs.length = al at *
  generalize G.result = r at *
  generalize p.length = pn at *
  have H0 : Hid (Below w.heap.size w (w.alloc (.cells #[.string nm, .slice pa pl pc, .int .u8 r, .slice va m vc, .slice aa al ac, .slice ba n bc] 40)) ∧ Box (w.alloc (.cells #[.string nm, .slice pa pl pc, .int .u8 r, .slice va m vc, .slice aa al ac, .slice ba n bc] 40)) w.heap.size [.string nm, .slice pa pl pc, .int .u8 r, .slice va m vc, .slice aa al ac, .slice ba n bc]) := ⟨below_alloc (Below.refl _ _) _, Box.new w [.string nm, .slice pa pl pc, .int .u8 r, .slice va m vc, .slice aa al ac, .slice ba n bc] 40⟩
  cases s1 with
  | false =>
    go_enter Tryz.func14, Tryz.ntmps14
    go_wp2_with (first
      | (go_at_call 21; go_loud (refine Calls.mono (by exact HC1.out _ H0.out.1) ?_; rintro e w1 ⟨rfl, hb⟩; have H1 : Hid (Below w.heap.size w w1 ∧ Box w1 w.heap.size [.string nm, .slice pa pl pc, .int .u8 r, .slice va m vc, .slice aa al ac, .slice ba n bc]) := ⟨below_trans H0.out.1 hb, H0.out.2.below hb⟩; obtain ⟨f0, f1, f2, f3, f4, f5⟩ := box6 H1.out.2; have hwl := H1.out.2.lt; clear hb)))
    go_ret
    exact ⟨ret_bool (by simp), H1.out.1⟩
  | true =>
    cases s2 with
    | false =>
      go_enter Tryz.func14, Tryz.ntmps14
      go_wp2_with (first
        | (go_at_call 21; go_loud (refine Calls.mono (by exact HC1.out _ H0.out.1) ?_; rintro e w1 ⟨rfl, hb⟩; have H1 : Hid (Below w.heap.size w w1 ∧ Box w1 w.heap.size [.string nm, .slice pa pl pc, .int .u8 r, .slice va m vc, .slice aa al ac, .slice ba n bc]) := ⟨below_trans H0.out.1 hb, H0.out.2.below hb⟩; obtain ⟨f0, f1, f2, f3, f4, f5⟩ := box6 H1.out.2; have hwl := H1.out.2.lt; clear hb))
        | (go_at_call 22; go_loud (refine Calls.mono (by exact HC2.out _ H1.out.1) ?_; rintro e w2 ⟨rfl, hb⟩; have H2 : Hid (Below w.heap.size w w2 ∧ Box w2 w.heap.size [.string nm, .slice pa pl pc, .int .u8 r, .slice va m vc, .slice aa al ac, .slice ba n bc]) := ⟨below_trans H1.out.1 hb, H1.out.2.below hb⟩; obtain ⟨f0, f1, f2, f3, f4, f5⟩ := box6 H2.out.2; have hwl := H2.out.2.lt; clear hb)))
      go_ret
      exact ⟨ret_bool (by simp), H2.out.1⟩
    | true =>
      cases s3 with
      | false =>
        go_enter Tryz.func14, Tryz.ntmps14
        go_wp2_with (first
          | (go_at_call 21; go_loud (refine Calls.mono (by exact HC1.out _ H0.out.1) ?_; rintro e w1 ⟨rfl, hb⟩; have H1 : Hid (Below w.heap.size w w1 ∧ Box w1 w.heap.size [.string nm, .slice pa pl pc, .int .u8 r, .slice va m vc, .slice aa al ac, .slice ba n bc]) := ⟨below_trans H0.out.1 hb, H0.out.2.below hb⟩; obtain ⟨f0, f1, f2, f3, f4, f5⟩ := box6 H1.out.2; have hwl := H1.out.2.lt; clear hb))
          | (go_at_call 22; go_loud (refine Calls.mono (by exact HC2.out _ H1.out.1) ?_; rintro e w2 ⟨rfl, hb⟩; have H2 : Hid (Below w.heap.size w w2 ∧ Box w2 w.heap.size [.string nm, .slice pa pl pc, .int .u8 r, .slice va m vc, .slice aa al ac, .slice ba n bc]) := ⟨below_trans H1.out.1 hb, H1.out.2.below hb⟩; obtain ⟨f0, f1, f2, f3, f4, f5⟩ := box6 H2.out.2; have hwl := H2.out.2.lt; clear hb))
          | (go_at_call 23; go_loud (refine Calls.mono (by exact HC3.out _ H2.out.1) ?_; rintro e w3 ⟨rfl, hb⟩; have H3 : Hid (Below w.heap.size w w3 ∧ Box w3 w.heap.size [.string nm, .slice pa pl pc, .int .u8 r, .slice va m vc, .slice aa al ac, .slice ba n bc]) := ⟨below_trans H2.out.1 hb, H2.out.2.below hb⟩; obtain ⟨f0, f1, f2, f3, f4, f5⟩ := box6 H3.out.2; have hwl := H3.out.2.lt; clear hb)))
        go_ret
        exact ⟨ret_bool (by simp), H3.out.1⟩
      | true =>
        cases s4 with
        | false =>
          go_enter Tryz.func14, Tryz.ntmps14
          go_wp2_with (first
            | (go_at_call 21; go_loud (refine Calls.mono (by exact HC1.out _ H0.out.1) ?_; rintro e w1 ⟨rfl, hb⟩; have H1 : Hid (Below w.heap.size w w1 ∧ Box w1 w.heap.size [.string nm, .slice pa pl pc, .int .u8 r, .slice va m vc, .slice aa al ac, .slice ba n bc]) := ⟨below_trans H0.out.1 hb, H0.out.2.below hb⟩; obtain ⟨f0, f1, f2, f3, f4, f5⟩ := box6 H1.out.2; have hwl := H1.out.2.lt; clear hb))
            | (go_at_call 22; go_loud (refine Calls.mono (by exact HC2.out _ H1.out.1) ?_; rintro e w2 ⟨rfl, hb⟩; have H2 : Hid (Below w.heap.size w w2 ∧ Box w2 w.heap.size [.string nm, .slice pa pl pc, .int .u8 r, .slice va m vc, .slice aa al ac, .slice ba n bc]) := ⟨below_trans H1.out.1 hb, H1.out.2.below hb⟩; obtain ⟨f0, f1, f2, f3, f4, f5⟩ := box6 H2.out.2; have hwl := H2.out.2.lt; clear hb))
            | (go_at_call 23; go_loud (refine Calls.mono (by exact HC3.out _ H2.out.1) ?_; rintro e w3 ⟨rfl, hb⟩; have H3 : Hid (Below w.heap.size w w3 ∧ Box w3 w.heap.size [.string nm, .slice pa pl pc, .int .u8 r, .slice va m vc, .slice aa al ac, .slice ba n bc]) := ⟨below_trans H2.out.1 hb, H2.out.2.below hb⟩; obtain ⟨f0, f1, f2, f3, f4, f5⟩ := box6 H3.out.2; have hwl := H3.out.2.lt; clear hb))
            | (go_at_call 24; go_loud (refine Calls.mono (by exact HC4.out _ H3.out.1) ?_; rintro e w4 ⟨rfl, hb⟩; have H4 : Hid (Below w.heap.size w w4 ∧ Box w4 w.heap.size [.string nm, .slice pa pl pc, .int .u8 r, .slice va m vc, .slice aa al ac, .slice ba n bc]) := ⟨below_trans H3.out.1 hb, H3.out.2.below hb⟩; obtain ⟨f0, f1, f2, f3, f4, f5⟩ := box6 H4.out.2; have hwl := H4.out.2.lt; clear hb)))
          go_ret
          exact ⟨ret_bool (by simp), H4.out.1⟩
        | true =>
          cases s5 with
          | false =>
            go_enter Tryz.func14, Tryz.ntmps14
            go_wp2_with (first
              | (go_at_call 21; go_loud (refine Calls.mono (by exact HC1.out _ H0.out.1) ?_; rintro e w1 ⟨rfl, hb⟩; have H1 : Hid (Below w.heap.size w w1 ∧ Box w1 w.heap.size [.string nm, .slice pa pl pc, .int .u8 r, .slice va m vc, .slice aa al ac, .slice ba n bc]) := ⟨below_trans H0.out.1 hb, H0.out.2.below hb⟩; obtain ⟨f0, f1, f2, f3, f4, f5⟩ := box6 H1.out.2; have hwl := H1.out.2.lt; clear hb))
              | (go_at_call 22; go_loud (refine Calls.mono (by exact HC2.out _ H1.out.1) ?_; rintro e w2 ⟨rfl, hb⟩; have H2 : Hid (Below w.heap.size w w2 ∧ Box w2 w.heap.size [.string nm, .slice pa pl pc, .int .u8 r, .slice va m vc, .slice aa al ac, .slice ba n bc]) := ⟨below_trans H1.out.1 hb, H1.out.2.below hb⟩; obtain ⟨f0, f1, f2, f3, f4, f5⟩ := box6 H2.out.2; have hwl := H2.out.2.lt; clear hb))
              | (go_at_call 23; go_loud (refine Calls.mono (by exact HC3.out _ H2.out.1) ?_; rintro e w3 ⟨rfl, hb⟩; have H3 : Hid (Below w.heap.size w w3 ∧ Box w3 w.heap.size [.string nm, .slice pa pl pc, .int .u8 r, .slice va m vc, .slice aa al ac, .slice ba n bc]) := ⟨below_trans H2.out.1 hb, H2.out.2.below hb⟩; obtain ⟨f0, f1, f2, f3, f4, f5⟩ := box6 H3.out.2; have hwl := H3.out.2.lt; clear hb))
              | (go_at_call 24; go_loud (refine Calls.mono (by exact HC4.out _ H3.out.1) ?_; rintro e w4 ⟨rfl, hb⟩; have H4 : Hid (Below w.heap.size w w4 ∧ Box w4 w.heap.size [.string nm, .slice pa pl pc, .int .u8 r, .slice va m vc, .slice aa al ac, .slice ba n bc]) := ⟨below_trans H3.out.1 hb, H3.out.2.below hb⟩; obtain ⟨f0, f1, f2, f3, f4, f5⟩ := box6 H4.out.2; have hwl := H4.out.2.lt; clear hb))
              | (go_at_call 25; go_loud (refine Calls.mono (by exact HC5.out _ H4.out.1) ?_; rintro e w5 ⟨rfl, hb⟩; have H5 : Hid (Below w.heap.size w w5 ∧ Box w5 w.heap.size [.string nm, .slice pa pl pc, .int .u8 r, .slice va m vc, .slice aa al ac, .slice ba n bc]) := ⟨below_trans H4.out.1 hb, H4.out.2.below hb⟩; obtain ⟨f0, f1, f2, f3, f4, f5⟩ := box6 H5.out.2; have hwl := H5.out.2.lt; clear hb)))
            go_ret
            exact ⟨ret_bool (by simp), H5.out.1⟩
          | true =>
            cases s6 with
            | false =>
              go_enter Tryz.func14, Tryz.ntmps14
              go_wp2_with (first
                | (go_at_call 21; go_loud (refine Calls.mono (by exact HC1.out _ H0.out.1) ?_; rintro e w1 ⟨rfl, hb⟩; have H1 : Hid (Below w.heap.size w w1 ∧ Box w1 w.heap.size [.string nm, .slice pa pl pc, .int .u8 r, .slice va m vc, .slice aa al ac, .slice ba n bc]) := ⟨below_trans H0.out.1 hb, H0.out.2.below hb⟩; obtain ⟨f0, f1, f2, f3, f4, f5⟩ := box6 H1.out.2; have hwl := H1.out.2.lt; clear hb))
                | (go_at_call 22; go_loud (refine Calls.mono (by exact HC2.out _ H1.out.1) ?_; rintro e w2 ⟨rfl, hb⟩; have H2 : Hid (Below w.heap.size w w2 ∧ Box w2 w.heap.size [.string nm, .slice pa pl pc, .int .u8 r, .slice va m vc, .slice aa al ac, .slice ba n bc]) := ⟨below_trans H1.out.1 hb, H1.out.2.below hb⟩; obtain ⟨f0, f1, f2, f3, f4, f5⟩ := box6 H2.out.2; have hwl := H2.out.2.lt; clear hb))
                | (go_at_call 23; go_loud (refine Calls.mono (by exact HC3.out _ H2.out.1) ?_; rintro e w3 ⟨rfl, hb⟩; have H3 : Hid (Below w.heap.size w w3 ∧ Box w3 w.heap.size [.string nm, .slice pa pl pc, .int .u8 r, .slice va m vc, .slice aa al ac, .slice ba n bc]) := ⟨below_trans H2.out.1 hb, H2.out.2.below hb⟩; obtain ⟨f0, f1, f2, f3, f4, f5⟩ := box6 H3.out.2; have hwl := H3.out.2.lt; clear hb))
                | (go_at_call 24; go_loud (refine Calls.mono (by exact HC4.out _ H3.out.1) ?_; rintro e w4 ⟨rfl, hb⟩; have H4 : Hid (Below w.heap.size w w4 ∧ Box w4 w.heap.size [.string nm, .slice pa pl pc, .int .u8 r, .slice va m vc, .slice aa al ac, .slice ba n bc]) := ⟨below_trans H3.out.1 hb, H3.out.2.below hb⟩; obtain ⟨f0, f1, f2, f3, f4, f5⟩ := box6 H4.out.2; have hwl := H4.out.2.lt; clear hb))
                | (go_at_call 25; go_loud (refine Calls.mono (by exact HC5.out _ H4.out.1) ?_; rintro e w5 ⟨rfl, hb⟩; have H5 : Hid (Below w.heap.size w w5 ∧ Box w5 w.heap.size [.string nm, .slice pa pl pc, .int .u8 r, .slice va m vc, .slice aa al ac, .slice ba n bc]) := ⟨below_trans H4.out.1 hb, H4.out.2.below hb⟩; obtain ⟨f0, f1, f2, f3, f4, f5⟩ := box6 H5.out.2; have hwl := H5.out.2.lt; clear hb))
                | (go_at_call 26; go_loud (refine Calls.mono (by exact HC6.out _ H5.out.1 (by trivial) (by trivial)) ?_; rintro e w6 ⟨rfl, hb⟩; have H6 : Hid (Below w.heap.size w w6 ∧ Box w6 w.heap.size [.string nm, .slice pa pl pc, .int .u8 r, .slice va m vc, .slice aa al ac, .slice ba n bc]) := ⟨below_trans H5.out.1 hb, H5.out.2.below hb⟩; obtain ⟨f0, f1, f2, f3, f4, f5⟩ := box6 H6.out.2; have hwl := H6.out.2.lt; clear hb)))
              go_ret
              exact ⟨ret_bool (by simp), H6.out.1⟩
            | true =>
              go_enter Tryz.func14, Tryz.ntmps14
              go_wp2_with (first
                | (go_at_call 21; go_loud (refine Calls.mono (by exact HC1.out _ H0.out.1) ?_; rintro e w1 ⟨rfl, hb⟩; have H1 : Hid (Below w.heap.size w w1 ∧ Box w1 w.heap.size [.string nm, .slice pa pl pc, .int .u8 r, .slice va m vc, .slice aa al ac, .slice ba n bc]) := ⟨below_trans H0.out.1 hb, H0.out.2.below hb⟩; obtain ⟨f0, f1, f2, f3, f4, f5⟩ := box6 H1.out.2; have hwl := H1.out.2.lt; clear hb))
                | (go_at_call 22; go_loud (refine Calls.mono (by exact HC2.out _ H1.out.1) ?_; rintro e w2 ⟨rfl, hb⟩; have H2 : Hid (Below w.heap.size w w2 ∧ Box w2 w.heap.size [.string nm, .slice pa pl pc, .int .u8 r, .slice va m vc, .slice aa al ac, .slice ba n bc]) := ⟨below_trans H1.out.1 hb, H1.out.2.below hb⟩; obtain ⟨f0, f1, f2, f3, f4, f5⟩ := box6 H2.out.2; have hwl := H2.out.2.lt; clear hb))
                | (go_at_call 23; go_loud (refine Calls.mono (by exact HC3.out _ H2.out.1) ?_; rintro e w3 ⟨rfl, hb⟩; have H3 : Hid (Below w.heap.size w w3 ∧ Box w3 w.heap.size [.string nm, .slice pa pl pc, .int .u8 r, .slice va m vc, .slice aa al ac, .slice ba n bc]) := ⟨below_trans H2.out.1 hb, H2.out.2.below hb⟩; obtain ⟨f0, f1, f2, f3, f4, f5⟩ := box6 H3.out.2; have hwl := H3.out.2.lt; clear hb))
                | (go_at_call 24; go_loud (refine Calls.mono (by exact HC4.out _ H3.out.1) ?_; rintro e w4 ⟨rfl, hb⟩; have H4 : Hid (Below w.heap.size w w4 ∧ Box w4 w.heap.size [.string nm, .slice pa pl pc, .int .u8 r, .slice va m vc, .slice aa al ac, .slice ba n bc]) := ⟨below_trans H3.out.1 hb, H3.out.2.below hb⟩; obtain ⟨f0, f1, f2, f3, f4, f5⟩ := box6 H4.out.2; have hwl := H4.out.2.lt; clear hb))
                | (go_at_call 25; go_loud (refine Calls.mono (by exact HC5.out _ H4.out.1) ?_; rintro e w5 ⟨rfl, hb⟩; have H5 : Hid (Below w.heap.size w w5 ∧ Box w5 w.heap.size [.string nm, .slice pa pl pc, .int .u8 r, .slice va m vc, .slice aa al ac, .slice ba n bc]) := ⟨below_trans H4.out.1 hb, H4.out.2.below hb⟩; obtain ⟨f0, f1, f2, f3, f4, f5⟩ := box6 H5.out.2; have hwl := H5.out.2.lt; clear hb))
                | (go_at_call 26; go_loud (refine Calls.mono (by exact HC6.out _ H5.out.1 (by trivial) (by trivial)) ?_; rintro e w6 ⟨rfl, hb⟩; have H6 : Hid (Below w.heap.size w w6 ∧ Box w6 w.heap.size [.string nm, .slice pa pl pc, .int .u8 r, .slice va m vc, .slice aa al ac, .slice ba n bc]) := ⟨below_trans H5.out.1 hb, H5.out.2.below hb⟩; obtain ⟨f0, f1, f2, f3, f4, f5⟩ := box6 H6.out.2; have hwl := H6.out.2.lt; clear hb)))
              go_ret
              exact ⟨ret_bool (by simp), H6.out.1⟩
end Go.Proofs.YtdgpdmohfnealaaGreatDoor
