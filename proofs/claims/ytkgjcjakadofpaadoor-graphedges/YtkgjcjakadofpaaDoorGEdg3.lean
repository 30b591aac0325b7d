/- Edges: the law's run. -/
import Derived.Test.YtkgjcjakadofpaaDoorGEdg2
namespace Go.Proofs.YtkgjcjakadofpaaDoor
open Go.RowKit

theorem lens_drop_le : ∀ (A : List (List Int)) (i : Nat), lensA (A.drop i) ≤ lensA A
  | _, 0 => Nat.le_refl _
  | [], i + 1 => by simp
  | r :: A, i + 1 => by
    have h := lens_drop_le A i
    have e : lensA (r :: A) = r.length + lensA A := by simp [lensA]
    rw [List.drop_succ_cons, e]
    omega
set_option maxRecDepth 100000 in
set_option maxHeartbeats 2000000 in
theorem edges_any (G : Gr) (pv vv av bv : Value) (w : World) (h : GrAt w pv vv av bv G) (hP : PartsAt w) :
    Calls Tryd.prog 4 #[.agg #[.string G.name, pv, .int .u8 G.result, vv, av, bv]] w fun e w' => e = .returned (.bool true) ∧ Below w.heap.size w w' := by
  have HAW : Hid (∀ W, Below w.heap.size w W → Calls Tryd.prog 6 #[] W fun e w' => e = .returned (.bool true) ∧ Below W.heap.size W w') := fun W hb => awake_any W (hP.below hb)
  have HGR : Hid (∀ W, Below w.heap.size w W → Calls Tryd.prog 9 #[.agg #[.string G.name, pv, .int .u8 G.result, vv, av, bv]] W fun e w' => ∃ b, e = .returned (.bool b) ∧ Hid (b = false → G.blocks.length ≤ 400) ∧ Below W.heap.size W w') := fun W hb => great_any G pv vv av bv W (h.below hb)
  have HAH : Hid (∀ W, Below w.heap.size w W → G.blocks.length ≤ 400 → Calls Tryd.prog 10 #[.agg #[.string G.name, pv, .int .u8 G.result, vv, av, bv]] W fun e w' => ∃ kvs, e = .returned (.slice (some ⟨W.heap.size + 1, 0, none⟩) G.blocks.length G.blocks.length) ∧ RowsIn w' W.heap.size (W.heap.size + 1) G.blocks.length kvs (aheadT (tms G.blocks)) ∧ Below W.heap.size W w') := fun W hb hn => ahead_any G pv vv av bv W (h.below hb) (by omega)
  have HOR : Hid (∀ W, Below w.heap.size w W → G.blocks.length ≤ 400 → Calls Tryd.prog 11 #[.agg #[.string G.name, pv, .int .u8 G.result, vv, av, bv]] W fun e w' => ∃ oa oc, e = .returned (.slice oa (orderT (tms G.blocks)).length oc) ∧ IntsAt w' (.slice oa (orderT (tms G.blocks)).length oc) (orderT (tms G.blocks)) ∧ Below W.heap.size W w') := fun W hb hn => by
    refine Calls.mono (order_any G pv vv av bv W (h.below hb) (by omega)) ?_
    rintro e w' ⟨v, he, ho, hb2⟩
    have hl := order_len (tms G.blocks)
    have h1 := OwnI.at' ho (by simp [tms] at hl ⊢; omega)
    obtain ⟨g, k, rfl, _⟩ := h1.form
    exact ⟨g, k, he, h1, hb2⟩
  have HAL : Hid (G.blocks.length ≤ 400 → ∀ j, j < G.blocks.length → ((aheadT (tms G.blocks)).getD j []).length ≤ 800) := fun hn j hj => by
    have := ahead_len_le (ts := tms G.blocks) (j := j) (by simpa [tms] using hj)
    have e : (tms G.blocks).length = G.blocks.length := by simp [tms]
    rw [e] at this
    omega
  have HED : Hid _ := edges_ok (tms G.blocks)
  have HOL : Hid _ := order_len (tms G.blocks)
  have HEL : Hid (edgesF (tms G.blocks).length (tms G.blocks) ≤ 2 * (tms G.blocks).length) := edgesF_le _ _
  have HTL : Hid ((tms G.blocks).length = G.blocks.length) := by show (tms G.blocks).length = G.blocks.length; simp [tms]
  have HTM : Hid (∀ i, i < G.blocks.length → (tms G.blocks).getD i default = (G.blocks.getD i default).tm) := fun i hi => tms_getD hi
  rw [HTL.out] at HEL HOL
  obtain ⟨pa, pc, va, vc, aa, ac, ba, bc, rfl, rfl, rfl, rfl, _, _, _, hbl⟩ := h.openF
  have HB : Hid (∀ i, i < G.blocks.length → _) := fun i hi => h.bs.get (i := i) hi
  clear h hP
  generalize orderT (tms G.blocks) = O at *
  generalize aheadT (tms G.blocks) = A at *
  generalize tms G.blocks = ts at *
  generalize G.name = nm at *
  generalize G.params.length = pl at *
  generalize G.vars.length = m at *
  generalize G.arrs.length = al at *
  generalize G.result = r at *
  obtain ⟨n, hn⟩ : ∃ n, n = G.blocks.length := ⟨_, rfl⟩
  rw [← hn] at HGR HAH HOR HAL HEL HOL HTL HTM HB hbl
  rw [← hn]
  clear hn
  have H0 : Hid (Below w.heap.size w (w.alloc (.cells #[.string nm, .slice pa pl pc, .int .u8 r, .slice va m vc, .slice aa al ac, .slice ba n bc] 34)) ∧ Box (w.alloc (.cells #[.string nm, .slice pa pl pc, .int .u8 r, .slice va m vc, .slice aa al ac, .slice ba n bc] 34)) w.heap.size [.string nm, .slice pa pl pc, .int .u8 r, .slice va m vc, .slice aa al ac, .slice ba n bc]) := ⟨below_alloc (Below.refl _ _) _, Box.new w [.string nm, .slice pa pl pc, .int .u8 r, .slice va m vc, .slice aa al ac, .slice ba n bc] 34⟩
  go_enter Tryd.func4, Tryd.ntmps4
  go_wp2_with (first
    | (go_at_call 6; go_loud (refine Calls.mono (by exact HAW.out _ H0.out.1) ?_; rintro e w1 ⟨rfl, hb⟩; have H1 : Hid (Below w.heap.size w w1 ∧ Box w1 w.heap.size [.string nm, .slice pa pl pc, .int .u8 r, .slice va m vc, .slice aa al ac, .slice ba n bc]) := ⟨below_trans H0.out.1 hb, H0.out.2.below hb⟩; obtain ⟨f0, f1, f2, f3, f4, f5⟩ := box6 H1.out.2; clear hb))
    | (go_at_call 9; go_loud (refine Calls.mono (by exact HGR.out _ H1.out.1) ?_; rintro e w2 ⟨bg, rfl, hng, hb⟩; have HNG : Hid (Hid (bg = false → n ≤ 400)) := hng; have H2 : Hid (Below w.heap.size w w2 ∧ Box w2 w.heap.size [.string nm, .slice pa pl pc, .int .u8 r, .slice va m vc, .slice aa al ac, .slice ba n bc]) := ⟨below_trans H1.out.1 hb, H1.out.2.below hb⟩; obtain ⟨g0, g1, g2, g3, g4, g5⟩ := box6 H2.out.2; clear hb hng; cases bg)))
  rotate_left
  · go_wp2
    go_ret
    exact ⟨rfl, H2.out.1⟩
  have HN : Hid (n ≤ 400) := HNG.out.out (by trivial)
  have hn400 : n ≤ 400 := HN.out
  clear HNG H1 f0 f1 f2 f3 f4 f5 HAW HGR
  go_wp2_with (first
    | (go_at_call 10; go_loud (refine Calls.mono (by exact HAH.out _ H2.out.1 HN.out) ?_; rintro e w3 ⟨kvs, rfl, hrows, hb⟩; have HRW : Hid _ := hrows; have H3 : Hid (Below w.heap.size w w3 ∧ Box w3 w.heap.size [.string nm, .slice pa pl pc, .int .u8 r, .slice va m vc, .slice aa al ac, .slice ba n bc]) := ⟨below_trans H2.out.1 hb, H2.out.2.below hb⟩; obtain ⟨f0, f1, f2, f3, f4, f5⟩ := box6 H3.out.2; clear hb hrows))
    | (go_at_call 11; go_loud (refine Calls.mono (by exact HOR.out _ H3.out.1 HN.out) ?_; rintro e w4 ⟨oa, oc, rfl, hio, hb⟩; have HLD : Hid (Laid w4 w.heap.size (w2.heap.size + 1) n [.string nm, .slice pa pl pc, .int .u8 r, .slice va m vc, .slice aa al ac, .slice ba n bc] (.slice oa O.length oc) A O) := Laid.of H3.out.2 HRW.out (fun j hj => by have := HAL.out HN.out j hj; omega) hb hio; have H4 : Hid (Below w.heap.size w w4) := below_trans H3.out.1 hb; obtain ⟨j0, j1, j2, j3, j4, j5⟩ := box6 HLD.out.box; clear hb hio)))
  have HRT : Hid (∀ W, Below w4.heap.size w4 W → Below w.heap.size w W) := fun W hb => below_trans H4.out hb
  have HLW : Hid (∀ W, Below w4.heap.size w4 W → Laid W w.heap.size (w2.heap.size + 1) n [.string nm, .slice pa pl pc, .int .u8 r, .slice va m vc, .slice aa al ac, .slice ba n bc] (.slice oa O.length oc) A O) := fun W hb => HLD.out.below hb
  obtain ⟨E, hE⟩ : ∃ E, E = edgesF ts.length ts := ⟨_, rfl⟩
  have HE : Hid (0 + edgesF n (ts.drop 0) = E) := by show 0 + edgesF n (ts.drop 0) = E; rw [hE, HTL.out, Nat.zero_add]; rfl
  have HEA : Hid (lensA A = E) := by show lensA A = E; rw [HED.out.sum, hE]
  have HEB : Hid (E ≤ 2 * n) := by show E ≤ 2 * n; have h9 := HEL.out; rw [HTL.out] at hE; rw [hE]; exact h9
  clear hE HAH HOR HRW H2 H3 g0 g1 g2 g3 g4 g5 f0 f1 f2 f3 f4 f5 HEL H0
  go_loopw [5, 6] (fun ve vi wq => ∃ (e i : Nat), ve = .int .i64 e ∧ vi = .int .i64 i ∧ i ≤ n ∧ Hid (Below w4.heap.size w4 wq ∧ e + edgesF n (ts.drop i) = E ∧ e ≤ 2 * i)) (fun _ vi _ => n - (intOf vi).toNat)
  case atStart => exact ⟨0, 0, rfl, rfl, by omega, Below.refl _ _, HE.out, by omega⟩
  case round =>
    obtain ⟨e, i, rfl, rfl, hi, hr⟩ := hrel
    clear HE j0 j1 j2 j3 j4 j5
    obtain ⟨f0, f1, f2, f3, f4, f5⟩ := box6 (HLW.out _ hr.out.1).box
    have he800 : e ≤ 800 := by have := hr.out.2.2; omega
    by_cases hin : i < n
    · obtain ⟨g, o, iv, rfl, hg, c0, c1, c2, c3, c4, c5, hins⟩ := HB.out i hin
      obtain ⟨ia, ic, rfl, _⟩ := hins.form
      clear hins
      generalize hil : (G.blocks.getD i default).ins.length = il at *
      have hin' : (i : Int) < n := by omega
      have hcl : ∀ j, wr.cell? ⟨g, j, none⟩ = w.cell? ⟨g, j, none⟩ := fun j => (HRT.out _ hr.out.1).cell (p := ⟨g, j, none⟩) hg
      rw [← hcl] at c0 c1 c2 c3 c4 c5
      have HNX : Hid (∀ W, Calls Tryd.prog 12 #[.agg #[.slice ia il ic, .int .u8 (G.blocks.getD i default).tm.kind, .int .i64 (G.blocks.getD i default).tm.arg, .int .i64 (G.blocks.getD i default).tm.t0, .int .i64 (G.blocks.getD i default).tm.t1, .int .u8 (G.blocks.getD i default).tm.trap]] W fun e w' => ∃ v, e = .returned v ∧ OwnI w' W.heap.size v (nextT (G.blocks.getD i default).tm) ∧ Below W.heap.size W w') := fun W => next_any (.slice ia il ic) (G.blocks.getD i default).tm W
      have hlen := next_len (G.blocks.getD i default).tm
      have HED1 : Hid (∀ to : Nat, to < n → (to : Int) ∈ nextT (G.blocks.getD i default).tm → amongB (A.getD to []) (i : Int) = true ∧ (amongB O (i : Int) = true → amongB O (to : Int) = true)) := fun to hto hm => HED.out.back i to (by rw [HTL.out]; exact hin) (by rw [HTL.out]; exact hto) (by rw [HTM.out i hin]; exact hm)
      have HEE : Hid (e + (edgesT n (nextT (G.blocks.getD i default).tm) + edgesF n (ts.drop (i + 1))) = E) := by
        have h9 := edgesF_drop (n := n) (ts := ts) (i := i) (by rw [HTL.out]; exact hin)
        rw [HTM.out i hin] at h9
        show _ = _
        rw [← h9]
        exact hr.out.2.1
      generalize nextT (G.blocks.getD i default).tm = L at *
      generalize (G.blocks.getD i default).tm.kind = t0 at *
      generalize (G.blocks.getD i default).tm.arg = t1 at *
      generalize (G.blocks.getD i default).tm.t0 = t2 at *
      generalize (G.blocks.getD i default).tm.t1 = t3 at *
      generalize (G.blocks.getD i default).tm.trap = t4 at *
      obtain ⟨F, hF⟩ : ∃ F, F = edgesF n (ts.drop (i + 1)) := ⟨_, rfl⟩
      rw [← hF] at HEE
      have HFF : Hid _ := hF
      clear hF hil hcl HB
      generalize wr = wo at *
      go_wp2_with (go_at_call 12; go_loud (refine Calls.mono (by exact HNX.out _) ?_; rintro e' w5 ⟨v, rfl, ho5, hb5⟩; have hI5 := OwnI.at' ho5 (by omega); obtain ⟨na, nc, rfl, _⟩ := hI5.form; have HI5 : Hid (IntsAt w5 (.slice na L.length nc) L) := hI5; have HB5 : Hid (Below w4.heap.size w4 w5) := below_trans hr.out.1 hb5; clear ho5 hb5 hI5))
      have HLL : Hid (L.length ≤ 2) := hlen
      go_loopw [5, 8] (fun ve vk wq => ∃ (e2 k : Nat), ve = .int .i64 e2 ∧ vk = .int .i64 k ∧ k ≤ L.length ∧ Hid (wq = w5 ∧ e2 + (edgesT n (L.drop k) + F) = E ∧ e2 ≤ 2 * i + k)) (fun _ vk _ => L.length - (intOf vk).toNat)
      case atStart => exact ⟨e, 0, rfl, rfl, by omega, rfl, HEE.out, hr.out.2.2⟩
      case round =>
        obtain ⟨e2, k, rfl, rfl, hk, hq⟩ := hrel
        clear HEE HNX f0 f1 f2 f3 f4 f5 c0 c1 c2 c3 c4 c5
        obtain ⟨f0, f1, f2, f3, f4, f5⟩ := box6 (HLW.out _ HB5.out).box
        have hw5 := hq.out.1
        subst hw5
        have he2 : e2 ≤ 900 := by have := hq.out.2.2; have := HLL.out; omega
        by_cases hkn : k < L.length
        · have hkn' : (k : Int) < L.length := by omega
          obtain ⟨gn, on, rfl, hgn, cn⟩ := HI5.out.get hkn
          have HET : Hid _ := edgesT_drop (n := n) (L := L) (k := k) hkn
          have HMM : Hid (L.getD k 0 ∈ L) := by show L.getD k 0 ∈ L; rw [List.getD, List.getElem?_eq_getElem hkn]; exact List.getElem_mem hkn
          generalize L.getD k 0 = to at *
          by_cases ht0 : to < 0
          · have HX : Hid (e2 + (edgesT n (L.drop (k + 1)) + F) = E) := by
              have h9 := HET.out
              rw [if_neg (by rw [inB_iff]; omega), Nat.zero_add] at h9
              show _ = _
              rw [← h9]
              exact hq.out.2.1
            clear HET HMM
            go_wp2
            go_roundw
            case rel => exact ⟨e2, k + 1, rfl, by first | rfl | (congr 1; omega), by omega, by first | rfl | trivial, HX.out, by have := hq.out.2.2; omega⟩
            case measure => simp [intOf]; omega
          · by_cases htn : (n : Int) ≤ to
            · have HX : Hid (e2 + (edgesT n (L.drop (k + 1)) + F) = E) := by
                have h9 := HET.out
                rw [if_neg (by rw [inB_iff]; omega), Nat.zero_add] at h9
                show _ = _
                rw [← h9]
                exact hq.out.2.1
              clear HET HMM
              go_wp2
              go_roundw
              case rel => exact ⟨e2, k + 1, rfl, by first | rfl | (congr 1; omega), by omega, by first | rfl | trivial, HX.out, by have := hq.out.2.2; omega⟩
              case measure => simp [intOf]; omega
            · obtain ⟨t, rfl⟩ : ∃ t : Nat, to = (t : Int) := Int.eq_ofNat_of_zero_le (by omega)
              have htn2 : t < n := by omega
              have htn3 : (t : Int) < n := by omega
              have HX : Hid (e2 + 1 + (edgesT n (L.drop (k + 1)) + F) = E) := by
                have h9 := HET.out
                rw [if_pos (inB_iff.2 ⟨by omega, by omega⟩)] at h9
                have h8 := hq.out.2.1
                rw [h9] at h8
                show _ = _
                omega
              obtain ⟨ka, kc, ck, hkI⟩ := (HLW.out _ HB5.out).row t htn2
              have HA1 : Hid (Calls Tryd.prog 13 #[.slice ka (A.getD t []).length kc, .int .i64 (i : Int)] wr fun e w' => e = .returned (.bool true) ∧ w' = wr) := by
                have h9 := among_any (A.getD t []) (i : Int) _ wr hkI
                rw [(HED1.out t htn2 HMM.out).1] at h9
                exact h9
              have HA2 : Hid (Calls Tryd.prog 13 #[.slice oa O.length oc, .int .i64 (i : Int)] wr fun e w' => e = .returned (.bool (amongB O (i : Int))) ∧ w' = wr) := among_any O (i : Int) _ wr (HLW.out _ HB5.out).ord
              have HA3 : Hid (amongB O (i : Int) = true → Calls Tryd.prog 13 #[.slice oa O.length oc, .int .i64 (t : Int)] wr fun e w' => e = .returned (.bool true) ∧ w' = wr) := fun ha => by
                have h9 := among_any O (t : Int) _ wr (HLW.out _ HB5.out).ord
                rw [(HED1.out t htn2 HMM.out).2 ha] at h9
                exact h9
              generalize (A.getD t []).length = kl at *
              generalize amongB O (i : Int) = bo at *
              clear HET HMM hkI
              cases bo with
              | false =>
                go_wp2_with (go_at_call 13; refine Calls.mono (by first | with_reducible exact HA1.out | with_reducible exact HA2.out) ?_; rintro e' wx ⟨rfl, hwx⟩; subst wx)
                go_roundw
                case rel => exact ⟨e2 + 1, k + 1, by first | rfl | (congr 1; omega), by first | rfl | (congr 1; omega), by omega, by first | rfl | trivial, HX.out, by have := hq.out.2.2; omega⟩
                case measure => simp [intOf]; omega
              | true =>
                have HA4 : Hid (Calls Tryd.prog 13 #[.slice oa O.length oc, .int .i64 (t : Int)] wr fun e w' => e = .returned (.bool true) ∧ w' = wr) := HA3.out (by trivial)
                clear HA3
                go_wp2_with (go_at_call 13; refine Calls.mono (by first | with_reducible exact HA1.out | with_reducible exact HA2.out | with_reducible exact HA4.out) ?_; rintro e' wx ⟨rfl, hwx⟩; subst wx)
                go_roundw
                case rel => exact ⟨e2 + 1, k + 1, by first | rfl | (congr 1; omega), by first | rfl | (congr 1; omega), by omega, by first | rfl | trivial, HX.out, by have := hq.out.2.2; omega⟩
                case measure => simp [intOf]; omega
        · obtain rfl : k = L.length := by omega
          have HX : Hid (e2 + edgesF n (ts.drop (i + 1)) = E) := by
            have h9 := hq.out.2.1
            rw [List.drop_length, show edgesT n [] = 0 from rfl, Nat.zero_add, HFF.out] at h9
            exact h9
          clear HFF
          go_wp2
          go_roundw
          case rel => exact ⟨e2, i + 1, rfl, by first | rfl | (congr 1; omega), by omega, HB5.out, HX.out, by have := hq.out.2.2; have := HLL.out; omega⟩
          case measure => simp [intOf]; omega
    · have hne : n = i := by omega
      subst hne
      have HAN : Hid (A.length = n) := by show A.length = n; rw [HED.out.len, HTL.out]
      have HE3 : Hid (lensA (A.drop 0) = e) := by
        show lensA A = e
        rw [HEA.out]
        have h9 := hr.out.2.1
        rw [← HTL.out, List.drop_length, show edgesF ts.length [] = 0 from rfl] at h9
        omega
      have HWZ : Hid (Below w4.heap.size w4 wr) := hr.out.1
      have HBD : Hid (∀ i, lensA (A.drop i) ≤ 800) := fun i => by
        have h9 := lens_drop_le A i
        have h8 := HEB.out
        rw [HEA.out] at h9
        omega
      clear hi hr HB hin
      generalize wr = wz at *
      go_wp2
      go_loopw [5, 9] (fun ve vi wq => ∃ (e i : Nat), ve = .int .i64 e ∧ vi = .int .i64 i ∧ i ≤ n ∧ Hid (Below w4.heap.size w4 wq ∧ lensA (A.drop i) = e)) (fun _ vi _ => n - (intOf vi).toNat)
      case atStart => exact ⟨e, 0, rfl, rfl, by omega, HWZ.out, HE3.out⟩
      case round =>
        obtain ⟨e2, i, rfl, rfl, hi, hr⟩ := hrel
        clear HE3 HWZ f0 f1 f2 f3 f4 f5 he800
        obtain ⟨f0, f1, f2, f3, f4, f5⟩ := box6 (HLW.out _ hr.out.1).box
        by_cases hin : i < n
        · have hin' : (i : Int) < n := by omega
          obtain ⟨ka, kc, ck, hkI⟩ := (HLW.out _ hr.out.1).row i hin
          have hld := lensA_drop (A := A) (i := i) (by rw [HAN.out]; exact hin)
          rw [hr.out.2] at hld
          have hb1 := HBD.out (i + 1)
          have hb0 := HAL.out HN.out i hin
          have HUP : Hid _ := HED.out.up i (by rw [HTL.out]; exact hin)
          have HMT : Hid _ := HED.out.met i (by rw [HTL.out]; exact hin)
          have HAI : Hid (∀ W, Below w4.heap.size w4 W → _) := fun W hb => among_any O (i : Int) _ W (HLW.out _ hb).ord
          have HLT : Hid _ := (HLW.out _ hr.out.1).lt
          generalize A.getD i [] = rr at *
          have HKI : Hid (IntsAt wr (.slice ka rr.length kc) rr) := hkI
          obtain ⟨X, hX⟩ : ∃ X, X = lensA (A.drop (i + 1)) := ⟨_, rfl⟩
          rw [← hX] at hld hb1
          have HXX : Hid _ := hX
          subst hld
          obtain ⟨M, hM⟩ : ∃ M, M = amongB O (i : Int) := ⟨_, rfl⟩
          rw [← hM] at HMT HAI
          have HM0 : Hid (∀ b : Bool, b = decide (i = 0) → (b || (rr.drop 0).any (amongB O ·)) = M) := fun b hb => by rw [HMT.out, hb]; rfl
          have HZ1 : Hid (((i : Int) == 0) = decide (i = 0)) := by
            show _ = _
            rw [Bool.eq_iff_iff]
            simp
          have HBW : Hid (Below w4.heap.size w4 wr) := hr.out.1
          clear hX hM HMT hkI HED HTM HTL hr
          generalize wr = wy at *
          go_wp2
          go_loopw [10, 11] (fun vm vk wq => ∃ (mt : Bool) (k : Nat), vm = .bool mt ∧ vk = .int .i64 k ∧ k ≤ rr.length ∧ Hid (Below wy.heap.size wy wq ∧ (mt || (rr.drop k).any (amongB O ·)) = M)) (fun _ vk _ => rr.length - (intOf vk).toNat)
          case atStart => exact ⟨_, 0, rfl, rfl, by omega, Below.refl _ _, HM0.out _ (by first | exact HZ1.out | simp)⟩
          case round =>
            obtain ⟨mt, k, rfl, rfl, hk, hq⟩ := hrel
            clear f0 f1 f2 f3 f4 f5 HM0 HZ1
            have HBQ : Hid (Below w4.heap.size w4 wr) := below_trans HBW.out hq.out.1
            obtain ⟨f0, f1, f2, f3, f4, f5⟩ := box6 (HLW.out _ HBQ.out).box
            have ck' : wr.cell? ⟨w2.heap.size + 1, i, none⟩ = some (.slice ka rr.length kc) := (hq.out.1.cell (p := ⟨w2.heap.size + 1, i, none⟩) HLT.out).trans ck
            by_cases hkn : k < rr.length
            · have hkn' : (k : Int) < rr.length := by omega
              have hget := fun j (hj : j < rr.length) => IntsAt.get (IntsAt.below HKI.out hq.out.1) (i := j) hj
              obtain ⟨gk, ok, rfl, hgk, cc⟩ := hget k hkn
              have HAD : Hid _ := any_drop (r := rr) (p := fun x => amongB O x) hkn
              rcases k with _ | k1
              · rw [Nat.add_zero] at cc
                generalize rr.getD 0 0 = x at *
                have HAM : Hid (Calls Tryd.prog 13 #[.slice oa O.length oc, .int .i64 x] wr fun e w' => e = .returned (.bool (amongB O x)) ∧ w' = wr) := among_any O x _ wr (HLW.out _ HBQ.out).ord
                generalize amongB O x = bx at *
                clear hget
                cases mt with
                | true =>
                  have HX : Hid ((true || (rr.drop (0 + 1)).any (fun x => amongB O x)) = M) := by have h9 := hq.out.2; rw [Bool.true_or] at h9 ⊢; exact h9
                  clear HAM HAD
                  go_wp2
                  go_quiet (fail)
                  go_wp2
                  go_roundw
                  case rel => exact ⟨true, 0 + 1, rfl, by first | rfl | (congr 1; omega), by omega, by repeat (first | exact hq.out.1 | refine below_drewN ?_ _ | refine below_drew ?_), HX.out⟩
                  case measure => simp [intOf]; omega
                | false =>
                  have HX : Hid ((bx || (rr.drop (0 + 1)).any (fun x => amongB O x)) = M) := by have h9 := hq.out.2; rw [Bool.false_or, HAD.out] at h9; exact h9
                  clear HAD
                  go_wp2_with (go_at_call 13; refine Calls.mono (by with_reducible exact HAM.out) ?_; rintro e' wx ⟨rfl, hwx⟩; subst wx)
                  go_quiet (fail)
                  go_wp2
                  refine ⟨?_, ?measure⟩
                  (repeat apply Exists.intro)
                  refine ⟨?rel, rfl⟩
                  case rel => exact ⟨bx, 0 + 1, rfl, by first | rfl | (congr 1; omega), by omega, by repeat (first | exact hq.out.1 | refine below_drewN ?_ _ | refine below_drew ?_), HX.out⟩
                  case measure => simp [intOf]; omega
              · obtain ⟨gk2, ok2, e5, _, cd⟩ := hget k1 (by omega)
                cases e5
                have hxy := up_lt HUP.out hkn
                generalize rr.getD (k1 + 1) 0 = x at *
                generalize rr.getD k1 0 = y at *
                have hxy2 : ¬ x ≤ y := by omega
                have hxy3 : decide (x ≤ y) = false := decide_eq_false hxy2
                have hk1 : (k1 : Int) < rr.length := by omega
                have HAM : Hid (Calls Tryd.prog 13 #[.slice oa O.length oc, .int .i64 x] wr fun e w' => e = .returned (.bool (amongB O x)) ∧ w' = wr) := among_any O x _ wr (HLW.out _ HBQ.out).ord
                generalize amongB O x = bx at *
                clear hget
                cases mt with
                | true =>
                  have HX : Hid ((true || (rr.drop ((k1 + 1) + 1)).any (fun x => amongB O x)) = M) := by have h9 := hq.out.2; rw [Bool.true_or] at h9 ⊢; exact h9
                  clear HAM HAD
                  go_wp2
                  go_quiet (fail)
                  go_wp2
                  refine ⟨?_, ?measure⟩
                  (repeat apply Exists.intro)
                  refine ⟨?rel, rfl⟩
                  case rel => exact ⟨true, (k1 + 1) + 1, rfl, by first | rfl | (congr 1; omega), by omega, by repeat (first | exact hq.out.1 | refine below_drewN ?_ _ | refine below_drew ?_), HX.out⟩
                  case measure => simp [intOf]; omega
                | false =>
                  have HX : Hid ((bx || (rr.drop ((k1 + 1) + 1)).any (fun x => amongB O x)) = M) := by have h9 := hq.out.2; rw [Bool.false_or, HAD.out] at h9; exact h9
                  clear HAD
                  go_wp2_with (go_at_call 13; refine Calls.mono (by with_reducible exact HAM.out) ?_; rintro e' wx ⟨rfl, hwx⟩; subst wx)
                  go_quiet (fail)
                  go_wp2
                  refine ⟨?_, ?measure⟩
                  (repeat apply Exists.intro)
                  refine ⟨?rel, rfl⟩
                  case rel => exact ⟨bx, (k1 + 1) + 1, rfl, by first | rfl | (congr 1; omega), by omega, by repeat (first | exact hq.out.1 | refine below_drewN ?_ _ | refine below_drew ?_), HX.out⟩
                  case measure => simp [intOf]; omega
            · obtain rfl : k = rr.length := by omega
              have hmt : mt = M := by have h9 := hq.out.2; rw [List.drop_length] at h9; simpa using h9
              subst hmt
              have HAJ : Hid (Calls Tryd.prog 13 #[.slice oa O.length oc, .int .i64 (i : Int)] wr fun e w' => e = .returned (.bool mt) ∧ w' = wr) := HAI.out wr HBQ.out
              clear HAI
              have HEX : Hid (lensA (A.drop (i + 1)) = X) := HXX.out.symm
              cases mt with
              | true =>
                go_wp2_with (go_at_call 13; refine Calls.mono (by with_reducible exact HAJ.out) ?_; rintro e' wx ⟨rfl, hwx⟩; subst wx)
                go_roundw
                case rel => exact ⟨X, i + 1, by first | rfl | (congr 1; omega), by first | rfl | (congr 1; omega), by omega, HBQ.out, HEX.out⟩
                case measure => simp [intOf]; omega
              | false =>
                go_wp2_with (go_at_call 13; refine Calls.mono (by with_reducible exact HAJ.out) ?_; rintro e' wx ⟨rfl, hwx⟩; subst wx)
                go_roundw
                case rel => exact ⟨X, i + 1, by first | rfl | (congr 1; omega), by first | rfl | (congr 1; omega), by omega, HBQ.out, HEX.out⟩
                case measure => simp [intOf]; omega
        · have hne : n = i := by omega
          subst hne
          have he0 : e2 = 0 := by have h9 := hr.out.2; rw [← HAN.out, List.drop_length] at h9; exact h9.symm
          subst he0
          have hnil := HED.out.nil
          rw [HTL.out] at hnil
          have HFI : Hid (Below w.heap.size w wr) := HRT.out _ hr.out.1
          clear hr HED HTL HAL HBD HAN
          generalize O.length = ol at *
          by_cases h0 : n = 0
          · subst h0
            have hol : ol = 0 := by simpa using hnil
            subst hol
            clear hnil
            go_wp2
            go_ret
            exact ⟨ret_bool (by first | rfl | simp), HFI.out⟩
          · have hol : ol ≠ 0 := by
              intro h9
              rw [h9] at hnil
              simp at hnil
              exact h0 hnil
            have z1 : ((n : Int) == 0) = false := beq_false_of_ne (by omega)
            have z2 : ((ol : Int) == 0) = false := beq_false_of_ne (by omega)
            clear hnil
            go_wp2
            go_ret
            exact ⟨ret_bool (by first | rfl | simp [z1, z2]), HFI.out⟩
end Go.Proofs.YtkgjcjakadofpaaDoor
