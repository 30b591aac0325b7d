/- The document's side: is a graph right in a program? -/
import Derived.Test.YtdibkfiffdbfnaaDoorGRAll
import Derived.Test.YtdibkfiffdbfnaaDoorGRCall
namespace Go.Proofs.YtdibkfiffdbfnaaDoor
open Go.RowKit Go.Sort

def insR (p : List Gr) (G : Gr) (x : In) : Bool := (x.kind != 9) || calledR p G.vars x
def bodyR (p : List Gr) (G : Gr) (b : Bl) : Bool := b.ins.all (insR p G)
def rightR (p : List Gr) (G : Gr) : Bool := aloneG G && G.blocks.all (bodyR p G)
theorem aloneG_ins {G : Gr} (h : aloneG G = true) : ∀ b ∈ G.blocks, ∀ x ∈ b.ins, aloneR G x = true := by
  intro b hb x hx
  unfold aloneG at h
  simp only [Bool.and_eq_true] at h
  have h1 := List.all_eq_true.1 h.2.1 b hb
  unfold blockR at h1
  rw [Bool.and_eq_true] at h1
  exact List.all_eq_true.1 h1.2 x hx
set_option maxRecDepth 100000 in
set_option maxHeartbeats 4000000 in
theorem rright_g (p : List Gr) (ppv : Value) (G : Gr) (pv vv av bv : Value) (w : World) (hp : GrsAt w ppv p) (h : GrAt w pv vv av bv G) (hn : G.blocks.length ≤ 100000) :
    Calls Tryd.prog 15 #[ppv, .agg #[.string G.name, pv, .int .u8 G.result, vv, av, bv]] w fun e w' => e = .returned (.bool (rightR p G)) ∧ Below w.heap.size w w' := by
  have HC1 : Hid (∀ W, Below w.heap.size w W → Calls Tryd.prog 29 #[.agg #[.string G.name, pv, .int .u8 G.result, vv, av, bv]] W fun e w' => e = .returned (.bool (aloneG G)) ∧ Below W.heap.size W w') := fun W hb => raloneG_any G pv vv av bv W (h.below hb) hn
  have HC3 : Hid (∀ x xv W, Below w.heap.size w W → IntsAt w xv x.args → inB x.dst G.vars.length = true → x.args.all (inB · G.vars.length) = true → Calls Tryd.prog 30 #[ppv, .agg #[.string G.name, pv, .int .u8 G.result, vv, av, bv], inV x xv] W fun e w' => e = .returned (.bool (calledR p G.vars x)) ∧ Below W.heap.size W w') := fun x xv W hb hA hd ha => rcalled_any p ppv G pv vv av bv x xv W (hp.below hb) (h.below hb) (hA.below hb) hd ha
  obtain ⟨pa, pc, va, vc, aa, ac, ba, bc, rfl, rfl, rfl, rfl, _, _, _, hbl⟩ := h.openF
  obtain ⟨qa, qc, rfl, _⟩ := hp.form
  have HB : Hid (∀ i, i < G.blocks.length → _) := fun i hi => h.bs.get (i := i) hi
  have HN : Hid (∀ i, i < G.blocks.length → (G.blocks.drop i).all (bodyR p G) = ((G.blocks.getD i default).ins.all (insR p G) && (G.blocks.drop (i + 1)).all (bodyR p G))) := fun i hi => by
    rw [all_drop (d := default) hi]
    rfl
  have HZ : Hid ((G.blocks.drop G.blocks.length).all (bodyR p G) = true) := by show _ = _; rw [List.drop_length]; rfl
  have HAI : Hid (aloneG G = true → ∀ i, i < G.blocks.length → ∀ x ∈ (G.blocks.getD i default).ins, aloneR G x = true) := fun ha i hi x hx => aloneG_ins ha _ (by rw [List.getD, List.getElem?_eq_getElem hi]; exact List.getElem_mem hi) x hx
  obtain ⟨R, hR⟩ : ∃ R, R = rightR p G := ⟨_, rfl⟩
  rw [← hR]
  unfold rightR at hR
  have HAD : Hid (∀ x, aloneR G x = true → x.kind = 9 → inB x.dst G.vars.length = true ∧ x.args.all (inB · G.vars.length) = true) := fun x hx hk => ⟨aloneR_dst hx (by omega), aloneR_args hx⟩
  clear h hn hp
  generalize p.length = pn at *
  generalize G.blocks.length = n at *
  generalize G.name = nm at *
  generalize G.params.length = pl at *
  generalize G.vars.length = m at *
  generalize G.arrs.length = al at *
  generalize G.result = r at *
  have H0 : Hid (Below w.heap.size w (w.alloc (.cells #[.string nm, .slice pa pl pc, .int .u8 r, .slice va m vc, .slice aa al ac, .slice ba n bc] 35)) ∧ Box (w.alloc (.cells #[.string nm, .slice pa pl pc, .int .u8 r, .slice va m vc, .slice aa al ac, .slice ba n bc] 35)) w.heap.size [.string nm, .slice pa pl pc, .int .u8 r, .slice va m vc, .slice aa al ac, .slice ba n bc]) := ⟨below_alloc (Below.refl _ _) _, Box.new w [.string nm, .slice pa pl pc, .int .u8 r, .slice va m vc, .slice aa al ac, .slice ba n bc] 35⟩
  cases hhd : aloneG G with
  | false =>
    rw [hhd] at HC1 hR
    have HR : Hid (R = false) := by show _ = _; rw [hR]; rfl
    clear hR HC3 HB HN HZ hhd HAI HAD
    go_enter Tryd.func15, Tryd.ntmps15
    go_wp2_with (go_at_call 29; go_loud (refine Calls.mono (by exact HC1.out _ H0.out.1) ?_; rintro e w1 ⟨rfl, hb⟩; have H1 : Hid (Below w.heap.size w w1 ∧ Box w1 w.heap.size [.string nm, .slice pa pl pc, .int .u8 r, .slice va m vc, .slice aa al ac, .slice ba n bc]) := ⟨below_trans H0.out.1 hb, H0.out.2.below hb⟩; obtain ⟨f0, f1, f2, f3, f4, f5⟩ := box6 H1.out.2; have hwl := H1.out.2.lt; clear hb))
    go_ret
    exact ⟨ret_bool HR.out.symm, H1.out.1⟩
  | true =>
    rw [hhd, Bool.true_and] at hR
    have HAJ : Hid _ := HAI.out hhd
    rw [hhd] at HC1
    have HQ : Hid (R = (G.blocks.drop 0).all (bodyR p G)) := hR
    clear hR hhd HAI
    go_enter Tryd.func15, Tryd.ntmps15
    go_wp2_with (go_at_call 29; go_loud (refine Calls.mono (by exact HC1.out _ H0.out.1) ?_; rintro e w1 ⟨rfl, hb⟩; have H1 : Hid (Below w.heap.size w w1 ∧ Box w1 w.heap.size [.string nm, .slice pa pl pc, .int .u8 r, .slice va m vc, .slice aa al ac, .slice ba n bc]) := ⟨below_trans H0.out.1 hb, H0.out.2.below hb⟩; obtain ⟨f0, f1, f2, f3, f4, f5⟩ := box6 H1.out.2; have hwl := H1.out.2.lt; clear hb))
    clear HC1
    go_loopw [5] (fun vi wr => ∃ i : Nat, vi = .int .i64 i ∧ i ≤ n ∧ Hid (R = (G.blocks.drop i).all (bodyR p G) ∧ Below w.heap.size w wr ∧ Box wr w.heap.size [.string nm, .slice pa pl pc, .int .u8 r, .slice va m vc, .slice aa al ac, .slice ba n bc])) (fun vi _ => n - (intOf vi).toNat)
    case atStart => exact ⟨0, rfl, by omega, HQ.out, H1.out.1, H1.out.2⟩
    case round =>
      obtain ⟨i, rfl, hi, hr⟩ := hrel
      clear HQ H0 H1 f0 f1 f2 f3 f4 f5 hwl
      obtain ⟨e0, e1, e2, e3, e4, e5⟩ := box6 hr.out.2.2
      have hwl := hr.out.2.2.lt
      by_cases hin : i < n
      · obtain ⟨g, o, iv, rfl, hg, c0, c1, c2, c3, c4, c5, hins⟩ := HB.out i hin
        obtain ⟨ia, ic, rfl, _⟩ := hins.form
        have hin' : (i : Int) < n := by omega
        have HC0 : Hid (w.cell? ⟨g, o + i * 6, none⟩ = _ ∧ g < w.heap.size) := ⟨c0, hg⟩
        have hd := hr.out.1
        rw [HN.out i hin] at hd
        generalize htl : (G.blocks.drop (i + 1)).all (bodyR p G) = tl at *
        have HTL : Hid _ := htl
        have hai := HAJ.out i hin
        clear htl
        generalize (G.blocks.getD i default).ins = L at *
        have HI : Hid (∀ k, k < L.length → _) := fun k hk => hins.get (i := k) hk
        have HLA : Hid (∀ k, k < L.length → aloneR G (L.getD k default) = true) := fun k hk => hai _ (by rw [List.getD, List.getElem?_eq_getElem hk]; exact List.getElem_mem hk)
        have HLN : Hid (∀ k, k < L.length → (L.drop k).all (insR p G) = (((L.getD k default).kind != 9 || calledR p G.vars (L.getD k default)) && (L.drop (k + 1)).all (insR p G))) := fun k hk => all_drop (d := default) hk
        have HLZ : Hid ((L.drop L.length).all (insR p G) = true) := by show _ = _; rw [List.drop_length]; rfl
        have HD : Hid (R = ((L.drop 0).all (insR p G) && tl)) := hd
        have HS0 : Hid (Below w.heap.size w wr ∧ Box wr w.heap.size [.string nm, .slice pa pl pc, .int .u8 r, .slice va m vc, .slice aa al ac, .slice (some ⟨g, o, none⟩) n bc]) := hr.out.2
        clear HB HN HZ hins hai hd hr c0 c1 c2 c3 c4 c5 HAJ
        generalize wr = ws at *
        go_wp2
        go_loopw [6] (fun vk wr => ∃ k : Nat, vk = .int .i64 k ∧ k ≤ L.length ∧ Hid (R = ((L.drop k).all (insR p G) && tl) ∧ Below w.heap.size w wr ∧ Box wr w.heap.size [.string nm, .slice pa pl pc, .int .u8 r, .slice va m vc, .slice aa al ac, .slice (some ⟨g, o, none⟩) n bc])) (fun vk _ => L.length - (intOf vk).toNat)
        case atStart => exact ⟨0, rfl, by omega, HD.out, HS0.out.1, HS0.out.2⟩
        case round =>
          obtain ⟨k, rfl, hk, hq⟩ := hrel
          clear HD HS0 e0 e1 e2 e3 e4 e5 hwl
          obtain ⟨e0, e1, e2, e3, e4, e5⟩ := box6 hq.out.2.2
          have hwl := hq.out.2.2.lt
          have c0 := (hq.out.2.1.cell (p := ⟨g, o + i * 6, none⟩) HC0.out.2).trans HC0.out.1
          by_cases hkn : k < L.length
          · obtain ⟨gi, oi, xv, rfl, hgi, d0, d1, d2, d3, d4, d5, hxa⟩ := HI.out k hkn
            have hkn' : (k : Int) < L.length := by omega
            have hcl : ∀ j, wr.cell? ⟨gi, j, none⟩ = w.cell? ⟨gi, j, none⟩ := fun j => hq.out.2.1.cell (p := ⟨gi, j, none⟩) hgi
            rw [← hcl] at d0 d1 d2 d3 d4 d5
            have hd := hq.out.1
            rw [HLN.out k hkn] at hd
            have HXI := fun W (hb : Below w.heap.size w W) hk9 => HC3.out (L.getD k default) xv W hb hxa (HAD.out _ (HLA.out k hkn) hk9).1 (HAD.out _ (HLA.out k hkn) hk9).2
            obtain ⟨xa, xc, rfl, hxl⟩ := hxa.form
            unfold inV at HXI
            generalize calledR p G.vars (L.getD k default) = ab at *
            generalize (L.getD k default).args.length = xn at *
            generalize (L.getD k default).kind = x0 at *
            generalize (L.getD k default).op = x1 at *
            generalize (L.getD k default).dst = x2 at *
            generalize (L.getD k default).bits = x4 at *
            generalize (L.getD k default).ref = x5 at *
            have HBR : Hid (Below w.heap.size w wr) := hq.out.2.1
            have HBX : Hid (Box wr w.heap.size [.string nm, .slice pa pl pc, .int .u8 r, .slice va m vc, .slice aa al ac, .slice (some ⟨g, o, none⟩) n bc]) := hq.out.2.2
            clear hcl hxa hq HI HLA HLN HLZ HAD
            by_cases hx9 : x0 = 9
            rotate_left
            · have f9 : (x0 == 9) = false := beq_false_of_ne hx9
              have HD : Hid (R = ((L.drop (k + 1)).all (insR p G) && tl)) := by show _ = _; rw [hd, bne_iff_ne.2 hx9, Bool.true_or, Bool.true_and]
              clear hd HXI hx9
              go_wp2
              go_quiet (fail)
              go_wp2
              go_roundw
              case rel => exact ⟨k + 1, by first | rfl | (congr 1; omega), by omega, HD.out, by repeat (first | exact HBR.out | refine below_drewN ?_ _ | refine below_drew ?_), HBX.out.same (by rfl)⟩
              case measure => simp [intOf]; omega
            subst hx9
            have C1 : ∀ d os, _ := fun d os => Calls.regrown_of (HXI (grow (redrawn wr d) os) (below_trans HBR.out (below_regrown wr d os)) rfl)
            have D1 : Hid _ := C1
            clear HXI C1
            have ke0 := cell_regrown e0
            have ke1 := cell_regrown e1
            have ke2 := cell_regrown e2
            have ke3 := cell_regrown e3
            have ke4 := cell_regrown e4
            have ke5 := cell_regrown e5
            have kc0 := cell_regrown c0
            have kd0 := cell_regrown d0
            have kd1 := cell_regrown d1
            have kd2 := cell_regrown d2
            have kd3 := cell_regrown d3
            have kd4 := cell_regrown d4
            have kd5 := cell_regrown d5
            cases ab with
            | false =>
              have HD : Hid (R = false) := by show R = false; rw [hd]; simp
              clear hd HC3
              go_wp2
              refine wp_region_quiet_below (by kernel_rfl) (by kernel_rfl) ?_
              repeat (go_big_quiet_step ((with_reducible exact D1.out _ _)))
              refine wpQuiet_nil ?_
              intro _ hw'
              obtain ⟨⟨dq, osq⟩, hw''⟩ := hw'
              subst hw''
              go_wp2
              go_ret
              exact ⟨ret_bool HD.out.symm, below_trans HBR.out (below_regrown wr dq osq)⟩
            | true =>
              have HD : Hid (R = ((L.drop (k + 1)).all (insR p G) && tl)) := by show _ = _; rw [hd, Bool.or_true, Bool.true_and]
              clear hd
              go_wp2
              refine wp_region_quiet_below (by kernel_rfl) (by kernel_rfl) ?_
              repeat (go_big_quiet_step ((with_reducible exact D1.out _ _)))
              refine wpQuiet_nil ?_
              intro _ hw'
              obtain ⟨⟨dq, osq⟩, hw''⟩ := hw'
              subst hw''
              go_wp2
              go_roundw
              case rel => exact ⟨k + 1, by first | rfl | (congr 1; omega), by omega, HD.out, below_trans HBR.out (below_regrown wr dq osq), HBX.out.below (below_regrown wr dq osq)⟩
              case measure => simp [intOf]; omega
          · obtain rfl : k = L.length := by omega
            have HD : Hid (R = (G.blocks.drop (i + 1)).all (bodyR p G)) := by
              show _ = _
              rw [HTL.out]
              have h9 := hq.out.1
              rw [HLZ.out, Bool.true_and] at h9
              exact h9
            clear HI HLA HLN HLZ HC3 HAD
            go_wp2
            go_roundw
            case rel => exact ⟨i + 1, by first | rfl | (congr 1; omega), by omega, HD.out, hq.out.2.1, hq.out.2.2⟩
            case measure => simp [intOf]; omega
      · obtain rfl : i = n := by omega
        have HD : Hid (R = true) := hr.out.1.trans HZ.out
        clear HB HN HZ HC3 HAJ HAD
        go_wp2
        go_ret
        exact ⟨ret_bool HD.out.symm, hr.out.2.1⟩
end Go.Proofs.YtdibkfiffdbfnaaDoor
