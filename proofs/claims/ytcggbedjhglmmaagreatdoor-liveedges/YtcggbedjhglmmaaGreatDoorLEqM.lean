/- A graph with constants in the place of calls is right, if the graph is right by itself. Plain. -/
import Derived.Test.YtcggbedjhglmmaaGreatDoorLUk
import Derived.Test.YtcggbedjhglmmaaGreatDoorLShpM
import Derived.Test.YtcggbedjhglmmaaGreatDoorLCiM
import Derived.Test.YtcggbedjhglmmaaGreatDoorLFo
namespace Go.Proofs.YtcggbedjhglmmaaGreatDoor

theorem unkI_kind (x : In) : (unkI x).kind = 1 ↔ x.kind = 1 := by
  unfold unkI; split
  · rename_i h; rw [h]; simp
  · rfl
theorem unkI_phi {x : In} (h : x.kind = 1) : unkI x = x := by unfold unkI; rw [if_neg (by omega)]
theorem phiR_unk {i na : Nat} : ∀ (l : List In) (k : Nat) (st : List Int), phiR i na (l.map unkI) k st = phiR i na l k st
  | [], _, _ => rfl
  | x :: l, k, st => by
    rw [List.map_cons]
    unfold phiR
    by_cases h : x.kind = 1
    · rw [if_pos ((unkI_kind x).2 h), if_pos h, unkI_phi h, phiR_unk l]
    · rw [if_neg (fun hc => h ((unkI_kind x).1 hc)), if_neg h, phiR_unk l]
theorem phisRF_unk {rows : List (List Int)} : ∀ (l : List Bl) (i : Nat), phisRF rows (l.map unkB) i = phisRF rows l i
  | [], _ => rfl
  | b :: l, i => by
    rw [List.map_cons]
    unfold phisRF
    rw [phisRF_unk l]
    congr 1
    exact phiR_unk b.ins 0 []
theorem right_nought {t : Int} (h : scB t = true) : rightB t 0 = true := by
  unfold scB at h
  simp only [decide_eq_true_eq] at h
  have h5 : t = 1 ∨ t = 2 ∨ t = 3 ∨ t = 4 ∨ t = 5 := by omega
  rcases h5 with rfl | rfl | rfl | rfl | rfl <;> decide +kernel
theorem aloneR_unk {G : Gr} (hh : headR G = true) {x : In} (h : aloneR G x = true) : aloneR (unkG G) (unkI x) = true := by
  have e : ∀ y, aloneR (unkG G) y = aloneR G y := fun y => rfl
  rw [e]
  by_cases h9 : x.kind = 9
  · obtain ⟨k, op, dst, args, bits, ref⟩ := x
    dsimp only at h9
    subst h9
    have e2 : unkI ⟨9, op, dst, args, bits, ref⟩ = ⟨2, 0, dst, [], 0, 0⟩ := rfl
    rw [e2]
    have hd : inB dst G.vars.length = true := by
      unfold aloneR at h
      simp only [Bool.and_eq_true] at h
      have := h.2.2.2.2.1
      simpa using this
    have ht : scB (varT G.vars dst) = true := by
      unfold headR at hh
      simp only [Bool.and_eq_true] at hh
      have hv := hh.2.2.2.2.2.2.2.1
      obtain ⟨k, hk⟩ : ∃ k : Nat, dst = (k : Int) := Int.eq_ofNat_of_zero_le (inB_iff.1 hd).1
      have hlt : k < G.vars.length := by have := (inB_iff.1 hd).2; omega
      unfold varT
      rw [hk, Int.toNat_natCast, List.getD, List.getElem?_eq_getElem hlt]
      exact List.all_eq_true.1 hv _ (List.getElem_mem hlt)
    unfold aloneR kindR plainB
    simp [hd, right_nought ht]
  · have e2 : unkI x = x := by unfold unkI; rw [if_neg h9]
    rw [e2]; exact h
theorem tms_unk (bs : List Bl) : tms (bs.map unkB) = tms bs := by
  unfold tms; rw [List.map_map]; rfl
theorem aloneG_unk {G : Gr} (h : aloneG G = true) : aloneG (unkG G) = true := by
  have hh : headR (unkG G) = headR G := by unfold headR unkG; simp
  have hp : phisR (unkG G) = phisR G := by
    unfold phisR unkG
    dsimp only
    rw [tms_unk, phisRF_unk]
  have hr : ∀ t, rendB (unkG G) t = rendB G t := fun t => by unfold rendB unkG; simp
  unfold aloneG at h ⊢
  simp only [Bool.and_eq_true] at h ⊢
  rw [hh, hp]
  refine ⟨h.1, ?_, h.2.2⟩
  rw [List.all_eq_true]
  intro b hb
  obtain ⟨c, hc, rfl⟩ := List.mem_map.1 hb
  have h1 := List.all_eq_true.1 h.2.1 c hc
  unfold blockR at h1 ⊢
  rw [Bool.and_eq_true] at h1 ⊢
  refine ⟨by rw [hr]; exact h1.1, ?_⟩
  show ((c.ins.map unkI).all _) = true
  rw [List.all_eq_true]
  intro x hx
  obtain ⟨y, hy, rfl⟩ := List.mem_map.1 hx
  exact aloneR_unk h.1 (List.all_eq_true.1 h1.2 y hy)
theorem unkG_nocall (G : Gr) (p : List Gr) : (unkG G).blocks.all (bodyR p (unkG G)) = true := by
  simp only [List.all_eq_true, unkG, List.mem_map, forall_exists_index, and_imp, forall_apply_eq_imp_iff₂]
  intro b _
  unfold bodyR unkB
  simp only [List.all_eq_true, List.mem_map, forall_exists_index, and_imp, forall_apply_eq_imp_iff₂]
  intro x _
  unfold insR
  have : ((unkI x).kind != 9) = true := by
    unfold unkI; split
    · rfl
    · rename_i h; simpa using h
  rw [this]; rfl
theorem check_unk {G : Gr} (h : aloneG G = true) (hl : ∀ b ∈ G.blocks, ∀ x ∈ b.ins, x.args.length ≤ 140737488355328) : checkT [unkG G] = (0, 0) := by
  rw [check_one]
  rw [if_pos]
  rw [graph_same (p := [unkG G]) (G := unkG G)]
  · unfold rightR
    rw [unkG_nocall, Bool.and_true]
    exact aloneG_unk h
  · intro b hb x hx
    obtain ⟨b0, hb0, rfl⟩ := List.mem_map.1 hb
    obtain ⟨x0, hx0, rfl⟩ := List.mem_map.1 hx
    unfold unkI
    split
    · simp
    · exact hl b0 hb0 x0 hx0
end Go.Proofs.YtcggbedjhglmmaaGreatDoor
/- The law's own: is a graph great? (with arrays and parameters) -/
namespace Go.Proofs.YtcggbedjhglmmaaGreatDoor
open Go.RowKit

set_option maxRecDepth 100000 in
set_option maxHeartbeats 2000000 in
theorem greatE_any (G : Gr) (pv vv av bv : Value) (w : World) (h : GrAt w pv vv av bv G) :
    Calls Tryz.prog 5 #[.agg #[.string G.name, pv, .int .u8 G.result, vv, av, bv]] w fun e w' => ∃ b, e = .returned (.bool b) ∧ Hid (b = false → szB G.blocks ≤ 720 ∧ G.vars.length ≤ 240 ∧ G.arrs.length ≤ 720 ∧ G.params.length ≤ 120) ∧ Below w.heap.size w w' := by
  obtain ⟨pa, pc, va, vc, aa, ac, ba, bc, rfl, rfl, rfl, rfl, hpl, hml, hal, hbl⟩ := h.openF
  have HB : Hid (∀ i, i < G.blocks.length → _) := fun i hi => h.bs.get (i := i) hi
  have HSD : Hid (∀ i, i < G.blocks.length → szB (G.blocks.drop i) = argS (G.blocks.getD i default).ins + (G.blocks.getD i default).ins.length + 1 + szB (G.blocks.drop (i + 1))) := fun i hi => by
    have h9 := szB_drop hi
    rw [argS_szI] at h9
    exact h9
  have HSE : Hid (szB (G.blocks.drop G.blocks.length) = 0) := szB_end _
  obtain ⟨nm, ps, r, vs, ars, bs⟩ := G
  dsimp only at HB HSD HSE hbl hpl hml hal ⊢
  clear h
  obtain ⟨Z, hZ⟩ : ∃ Z, Z = szB bs := ⟨_, rfl⟩
  rw [← hZ]
  have HZ0 : Hid (Z = szB (bs.drop 0)) := hZ
  clear hZ
  generalize bs.length = n at *
  generalize ps.length = pl at *
  generalize vs.length = m at *
  generalize ars.length = al at *
  have hpl' : (pl : Int) ≤ 140737488355328 := by omega
  have hml' : (m : Int) ≤ 140737488355328 := by omega
  have hal' : (al : Int) ≤ 140737488355328 := by omega
  have H0 : Hid (Below w.heap.size w (w.alloc (.cells #[.string nm, .slice pa pl pc, .int .u8 r, .slice va m vc, .slice aa al ac, .slice ba n bc] 28)) ∧ Box (w.alloc (.cells #[.string nm, .slice pa pl pc, .int .u8 r, .slice va m vc, .slice aa al ac, .slice ba n bc] 28)) w.heap.size [.string nm, .slice pa pl pc, .int .u8 r, .slice va m vc, .slice aa al ac, .slice ba n bc]) := ⟨below_alloc (Below.refl _ _) _, Box.new w [.string nm, .slice pa pl pc, .int .u8 r, .slice va m vc, .slice aa al ac, .slice ba n bc] 28⟩
  obtain ⟨C, hCt, hCf, hCn⟩ : ∃ C : Bool → Prop, C true ∧ (Z ≤ 720 ∧ m ≤ 240 ∧ al ≤ 720 ∧ pl ≤ 120 → C false) ∧ (∀ b, C b → Hid (b = false → Z ≤ 720 ∧ m ≤ 240 ∧ al ≤ 720 ∧ pl ≤ 120)) := ⟨fun b => b = false → Z ≤ 720 ∧ m ≤ 240 ∧ al ≤ 720 ∧ pl ≤ 120, (fun h => nomatch h), (fun h _ => h), (fun b h => h)⟩
  have HCT : Hid (C true) := hCt
  have HCF : Hid (Z ≤ 720 ∧ m ≤ 240 ∧ al ≤ 720 ∧ pl ≤ 120 → C false) := hCf
  refine Calls.mono (R := fun e w' => ∃ b, e = .returned (.bool b) ∧ C b ∧ Below w.heap.size w w') ?_ (fun e w' ⟨b, he, hc, hb⟩ => ⟨b, he, hCn b hc, hb⟩)
  clear hCt hCf hCn
  go_enter Tryz.func5, Tryz.ntmps5
  go_wp2
  go_loopw [3, 4] (fun vn vi wr => ∃ (x i : Nat), vn = .int .i64 (x : Int) ∧ vi = .int .i64 i ∧ i ≤ n ∧ x ≤ 422212465065984 ∧ Hid ((Below w.heap.size w wr ∧ Box wr w.heap.size [.string nm, .slice pa pl pc, .int .u8 r, .slice va m vc, .slice aa al ac, .slice ba n bc]) ∧ (x ≤ 720 → Z = x + szB (bs.drop i)))) (fun _ vi _ => n - (intOf vi).toNat)
  case atStart => exact ⟨0, 0, rfl, rfl, by omega, by omega, H0.out, fun _ => by rw [Nat.zero_add]; exact HZ0.out⟩
  case round =>
    obtain ⟨x, i, rfl, rfl, hi, hx, hr⟩ := hrel
    clear H0 HZ0
    obtain ⟨e0, e1, e2, e3, e4, e5⟩ := box6 hr.out.1.2
    have hwl := hr.out.1.2.lt
    have hx' : (x : Int) ≤ 422212465065984 := by omega
    by_cases hbig : 720 < x
    · have hb1 : ¬ (x : Int) ≤ 720 := by omega
      have hb2 : (720 : Int) < x := by omega
      have HX : Hid _ := hr.out.1.1
      clear HB HSD HSE hr
      by_cases hin : i < n
      · have hin' : (i : Int) < n := by omega
        go_wp2
        go_ret
        first | exact ⟨true, rfl, HCT.out, HX.out⟩ | exact Or.inr ⟨rfl, HCT.out, HX.out⟩
      · have hin' : ¬ (i : Int) < n := by omega
        go_wp2
        go_ret
        first | exact ⟨true, rfl, HCT.out, HX.out⟩ | exact Or.inr ⟨rfl, HCT.out, HX.out⟩
    have hb1 : (x : Int) ≤ 720 := by omega
    have hb2 : ¬ (720 : Int) < x := by omega
    by_cases hin : i < n
    · obtain ⟨g, o, iv, rfl, hg, c0, c1, c2, c3, c4, c5, hins⟩ := HB.out i hin
      obtain ⟨ia, ic, rfl, hil⟩ := hins.form
      have hin' : (i : Int) < n := by omega
      have HE : Hid (Z = x + szB (bs.drop i)) := hr.out.2 (by omega)
      have HS1 : Hid _ := HSD.out i hin
      have HRR : Hid _ := hr.out.1
      generalize (bs.getD i default).ins = L at *
      have HI : Hid (∀ k, k < L.length → _) := fun k hk => hins.get (i := k) hk
      have HC0 : Hid _ := c0
      have HG : Hid (g < w.heap.size) := hg
      have c0' : wr.cell? ⟨g, o + i * 6, none⟩ = some (.slice ia L.length ic) := (hr.out.1.1.cell (p := ⟨g, o + i * 6, none⟩) hg).trans c0
      have hil' : (L.length : Int) ≤ 140737488355328 := by omega
      have HQ0 : Hid (x + 1 + L.length ≤ 720 → Z = x + 1 + L.length + argS (L.drop 0) + szB (bs.drop (i + 1))) := fun _ => by have h8 := HE.out; have h9 := HS1.out; rw [List.drop_zero]; omega
      clear HB c0 c1 c2 c3 c4 c5 hins hg hr HE HS1 HSD
      generalize wr = wo at *
      go_wp2
      go_loopw [3, 5] (fun vn vk wr => ∃ (y k : Nat), vn = .int .i64 (y : Int) ∧ vk = .int .i64 k ∧ k ≤ L.length ∧ y ≤ 422212465065984 ∧ Hid ((Below w.heap.size w wr ∧ Box wr w.heap.size [.string nm, .slice pa pl pc, .int .u8 r, .slice va m vc, .slice aa al ac, .slice (some ⟨g, o, none⟩) n bc]) ∧ (y ≤ 720 → Z = y + argS (L.drop k) + szB (bs.drop (i + 1))))) (fun _ vk _ => L.length - (intOf vk).toNat)
      case atStart => exact ⟨x + 1 + L.length, 0, by first | rfl | (congr 1; omega) | (simp; omega), rfl, by omega, by omega, HRR.out, HQ0.out⟩
      case round =>
        obtain ⟨y, k, rfl, rfl, hk, hyl, hq⟩ := hrel
        clear e0 e1 e2 e3 e4 e5 c0' HQ0
        obtain ⟨e0, e1, e2, e3, e4, e5⟩ := box6 hq.out.1.2
        have hwl2 := hq.out.1.2.lt
        have hyl' : (y : Int) ≤ 422212465065984 := by omega
        have c0' : wr.cell? ⟨g, o + i * 6, none⟩ = some (.slice ia L.length ic) := (hq.out.1.1.cell (p := ⟨g, o + i * 6, none⟩) HG.out).trans HC0.out
        by_cases hkn : k < L.length
        · have hkn' : (k : Int) < L.length := by omega
          obtain ⟨gi, oi, xv, rfl, hgi, d0, d1, d2, d3, d4, d5, hxa⟩ := HI.out k hkn
          obtain ⟨xa, xc, rfl, hxl⟩ := hxa.form
          have d3' := (hq.out.1.1.cell (p := ⟨gi, oi + k * 6 + 3, none⟩) hgi).trans d3
          have HA : Hid _ := argS_drop hkn
          generalize (L.getD k default).args.length = xn at *
          have hxl' : (xn : Int) ≤ 140737488355328 := by omega
          clear d0 d1 d2 d3 d4 d5 hxa HI hgi
          by_cases hy : y ≤ 720
          · have hy' : (y : Int) ≤ 720 := by omega
            have HN : Hid (y + xn ≤ 720 → Z = y + xn + argS (L.drop (k + 1)) + szB (bs.drop (i + 1))) := fun _ => by have h8 := hq.out.2 hy; have h9 := HA.out; omega
            have HQ1 : Hid _ := hq.out.1
            clear hq HA
            go_wp2
            go_roundw
            case rel => exact ⟨y + xn, k + 1, by first | rfl | (congr 1; omega) | (simp; omega), by first | rfl | (congr 1; omega), by omega, by omega, HQ1.out, HN.out⟩
            case measure => simp [intOf]; omega
          · have hy' : ¬ (y : Int) ≤ 720 := by omega
            have HQ1 : Hid _ := hq.out.1
            clear hq HA
            go_wp2
            go_roundw
            case rel => exact ⟨y, i + 1, rfl, by first | rfl | (congr 1; omega), by omega, by omega, HQ1.out, fun hc => by omega⟩
            case measure => simp [intOf]; omega
        · obtain rfl : k = L.length := by omega
          have HN : Hid (y ≤ 720 → Z = y + szB (bs.drop (i + 1))) := fun hy => by have h8 := hq.out.2 hy; rw [argS_end] at h8; omega
          have HQ1 : Hid _ := hq.out.1
          clear HI hq
          go_wp2
          go_roundw
          case rel => exact ⟨y, i + 1, rfl, by first | rfl | (congr 1; omega), by omega, by omega, HQ1.out, HN.out⟩
          case measure => simp [intOf]; omega
    · obtain rfl : i = n := by omega
      have HZ : Hid (Z ≤ 720) := by have h8 := hr.out.2 (by omega); rw [HSE.out] at h8; show _ ≤ _; omega
      have HX : Hid _ := hr.out.1.1
      clear HB HSD HSE hr
      by_cases h2 : 240 < m
      · have h2' : (240 : Int) < m := by omega
        go_wp2
        go_ret
        first | exact ⟨true, rfl, HCT.out, HX.out⟩ | exact Or.inr ⟨rfl, HCT.out, HX.out⟩
      have h2' : ¬ (240 : Int) < m := by omega
      by_cases h3 : 720 < al
      · have h3' : (720 : Int) < al := by omega
        go_wp2
        go_ret
        first | exact ⟨true, rfl, HCT.out, HX.out⟩ | exact Or.inr ⟨rfl, HCT.out, HX.out⟩
      have h3' : ¬ (720 : Int) < al := by omega
      by_cases h4 : 120 < pl
      · have h4' : (120 : Int) < pl := by omega
        go_wp2
        go_ret
        first | exact ⟨true, rfl, HCT.out, HX.out⟩ | exact Or.inr ⟨rfl, HCT.out, HX.out⟩
      have h4' : ¬ (120 : Int) < pl := by omega
      have HM : Hid (m ≤ 240 ∧ al ≤ 720 ∧ pl ≤ 120) := ⟨by omega, by omega, by omega⟩
      go_wp2
      go_ret
      first | exact ⟨false, rfl, HCF.out ⟨HZ.out, HM.out⟩, HX.out⟩ | exact Or.inl ⟨rfl, HCF.out ⟨HZ.out, HM.out⟩, HX.out⟩
end Go.Proofs.YtcggbedjhglmmaaGreatDoor
/- The law LiveEdges: what it looks for, plain; a region that ends in a call and one step more. -/
namespace Go.Proofs.YtcggbedjhglmmaaGreatDoor
open Go.RowKit

theorem wp_region_last2 {P : Program} {id : Nat} {Q : Exit → Act → World → Prop} {a : Act} {w : World} {L : List Oper} (m : Nat) (o o1 : Oper) (ho : L.toArray[m]? = some o) (ho1 : L.toArray[m + 1]? = some o1) (hg : o.guard = none) (hg1 : o1.guard = none) (hm : P.follows .mixedOrders = true) (hB : Region.lexB .any (L.take m).toArray = true) (hml : decide (L.length = m + 2) = true) (hp : preB .any L.toArray m (Array.replicate L.length false) = true)
    (hr : Region.ready .any L.toArray (listed1 L.length m) = [m]) (hr1 : Region.ready .any L.toArray ((listed1 L.length m).setIfInBounds m true) = [m + 1]) (hr2 : Region.ready .any L.toArray (((listed1 L.length m).setIfInBounds m true).setIfInBounds (m + 1) true) = [])
    (h : wpQuiet P (L.take m).toArray (fun w' => ∃ n, w' = w.drewN n) (fun a' => ∀ w', (∃ n, w' = w.drewN n) → ∀ K : Act → World → Prop, (∀ a w, o1.wp P a w (Q .normal) Q → K a w) → o.wp P a' w' K Q) (L.take m) a) : (Code.region id L.toArray true).wp P Q a w := by
  have hml' : L.length = m + 2 := by simpa using hml
  refine wp_region_pre m hm hB (by simp; omega) hp ?_
  have e : L.length - m = 2 := by omega
  have hF : ∀ (a' : Act), (∀ w', (∃ n, w' = w.drewN n) → ∀ K : Act → World → Prop, (∀ a w, o1.wp P a w (Q .normal) Q → K a w) → o.wp P a' w' K Q) → ∀ w', (∃ n, w' = w.drewN n) → wpAny P .any L.toArray Q (L.length - m) (listed1 L.length m) a' w' := fun a' ha w' hw => by
    rw [e]
    refine ⟨fun h0 => (by rw [hr] at h0; cases h0), fun i hi => ?_⟩
    rw [hr] at hi
    have : i = m := by simpa using hi
    subst this
    unfold wpOp
    simp only [ho]
    rw [if_pos (by simp [Region.wanted, hg])]
    refine .inl (ha w' hw _ fun a w hq => ?_)
    refine ⟨fun h0 => (by rw [hr1] at h0; cases h0), fun j hj => ?_⟩
    rw [hr1] at hj
    have : j = i + 1 := by simpa using hj
    subst this
    unfold wpOp
    simp only [ho1]
    rw [if_pos (by simp [Region.wanted, hg1])]
    exact .inl (Oper.wp_mono (fun a w hq => ⟨hr2, hq⟩) hq)
  have mono : ∀ (l : List Oper) (a : Act) (Q1 Q2 : Act → Prop), (∀ a, Q1 a → Q2 a) → wpQuiet P (L.take m).toArray (fun w' => ∃ n, w' = w.drewN n) Q1 l a → wpQuiet P (L.take m).toArray (fun w' => ∃ n, w' = w.drewN n) Q2 l a := by
    intro l
    induction l with
    | nil => intro a Q1 Q2 h12 h; exact h12 _ h
    | cons o l ih =>
      intro a Q1 Q2 h12 h
      unfold wpQuiet at h ⊢
      split
      · rename_i hw
        rw [if_pos hw] at h
        exact Oper.quiet_mono (fun a h => ih a Q1 Q2 h12 h) h
      · rename_i hw
        rw [if_neg hw] at h
        exact ih _ Q1 Q2 h12 h
  exact mono _ _ _ _ hF h
noncomputable abbrev inL (bs : List Bl) (ah : List (List Int)) (n m : Nat) : List (List Int) := (List.range n).map fun i => rowV (fun v => liveIn bs ah v i) m
noncomputable abbrev ouL (bs : List Bl) (ah : List (List Int)) (n m : Nat) : List (List Int) := (List.range n).map fun i => rowV (fun v => liveOut bs ah v i) m
theorem row_at {f : Nat → List Int} {n i : Nat} (h : i < n) : ((List.range n).map f).getD i [] = f i := by
  rw [List.getD_eq_getElem?_getD, List.getElem?_map, List.getElem?_range h]; rfl
/-- out of a block: what follows it -/
theorem out_follows {bs : List Bl} {ah : List (List Int)} {n m : Nat} {i : Nat} {v : Nat} (hi : i < n) (hv : v < m) (hnx : ∀ j ∈ nxB bs i, j < n) :
    memB ((ouL bs ah n m).getD i []) (v : Int) = decL (∃ j ∈ nxB bs i, (v : Int) ∈ (inL bs ah n m).getD j [] ∨ phiAsk bs ah i j v) := by
  rw [Bool.eq_iff_iff, decL_iff]
  unfold memB
  rw [decide_eq_true_eq, row_at hi, rowV_mem, liveOut_iff]
  constructor
  · rintro ⟨_, j, hj, h⟩
    refine ⟨j, hj, ?_⟩
    rw [row_at (hnx j hj), rowV_mem]
    rcases h with h | h
    · exact .inl ⟨⟨by omega, by omega⟩, h⟩
    · exact .inr h
  · rintro ⟨j, hj, h⟩
    refine ⟨⟨by omega, by omega⟩, j, hj, ?_⟩
    rw [row_at (hnx j hj), rowV_mem] at h
    rcases h with h | h
    · exact .inl h.2
    · exact .inr h
/-- marks of a block: what it asks, not by phis -/
def HereB (b : Bl) (v : Int) : Prop := (∃ x ∈ b.ins, x.kind ≠ 1 ∧ v ∈ x.args) ∨ asksT b.tm v = true
theorem in_here {bs : List Bl} {ah : List (List Int)} {n m : Nat} {i v : Nat} (hi : i < n) (h1 : memB ((inL bs ah n m).getD i []) (v : Int) = true) (h2 : ¬ HereB (blk bs i) v) : memB ((ouL bs ah n m).getD i []) (v : Int) = true := by
  unfold memB at h1 ⊢
  rw [decide_eq_true_eq, row_at hi, rowV_mem] at h1 ⊢
  refine ⟨h1.1, ?_⟩
  rcases liveIn_here h1.2 with h | h
  · exact absurd (firstB_ask _ _ h) h2
  · exact h
/-- marks of a block: what it asks -/
def AskB (b : Bl) (v : Int) : Prop := (∃ x ∈ b.ins, v ∈ x.args) ∨ asksT b.tm v = true
theorem in_asked {bs : List Bl} {ah : List (List Int)} {m : Nat} {i : Nat} {v : Int} (hi : i < bs.length) (h : v ∈ (inL bs ah bs.length m).getD i []) : (0 ≤ v ∧ v < (m : Int)) ∧ ∃ k, k < bs.length ∧ AskB (blk bs k) v := by
  rw [row_at hi, rowV_mem] at h
  refine ⟨h.1, ?_⟩
  obtain ⟨k, hk⟩ := live_asked h.2
  refine ⟨k, ?_, hk⟩
  rcases Nat.lt_or_ge k bs.length with hl | hl
  · exact hl
  · exfalso
    have e : blk bs k = default := by unfold blk; rw [List.getD_eq_getElem?_getD, List.getElem?_eq_none hl]; rfl
    rw [e] at hk
    rcases hk with ⟨x, hx, _⟩ | hk
    · simp [default] at hx
      cases hx
    · unfold asksT at hk
      rw [Bool.and_eq_true] at hk
      exact absurd hk.1 (by decide)
end Go.Proofs.YtcggbedjhglmmaaGreatDoor
/- A region whose last operations only read, in the text's order; one that comes up alone. -/
namespace Go.Proofs.YtcggbedjhglmmaaGreatDoor
open Go.RowKit

theorem wpAny_tail {P : Program} {Q : Exit → Act → World → Prop} {a : Act} {w : World} {L : List Oper} {listed : Array Bool} {r : Nat} (m : Nat) (hs : Region.noSelect L.toArray = true) (hr : (L.drop m).length = r) (hB : Region.lexFrom .any L.toArray r m listed = true)
    (h : wpQuiet P L.toArray (fun w' => ∃ n, w' = w.drewN n) (fun a' => ∀ w', (∃ n, w' = w.drewN n) → Q .normal a' w') (L.drop m) a) : wpAny P .any L.toArray Q r listed a w := by
  subst hr
  have hq := wpAnyQ_lex (P := P) (C := fun w' => ∃ n, w' = w.drewN n) (md := .any) hs (L.drop m) m listed a (fun j => by simp) hB h
  exact wpAny_of_quiet (fun a w hc hq => hq w hc) _ _ _ _ ⟨0, rfl⟩ hq
theorem wpAny_one {P : Program} {ops : Array Oper} {Q : Exit → Act → World → Prop} {n : Nat} {l : Array Bool} {a : Act} {w : World} (i : Nat) {o : Oper} (hr : Region.ready .any ops l = [i]) (ho : ops[i]? = some o)
    (h : ∀ K : Act → World → Prop, (∀ a w, wpAny P .any ops Q n (l.setIfInBounds i true) a w → K a w) → if Region.wanted o (yielded ops a.tmps) = true then Oper.wp P o a w K Q else K (a.put o.dst undef) w) : wpAny P .any ops Q (n + 1) l a w := by
  refine ⟨fun h0 => (by rw [hr] at h0; cases h0), fun j hj => ?_⟩
  rw [hr] at hj
  simp at hj
  subst hj
  exact wpOp_step ho (fun K hK => h K fun a w h1 => hK a w h1)
end Go.Proofs.YtcggbedjhglmmaaGreatDoor
