/- Which nodes are reached without the edges of one, as the laws find it. -/
import Derived.Test.YthedgacidphgnaaDQ
namespace Go.Proofs.Ythedgacidphgnaa
open Go.RowKit

def b2i (b : Bool) : Int := if b then 1 else 0
abbrev OwnZ (w : World) (base b n : Nat) (l : List Bool) : Prop := w.ownsRow base 3 1 (.slice (some ⟨b, 0, none⟩) n n) n (l.map fun x => intV (b2i x))
theorem OwnZ.len {w : World} {base b n : Nat} {l : List Bool} (h : OwnZ w base b n l) : l.length = n := by have := h.1; simpa using this
theorem OwnZ.at' {w : World} {base b n : Nat} {l : List Bool} (h : OwnZ w base b n l) {k : Nat} (hk : k < n) (d : Bool) : w.cell? ⟨b, k, none⟩ = some (.int .i64 (b2i (l.getD k d))) := by
  rw [h.cellAt k (by omega), List.getElem?_map, List.getElem?_eq_getElem (by rw [h.len]; exact hk), getD_of (by rw [h.len]; exact hk)]
  rfl
theorem OwnZ.lt' {w : World} {base b n : Nat} {l : List Bool} (h : OwnZ w base b n l) : base ≤ b ∧ b < w.heap.size := h.lt b rfl
theorem OwnZ.set' {w : World} {base b n : Nat} {l : List Bool} (h : OwnZ w base b n l) (k : Nat) : OwnZ (w.setCell ⟨b, k, none⟩ (.int .i64 1)) base b n (l.set k true) := by
  have := (World.ownsRow.stored h k (.int .i64 1)).1
  show World.ownsRow _ _ _ _ _ _ _
  rw [List.map_set]
  exact this
theorem made_ints (n : Nat) : (madeCells #[.int .i64 0] n).toList = (List.replicate n false).map fun x => intV (b2i x) := by
  rw [toList_madeCells_one]
  simp [b2i]
theorem OwnZ.made (w : World) (base n : Nat) (hb : base ≤ w.heap.size) (hn : n ≤ 1000000) : OwnZ (w.alloc (.cells (madeCells #[.int .i64 0] n) 3)) base w.heap.size n (List.replicate n false) := by
  have r1 := World.ownsRow_lit (base := base) (e := 3) (size := 1) w (madeCells #[.int .i64 0] n) n hb (by unfold maxLen; omega) (by simp [size_madeCells])
  rw [made_ints] at r1
  exact r1
structure GoQ (w : World) (n : Nat) (wr : World) (vw : Value) (met : List Bool) (wait : List Int) : Prop where
  bel : Below w.heap.size w wr
  mrow : OwnZ wr w.heap.size w.heap.size n met
  wrow : OwnQ wr (w.heap.size + 1) vw wait
theorem GoQ.below {w wr wr' : World} {n : Nat} {vw : Value} {met : List Bool} {wait : List Int} (h : GoQ w n wr vw met wait) (hb : Below wr.heap.size wr wr') : GoQ w n wr' vw met wait :=
  ⟨below_trans h.bel hb, owns_below h.mrow hb, h.wrow.below hb⟩
theorem GoQ.off {w wr : World} {n : Nat} {vw : Value} {met : List Bool} {wait : List Int} (h : GoQ w n wr vw met wait) {g : Nat} (hg : vw.ownBlock = some g) : w.heap.size + 1 ≤ g := by
  obtain ⟨g', o, cap, e, h1, _⟩ := h.wrow.form
  rw [e] at hg
  have : g' = g := by simpa [Value.ownBlock] using hg
  omega
theorem GoQ.mark {w wr : World} {n : Nat} {vw : Value} {met : List Bool} {wait : List Int} (h : GoQ w n wr vw met wait) (k : Nat) : GoQ w n (wr.setCell ⟨w.heap.size, k, none⟩ (.int .i64 1)) vw (met.set k true) wait :=
  ⟨below_set h.bel (Nat.le_refl _) _ _, h.mrow.set' k, h.wrow.same fun g hg => Below.heap_setCell _ _ _ _ (by have := h.off hg; simp; omega)⟩
theorem GoQ.pushRoom {w wr : World} {n g o m cap : Nat} {met : List Bool} {wait : List Int} {x : Int} (h : GoQ w n wr (.slice (some ⟨g, o, none⟩) m cap) met wait) (hm : m + 1 ≤ cap) : GoQ w n (wr.setCells g (o + m * 1) [intV x]) (.slice (some ⟨g, o, none⟩) (m + 1) cap) met (wait ++ [x]) := by
  obtain ⟨h1, h2, _, _⟩ := h.wrow.room (y := x) hm
  have hg := h.off (g := g) rfl
  have e : wr.setCells g (o + m * 1) [intV x] = wr.setCell ⟨g, o + m * 1, none⟩ (intV x) := by simp [World.setCells]
  refine ⟨by rw [e]; exact below_set h.bel (by omega) _ _, owns_same h.mrow fun q hq => h2 q ?_, h1⟩
  have : w.heap.size = q := by simpa [Value.ownBlock] using hq
  omega
theorem GoQ.pushGrow {w wr w2 : World} {n m b0 : Nat} {vw v2 : Value} {met : List Bool} {wait : List Int} {x : Int} (h : GoQ w n wr vw met wait) (hb0 : w.heap.size + 1 ≤ b0) (ho : w2.ownsRow b0 3 1 v2 (m + 1) (wait.map intV ++ [intV x])) (hg : wr.grownBy w2 none) : GoQ w n w2 v2 met (wait ++ [x]) := by
  have hb : Below wr.heap.size wr w2 := below_grown (Below.refl _ _) hg (fun q hq => by cases hq)
  refine ⟨below_trans h.bel hb, owns_below h.mrow hb, OwnQ.of (n := m) ?_⟩
  have := own_mono ho (base' := w.heap.size + 1) hb0
  simpa using this
noncomputable def reachZ (nx : List (List Int)) (S : Nat → Prop) : List Int := (reachL nx S).map b2i
theorem slice_tail {g o m c : Nat} (hm : 1 ≤ m) : ∀ W, (Instr.slice 25 (.slice (some ⟨g, o, none⟩) m c) (some (.int .i64 1)) none none).run Try.prog W = .ok (sliced (some ⟨g, o, none⟩) 1 m c 1) W := fun W => by
  have hs : ∀ W : World, (sizeOf (Try.prog.elem 25)).run Try.prog W = .ok 1 W := fun W => by kernel_rfl
  have hu : Try.prog.underlying 25 = some (.slice (Try.prog.elem 25)) := by kernel_rfl
  rw [run_slice_l W 25 _ m c hu .i64 1 (by omega) (by omega), hs]
  simp [Result.andThen]
theorem cons_mem {l : List Int} {x : Int} : ∀ y, y ∈ x :: l ↔ y = x ∨ y ∈ l := fun _ => List.mem_cons
set_option maxRecDepth 100000 in
set_option maxHeartbeats 2000000 in
theorem without_any (nx : List (List Int)) (v : Value) (wo : Int) (S : Nat → Prop) (hS : ∀ i : Nat, S i ↔ (i : Int) = wo) (w : World) (h : NetAt w v nx) (hM : May nx) (hn : nx.length ≤ 100000) :
    Calls Try.prog 19 #[v, .int .i64 wo] w fun e w' => e = .returned (.slice (some ⟨w.heap.size, 0, none⟩) nx.length nx.length) ∧ OwnZ w' w.heap.size w.heap.size nx.length (reachL nx S) ∧ Below w.heap.size w w' := by
  obtain ⟨a, c, rfl, _⟩ := h.form
  have HI : Hid (∀ i, i < nx.length → _) := fun i hi => h.get (i := i) hi
  have HM : Hid (May nx) := hM
  have HS : Hid _ := hS
  have HD : Hid (∀ met, RI nx S met [] → met = reachL nx S) := fun met hr => hr.done hM
  have HST : Hid _ := RI.start (S := S) hM
  obtain ⟨R, hR⟩ : ∃ R, R = reachL nx S := ⟨_, rfl⟩
  rw [← hR] at HD
  rw [← hR]
  have hn0 : 0 < nx.length := hM.1
  clear hR h hM hS
  obtain ⟨n, hnn⟩ : ∃ n, n = nx.length := ⟨_, rfl⟩
  rw [← hnn] at HI hn hn0 HST
  rw [← hnn]
  have HNN : Hid (n = nx.length) := hnn
  clear hnn
  have hmk := run_make_row' (P := Try.prog) 25 3 (.int .i64 0) 8 Try.underlying25 infoI rfl .i64 .i64 n (by omega) (by omega)
  obtain ⟨i0, hi0, hz0, hz1, hz2⟩ := info_parts infoI
  have HG0 : Hid (GoQ w n (((w.alloc (.cells (madeCells #[.int .i64 0] n) 3)).setCell ⟨w.heap.size, 0, none⟩ (.int .i64 1)).alloc (.cells #[.int .i64 0] 3)) (.slice (some ⟨w.heap.size + 1, 0, none⟩) 1 1) ((List.replicate n false).set 0 true) [0]) := by
    have h1 := OwnZ.made w w.heap.size n (Nat.le_refl _) (by omega)
    have e : ((w.alloc (.cells (madeCells #[.int .i64 0] n) 3)).setCell ⟨w.heap.size, 0, none⟩ (.int .i64 1)).heap.size = w.heap.size + 1 := by simp [World.setCell]
    have h5 := World.ownsRow_lit (base := w.heap.size + 1) (e := 3) (size := 1) ((w.alloc (.cells (madeCells #[.int .i64 0] n) 3)).setCell ⟨w.heap.size, 0, none⟩ (.int .i64 1)) #[.int .i64 0] 1 (by simp [World.setCell]) (by decide) rfl
    rw [e] at h5
    exact ⟨below_alloc (below_set (below_alloc (Below.refl _ _) _) (Nat.le_refl _) _ _) _, owns_below (h1.set' 0) (below_alloc (Below.refl _ _) _), OwnQ.of (n := 0) (xs := [0]) h5⟩
  rw [alloc_set0] at HG0
  have k0 : (w.alloc (.cells (madeCells #[.int .i64 0] n) 3)).cell? ⟨w.heap.size, 0, none⟩ = some (.int .i64 (b2i ((List.replicate n false).getD 0 false))) := (OwnZ.made w w.heap.size n (Nat.le_refl _) (by omega)).at' hn0 false
  have k1 : (w.alloc (.cells (madeCells #[.int .i64 0] n) 3)).frozen? ⟨w.heap.size, 0, none⟩ = false := (OwnZ.made w w.heap.size n (Nat.le_refl _) (by omega)).frozenAt 0
  go_enter Try.func19, Try.ntmps19
  go_wp2
  clear k0 k1 hmk
  go_loopg [6] n (fun gm vw wr => ∃ met wait, Hid (GoQ w n wr vw met wait ∧ RI nx S met wait ∧ cntF met + wait.length ≤ gm))
  case atStart => exact ⟨_, _, HG0.out, HST.out, by have := HST.out.cnt; rw [← HNN.out] at this; exact this⟩
  case round =>
    obtain ⟨met, wait, hr⟩ := hrel
    clear HG0 HST
    generalize wr = wo' at *
    obtain ⟨qg, qo, qc, hvw, hqg, hqg2, hqc⟩ := hr.out.1.wrow.form
    subst hvw
    rcases wait with _ | ⟨x, l⟩
    · have HX : Hid (met = R) := HD.out met hr.out.2.1
      clear HI HD HS
      go_wp2
      go_ret
      exact ⟨rfl, by rw [← HX.out]; exact hr.out.1.mrow, hr.out.1.bel⟩
    · obtain ⟨i, hxi, hin, hmi⟩ := hr.out.2.1.wt x (by simp)
      subst hxi
      have hcn := hr.out.2.1.cnt
      rw [← HNN.out] at hcn hin
      have hll : l.length + 1 ≤ 100000 := by have : ((i : Int) :: l).length = l.length + 1 := by simp
                                             omega
      have cl : wo'.cell? ⟨qg, qo, none⟩ = some (.int .i64 (i : Int)) := hr.out.1.wrow.cell (j := 0) rfl
      have htl := slice_tail (g := qg) (o := qo) (m := ((i : Int) :: l).length) (c := qc) (by simp)
      have HP : Hid (GoQ w n wo' (sliced (some ⟨qg, qo, none⟩) 1 ((i : Int) :: l).length qc 1) met l) := ⟨hr.out.1.bel, hr.out.1.mrow, hr.out.1.wrow.tail.2⟩
      have hin' : (i : Int) < n := by omega
      have HGM : Hid (cntF met + l.length + 1 ≤ gk) := by have h9 := hr.out.2.2; simp at h9; show _ ≤ _; omega
      obtain ⟨g, o, ra, rc, rfl, hg, c0, hIr⟩ := HI.out i hin
      obtain ⟨_, _, _, hml⟩ := hIr.form
      have c0' : wo'.cell? ⟨g, o + i, none⟩ = some (.slice ra (nx.getD i []).length rc) := (hr.out.1.bel.cell (p := ⟨g, o + i, none⟩) hg).trans c0
      generalize hQV : sliced (some ⟨qg, qo, none⟩) 1 ((i : Int) :: l).length qc 1 = qv at *
      have hlen : ((((i : Int) :: l).length : Nat) : Int) = (l.length : Int) + 1 := by simp
      have hpos : (0 : Int) < (((i : Int) :: l).length : Nat) := by omega
      by_cases hs : (i : Int) = wo
      · have HRI : Hid (RI nx S met l) := hr.out.2.1.skip cons_mem (by simp) ((HS.out i).2 hs)
        subst hs
        clear HI HD hr hcn hmi hQV
        generalize ((i : Int) :: l).length = ml at *
        generalize (nx.getD i []).length = m at *
        by_cases hm0 : (0 : Int) < m
        · go_wp2
          go_loopw [6, 8] (fun vw vk wq => vw = qv ∧ vk = .int .i64 0 ∧ Hid (wq = wo')) (fun _ _ _ => 0)
          case atStart => exact ⟨rfl, rfl, rfl⟩
          case round =>
            obtain ⟨rfl, rfl, hq⟩ := hrel
            have hq1 := hq.out
            subst hq1
            go_wp2
            go_roundg (cntF met + l.length)
            case measure => have := HGM.out; omega
            case rel => exact ⟨met, l, HP.out, HRI.out, Nat.le_refl _⟩
        · go_wp2
          go_loopw [6, 8] (fun vw vk wq => vw = qv ∧ vk = .int .i64 0 ∧ Hid (wq = wo')) (fun _ _ _ => 0)
          case atStart => exact ⟨rfl, rfl, rfl⟩
          case round =>
            obtain ⟨rfl, rfl, hq⟩ := hrel
            have hq1 := hq.out
            subst hq1
            go_wp2
            go_roundg (cntF met + l.length)
            case measure => have := HGM.out; omega
            case rel => exact ⟨met, l, HP.out, HRI.out, Nat.le_refl _⟩
      · have HRJ : Hid (RJ nx S i 0 met l) := hr.out.2.1.take cons_mem (by simp) (fun h9 => hs ((HS.out i).1 h9))
        have hsf : ((i : Int) != wo) = true := bne_iff_ne.2 hs
        have HRW : Hid (∀ k, k < (nx.getD i []).length → _) := fun k hk => hIr.get (i := k) hk
        have HMW : Hid (∀ k, k < (nx.getD i []).length → _) := fun k hk => HM.out.row (i := i) (k := k) (by rw [← HNN.out]; exact hin) hk
        rw [← HNN.out] at HMW
        clear HI HD hr hcn hmi hs hIr HS hQV
        obtain ⟨m, hm⟩ : ∃ m, m = (nx.getD i []).length := ⟨_, rfl⟩
        have HML : Hid (m = (nx.getD i []).length) := hm
        rw [← hm] at HRW c0 hml HMW c0'
        clear hm
        generalize ((i : Int) :: l).length = ml at *
        go_wp2
        go_loopw [6, 8] (fun vw vk wr => ∃ (k : Nat) (met : List Bool) (wait : List Int), vk = .int .i64 k ∧ k ≤ m ∧ Hid (GoQ w n wr vw met wait ∧ RJ nx S i k met wait ∧ cntF met + wait.length + 1 ≤ gk)) (fun _ vk _ => m - (intOf vk).toNat)
        case atStart => exact ⟨0, met, l, rfl, by omega, HP.out, HRJ.out, HGM.out⟩
        case round =>
          obtain ⟨k, met2, wait2, rfl, hk, hq⟩ := hrel
          clear HP HRJ HGM cl htl c0'
          have c0' : wr.cell? ⟨g, o + i, none⟩ = some (.slice ra m rc) := (hq.out.1.bel.cell (p := ⟨g, o + i, none⟩) hg).trans c0
          have hcn := hq.out.2.1.cnt
          rw [← HNN.out] at hcn
          have hw2 : wait2.length ≤ 100000 := by omega
          obtain ⟨q2, p2, k2, hvw2, hq21, hq22, hq23⟩ := hq.out.1.wrow.form
          subst hvw2
          by_cases hkm : k < m
          · obtain ⟨gr, or, rfl, hgr, cr⟩ := HRW.out k hkm
            obtain ⟨hx0, hx1⟩ := HMW.out k hkm
            obtain ⟨t, ht⟩ : ∃ t : Nat, (nx.getD i []).getD k 0 = (t : Int) := Int.eq_ofNat_of_zero_le hx0
            have HT : Hid ((nx.getD i []).getD k 0 = (t : Int)) := ht
            have hkm' : (k : Int) < m := by omega
            have cr' : wr.cell? ⟨gr, or + k, none⟩ = some (.int .i64 (t : Int)) := by rw [← ht]; exact (hq.out.1.bel.cell (p := ⟨gr, or + k, none⟩) hgr).trans cr
            have htn : t < n := by rw [ht] at hx1; omega
            have htn' : (t : Int) < n := by omega
            clear HRW HMW cr ht hx0 hx1 c0
            have cm : wr.cell? ⟨w.heap.size, t, none⟩ = some (.int .i64 (b2i (met2.getD t false))) := hq.out.1.mrow.at' htn false
            have fm : wr.frozen? ⟨w.heap.size, t, none⟩ = false := hq.out.1.mrow.frozenAt t
            rcases hb : met2.getD t false with _ | _
            · have hbt : met2.getD t true = false := by
                have e := hq.out.1.mrow.len
                rw [getD_of (by omega)] at hb ⊢
                exact hb
              have HRJ : Hid (RJ nx S i (k + 1) (met2.set t true) (wait2 ++ [(t : Int)])) := hq.out.2.1.new HM.out (by rw [← HML.out]; exact hkm) HT.out hbt
              have HCN : Hid (cntF (met2.set t true) + (wait2 ++ [(t : Int)]).length + 1 ≤ gk) := by
                show _ ≤ _
                have h8 := cntF_set hbt
                have h9 := hq.out.2.2
                simp
                omega
              have HMK : Hid _ := hq.out.1.mark t
              rw [hb, show b2i false = 0 from rfl] at cm
              have hsz : (wr.setCell ⟨w.heap.size, t, none⟩ (.int .i64 1)).heap.size = wr.heap.size := by simp [World.setCell]
              have HSZ : Hid _ := hsz
              have c0'' : (wr.setCell ⟨w.heap.size, t, none⟩ (.int .i64 1)).cell? ⟨g, o + i, none⟩ = some (.slice (some ⟨gr, or, none⟩) m rc) := by
                rw [World.cell?_setCell_other _ _ _ _ (by intro hh; simp at hh; try omega)]
                exact c0'
              have cr'' : (wr.setCell ⟨w.heap.size, t, none⟩ (.int .i64 1)).cell? ⟨gr, or + k, none⟩ = some (.int .i64 (t : Int)) := by
                rw [World.cell?_setCell_other _ _ _ _ (by intro hh; simp at hh; try omega)]
                exact cr'
              have HW2 : Hid (wait2.length ≤ 100000) := hw2
              have HMA : Hid (GoQ w n ((wr.setCell ⟨w.heap.size, t, none⟩ (.int .i64 1)).alloc (.cells #[intV t] 3)) _ (met2.set t true) wait2) := HMK.out.below (below_alloc (Below.refl _ _) (.cells #[intV t] 3))
              clear hb hbt hsz HMK
              go_wp2_with (at_builtin; go_loud (refine wpList_append_arg _ rfl _ _ 25 rfl 3 i0 (.int .i64 0) 1 8 Try.underlying25 hi0 hz0 hz1 hz2 rfl (by decide) q2 p2 wait2.length k2 (wait2.map intV) rfl ?lo ?olds ⟨wr.heap.size, 0, none⟩ 1 1 [intV t] rfl rfl ?c1 ?c2 ?spare ?c3 ?c4 ?room ?grow))
              case lo => simp
              case olds =>
                intro j u hj
                rw [List.getElem?_map] at hj
                obtain ⟨y, hy, rfl⟩ := Option.map_eq_some_iff.1 hj
                exact HMA.out.wrow.cell hy
              case c1 => have := cell_one_new (wr.setCell ⟨w.heap.size, t, none⟩ (.int .i64 1)) (intV t) 3; rw [HSZ.out] at this; exact this
              case c2 => intro u hu; simp at hu; subst hu; rfl
              case spare =>
                intro hroom j hj
                have : j = 0 := by simpa using hj
                subst this
                obtain ⟨_, _, h3, h4⟩ := HMA.out.wrow.room (y := 0) hroom
                exact ⟨h3, h4⟩
              case c3 => have := HW2.out; unfold maxLen; omega
              case c4 => have := HW2.out; omega
              case room =>
                intro hroom
                have HPU : Hid _ := HMA.out.pushRoom (x := (t : Int)) hroom
                rw [Nat.mul_one] at HPU
                clear HMA
                go_wp2
                go_roundw
                case rel => exact ⟨k + 1, _, _, by first | rfl | (congr 1; omega), by omega, HPU.out, HRJ.out, HCN.out⟩
                case measure => simp [intOf]; omega
              case grow =>
                intro _ v2 w2 ho hg2
                have HPU : Hid _ := HMA.out.pushGrow (x := (t : Int)) (by have := hq.out.1.mrow.lt'.2; omega) ho hg2
                clear ho hg2 HMA
                go_wp2
                go_roundw
                case rel => exact ⟨k + 1, _, _, by first | rfl | (congr 1; omega), by omega, HPU.out, HRJ.out, HCN.out⟩
                case measure => simp [intOf]; omega
            · have HRJ : Hid (RJ nx S i (k + 1) met2 wait2) := hq.out.2.1.old (by rw [HT.out, Int.toNat_natCast]; exact hb)
              rw [hb, show b2i true = 1 from rfl] at cm
              clear hb
              go_wp2
              go_roundw
              case rel => exact ⟨k + 1, met2, wait2, by first | rfl | (congr 1; omega), by omega, hq.out.1, HRJ.out, hq.out.2.2⟩
              case measure => simp [intOf]; omega
          · obtain rfl : k = m := by omega
            have HRI : Hid (RI nx S met2 wait2) := hq.out.2.1.done (by rw [← HML.out]; exact Nat.le_refl _)
            clear HRW HMW c0
            go_wp2
            go_roundg (cntF met2 + wait2.length)
            case measure => have := hq.out.2.2; omega
            case rel => exact ⟨met2, wait2, hq.out.1, HRI.out, Nat.le_refl _⟩
end Go.Proofs.Ythedgacidphgnaa
