/- The program: whether a list ends with a number; who leads to each node. -/
import Derived.Test.YtogjjmbcbnceoaaGreatDJStM
import Derived.Test.YtogjjmbcbnceoaaGreatDPr2M
namespace Go.Proofs.YtogjjmbcbnceoaaGreat
open Go.RowKit

set_option maxRecDepth 100000 in
set_option maxHeartbeats 1000000 in
theorem ends_any (l : List Int) (y : Int) (v : Value) (w : World) (h : IntsAt w v l) : Calls Tryz.prog 41 #[v, .int .i64 y] w fun e w' => e = .returned (.bool (endsB l y)) ∧ w' = w := by
  obtain ⟨a, c, rfl, hll⟩ := h.form
  have HI : Hid (∀ i, i < l.length → _) := fun i hi => h.get (i := i) hi
  have hE : endsB l y = (decide (0 < l.length) && decide (l.getD (l.length - 1) 0 = y)) := rfl
  rw [hE]
  clear hE h
  obtain ⟨n, hn⟩ : ∃ n, n = l.length := ⟨_, rfl⟩
  rw [← hn] at HI hll
  rw [← hn]
  clear hn
  rcases n with _ | m
  · clear HI
    go_enter Tryz.func41, Tryz.ntmps41
    go_wp2
    go_ret
    exact ⟨rfl, rfl⟩
  · obtain ⟨g, o, rfl, hg, c0⟩ := HI.out m (by omega)
    clear HI
    rw [show m + 1 - 1 = m from rfl]
    generalize l.getD m 0 = x at *
    have e1 : ((m + 1 : Nat) : Int) - 1 = (m : Int) := by omega
    have e2 : (m : Int) < ((m + 1 : Nat) : Int) := by omega
    have e3 : (0 : Int) < ((m + 1 : Nat) : Int) := by omega
    by_cases hxy : x = y
    · subst hxy
      go_enter Tryz.func41, Tryz.ntmps41
      go_wp2
      go_ret
      exact ⟨ret_bool (by simp), rfl⟩
    · go_enter Tryz.func41, Tryz.ntmps41
      go_wp2
      go_ret
      exact ⟨ret_bool (by simp [hxy]), rfl⟩
theorem rch_iff {nx : List (List Int)} (h : May nx) {i : Nat} (hi : i < nx.length) : Rch nx noneS i ↔ i = 0 ∨ (treeL nx).getD i 0 ≠ -1 := by
  constructor
  · intro hr
    by_cases h0 : i = 0
    · exact .inl h0
    · right
      intro e
      rcases tree_is h hi with ⟨k, e1, _⟩ | ⟨_, hn⟩
      · omega
      · exact hn 0 (fun e => h0 e.symm) (.entry hr)
  · rintro (rfl | hn)
    · exact .entry
    · rcases tree_is h hi with ⟨k, _, _, ho, _⟩ | ⟨e, _⟩
      · exact ho.2.1
      · exact absurd e hn
set_option maxRecDepth 100000 in
set_option maxHeartbeats 2000000 in
theorem aheadf_any (nx : List (List Int)) (v tv : Value) (w : World) (hN : NetAt w v nx) (hT : IntsAt w tv (treeL nx)) (hmay : May nx) (hb1 : nx.length ≤ 2000000) (hb2 : ∀ r ∈ nx, r.length ≤ 2000000) :
    Calls Tryz.prog 42 #[v, tv] w fun e w' => ∃ kvs rows, e = .returned (.slice (some ⟨w.heap.size, 0, none⟩) nx.length nx.length) ∧ RowsIn w' w.heap.size w.heap.size nx.length kvs rows ∧ AhdTo nx nx.length 0 rows ∧ (∀ r ∈ rows, r.length ≤ 4000000000000) ∧ Below w.heap.size w w' := by
  obtain ⟨a, c, rfl, hll⟩ := hN.form
  obtain ⟨ta, tc, rfl, htl⟩ := hT.form
  have htn := treeL_len nx
  have HN : Hid (∀ i, i < nx.length → _) := fun i hi => hN.get (i := i) hi
  have HT : Hid (∀ i, i < nx.length → ∃ g o, ta = some ⟨g, o, none⟩ ∧ g < w.heap.size ∧ w.cell? ⟨g, o + i, none⟩ = some (.int .i64 ((treeL nx).getD i 0))) := fun i hi => hT.get (i := i) (by rw [htn]; exact hi)
  have HR0 : Hid (∀ i, i < nx.length → _) := fun i hi => rch_iff hmay (i := i) hi
  have HMY : Hid _ := hmay
  have HB2 : Hid (∀ i, i < nx.length → (nx.getD i []).length ≤ 2000000) := fun i hi => hb2 _ (by rw [getD_of hi]; exact List.getElem_mem hi)
  have HST : Hid (AhdTo nx 0 0 (List.replicate nx.length [])) := AhdTo.start nx
  rw [htn]
  obtain ⟨n, hnn⟩ : ∃ n, n = nx.length := ⟨_, rfl⟩
  have HNN : Hid _ := hnn
  rw [← hnn] at HN HT HR0 HB2 HST hb1 hll
  rw [← hnn]
  clear hN hT hmay hb2 htn hnn htl
  have hmk := run_make_row' (P := Tryz.prog) 22 23 (.slice none 0 0) 24 Tryz.underlying22 infoS rfl .i64 .i64 n (by omega) (by omega)
  have HRN : Hid _ := rows_new2 w w.heap.size n (Nat.le_refl _) (by omega)
  obtain ⟨i0, hi0, hz0, hz1, hz2⟩ := info_parts (P := Tryz.prog) infoI
  obtain ⟨M, hM⟩ : ∃ M, M = 2000000 := ⟨_, rfl⟩
  have HMM : Hid _ := hM
  rw [← hM] at HB2
  clear hM
  go_enter Tryz.func42, Tryz.ntmps42
  go_wp2
  go_loopw [15] (fun vi wr => ∃ (i : Nat) (kvs : List Value) (rows : List (List Int)), vi = .int .i64 i ∧ i ≤ n ∧ Hid (Below w.heap.size w wr ∧ RowsIn wr w.heap.size w.heap.size n kvs rows ∧ AhdTo nx i 0 rows ∧ lensA rows ≤ i * M)) (fun vi _ => n - (intOf vi).toNat)
  case atStart => exact ⟨0, _, _, rfl, by omega, below_alloc (Below.refl _ _) _, HRN.out, HST.out, by rw [lens_rep]; omega⟩
  case round =>
    obtain ⟨i, kvs, rows, rfl, hi, hq⟩ := hrel
    generalize wr = wo at *
    clear HRN HST hmk
    by_cases hin : i < n
    · have hin' : (i : Int) < n := by omega
      obtain ⟨g, o, ra, rc, rfl, hg, c0, hI⟩ := HN.out i hin
      obtain ⟨gt, ot, rfl, hgt, ct⟩ := HT.out i hin
      have c0' : wo.cell? ⟨g, o + i, none⟩ = some (.slice ra (nx.getD i []).length rc) := (hq.out.1.cell (p := ⟨g, o + i, none⟩) hg).trans c0
      have ct' : wo.cell? ⟨gt, ot + i, none⟩ = some (.int .i64 ((treeL nx).getD i 0)) := (hq.out.1.cell (p := ⟨gt, ot + i, none⟩) hgt).trans ct
      have HRI : Hid _ := HR0.out i hin
      have hrl := HB2.out i hin
      have HRW : Hid (∀ k, k < (nx.getD i []).length → _) := fun k hk => hI.get (i := k) hk
      have hrm := HMM.out
      clear HN HT HR0 HB2 hI c0 ct
      have HA0 : Hid _ := hq.out.2.2.1
      have HL0 : Hid _ := hq.out.2.2.2
      have HB0 : Hid _ := hq.out.1
      have HRR0 : Hid _ := hq.out.2.1
      clear hq
      by_cases hr : Rch nx noneS i
      · have HRC : Hid _ := hr
        obtain ⟨rr, hrr⟩ : ∃ rr, rr = nx.getD i [] := ⟨_, rfl⟩
        have HRR : Hid _ := hrr
        rw [← hrr] at HRW hrl c0'
        obtain ⟨m, hm⟩ : ∃ m, m = rr.length := ⟨_, rfl⟩
        have HM : Hid _ := hm
        rw [← hm] at HRW hrl c0'
        have HUP : Hid (∀ k, k < m → ∃ u : Nat, rr.getD k 0 = (u : Int) ∧ u < n ∧ (nx.getD i [])[k]? = some (u : Int)) := fun k hk => by
          have hk' : k < rr.length := by rw [← hm]; exact hk
          have h1 : (nx.getD i [])[k]? = some (rr.getD k 0) := by rw [← hrr]; exact getD_some hk'
          have h2 := HMY.out.2 _ (by rw [getD_of (show i < nx.length by rw [← HNN.out]; exact hin)]; exact List.getElem_mem _) _ (List.mem_of_getElem? h1)
          obtain ⟨u, hu⟩ : ∃ u : Nat, rr.getD k 0 = (u : Int) := Int.eq_ofNat_of_zero_le h2.1
          rw [hu] at h1 h2
          exact ⟨u, hu, by rw [HNN.out]; exact Int.ofNat_lt.1 h2.2, h1⟩
        clear hrr hm
        have hcase : (i = 0) ∨ ((treeL nx).getD i 0 ≠ -1) := HRI.out.1 hr
        generalize (treeL nx).getD i 0 = ti at *
        have HGO : Hid (((i : Int) != 0) = false ∨ (((i : Int) != 0) = true ∧ (ti == -1) = false)) := by
          by_cases h0 : i = 0
          · exact .inl (by simp [h0])
          · exact .inr ⟨by simp [h0], beq_false_of_ne (hcase.resolve_left h0)⟩
        clear hr hcase HRI
        rcases HGO.out with hg1 | ⟨hg1, hg2⟩
        all_goals
          clear HGO
          go_wp2
          go_loopw [31] (fun vk wr => ∃ (k : Nat) (kvs : List Value) (rows : List (List Int)), vk = .int .i64 k ∧ k ≤ m ∧ Hid (Below w.heap.size w wr ∧ RowsIn wr w.heap.size w.heap.size n kvs rows ∧ AhdTo nx i k rows ∧ lensA rows ≤ i * M + k)) (fun vk _ => m - (intOf vk).toNat)
          case atStart => exact ⟨0, kvs, rows, rfl, by omega, HB0.out, HRR0.out, HA0.out, HL0.out⟩
          case round =>
            obtain ⟨k, kvs, rows, rfl, hk, hq⟩ := hrel
            clear HA0 HL0 HB0 HRR0
            by_cases hkm : k < m
            · have hkm' : (k : Int) < m := by omega
              obtain ⟨u, eu, hun, hu⟩ := HUP.out k hkm
              obtain ⟨gr, or, rfl, hgr, cr⟩ := HRW.out k hkm
              rw [eu] at cr
              have cr' : wr.cell? ⟨gr, or + k, none⟩ = some (.int .i64 (u : Int)) := (hq.out.1.cell (p := ⟨gr, or + k, none⟩) hgr).trans cr
              have hun' : (u : Int) < n := by omega
              have hrl' := hq.out.2.1.rlen
              have hkl := hq.out.2.1.klen
              have er : rows[u]? = some (rows[u]'(by omega)) := List.getElem?_eq_getElem _
              have ek : kvs[u]? = some (kvs[u]'(by omega)) := List.getElem?_eq_getElem _
              have hrm' : rows[u]'(by omega) ∈ rows := List.getElem_mem _
              generalize rows[u]'(by omega) = rw at er hrm'
              generalize kvs[u]'(by omega) = kv at ek
              have hrw0 : rw.length ≤ 4000000000000 := by
                have h1 := lens_mem hrm'
                have h2 := hq.out.2.2.2
                have h3 : i * M ≤ 2000000 * M := Nat.mul_le_mul_right _ (by omega)
                have h4 := HMM.out
                have h5 : i * M + k ≤ 4000000000000 := by
                  have h6 : (i + 1) * M ≤ 2000000 * M := Nat.mul_le_mul_right _ (by omega)
                  rw [Nat.succ_mul] at h6
                  rw [h4] at h6 ⊢
                  omega
                omega
              obtain ⟨ka, kc, rfl, _⟩ := (OwnI.at' (hq.out.2.1.kid u rw kv er ek).1 (by omega)).form
              have cG := hq.out.2.1.cellG ek
              have fG := hq.out.2.1.fzG u
              have HX : Hid (AhdTo nx i (k + 1) (rows.modify u (· ++ [(i : Int)]))) := hq.out.2.2.1.step HRC.out hu (by rw [← HNN.out]; exact hun)
              have HLX : Hid (lensA (rows.modify u (· ++ [(i : Int)])) ≤ i * M + (k + 1)) := by
                show _ ≤ _
                rw [lens_modify _ _ _ (by omega)]
                have := hq.out.2.2.2
                omega
              have HER : Hid _ := er
              have HEK : Hid _ := ek
              have hwr : w.heap.size < wr.heap.size := hq.out.2.1.ltG.2
              have HA1 : Hid (Below wr.heap.size wr (wr.alloc (.cells #[.int .i64 (i : Int)] 3))) := below_alloc (Below.refl _ _) _
              have hok0 := (hq.out.2.1.kid u rw _ er ek).1
              generalize hrl0 : rw.length = rl at *
              have HOK : Hid (wr.ownsRow w.heap.size 3 1 (.slice ka rl kc) rl (rw.map intV)) := by
                have h9 : wr.ownsRow w.heap.size 3 1 (.slice ka rl kc) rw.length (rw.map intV) := hok0
                rw [hrl0] at h9
                exact h9
              have HRL : Hid (rw.length = rl) := hrl0
              clear hok0 hrl0 er ek hrm' hrl' hkl eu hu HUP HRW
              go_wp2_with (at_builtin; go_loud (refine wpList_append_own_at _ rfl _ _ 23 rfl w.heap.size 3 i0 (.int .i64 0) 1 8 Tryz.underlying23 hi0 hz0 hz1 hz2 rfl (by decide) (.slice ka rl kc) rl (rw.map intV) rfl (HOK.out.alloc _) ⟨wr.heap.size, 0, none⟩ 1 1 [intV i] rfl rfl ?c1 ?c2 ?c3 ?c4 ?c5 ?_))
              case c1 => exact cell_one_new wr (intV i) 3
              case c2 => intro u hu; simp at hu; subst hu; rfl
              case c3 => unfold maxLen; omega
              case c4 => omega
              case c5 => simp; omega
              intro v2 w2 ho hg2 _ hat
              obtain ⟨g2, cc2, rfl, _, _, _, _⟩ := own_form ho
              obtain ⟨hP, q3, q4, hF, hZ⟩ := (hq.out.2.1.below HA1.out).push HER.out HEK.out (by rw [HRL.out]; exact ho) hg2 (by simpa using hat)
              have HP2 : Hid _ := hP
              have HFR : Hid (Below w.heap.size w (w2.setCell ⟨w.heap.size, u, none⟩ (.slice (some ⟨g2, 0, none⟩) (rl + 1) cc2))) := by
                refine below_set ?_ (Nat.le_refl _) _ _
                exact below_grown (below_trans hq.out.1 HA1.out) hg2 (fun q hqq => (HOK.out.lt q hqq).1)
              clear hP hF hZ ho hg2 hat hq
              go_wp2
              go_roundw
              case rel => exact ⟨k + 1, _, _, by first | rfl | (congr 1; omega), by omega, HFR.out, HP2.out, HX.out, HLX.out⟩
              case measure => simp [intOf]; omega
            · obtain rfl : k = m := by omega
              have HX : Hid (AhdTo nx (i + 1) 0 rows) := hq.out.2.2.1.row (by rw [HM.out, HRR.out])
              go_wp2
              go_roundw
              case rel => exact ⟨i + 1, kvs, rows, by first | rfl | (congr 1; omega), by omega, hq.out.1, hq.out.2.1, HX.out, by have := hq.out.2.2.2; rw [Nat.succ_mul]; have := HMM.out; omega⟩
              case measure => simp [intOf]; omega
      · have hti : (treeL nx).getD i 0 = -1 := by
          by_cases e : (treeL nx).getD i 0 = -1
          · exact e
          · exact absurd (HRI.out.2 (.inr e)) hr
        have hi0 : i ≠ 0 := fun e => hr (HRI.out.2 (.inl e))
        have hg1 : ((i : Int) != 0) = true := by simp [hi0]
        have HX : Hid (AhdTo nx (i + 1) 0 rows) := HA0.out.skip hr
        rw [hti] at ct'
        clear HRI HRW hr hti
        go_wp2
        go_roundw
        case rel => exact ⟨i + 1, kvs, rows, by first | rfl | (congr 1; omega), by omega, HB0.out, HRR0.out, HX.out, by have := HL0.out; rw [Nat.succ_mul]; omega⟩
        case measure => simp [intOf]; omega
    · obtain rfl : i = n := by omega
      clear HN HT HR0 HB2
      go_wp2
      go_ret
      refine ⟨kvs, rows, rfl, hq.out.2.1, by rw [← HNN.out] at *; exact hq.out.2.2.1, fun r hr => ?_, hq.out.1⟩
      have h8 := lens_mem hr
      have h7 := hq.out.2.2.2
      have h6 : i * M ≤ 2000000 * M := Nat.mul_le_mul_right _ (by omega)
      rw [HMM.out] at h6 h7
      omega
end Go.Proofs.YtogjjmbcbnceoaaGreat
