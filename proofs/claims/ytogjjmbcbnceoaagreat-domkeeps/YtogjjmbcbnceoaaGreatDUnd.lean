/- What stands under each place, as the document says. -/
import Derived.Test.YtogjjmbcbnceoaaGreatDOkM
namespace Go.Proofs.YtogjjmbcbnceoaaGreat
open Go.RowKit

set_option maxRecDepth 100000 in
set_option maxHeartbeats 2000000 in
theorem runder_any (t : List Int) (v : Value) (w : World) (h : IntsAt w v t) (hn : t.length ≤ 100000) :
    Calls Tryz.prog 17 #[v] w fun e w' => ∃ kvs, e = .returned (.slice (some ⟨w.heap.size, 0, none⟩) t.length t.length) ∧ RowsIn w' w.heap.size w.heap.size t.length kvs (underT t) ∧ Below w.heap.size w w' := by
  obtain ⟨ta, tc, rfl, _⟩ := h.form
  have HI : Hid (∀ i, i < t.length → _) := fun i hi => h.get (i := i) hi
  obtain ⟨R, hR⟩ : ∃ R, R = underT t := ⟨_, rfl⟩
  have HD : Hid (∀ i, i < t.length → ∀ rows, _) := fun i hi rows => under_drop (t := t) (i := i) hi rows
  have HR : Hid (underF (t.drop 0) 0 (List.replicate t.length []) = R) := hR.symm
  have HZ : Hid (∀ rows, underF (t.drop t.length) t.length rows = rows) := fun rows => by rw [List.drop_length]; rfl
  rw [← hR]
  obtain ⟨n, hnn⟩ : ∃ n, n = t.length := ⟨_, rfl⟩
  rw [← hnn] at HI HD HR HZ hn
  rw [← hnn]
  clear h hR hnn
  have hmk := run_make_row' (P := Tryz.prog) 22 23 (.slice none 0 0) 24 Tryz.underlying22 infoS rfl .i64 .i64 n (by omega) (by omega)
  have HRN : Hid _ := rows_new w w.heap.size n (Nat.le_refl _) (by omega)
  obtain ⟨i0, hi0, hz0, hz1, hz2⟩ := info_parts infoI
  go_enter Tryz.func17, Tryz.ntmps17
  go_wp2
  go_loopw [4] (fun vi wr => ∃ (i : Nat) (kvs : List Value) (rows : List (List Int)), vi = .int .i64 i ∧ i ≤ n ∧ Hid (Below w.heap.size w wr ∧ RowsIn wr w.heap.size w.heap.size n kvs rows ∧ underF (t.drop i) i rows = R ∧ lensA rows ≤ i)) (fun vi _ => n - (intOf vi).toNat)
  case atStart => exact ⟨0, _, _, rfl, by omega, below_alloc (Below.refl _ _) _, HRN.out, HR.out, by rw [lens_rep]; omega⟩
  case round =>
    obtain ⟨i, kvs, rows, rfl, hi, hq⟩ := hrel
    clear HRN HR hmk
    by_cases hin : i < n
    · obtain ⟨gv, ov, rfl, hgv, cv⟩ := HI.out i hin
      have hin' : (i : Int) < n := by omega
      have cv' : wr.cell? ⟨gv, ov + i, none⟩ = some (.int .i64 (t.getD i 0)) := (hq.out.1.cell (p := ⟨gv, ov + i, none⟩) hgv).trans cv
      have HDD : Hid _ := HD.out i hin rows
      have hrl := hq.out.2.1.rlen
      have hkl := hq.out.2.1.klen
      clear HI HD HZ cv
      generalize t.getD i 0 = to at *
      by_cases hb : inB to n = true
      · obtain ⟨k, hk⟩ : ∃ k : Nat, to = (k : Int) := Int.eq_ofNat_of_zero_le (inB_iff.1 hb).1
        subst hk
        have htn : k < n := by have := (inB_iff.1 hb).2; omega
        have htn' : (k : Int) < n := by omega
        have er : rows[k]? = some (rows[k]'(by omega)) := List.getElem?_eq_getElem _
        have ek : kvs[k]? = some (kvs[k]'(by omega)) := List.getElem?_eq_getElem _
        have hrm : rows[k]'(by omega) ∈ rows := List.getElem_mem _
        generalize rows[k]'(by omega) = rw at er hrm
        generalize kvs[k]'(by omega) = kv at ek
        obtain ⟨ka, kc, rfl, _⟩ := (OwnI.at' (hq.out.2.1.kid k rw kv er ek).1 (by have := lens_mem hrm; have := hq.out.2.2.2; omega)).form
        have hrw : rw.length ≤ 300000 := by have := lens_mem hrm; have := hq.out.2.2.2; omega
        have cG := hq.out.2.1.cellG ek
        have fG := hq.out.2.1.fzG k
        have HX : Hid (underF (t.drop (i + 1)) (i + 1) (rows.modify k (· ++ [(i : Int)])) = R) := by
          show _ = R
          rw [← hq.out.2.2.1, HDD.out]
          congr 1
          unfold putA
          rw [hrl, if_pos hb, Int.toNat_natCast]
        have HL0 : Hid (lensA (rows.modify k (· ++ [(i : Int)])) ≤ i + 1) := by
          show _ ≤ _
          rw [lens_modify _ _ _ (by omega)]
          have := hq.out.2.2.2
          omega
        have HER : Hid _ := er
        have HEK : Hid _ := ek
        have hwr : w.heap.size < wr.heap.size := hq.out.2.1.ltG.2
        have hgw : gv < wr.heap.size := by omega
        have HA1 : Hid (Below wr.heap.size wr ((wr.alloc (.cells #[.int .i64 (i : Int)] 3)).drew)) := below_drew (below_alloc (Below.refl _ _) _)
        have hok0 := (hq.out.2.1.kid k rw _ er ek).1
        generalize hrl0 : rw.length = rl at *
        have HOK : Hid (wr.ownsRow w.heap.size 3 1 (.slice ka rl kc) rl (rw.map intV)) := by
          have h9 : wr.ownsRow w.heap.size 3 1 (.slice ka rl kc) rw.length (rw.map intV) := hok0
          rw [hrl0] at h9
          exact h9
        have HRL : Hid (rw.length = rl) := hrl0
        have HCV : Hid (∀ w2 : World, ((wr.alloc (.cells #[.int .i64 (i : Int)] 3)).drew).grownBy w2 (Value.slice ka rl kc).ownBlock → w2.cell? ⟨gv, ov + i, none⟩ = some (.int .i64 (k : Int))) := fun w2 hg2 => by
          have e1 : w2.heap[gv]? = ((wr.alloc (.cells #[.int .i64 (i : Int)] 3)).drew).heap[gv]? := hg2.block gv (Nat.lt_of_lt_of_le hgw HA1.out.size) (fun e => by have := (HOK.out.lt gv e.symm).1; omega)
          exact (World.cell?_of_block (w := (wr.alloc (.cells #[.int .i64 (i : Int)] 3)).drew) (a := ⟨gv, ov + i, none⟩) e1).trans ((HA1.out.cell (p := ⟨gv, ov + i, none⟩) hgw).trans cv')
        clear hok0 hrl0 er ek hrm hrl hkl HDD
        go_wp2
        go_region_law (refine step_append_own rfl (.tmp 39) (.tmp 41) 23 rfl w.heap.size 3 i0 (.int .i64 0) 1 8 Tryz.underlying23 hi0 hz0 hz1 hz2 rfl (by decide) (.slice ka rl kc) rl (rw.map intV) ?e1 ?e2 ⟨wr.heap.size, 0, none⟩ 1 1 [intV i] ?e3 rfl ?e4 ?e5 ?e6 ?e7 ?e8 ?_; (case e1 => simp [Act.eval]); (case e2 => exact HOK.out.alloc _); (case e3 => simp [Act.eval]); (case e4 => exact cell_one_new wr _ _); (case e5 => intro u hu; simp at hu; subst hu; rfl); (case e6 => unfold maxLen; omega); (case e7 => omega); (case e8 => simp; omega); intro v2 w2 ho hg2 hat; obtain ⟨g2, cc2, rfl, _, _, _, _⟩ := own_form ho; have q5 := HCV.out w2 hg2; obtain ⟨hP, q3, q4, hF, hZ⟩ := (hq.out.2.1.below HA1.out).push HER.out HEK.out (by rw [HRL.out]; exact ho) hg2 (by simpa using hat); have HP : Hid _ := hP; have HG2 : Hid _ := hg2; clear hP hF hZ ho hg2 hat)
        all_goals (try go_wp2)
        all_goals
          have HFR : Hid (Below w.heap.size w (w2.setCell ⟨w.heap.size, k, none⟩ (.slice (some ⟨g2, 0, none⟩) (rl + 1) cc2))) := by
            refine below_set ?_ (Nat.le_refl _) _ _
            exact below_grown (below_trans hq.out.1 HA1.out) HG2.out (fun q hqq => (HOK.out.lt q hqq).1)
        all_goals (go_roundw; (case rel => exact ⟨i + 1, _, _, by first | rfl | (congr 1; omega), by omega, HFR.out, HP.out, HX.out, HL0.out⟩); (case measure => simp [intOf]; omega))
      · have HX : Hid (underF (t.drop (i + 1)) (i + 1) rows = R) := by
          show _ = R
          rw [← hq.out.2.2.1, HDD.out]
          congr 1
          unfold putA
          rw [hrl, if_neg hb]
        have hb' : ¬ (0 ≤ to ∧ to < (n : Int)) := fun h9 => hb (inB_iff.2 h9)
        clear HDD hb
        by_cases h0 : 0 ≤ to
        · have h1 : ¬ to < (n : Int) := fun h9 => hb' ⟨h0, h9⟩
          go_wp2
          go_roundw
          case rel => exact ⟨i + 1, kvs, rows, by first | rfl | (congr 1; omega), by omega, hq.out.1, hq.out.2.1, HX.out, by have := hq.out.2.2.2; omega⟩
          case measure => simp [intOf]; omega
        · go_wp2
          go_roundw
          case rel => exact ⟨i + 1, kvs, rows, by first | rfl | (congr 1; omega), by omega, hq.out.1, hq.out.2.1, HX.out, by have := hq.out.2.2.2; omega⟩
          case measure => simp [intOf]; omega
    · obtain rfl : i = n := by omega
      have HX : Hid (rows = R) := by show rows = R; rw [← hq.out.2.2.1]; exact (HZ.out rows).symm
      clear HI HD HZ
      go_wp2
      go_ret
      exact ⟨kvs, rfl, by rw [← HX.out]; exact hq.out.2.1, hq.out.1⟩
end Go.Proofs.YtogjjmbcbnceoaaGreat
