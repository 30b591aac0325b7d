/- One number, as often as is asked for: also not at all. -/
import Derived.Test.YtobnpllppohofaaGreatDoorGBn0M
namespace Go.Proofs.YtobnpllppohofaaGreatDoor
open Go.RowKit

set_option maxRecDepth 100000 in
set_option maxHeartbeats 1000000 in
theorem repeat_zero (y : Int) (n g0 : Nat) (h1 : n = 0) (hn : n ≤ 10000000) (w : World) (c0 : w.cell? ⟨g0, 0, none⟩ = some (.int .i64 y)) (hg0 : g0 < w.heap.size) :
  Calls Tryz.prog 56 #[.slice (some ⟨g0, 0, none⟩) 1 1, .int .i64 (n : Int)] w fun e w' => e = .returned (.slice (some ⟨w.heap.size, 0, none⟩) n n) ∧ OwnI w' w.heap.size (.slice (some ⟨w.heap.size, 0, none⟩) n n) (List.replicate n y) ∧ Below w.heap.size w w' := by
 have HM : Hid (∀ W, Calls Tryz.prog 73 #[.int .u64 1, .int .u64 (n : Int)] W fun e w' => e = .returned (.tuple #[.int .u64 0, .int .u64 (n : Int)]) ∧ W = w') := fun W => (Tryz.bits_Mul 1 n (by omega) (by omega) W).mono fun e w' hh => by
  obtain ⟨h1, h2⟩ := hh
  refine ⟨?_, h2.symm⟩
  rw [h1, Nat.one_mul, Nat.div_eq_of_lt (by omega), Nat.mod_eq_of_lt (by omega)]
  rfl
 have hw1 : IntKind.u64.wrap (n : Int) = (n : Int) := by unfold IntKind.wrap; simp [IntKind.bits, IntKind.signed]; omega
 have hw2 : IntKind.i64.wrap (n : Int) = (n : Int) := by unfold IntKind.wrap; simp [IntKind.bits, IntKind.signed]; omega
 have hn0 : ¬ (n : Int) < 0 := by omega
 have hn1 : ¬ (9223372036854775807 : Int) < n := by omega
 have hmk := run_make_row' (P := Tryz.prog) 22 3 (.int .i64 0) 8 Tryz.underlying22 infoI rfl .i64 .i64 n (by omega) (by omega)
 have HG0 : Hid ((w.alloc (.cells (madeCells #[.int .i64 0] n) 3)).heap[w.heap.size]? = some (.cells (repL y 0 n).toArray 3 (0, 0))) := by
  show _ = _
  rw [heap_alloc_new, repL_zero, ← toList_madeCells_one]
 have hsz : (Tryz.prog.info? 3).map (·.size) = some 1 := by kernel_rfl
 have hc1 : (w.alloc (.cells (madeCells #[.int .i64 0] n) 3)).cell? ⟨g0, 0, none⟩ = some (.int .i64 y) := by rw [World.cell?_alloc_lt _ _ _ hg0]; exact c0
 have HC1 : Hid _ := hc1
 have HB1 : Hid (Below w.heap.size w (w.alloc (.cells (madeCells #[.int .i64 0] n) 3))) := below_alloc (Below.refl _ _) _
 have HSP : Hid (∀ k m, k + m ≤ n → splice (repL y k n) k (List.replicate m (intV y)) = repL y (k + m) n) := fun k m h => repL_splice h
 have HLN : Hid (∀ k, k ≤ n → (repL y k n).length = n) := fun k h => repL_len h
 have HGT : Hid (∀ k j, j < k → (repL y k n)[j]? = some (intV y)) := fun k j h => repL_get h
 have HEN : Hid (∀ W : World, W.heap[w.heap.size]? = some (.cells (repL y n n).toArray 3 (0, 0)) → OwnI W w.heap.size (.slice (some ⟨w.heap.size, 0, none⟩) n n) (List.replicate n y)) := fun W h => own_rep (by omega) h
 obtain ⟨W1, hcp, hG1, hB1⟩ : ∃ W1, (Builtin.copy_ #[22, 22] 3 #[.slice (some ⟨w.heap.size, 0, none⟩) n n, .slice (some ⟨g0, 0, none⟩) 1 1]).run Tryz.prog (w.alloc (.cells (madeCells #[.int .i64 0] n) 3)) = .ok (.int .i64 0) W1 ∧ W1.heap[w.heap.size]? = some (.cells (repL y 0 n).toArray 3 (0, 0)) ∧ Below w.heap.size w W1 := by
  refine ⟨_, run_copy_row (P := Tryz.prog) _ 22 22 3 3 w.heap.size 0 n n ⟨g0, 0, none⟩ 1 1 (repL y 0 n).toArray 3 [] Tryz.underlying22 hsz HG0.out ?_ ?_ ?_ ?_, ?_, ?_⟩
  ·show 0 = min 1 n
   omega
  ·intro j v hj
   simp at hj
  ·simp
  ·intro v hv; simp at hv
  ·refine (setRow_heap _ _ _ _ 3 _ HG0.out).trans ?_
   simp
  ·exact below_setRow HB1.out (Nat.le_refl _) _
 have HG2 : Hid _ := hG1
 have HB2 : Hid _ := hB1
 have H1 : Hid (n = 0) := h1
 clear hc1 c0 hG1 hB1 HG0 HC1 HB1 h1
 go_enter Tryz.func56, Tryz.ntmps56
 go_wp2_with (go_at_call 73; go_loud (refine Calls.mono (by exact HM.out _) ?_; rintro e w1 ⟨rfl, rfl⟩))
 clear HM hmk hw1 hw2 hcp
 go_loopw [8] (fun vk wr => vk = .int .i64 0 ∧ Hid (Below w.heap.size w wr ∧ wr.heap[w.heap.size]? = some (.cells (repL y 0 n).toArray 3 (0, 0)))) (fun vk _ => n - (intOf vk).toNat)
 case atStart => exact ⟨rfl, HB2.out, HG2.out⟩
 case round =>
  obtain ⟨rfl, hq⟩ := hrel
  have HE9 : Hid (∀ W : World, W.heap[w.heap.size]? = some (.cells (repL y 0 n).toArray 3 (0, 0)) → OwnI W w.heap.size (.slice (some ⟨w.heap.size, 0, none⟩) n n) (List.replicate n y)) := fun W h => HEN.out W (by rw [show repL y n n = repL y 0 n from (by rw [H1.out])]; exact h)
  have hz : ¬ (0 : Int) < n := by have := H1.out; omega
  clear HB2 HG2 HSP HLN HGT HEN
  go_wp2
  go_ret
  exact ⟨rfl, HE9.out _ hq.out.2, hq.out.1⟩
theorem repeat_all (y : Int) (n g0 : Nat) (hn : n ≤ 10000000) (w : World) (c0 : w.cell? ⟨g0, 0, none⟩ = some (.int .i64 y)) (hg0 : g0 < w.heap.size) :
  Calls Tryz.prog 56 #[.slice (some ⟨g0, 0, none⟩) 1 1, .int .i64 (n : Int)] w fun e w' => e = .returned (.slice (some ⟨w.heap.size, 0, none⟩) n n) ∧ OwnI w' w.heap.size (.slice (some ⟨w.heap.size, 0, none⟩) n n) (List.replicate n y) ∧ Below w.heap.size w w' := by
 by_cases h1 : 1 ≤ n
 ·exact repeat_any y n g0 h1 hn w c0 hg0
 ·exact repeat_zero y n g0 (by omega) hn w c0 hg0
end Go.Proofs.YtobnpllppohofaaGreatDoor
/- Where each block stands now: also of no block. -/
namespace Go.Proofs.YtobnpllppohofaaGreatDoor
open Go.RowKit

set_option maxRecDepth 100000 in
set_option maxHeartbeats 2000000 in
theorem places_all (O : List Int) (n : Nat) (ov : Value) (w : World) (h : IntsAt w ov O) (hn : n ≤ 100000) (hnd : O.Nodup) (hin : ∀ x ∈ O, ∃ k : Nat, x = (k : Int) ∧ k < n) :
  Calls Tryz.prog 28 #[ov, .int .i64 (n : Int)] w fun e w' => ∃ v', e = .returned v' ∧ OwnI w' w.heap.size v' (placesL O n) ∧ Below w.heap.size w w' := by
 obtain ⟨oa, oc, rfl, hol⟩ := h.form
 have HO : Hid (∀ i, i < O.length → _) := fun i hi => h.get (i := i) hi
 have HK : Hid (∀ i, i < O.length → ∃ k : Nat, O.getD i 0 = (k : Int) ∧ k < n ∧ (placesL (O.take i) n).set k (i : Int) = placesL (O.take (i + 1)) n) := fun i hi => by
  obtain ⟨k, hk, hkn⟩ := hin (O.getD i 0) (by rw [List.getD_eq_getElem?_getD, List.getElem?_eq_getElem hi]; exact List.getElem_mem hi)
  exact ⟨k, hk, hkn, places_set hnd hi hk⟩
 have HF : Hid (placesL (O.take O.length) n = placesL O n) := by show _ = _; rw [List.take_length]
 have HPL : Hid (∀ i, (placesL (O.take i) n).length = n) := fun i => places_len _ _
 have HP0 : Hid (List.replicate n (-1) = placesL (O.take 0) n) := by show _ = _; rw [List.take_zero, places_nil]
 have HRP : Hid (∀ W : World, W.cell? ⟨w.heap.size, 0, none⟩ = some (.int .i64 (-1)) → w.heap.size < W.heap.size → Calls Tryz.prog 56 #[.slice (some ⟨w.heap.size, 0, none⟩) 1 1, .int .i64 (n : Int)] W fun e w' => e = .returned (.slice (some ⟨W.heap.size, 0, none⟩) n n) ∧ OwnI w' W.heap.size (.slice (some ⟨W.heap.size, 0, none⟩) n n) (List.replicate n (-1)) ∧ Below W.heap.size W w') := fun W hc hl => repeat_all (-1) n w.heap.size (by omega) W hc hl
 have HC1 : Hid ((w.alloc (.cells #[.int .i64 (-1)] 3)).cell? ⟨w.heap.size, 0, none⟩ = some (.int .i64 (-1))) := by show _ = _; have := cell_one_new w (.int .i64 (-1)) 3 0 (.int .i64 (-1)) rfl; rw [Addr.add_lit] at this; exact this
 have HS1 : Hid ((w.alloc (.cells #[.int .i64 (-1)] 3)).heap.size = w.heap.size + 1) := by show _ = _; simp
 have HB1 : Hid (Below w.heap.size w (w.alloc (.cells #[.int .i64 (-1)] 3))) := below_alloc (Below.refl _ _) _
 clear h hnd hin
 generalize hm : O.length = m at *
 clear hm
 go_enter Tryz.func28, Tryz.ntmps28
 go_wp2_with (go_at_call 56; go_loud (refine Calls.mono (by exact HRP.out _ HC1.out (by have := HS1.out; omega)) ?_; rintro e w1 ⟨rfl, ho1, hb1⟩; have HO1 : Hid (OwnI w1 w.heap.size (.slice (some ⟨w.heap.size + 1, 0, none⟩) n n) (placesL (O.take 0) n) ∧ Below w.heap.size w w1) := (by rw [HS1.out] at ho1; rw [← HP0.out]; exact ⟨own_mono ho1 (by omega), below_trans HB1.out hb1⟩); clear ho1 hb1))
 go_loopw [13] (fun vi wr => ∃ (i : Nat), vi = .int .i64 i ∧ i ≤ m ∧ Hid (Below w.heap.size w wr ∧ OwnI wr w.heap.size (.slice (some ⟨w.heap.size + 1, 0, none⟩) n n) (placesL (O.take i) n))) (fun vi _ => m - (intOf vi).toNat)
 case atStart => exact ⟨0, rfl, by omega, HO1.out.2, HO1.out.1⟩
 case round =>
  obtain ⟨i, rfl, hi, hr⟩ := hrel
  clear HO1
  generalize wr = wo at *
  by_cases hinn : i < m
  ·obtain ⟨g, o, rfl, hg, c0⟩ := HO.out i hinn
   obtain ⟨k, hk, hkn, hset⟩ := HK.out i hinn
   rw [hk] at c0
   have c0' : wo.cell? ⟨g, o + i, none⟩ = _ := (hr.out.1.cell (p := ⟨g, o + i, none⟩) hg).trans c0
   have hin' : (i : Int) < m := by omega
   have hkn' : (k : Int) < n := by omega
   have hrw : wo.ownsRow w.heap.size 3 1 (.slice (some ⟨w.heap.size + 1, 0, none⟩) n n) n ((placesL (O.take i) n).map intV) := by have h9 := hr.out.2; unfold OwnI at h9; rw [HPL.out] at h9; exact h9
   have hfz := hrw.frozenAt k
   have hcl : wo.cell? ⟨w.heap.size + 1, k, none⟩ = some (.int .i64 ((placesL (O.take i) n).getD k 0)) := by
    rw [hrw.cellAt k (by omega), List.getElem?_map, getD_some (by rw [HPL.out]; exact hkn)]; rfl
   have HN : Hid (Below w.heap.size w (wo.setCell ⟨w.heap.size + 1, k, none⟩ (.int .i64 (i : Int))) ∧ OwnI (wo.setCell ⟨w.heap.size + 1, k, none⟩ (.int .i64 (i : Int))) w.heap.size (.slice (some ⟨w.heap.size + 1, 0, none⟩) n n) (placesL (O.take (i + 1)) n)) := by
    refine ⟨hr.out.1.setCell (p := ⟨w.heap.size + 1, k, none⟩) (Nat.le_succ _) _, ?_⟩
    have h9 := (World.ownsRow.stored hrw k (.int .i64 (i : Int))).1
    show World.ownsRow _ _ _ _ _ _ _
    rw [HPL.out, ← hset, List.map_set]
    exact h9
   clear hr hrw hset hk HO HK c0
   go_wp2
   go_roundw
   case rel => exact ⟨i + 1, by first | rfl | (congr 1; omega), by omega, HN.out⟩
   case measure => simp [intOf]; omega
  ·obtain rfl : i = m := by omega
   have HRR : Hid _ := hr.out
   clear hr HO HK
   go_wp2
   go_ret
   exact ⟨_, rfl, by rw [← HF.out]; exact HRR.out.2, HRR.out.1⟩
end Go.Proofs.YtobnpllppohofaaGreatDoor
