/- A phi's arguments for the blocks that are still ahead. -/
import Derived.Test.YtobnpllppohofaaGreatDoorGTrQM
import Derived.Test.YtobnpllppohofaaGreatDoorLSameM
import Derived.Test.YtobnpllppohofaaGreatDoorShelf
import Derived.Laws.CopyOwn
import Derived.Test.YtobnpllppohofaaGreatDoorGBnPM
namespace Go.Proofs.YtobnpllppohofaaGreatDoor
open Go.RowKit

theorem kept_snoc {args st : List Int} {i : Nat} (hi : i < st.length) : keptP args (st.take (i + 1)) = keptP args (st.take i) ++ (match args[(st.getD i 0).toNat]? with | some y => [y] | none => []) := by
 rw [List.take_add_one, List.getElem?_eq_getElem hi, List.getD_eq_getElem?_getD, List.getElem?_eq_getElem hi]
 unfold keptP
 rw [List.filterMap_append]
 congr 1
 simp only [Option.toList_some, Option.getD_some, List.filterMap_cons, List.filterMap_nil]
 split <;> simp_all
theorem kept_le {args st : List Int} : (keptP args st).length ≤ st.length := List.length_filterMap_le _ _
set_option maxRecDepth 100000 in
set_option maxHeartbeats 2000000 in
theorem kept_any (args st : List Int) (av sv : Value) (w : World) (ha : IntsAt w av args) (hs : IntsAt w sv st) (hst : ∀ i ∈ st, 0 ≤ i) (hl : st.length ≤ 1000000) :
  Calls Tryz.prog 58 #[av, sv] w fun e w' => ∃ v', e = .returned v' ∧ OwnI w' w.heap.size v' (keptP args st) ∧ Below w.heap.size w w' := by
 obtain ⟨aa, ac, rfl, hal⟩ := ha.form
 obtain ⟨sa, sc, rfl, hsl⟩ := hs.form
 have HA : Hid (∀ i, i < args.length → _) := fun i hi => ha.get (i := i) hi
 have HS : Hid (∀ i, i < st.length → _) := fun i hi => hs.get (i := i) hi
 have HG : Hid (∀ i, i < st.length → 0 ≤ st.getD i 0) := fun i hi => hst _ (by rw [List.getD_eq_getElem?_getD, List.getElem?_eq_getElem hi]; exact List.getElem_mem hi)
 have HK : Hid (∀ i, i < st.length → _) := fun i hi => kept_snoc (args := args) (st := st) hi
 have HKL : Hid (∀ i, i ≤ st.length → (keptP args (st.take i)).length ≤ i) := fun i hi => Nat.le_trans kept_le (by rw [List.length_take]; omega)
 have HKF : Hid (keptP args (st.take st.length) = keptP args st) := by show _ = _; rw [List.take_length]
 have HAN : Hid (∀ t : Nat, t < args.length → args[t]? = some (args.getD t 0)) := fun t ht => getD_some ht
 have HAO : Hid (∀ t : Nat, ¬ t < args.length → args[t]? = none) := fun t ht => List.getElem?_eq_none (by omega)
 have HK0 : Hid (keptP args (st.take 0) = []) := rfl
 obtain ⟨i0, hi0, hz0, hz1, hz2⟩ := info_parts infoI
 clear ha hs hst
 generalize hn : st.length = n at *
 generalize hm : args.length = m at *
 clear hn hm
 go_enter Tryz.func58, Tryz.ntmps58
 go_wp2
 go_loopw [5, 10] (fun vl vi wr => ∃ (i : Nat) (l : List Int) (oa : Option Addr) (oc : Nat), vi = .int .i64 i ∧ vl = .slice oa l.length oc ∧ i ≤ n ∧ Hid (Below w.heap.size w wr ∧ OwnI wr w.heap.size (.slice oa l.length oc) l ∧ l = keptP args (st.take i))) (fun _ vi _ => n - (intOf vi).toNat)
 case atStart => exact ⟨0, [], none, 0, rfl, rfl, by omega, Below.refl _ _, World.ownsRow_nil _ _ _ _, rfl⟩
 case round =>
  obtain ⟨i, l, oa, oc, rfl, rfl, hi, hr⟩ := hrel
  generalize wr = wo at *
  have HRR : Hid _ := hr.out
  have hll : l.length ≤ i := by rw [hr.out.2.2]; exact HKL.out i hi
  clear hr
  by_cases hin : i < n
  ·obtain ⟨g, o, rfl, hg, c0⟩ := HS.out i hin
   have c0' : wo.cell? ⟨g, o + i, none⟩ = _ := (HRR.out.1.cell (p := ⟨g, o + i, none⟩) hg).trans c0
   have hin' : (i : Int) < n := by omega
   have hge := HG.out i hin
   have HKI : Hid _ := HK.out i hin
   clear HS HG HK c0
   generalize st.getD i 0 = y at *
   obtain ⟨t, rfl⟩ := Int.eq_ofNat_of_zero_le hge
   rw [Int.toNat_natCast] at HKI
   by_cases htm : t < m
   ·obtain ⟨g2, o2, rfl, hg2, d0⟩ := HA.out t htm
    have d0' : wo.cell? ⟨g2, o2 + t, none⟩ = _ := (HRR.out.1.cell (p := ⟨g2, o2 + t, none⟩) hg2).trans d0
    have htm' : (t : Int) < m := by omega
    have HN : Hid (keptP args (st.take (i + 1)) = l ++ [args.getD t 0]) := by
     show _ = _
     have h9 := HKI.out
     rw [HAN.out t htm] at h9
     rw [h9, HRR.out.2.2]
    clear HKI HA HAN HAO d0
    generalize args.getD t 0 = z at *
    generalize hq : l.length = q at *
    have HQ : Hid (l.length = q) := hq
    clear hq
    have HOW : Hid (wo.ownsRow w.heap.size 3 1 (.slice oa q oc) q (l.map intV)) := by have h9 := HRR.out.2.1; unfold OwnI at h9; rw [HQ.out] at h9; exact h9
    go_wp2_with (at_builtin; go_loud (refine wpList_append_own_at _ rfl _ _ 22 rfl w.heap.size 3 i0 (.int .i64 0) 1 8 Tryz.underlying22 hi0 hz0 hz1 hz2 rfl (by decide) _ q (l.map intV) rfl (HOW.out.alloc _) ⟨wo.heap.size, 0, none⟩ 1 1 [intV z] rfl rfl ?c1 ?c2 ?c3 ?c4 ?c5 ?_))
    case c1 => exact cell_one_new wo (intV z) 3
    case c2 => intro u hu; simp at hu; subst hu; rfl
    case c3 => unfold maxLen; omega
    case c4 => omega
    case c5 => have := HRR.out.1.size; simp; omega
    intro v2 w2 ho hg2' _ hat
    obtain ⟨g3, cc3, rfl, _, _, _, _⟩ := own_form ho
    have HF : Hid (Below w.heap.size w w2) := below_grown (below_alloc HRR.out.1 _) hg2' (fun q hq => (HOW.out.lt q hq).1)
    have HO : Hid (OwnI w2 w.heap.size (.slice (some ⟨g3, 0, none⟩) (l ++ [z]).length cc3) (l ++ [z])) := by
     show World.ownsRow _ _ _ _ _ _ _
     rw [List.map_append, List.length_append, HQ.out]
     exact ho
    clear ho hg2' hat
    go_wp2
    go_roundw
    case rel => exact ⟨i + 1, l ++ [z], _, _, by first | rfl | (congr 1; omega), by rw [List.length_append, HQ.out]; rfl, by omega, HF.out, HO.out, HN.out.symm⟩
    case measure => simp [intOf]; omega
   ·have htm' : ¬ (t : Int) < m := by omega
    have HN : Hid (keptP args (st.take (i + 1)) = l) := by
     show _ = _
     have h9 := HKI.out
     rw [HAO.out t htm] at h9
     rw [h9, HRR.out.2.2, List.append_nil]
    clear HKI HA HAN HAO
    go_wp2
    go_roundw
    case rel => exact ⟨i + 1, l, _, _, by first | rfl | (congr 1; omega), rfl, by omega, HRR.out.1, HRR.out.2.1, HN.out.symm⟩
    case measure => simp [intOf]; omega
  ·obtain rfl : i = n := by omega
   have HE : Hid (l = keptP args st) := HRR.out.2.2.trans HKF.out
   clear HS HG HK HA HAN HAO
   go_wp2
   go_ret
   exact ⟨_, rfl, by rw [← HE.out]; exact HRR.out.2.1, HRR.out.1⟩
end Go.Proofs.YtobnpllppohofaaGreatDoor
/- One number, as often as is asked for. -/
namespace Go.Proofs.YtobnpllppohofaaGreatDoor
open Go.RowKit

def repL (y : Int) (k n : Nat) : List Value := (List.replicate k y ++ List.replicate (n - k) 0).map intV
theorem repL_len {y : Int} {k n : Nat} (h : k ≤ n) : (repL y k n).length = n := by unfold repL; simp; omega
theorem repL_full (y : Int) (n : Nat) : repL y n n = (List.replicate n y).map intV := by unfold repL; simp
theorem repL_zero (n : Nat) (y : Int) : repL y 0 n = List.replicate n (intV 0) := by unfold repL; simp
theorem repL_get {y : Int} {k n j : Nat} (h : j < k) : (repL y k n)[j]? = some (intV y) := by
 unfold repL
 rw [List.getElem?_map, List.getElem?_append_left (by simpa using h), List.getElem?_replicate, if_pos h]
 rfl
theorem repL_splice {y : Int} {k m n : Nat} (h : k + m ≤ n) : splice (repL y k n) k (List.replicate m (intV y)) = repL y (k + m) n := by
 unfold splice repL
 simp only [List.map_append, List.map_replicate, List.length_replicate]
 rw [List.take_append_of_le_length (by simp), List.take_of_length_le (by simp), List.drop_append]
 simp only [List.length_replicate, List.drop_replicate, ← List.append_assoc, List.replicate_append_replicate]
 have e1 : k - (k + m) = 0 := by omega
 have e2 : n - k - (k + m - k) = n - (k + m) := by omega
 rw [e1, e2]
 simp
theorem slice_lowR {g m c l : Nat} (hm : m ≤ c) (hl : l < m) : ∀ W, (Instr.slice 22 (.slice (some ⟨g, 0, none⟩) m c) (some (.int .i64 (l : Int))) none none).run Tryz.prog W = .ok (.slice (some ⟨g, l, none⟩) (m - l) (c - l)) W := fun W => by
 have hs : ∀ W : World, (sizeOf (Tryz.prog.elem 22)).run Tryz.prog W = .ok 1 W := fun W => by kernel_rfl
 have hu : Tryz.prog.underlying 22 = some (.slice (Tryz.prog.elem 22)) := by kernel_rfl
 rw [run_slice_l W 22 _ m c hu .i64 l (by omega) (by omega), hs]
 have h1 : c ≠ l := by omega
 by_cases h0 : l = 0
 ·subst h0
  simp [Result.andThen, sliced, Addr.add]
 ·simp [Result.andThen, sliced, Addr.add, h1, h0]
theorem own_rep {w : World} {base : Nat} {y : Int} {n : Nat} (hn : n ≤ 1000000000) (h : w.heap[base]? = some (.cells (repL y n n).toArray 3 (0, 0))) : OwnI w base (.slice (some ⟨base, 0, none⟩) n n) (List.replicate n y) := by
 show World.ownsRow _ _ _ _ _ _ _
 rw [repL_full] at h
 refine ⟨by simp, .inr ⟨base, n, ((List.replicate n y).map intV).toArray, by simp, Nat.le_refl _, h, by simp, by unfold maxLen; omega, by simp, by simp⟩⟩
set_option maxRecDepth 100000 in
set_option maxHeartbeats 1000000 in
theorem repeat_any (y : Int) (n g0 : Nat) (h1 : 1 ≤ n) (hn : n ≤ 10000000) (w : World) (c0 : w.cell? ⟨g0, 0, none⟩ = some (.int .i64 y)) (hg0 : g0 < w.heap.size) :
  Calls Tryz.prog 56 #[.slice (some ⟨g0, 0, none⟩) 1 1, .int .i64 (n : Int)] w fun e w' => e = .returned (.slice (some ⟨w.heap.size, 0, none⟩) n n) ∧ OwnI w' w.heap.size (.slice (some ⟨w.heap.size, 0, none⟩) n n) (List.replicate n y) ∧ Below w.heap.size w w' := by
 have HM : Hid (∀ W, Calls Tryz.prog 73 #[.int .u64 1, .int .u64 (n : Int)] W fun e w' => e = .returned (.tuple #[.int .u64 0, .int .u64 (n : Int)]) ∧ W = w') := fun W => (Tryz.bits_Mul 1 n (by omega) (by omega) W).mono fun e w' hh => by
  obtain ⟨h1, h2⟩ := hh
  refine ⟨?_, h2.symm⟩
  rw [h1, Nat.one_mul, Nat.div_eq_of_lt (by omega), Nat.mod_eq_of_lt (by omega)]
  rfl
 have hw1 : IntKind.u64.wrap (n : Int) = (n : Int) := by unfold IntKind.wrap; simp [IntKind.bits, IntKind.signed]; omega
 have hw2 : IntKind.i64.wrap (n : Int) = (n : Int) := by unfold IntKind.wrap; simp [IntKind.bits, IntKind.signed]; omega
 have hn0 : ¬ (n : Int) < 0 := by omega
 have hn1 : ¬ (9223372036854775807 : Int) < n := by omega
 have hmk := run_make_row' (P := Tryz.prog) 22 3 (.int .i64 0) 8 Tryz.underlying22 infoI rfl .i64 .i64 n (by omega) (by omega)
 have HG0 : Hid ((w.alloc (.cells (madeCells #[.int .i64 0] n) 3)).heap[w.heap.size]? = some (.cells (repL y 0 n).toArray 3 (0, 0))) := by
  show _ = _
  rw [heap_alloc_new, repL_zero, ← toList_madeCells_one]
 have hsz : (Tryz.prog.info? 3).map (·.size) = some 1 := by kernel_rfl
 have hc1 : (w.alloc (.cells (madeCells #[.int .i64 0] n) 3)).cell? ⟨g0, 0, none⟩ = some (.int .i64 y) := by rw [World.cell?_alloc_lt _ _ _ hg0]; exact c0
 have HC1 : Hid _ := hc1
 have HB1 : Hid (Below w.heap.size w (w.alloc (.cells (madeCells #[.int .i64 0] n) 3))) := below_alloc (Below.refl _ _) _
 have HSP : Hid (∀ k m, k + m ≤ n → splice (repL y k n) k (List.replicate m (intV y)) = repL y (k + m) n) := fun k m h => repL_splice h
 have HLN : Hid (∀ k, k ≤ n → (repL y k n).length = n) := fun k h => repL_len h
 have HGT : Hid (∀ k j, j < k → (repL y k n)[j]? = some (intV y)) := fun k j h => repL_get h
 have HEN : Hid (∀ W : World, W.heap[w.heap.size]? = some (.cells (repL y n n).toArray 3 (0, 0)) → OwnI W w.heap.size (.slice (some ⟨w.heap.size, 0, none⟩) n n) (List.replicate n y)) := fun W h => own_rep (by omega) h
 obtain ⟨W1, hcp, hG1, hB1⟩ : ∃ W1, (Builtin.copy_ #[22, 22] 3 #[.slice (some ⟨w.heap.size, 0, none⟩) n n, .slice (some ⟨g0, 0, none⟩) 1 1]).run Tryz.prog (w.alloc (.cells (madeCells #[.int .i64 0] n) 3)) = .ok (.int .i64 1) W1 ∧ W1.heap[w.heap.size]? = some (.cells (repL y 1 n).toArray 3 (0, 0)) ∧ Below w.heap.size w W1 := by
  refine ⟨_, run_copy_row (P := Tryz.prog) _ 22 22 3 3 w.heap.size 0 n n ⟨g0, 0, none⟩ 1 1 (repL y 0 n).toArray 3 [intV y] Tryz.underlying22 hsz HG0.out ?_ ?_ ?_ ?_, ?_, ?_⟩
  ·show 1 = min 1 n
   omega
  ·intro j v hj
   rcases j with _ | j
   ·simp at hj; subst hj; exact hc1
   ·simp at hj
  ·rw [List.size_toArray, repL_len (by omega)]; simp; omega
  ·intro v hv; simp at hv; subst hv; rfl
  ·have h9 := repL_splice (y := y) (k := 0) (m := 1) (n := n) (by omega)
   unfold splice at h9
   rw [show (0 + 1 : Nat) = 1 from rfl] at h9
   refine (setRow_heap _ _ _ _ 3 _ HG0.out).trans ?_
   rw [← h9]
   simp
  ·exact below_setRow HB1.out (Nat.le_refl _) _
 have HG2 : Hid _ := hG1
 have HB2 : Hid _ := hB1
 clear hc1 c0 hG1 hB1 HG0 HC1 HB1
 go_enter Tryz.func56, Tryz.ntmps56
 go_wp2_with (go_at_call 73; go_loud (refine Calls.mono (by exact HM.out _) ?_; rintro e w1 ⟨rfl, rfl⟩))
 clear HM hmk hw1 hw2 hcp
 go_loopw [8] (fun vk wr => ∃ k : Nat, vk = .int .i64 k ∧ 1 ≤ k ∧ k ≤ n ∧ Hid (Below w.heap.size w wr ∧ wr.heap[w.heap.size]? = some (.cells (repL y k n).toArray 3 (0, 0)))) (fun vk _ => n - (intOf vk).toNat)
 case atStart => exact ⟨1, rfl, by omega, by omega, HB2.out, HG2.out⟩
 case round =>
  obtain ⟨k, rfl, hk1, hk, hq⟩ := hrel
  clear HB2 HG2
  by_cases hkn : k < n
  ·have hkn' : (k : Int) < n := by omega
   have hs1 := slice_lowR (g := w.heap.size) (m := n) (c := n) (l := k) (Nat.le_refl _) hkn
   have hs2 := slice_cut (g := w.heap.size) (m := n) (c := n) (f := k) (Nat.le_refl _) (by omega)
   obtain ⟨m, hm⟩ : ∃ m, m = Nat.min k (n - k) := ⟨_, rfl⟩
   have hm1 : 1 ≤ m ∧ k + m ≤ n ∧ m ≤ k := by have h9 : Nat.min k (n - k) = min k (n - k) := rfl; omega
   have HCS : Hid (∀ (W : World), W.heap[w.heap.size]? = some (.cells (repL y k n).toArray 3 (0, 0)) → ∀ (j : Nat) (v : Value), (List.replicate m (intV y))[j]? = some v → W.cell? ((⟨w.heap.size, 0, none⟩ : Addr).add j) = some v) := fun W hW j v hj => by
    rw [List.getElem?_replicate] at hj
    split at hj
    ·rename_i hjm
     cases hj
     rw [Addr.add_lit, Nat.zero_add]
     simp only [World.cell?, hW]
     have := HGT.out k j (by omega)
     simpa using this
    ·cases hj
   have HSK : Hid (splice (repL y k n) k (List.replicate m (intV y)) = repL y (k + m) n) := HSP.out k m hm1.2.1
   have HLK : Hid ((repL y k n).length = n) := HLN.out k hk
   have HHM : Hid (m = Nat.min k (n - k)) := hm
   have HM1 : Hid _ := hm1
   have hwr : IntKind.i64.wrap ((k : Int) + (m : Int)) = ((k + m : Nat) : Int) := by have := hm1.2.1; unfold IntKind.wrap; simp [IntKind.bits, IntKind.signed]; omega
   clear HSP HLN HGT hm hm1
   go_wp2
   go_region_law (refine step_copy_splice rfl (.tmp 41) (.tmp 44) 22 22 rfl 3 Tryz.underlying22 hsz (some ⟨w.heap.size, k, none⟩) (some ⟨w.heap.size, 0, none⟩) (n - k) (n - k) k n ?e1 ?e2 w.heap.size k (repL y k n) 3 ?e3 (List.replicate m (intV y)) ?e4 ?e5 ?e6 ?e7 w.heap.size w ?e8 (Nat.le_refl _) ?_; (case e1 => simp [Act.eval, Act.put]); (case e2 => simp [Act.eval, Act.put]); (case e3 => exact hq.out.2); (case e4 => rw [List.length_replicate]; exact HHM.out); (case e5 => exact fun _ => ⟨rfl, _, rfl, HCS.out _ hq.out.2⟩); (case e6 => rw [HLK.out, List.length_replicate]; exact HM1.out.2.1); (case e7 => intro v hv; rw [List.eq_of_mem_replicate hv]; rfl); (case e8 => exact below_drew hq.out.1); intro w3 hg3 hb3; have HG3 : Hid (w3.heap[w.heap.size]? = some (.cells (repL y (k + m) n).toArray 3 (0, 0))) := (by have h9 := hg3.out; rw [HSK.out] at h9; exact h9); have HB3 : Hid _ := hb3; clear hg3 hb3; rw [List.length_replicate])
   simp only [Act.put, List.getElem_toArray, List.getElem_cons_zero, List.getElem_cons_succ, List.setIfInBounds_toArray, List.set_cons_zero, List.set_cons_succ]
   go_wp2
   go_roundw
   case rel => exact ⟨k + m, by first | rfl | (rw [hwr]) | (congr 1; omega), by omega, HM1.out.2.1, HB3.out, HG3.out⟩
   case measure => have := HM1.out; simp only [intOf]; omega
  ·obtain rfl : k = n := by omega
   clear HSP HLN HGT
   go_wp2
   go_ret
   exact ⟨rfl, HEN.out _ hq.out.2, hq.out.1⟩
end Go.Proofs.YtobnpllppohofaaGreatDoor
/- Where each block stands in the new order. -/
namespace Go.Proofs.YtobnpllppohofaaGreatDoor
open Go.RowKit

def placesL (O : List Int) (n : Nat) : List Int := (List.range n).map fun b => placeOf O ((b : Nat) : Int)
theorem places_len (O : List Int) (n : Nat) : (placesL O n).length = n := by unfold placesL; simp
theorem places_nil (n : Nat) : placesL [] n = List.replicate n (-1) := by
 unfold placesL
 rw [List.eq_replicate_iff]
 refine ⟨by simp, fun b hb => ?_⟩
 obtain ⟨i, _, rfl⟩ := List.mem_map.1 hb
 exact place_out (by simp)
theorem places_get {O : List Int} {n k : Nat} (h : k < n) : (placesL O n).getD k 0 = placeOf O (k : Int) := by
 unfold placesL
 rw [List.getD_eq_getElem?_getD, List.getElem?_map, List.getElem?_range h]; rfl
theorem places_at {O : List Int} {n j : Nat} (h : j < (placesL O n).length) : (placesL O n)[j] = placeOf O (j : Int) := by
 simp [placesL]
theorem place_snoc {l : List Int} {x y : Int} (h : (l ++ [x]).Nodup) : placeOf (l ++ [x]) y = if y = x then (l.length : Int) else placeOf l y := by
 by_cases e : y = x
 ·subst e
  rw [if_pos rfl]
  exact place_at h (by rw [List.getElem?_append_right (Nat.le_refl _), Nat.sub_self]; rfl)
 ·rw [if_neg e]
  by_cases hm : y ∈ l
  ·obtain ⟨p1, p2, p3⟩ := place_in hm
   rw [p1]
   exact place_at h (by rw [List.getElem?_append_left p2]; exact p3)
  ·rw [place_out hm, place_out (by simp [hm, e])]
theorem places_set {O : List Int} {n i k : Nat} (hn : O.Nodup) (hi : i < O.length) (hk : O.getD i 0 = (k : Int)) : (placesL (O.take i) n).set k (i : Int) = placesL (O.take (i + 1)) n := by
 have e : O.take (i + 1) = O.take i ++ [(k : Int)] := by
  rw [List.take_add_one, List.getElem?_eq_getElem hi, ← hk, List.getD_eq_getElem?_getD, List.getElem?_eq_getElem hi]; rfl
 have hnd : (O.take i ++ [(k : Int)]).Nodup := by rw [← e]; exact hn.sublist (List.take_sublist _ _)
 apply List.ext_getElem
 ·simp [places_len]
 ·intro j h1 h2
  have hj : j < n := by rw [places_len] at h2; exact h2
  rw [List.getElem_set]
  rw [places_at, places_at, e, place_snoc hnd]
  have hl : (O.take i).length = i := by rw [List.length_take]; omega
  by_cases q : k = j
  ·subst q; rw [if_pos rfl, if_pos rfl, hl]
  ·rw [if_neg q, if_neg (by omega)]
end Go.Proofs.YtobnpllppohofaaGreatDoor
/- Cells of instructions and blocks; rows of one's own: what copies want. -/
namespace Go.Proofs.YtobnpllppohofaaGreatDoor
open Go.RowKit

theorem own_shape {w : World} {base : Nat} {e : TypeId} {sz : Nat} {v : Value} {n : Nat} {cs : List Value} (h : w.ownsRow base e sz v n cs) : (v = .slice none 0 0 ∧ n = 0) ∨ ∃ g c, v = .slice (some ⟨g, 0, none⟩) n c ∧ n ≤ c ∧ c ≤ maxLen ∧ base ≤ g ∧ g < w.heap.size := by
 rcases h.2 with h0 | ⟨g, cap, cur, hv, h1, hh, h2, h3, _⟩
 ·exact .inl h0
 ·exact .inr ⟨g, cap, hv, h2, h3, h1, (Array.getElem?_eq_some_iff.1 hh).1⟩
theorem insCells_cons (x : In) (l : List In) (a : Value) (avs : List Value) : insCells (x :: l) (a :: avs) = inCells x a ++ insCells l avs := rfl
theorem blsCells_cons (x : Bl) (l : List Bl) (a : Value) (avs : List Value) : blsCells (x :: l) (a :: avs) = blCells x a ++ blsCells l avs := rfl
theorem set_six {p l : List Value} (hp : p.length = 6) (i q : Nat) (u : Value) : (p ++ l).set ((i + 1) * 6 + q) u = p ++ l.set (i * 6 + q) u := by
 rw [List.set_append_right _ _ (by rw [hp, Nat.add_mul]; omega), hp, show (i + 1) * 6 + q - 6 = i * 6 + q by omega]
theorem set_six0 {p l : List Value} (hp : p.length = 6) (i : Nat) (u : Value) : (p ++ l).set ((i + 1) * 6) u = p ++ l.set (i * 6) u := set_six hp i 0 u
theorem infoBl : (Tryz.prog.info? 49).map (fun i => (i.zero, i.size, i.bytes)) = some (some (.agg #[.slice none 0 0, .int .u8 0, .int .i64 0, .int .i64 0, .int .i64 0, .int .u8 0]), 6, 64) := by kernel_rfl
theorem infoIn : (Tryz.prog.info? 41).map (fun i => (i.zero, i.size, i.bytes)) = some (some (.agg #[.int .u8 0, .int .u8 0, .int .i64 0, .slice none 0 0, .int .u64 0, .int .i64 0]), 6, 56) := by kernel_rfl
theorem getD_somL {α : Type} [Inhabited α] {l : List α} {i : Nat} (h : i < l.length) : l[i]? = some (l.getD i default) := by simp [List.getElem?_eq_getElem h]
theorem row_of_own {w : World} {base g n c : Nat} {e : TypeId} {sz : Nat} {cs : List Value} (h : w.ownsRow base e sz (.slice (some ⟨g, 0, none⟩) n c) n cs) (hn : n ≤ 1000000) (hc : n ≤ c) : RowAt w (.slice (some ⟨g, 0, none⟩) n c) n cs :=
 ⟨_, _, rfl, ⟨hc, by omega⟩, .inr ⟨g, 0, rfl, (h.lt g rfl).2, fun j u hj => by
  have hl : j < n * sz := by have := (List.getElem?_eq_some_iff.1 hj).1; rw [h.1] at this; exact this
  rw [Nat.zero_add, h.cellAt j hl]; exact hj⟩⟩
theorem own_six {w : World} {base g n c i : Nat} {e : TypeId} {cs : List Value} (h : w.ownsRow base e 6 (.slice (some ⟨g, 0, none⟩) n c) n cs) (u0 u1 u2 u3 u4 u5 : Value) :
  ((((((w.setCell ⟨g, i * 6, none⟩ u0).setCell ⟨g, i * 6 + 1, none⟩ u1).setCell ⟨g, i * 6 + 2, none⟩ u2).setCell ⟨g, i * 6 + 3, none⟩ u3).setCell ⟨g, i * 6 + 4, none⟩ u4).setCell ⟨g, i * 6 + 5, none⟩ u5).ownsRow base e 6 (.slice (some ⟨g, 0, none⟩) n c) n ((((((cs.set (i * 6) u0).set (i * 6 + 1) u1).set (i * 6 + 2) u2).set (i * 6 + 3) u3).set (i * 6 + 4) u4).set (i * 6 + 5) u5) :=
 ((((((h.stored _ u0).1).stored _ u1).1.stored _ u2).1.stored _ u3).1.stored _ u4).1.stored _ u5 |>.1
theorem hsc {w : World} {g i : Nat} {cs : Array Value} {t : TypeId} (hg : w.heap[g]? = some (.cells cs t (0, 0))) (v : Value) : (w.setCell ⟨g, i, none⟩ v).heap[g]? = some (.cells (cs.setIfInBounds i v) t (0, 0)) := heap_setCell_same w g i cs t v hg
theorem own_blk {w : World} {base base' : Nat} {e : TypeId} {sz : Nat} {v : Value} {n : Nat} {cs : List Value} (hb : base' ≤ base) (h : w.ownsRow base e sz v n cs) : ∃ a c, v = .slice a n c ∧ ∃ g, base' ≤ g ∧ (n = 0 ∨ (a = some ⟨g, 0, none⟩ ∧ n ≤ c)) := by
 rcases own_shape h with ⟨e1, e2⟩ | ⟨g, c, e1, e2, _, e3, _⟩
 ·exact ⟨none, 0, by rw [e1, e2], base', Nat.le_refl _, .inl e2⟩
 ·exact ⟨_, _, e1, g, Nat.le_trans hb e3, .inr ⟨rfl, e2⟩⟩
theorem getD_memI {L : List In} {i : Nat} (h : i < L.length) : L.getD i default ∈ L := by
 have e : L.getD i default = L[i] := by simp [List.getD, List.getElem?_eq_getElem h]
 rw [e]; exact List.getElem_mem h
end Go.Proofs.YtobnpllppohofaaGreatDoor
/- The chapter's graph: told by its memory, cell by cell. -/
namespace Go.Proofs.YtobnpllppohofaaGreatDoor
open Go.RowKit

set_option maxRecDepth 100000 in
set_option maxHeartbeats 4000000 in
theorem small_x (w : World) : Calls Tryz.prog 7 #[.bool true] w fun e w' => e = .returned (.agg #[.string ⟨#[103]⟩, sl (w.heap.size + 1) 1, .int .u8 4, sl (w.heap.size + 2) 3, .slice none 0 0, sl (w.heap.size + 9) 5]) ∧ w' = allocs w (objs true w.heap.size) := by
 go_enter Tryz.func7, Tryz.ntmps7
 go_wp2
 change bodyPost _ _ _ _ _ (allocs w (objs true w.heap.size))
 exact bodyPost_ret (results_cell_row rfl _ _ w.heap.size 28 #[.string ⟨#[103]⟩, sl (w.heap.size + 1) 1, bytV 4, sl (w.heap.size + 2) 3, .slice none 0 0, sl (w.heap.size + 9) 5] _ _ rfl (allocs_get (objs true w.heap.size) w 0 _ rfl) Tryz.underlying28 rfl (by rfl)) rfl ⟨rfl, rfl⟩
theorem small_y (w : World) : Calls Tryz.prog 7 #[.bool true] (w.alloc (.cells #[.string ⟨#[]⟩, .slice none 0 0, .int .u8 0, .slice none 0 0, .slice none 0 0, .slice none 0 0] 28)) fun e w' => e = .returned (.agg #[.string ⟨#[103]⟩, sl (w.heap.size + 2) 1, bytV 4, sl (w.heap.size + 3) 3, .slice none 0 0, sl (w.heap.size + 10) 5]) ∧ w' = (((((((((((((w.alloc (.cells #[.string ⟨#[]⟩, .slice none 0 0, .int .u8 0, .slice none 0 0, .slice none 0 0, .slice none 0 0] 28)).alloc (.cells #[.string ⟨#[103]⟩, sl (w.heap.size + 2) 1, bytV 4, sl (w.heap.size + 3) 3, .slice none 0 0, sl (w.heap.size + 10) 5] 28)).alloc (.cells #[intV 0] 3)).alloc (.cells #[bytV 4, bytV 1, bytV 4] 23)).alloc (.cells #[intV 0, intV 2] 3)).alloc (.cells #[bytV 2, bytV 0, intV 2, .slice none 0 0, u64V 5, intV 0, bytV 4, bytV 13, intV 1, sl (w.heap.size + 4) 2, u64V 0, intV 0] 41)).alloc (.cells #[intV 0] 3)).alloc (.cells #[bytV 10, bytV 0, intV 0, sl (w.heap.size + 6) 1, u64V 0, intV 0] 41)).alloc (.cells #[intV 0, intV 2] 3)).alloc (.cells #[bytV 1, bytV 0, intV 2, sl (w.heap.size + 12) 3, u64V 0, intV 0] 41)).alloc (.cells #[sl (w.heap.size + 5) 2, bytV 2, intV 1, intV 2, intV 1, bytV 0, sl (w.heap.size + 7) 1, bytV 1, intV 0, intV 3, intV 0, bytV 0, .slice none 0 0, bytV 1, intV 0, intV 3, intV 0, bytV 0, sl (w.heap.size + 9) 1, bytV 3, intV 2, intV 0, intV 0, bytV 0, .slice none 0 0, bytV 1, intV 0, intV 3, intV 0, bytV 0] 49)).alloc (.cells #[.string ⟨#[103]⟩, sl (w.heap.size + 2) 1, bytV 4, sl (w.heap.size + 3) 3, .slice none 0 0, sl (w.heap.size + 10) 5] 28)).alloc (.cells #[intV 0, intV 2, intV 2] 3)) := by
 have h := small_x (w.alloc (.cells #[.string ⟨#[]⟩, .slice none 0 0, .int .u8 0, .slice none 0 0, .slice none 0 0, .slice none 0 0] 28))
 rw [show (w.alloc (.cells #[.string ⟨#[]⟩, .slice none 0 0, .int .u8 0, .slice none 0 0, .slice none 0 0, .slice none 0 0] 28)).heap.size = w.heap.size + 1 by simp] at h
 refine h.mono ?_
 rintro e w' ⟨rfl, rfl⟩
 exact ⟨rfl, rfl⟩
theorem own_heap {W : World} {base g n sz : Nat} {t : TypeId} {cs : List Value} (h : W.heap[g]? = some (.cells cs.toArray t)) (hb : base ≤ g) (hl : cs.length = n * sz) (hm : n ≤ maxLen) : W.ownsRow base t sz (.slice (some ⟨g, 0, none⟩) n n) n cs :=
 ⟨hl, .inr ⟨g, n, cs.toArray, rfl, hb, h, Nat.le_refl _, hm, by simp [hl], by simp [← hl]⟩⟩
theorem Box.of {W : World} {g : Nat} {t : TypeId} {cs : List Value} (h : W.heap[g]? = some (.cells cs.toArray t)) : Box W g cs := by
 have hl : g < W.heap.size := (Array.getElem?_eq_some_iff.1 h).1
 refine ⟨hl, fun j u hj => ?_, fun j => ?_⟩
 ·simp only [World.cell?, h]; simpa using hj
 ·simp [World.frozen?, h]
end Go.Proofs.YtobnpllppohofaaGreatDoor
