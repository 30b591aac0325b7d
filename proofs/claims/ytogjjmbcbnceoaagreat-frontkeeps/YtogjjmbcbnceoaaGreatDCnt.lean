/- The numbers from 0 on; trees in which nothing hangs at anything. -/
import Derived.Test.YtogjjmbcbnceoaaGreatDRep
import Derived.Test.YtogjjmbcbnceoaaGreatDHp
namespace Go.Proofs.YtogjjmbcbnceoaaGreat
open Go.RowKit

def cntM (k n : Nat) : List Int := (List.range n).map fun i => if i < k then (i : Int) else 0
theorem cntM_len (k n : Nat) : (cntM k n).length = n := by simp [cntM]
theorem cntM_get {k n i : Nat} (h : i < n) : (cntM k n)[i]? = some (if i < k then (i : Int) else 0) := by
  unfold cntM
  rw [List.getElem?_map, List.getElem?_range h]
  rfl
theorem cntM_set {k n : Nat} : (cntM k n).set k (k : Int) = cntM (k + 1) n := by
  apply List.ext_getElem?
  intro i
  rw [List.getElem?_set, cntM_len]
  by_cases hi : i < n
  · rw [cntM_get hi, cntM_get hi]
    by_cases e : k = i
    · subst e; simp [hi]
    · rw [if_neg e]
      by_cases h : i < k
      · rw [if_pos h, if_pos (by omega)]
      · rw [if_neg h, if_neg (by omega)]
  · rw [List.getElem?_eq_none (by rw [cntM_len]; omega), List.getElem?_eq_none (by rw [cntM_len]; omega)]
    split
    · split
      · omega
      · rfl
    · rfl
theorem cntM_zero (n : Nat) : cntM 0 n = List.replicate n 0 := by
  apply List.ext_getElem?
  intro i
  by_cases hi : i < n
  · rw [cntM_get hi, List.getElem?_replicate, if_pos hi]; simp
  · rw [List.getElem?_eq_none (by rw [cntM_len]; omega), List.getElem?_eq_none (by simp; omega)]
def cntL (n : Nat) : List Int := cntM n n
theorem cntL_len (n : Nat) : (cntL n).length = n := cntM_len n n
theorem cntL_get {n i : Nat} (h : i < n) : (cntL n)[i]? = some (i : Int) := by unfold cntL; rw [cntM_get h, if_pos h]
abbrev rowS (v : Value) (l : List Int) : Slot := ⟨v, 3, 1, l.length, l.map intV⟩
set_option maxRecDepth 100000 in
set_option maxHeartbeats 1000000 in
theorem counted_any (n : Nat) (hn : n ≤ 10000000) (w : World) : Calls Tryz.prog 51 #[.int .i64 (n : Int)] w fun e w' => e = .returned (.slice (some ⟨w.heap.size, 0, none⟩) n n) ∧ w'.ownsRow w.heap.size 3 1 (.slice (some ⟨w.heap.size, 0, none⟩) n n) n ((cntL n).map intV) ∧ Below w.heap.size w w' := by
  have hmk := run_make_row' (P := Tryz.prog) 23 3 (.int .i64 0) 8 Tryz.underlying23 infoI rfl .i64 .i64 n (by omega) (by omega)
  have HO : Hid ((w.alloc (.cells (madeCells #[.int .i64 0] n) 3)).ownsRow w.heap.size 3 1 (.slice (some ⟨w.heap.size, 0, none⟩) n n) n ((cntM 0 n).map intV)) := by
    have r1 := World.ownsRow_lit (base := w.heap.size) (e := 3) (size := 1) w (madeCells #[.int .i64 0] n) n (Nat.le_refl _) (by unfold maxLen; omega) (by simp [size_madeCells])
    rw [toList_madeCells_one] at r1
    show World.ownsRow _ _ _ _ _ _ _
    rw [cntM_zero]
    simpa using r1
  have HB : Hid (Below w.heap.size w (w.alloc (.cells (madeCells #[.int .i64 0] n) 3))) := below_alloc (Below.refl _ _) _
  have HE : Hid (cntM n n = cntL n) := rfl
  generalize cntL n = R at *
  go_enter Tryz.func51, Tryz.ntmps51
  go_wp2
  clear hmk
  go_loopw [9] (fun vk wr => ∃ k : Nat, vk = .int .i64 k ∧ k ≤ n ∧ Hid (Below w.heap.size w wr ∧ wr.ownsRow w.heap.size 3 1 (.slice (some ⟨w.heap.size, 0, none⟩) n n) n ((cntM k n).map intV))) (fun vk _ => n - (intOf vk).toNat)
  case atStart => exact ⟨0, rfl, by omega, HB.out, HO.out⟩
  case round =>
    obtain ⟨k, rfl, hk, hq⟩ := hrel
    clear HB HO
    by_cases hkn : k < n
    · have hkn' : (k : Int) < n := by omega
      have c0 : wr.cell? ⟨w.heap.size, k, none⟩ = some (.int .i64 ((cntM k n).getD k 0)) := by
        rw [hq.out.2.cellAt k (by omega), List.getElem?_map, getD_some (by rw [cntM_len]; exact hkn)]
        rfl
      have f0 : wr.frozen? ⟨w.heap.size, k, none⟩ = false := hq.out.2.frozenAt k
      have HN : Hid ((wr.setCell ⟨w.heap.size, k, none⟩ (.int .i64 (k : Int))).ownsRow w.heap.size 3 1 (.slice (some ⟨w.heap.size, 0, none⟩) n n) n ((cntM (k + 1) n).map intV)) := by
        have := (World.ownsRow.stored hq.out.2 k (.int .i64 (k : Int))).1
        rw [← cntM_set, List.map_set]
        exact this
      have HB : Hid (Below w.heap.size w (wr.setCell ⟨w.heap.size, k, none⟩ (.int .i64 (k : Int)))) := below_set hq.out.1 (Nat.le_refl _) _ _
      generalize (cntM k n).getD k 0 = x at *
      clear hq
      go_wp2
      go_roundw
      case rel => exact ⟨k + 1, by first | rfl | (congr 1; omega), by omega, HB.out, HN.out⟩
      case measure => simp [intOf]; omega
    · obtain rfl : k = n := by omega
      go_wp2
      go_ret
      exact ⟨rfl, by rw [← HE.out]; exact hq.out.2, hq.out.1⟩
abbrev boxS (B : Nat) (cs : List Value) : Slot := ⟨.slice (some ⟨B, 0, none⟩) 1 1, 94, 4, 1, cs⟩
theorem alloc_zero (w : World) : (w.alloc (.cells #[nilV, nilV, nilV, nilV] 94)).heap.size = w.heap.size + 1 := by simp
/-- What bare tells: its rows are new, no two in one block. -/
structure BareAt (w0 w : World) (n : Nat) (v1 v2 v3 : Value) : Prop where
  o1 : w.ownsRow w0.heap.size 3 1 v1 n ((List.replicate n (-1)).map intV)
  o2 : w.ownsRow w0.heap.size 3 1 v2 n ((cntL n).map intV)
  o3 : w.ownsRow w0.heap.size 3 1 v3 n ((cntL n).map intV)
  a12 : ∀ g, v1.ownBlock = some g → v2.ownBlock ≠ some g
  a13 : ∀ g, v1.ownBlock = some g → v3.ownBlock ≠ some g
  a23 : ∀ g, v2.ownBlock = some g → v3.ownBlock ≠ some g
  bel : Below w0.heap.size w0 w
set_option maxRecDepth 100000 in
set_option maxHeartbeats 1000000 in
theorem bare_any (n : Nat) (h1 : 1 ≤ n) (hn : n ≤ 10000000) (w : World) : Calls Tryz.prog 50 #[.int .i64 (n : Int)] w fun e w' => ∃ g1 g2 g3 : Nat, e = .returned (.agg #[.slice (some ⟨g1, 0, none⟩) n n, .slice (some ⟨g2, 0, none⟩) n n, .slice (some ⟨g3, 0, none⟩) n n, .slice none 0 0]) ∧ BareAt w w' n (.slice (some ⟨g1, 0, none⟩) n n) (.slice (some ⟨g2, 0, none⟩) n n) (.slice (some ⟨g3, 0, none⟩) n n) := by
  obtain ⟨wa, hwa⟩ : ∃ wa, wa = (w.alloc (.cells #[nilV, nilV, nilV, nilV] 94)).alloc (.cells #[intV (-1)] 3) := ⟨_, rfl⟩
  have hsa : wa.heap.size = w.heap.size + 2 := by rw [hwa]; simp
  have HBa : Hid (Below w.heap.size w wa) := by rw [hwa]; exact below_alloc (below_alloc (Below.refl _ _) _) _
  have HG0 : Hid (wa.heap[w.heap.size]? = some (.cells #[nilV, nilV, nilV, nilV] 94)) := by
    show _ = _
    rw [hwa, (below_alloc (Below.refl _ (w.alloc (.cells #[nilV, nilV, nilV, nilV] 94))) _).block w.heap.size (by simp), heap_alloc_new]
  have HR : Hid (Calls Tryz.prog 32 #[.slice (some ⟨w.heap.size + 1, 0, none⟩) 1 1, .int .i64 (n : Int)] wa fun e w' => e = .returned (.slice (some ⟨wa.heap.size, 0, none⟩) n n) ∧ OwnI w' wa.heap.size (.slice (some ⟨wa.heap.size, 0, none⟩) n n) (List.replicate n (-1)) ∧ Below wa.heap.size wa w') := by
    refine repeat_any (-1) n (w.heap.size + 1) h1 hn wa ?_ (by omega)
    have := cell_one_new (w.alloc (.cells #[nilV, nilV, nilV, nilV] 94)) (intV (-1)) 3 0 (intV (-1)) rfl
    rw [Addr.add_lit, alloc_zero, Nat.add_zero] at this
    rw [hwa]
    exact this
  have HC : Hid (∀ W : World, _) := fun W => counted_any n hn W
  have S1 : True := trivial
  have HWA : Hid _ := hwa
  have HSA : Hid _ := hsa
  clear hsa
  go_enter Tryz.func50, Tryz.ntmps50
  go_wp2_with (first
    | (go_at_call 32; go_loud (rw [← hwa]; clear hwa; refine Calls.mono (by exact HR.out) ?_; rintro e w1 ⟨rfl, ho1, hb1⟩; have HO1 : Hid _ := ho1; have HB1 : Hid _ := hb1; clear ho1 hb1))
    | (go_at_call 51; clear S1; go_loud (refine Calls.mono (by exact HC.out _) ?_; rintro e w2 ⟨rfl, ho2, hb2⟩; have HO2 : Hid _ := ho2; have HB2 : Hid _ := hb2; clear ho2 hb2))
    | (go_at_call 51; go_loud (refine Calls.mono (by exact HC.out _) ?_; rintro e w3 ⟨rfl, ho3, hb3⟩; have HO3 : Hid _ := ho3; have HB3 : Hid _ := hb3; clear ho3 hb3; have h0 : w3.heap[w.heap.size]? = some (.cells #[nilV, nilV, nilV, nilV] 94) := (by have q1 := HB1.out.size; have q2 := HB2.out.size; have q3 := HSA.out; rw [HB3.out.block w.heap.size (by omega), HB2.out.block w.heap.size (by omega), HB1.out.block w.heap.size (by omega)]; exact HG0.out); have e0 : w3.cell? ⟨w.heap.size, 0, none⟩ = some nilV := (by simp [World.cell?, h0]); have e1 : w3.cell? ⟨w.heap.size, 1, none⟩ = some nilV := (by simp [World.cell?, h0]); have e2 : w3.cell? ⟨w.heap.size, 2, none⟩ = some nilV := (by simp [World.cell?, h0]); have e3 : w3.cell? ⟨w.heap.size, 3, none⟩ = some nilV := (by simp [World.cell?, h0]); have f0 : ∀ j, w3.frozen? ⟨w.heap.size, j, none⟩ = false := (fun j => by simp [World.frozen?, h0]); have HH : Hid _ := h0; clear h0)))
  obtain ⟨b1, hb1⟩ : ∃ b1, b1 = wa.heap.size := ⟨_, rfl⟩
  obtain ⟨b2, hb2⟩ : ∃ b2, b2 = w1.heap.size := ⟨_, rfl⟩
  obtain ⟨b3, hb3⟩ : ∃ b3, b3 = w2.heap.size := ⟨_, rfl⟩
  have k1 : w.heap.size + 2 = b1 := by rw [hb1]; exact HSA.out.symm
  have q1 : w1.ownsRow wa.heap.size 3 1 (.slice (some ⟨wa.heap.size, 0, none⟩) n n) n ((List.replicate n (-1)).map intV) := by
    have h9 : w1.ownsRow wa.heap.size 3 1 (.slice (some ⟨wa.heap.size, 0, none⟩) n n) (List.replicate n (-1 : Int)).length ((List.replicate n (-1)).map intV) := HO1.out
    rw [List.length_replicate] at h9
    exact h9
  have q2 : w2.ownsRow w1.heap.size 3 1 (.slice (some ⟨w1.heap.size, 0, none⟩) n n) n ((cntL n).map intV) := HO2.out
  have q3 : w3.ownsRow w2.heap.size 3 1 (.slice (some ⟨w2.heap.size, 0, none⟩) n n) n ((cntL n).map intV) := HO3.out
  have l1 : b1 < b2 := by rw [hb1, hb2]; exact (q1.lt _ rfl).2
  have l2 : b2 < b3 := by rw [hb2, hb3]; exact (q2.lt _ rfl).2
  rw [← hb1] at q1 ⊢
  rw [← hb2] at q2 ⊢
  rw [← hb3] at q3 ⊢
  have B1 : Below b1 wa w1 := by rw [hb1]; exact HB1.out
  have B2 : Below b2 w1 w2 := by rw [hb2]; exact HB2.out
  have B3 : Below b3 w2 w3 := by rw [hb3]; exact HB3.out
  have o1 := owns_below (owns_below q1 (by rw [← hb2]; exact B2)) (by rw [← hb3]; exact B3)
  have o2 := owns_below q2 (by rw [← hb3]; exact B3)
  have hs3 : w.heap.size < w3.heap.size := by have := B3.size; have := (q3.lt _ rfl).2; omega
  have hbx : Box w3 w.heap.size [nilV, nilV, nilV, nilV] := ⟨hs3, fun j u hj => by
    rcases j with _ | _ | _ | _ | j
    · cases hj; exact e0
    · cases hj; exact e1
    · cases hj; exact e2
    · cases hj; exact e3
    · simp at hj, fun j => f0 j⟩
  have hb4 := (((hbx.set (j := 0) (by simp) (.slice (some ⟨b1, 0, none⟩) n n)).set (j := 1) (by simp) (.slice (some ⟨b2, 0, none⟩) n n)).set (j := 2) (by simp) (.slice (some ⟨b3, 0, none⟩) n n)).set (j := 3) (by simp) nilV
  have far : ∀ (b : Nat) (xs : List Value) (base : Nat), w.heap.size + 2 ≤ b → w3.ownsRow base 3 1 (.slice (some ⟨b, 0, none⟩) n n) n xs → ((((w3.setCell ⟨w.heap.size, 0, none⟩ (.slice (some ⟨b1, 0, none⟩) n n)).setCell ⟨w.heap.size, 1, none⟩ (.slice (some ⟨b2, 0, none⟩) n n)).setCell ⟨w.heap.size, 2, none⟩ (.slice (some ⟨b3, 0, none⟩) n n)).setCell ⟨w.heap.size, 3, none⟩ (.slice none 0 0)).ownsRow base 3 1 (.slice (some ⟨b, 0, none⟩) n n) n xs := fun b xs base hb ho => by
    have hne : (Value.slice (some ⟨b, 0, none⟩) n n).ownBlock ≠ some w.heap.size := fun e => by simp [Value.ownBlock] at e; omega
    exact owns_other (owns_other (owns_other (owns_other ho hne _) hne _) hne _) hne _
  have bel : Below w.heap.size w w3 := below_trans (below_trans (below_trans HBa.out (by rw [← hb1]; exact B1)) (by rw [← hb2]; exact B2)) (by rw [← hb3]; exact B3)
  have hres : ∀ (t : Array Value) (Wf : World) (a b c d : Value), t.getD 2 undef = .pointer (some ⟨w.heap.size, 0, none⟩) → Wf.cell? ⟨w.heap.size, 0, none⟩ = some a → Wf.cell? ⟨w.heap.size, 1, none⟩ = some b → Wf.cell? ⟨w.heap.size, 2, none⟩ = some c → Wf.cell? ⟨w.heap.size, 3, none⟩ = some d → (results Tryz.f50 t).run Tryz.prog Wf = .ok (.agg #[a, b, c, d]) Wf := by
    intro t Wf a b c d ht h0 h1 h2 h3
    have ht' : t[2]?.getD undef = .pointer (some ⟨w.heap.size, 0, none⟩) := by simpa using ht
    simp [results, Tryz.results50, go_sem, ht', h0, h1, h2, h3]
  refine bodyPost_ret (hres _ _ _ _ _ _ rfl (hb4.cell 0 _ rfl) (hb4.cell 1 _ rfl) (hb4.cell 2 _ rfl) (hb4.cell 3 _ rfl)) rfl ⟨b1, b2, b3, rfl, far _ _ _ (by omega) (own_mono o1 (by omega)), far _ _ _ (by omega) (own_mono o2 (by omega)), far _ _ _ (by omega) (own_mono q3 (by omega)), fun g e => ?_, fun g e => ?_, fun g e => ?_, ?_⟩
  · simp [Value.ownBlock] at e ⊢; omega
  · simp [Value.ownBlock] at e ⊢; omega
  · simp [Value.ownBlock] at e ⊢; omega
  · exact below_set (below_set (below_set (below_set bel (Nat.le_refl _) _ _) (Nat.le_refl _) _ _) (Nat.le_refl _) _ _) (Nat.le_refl _) _ _
end Go.Proofs.YtogjjmbcbnceoaaGreat
