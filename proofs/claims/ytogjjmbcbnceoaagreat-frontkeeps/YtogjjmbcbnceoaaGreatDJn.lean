/- The joins, as the document finds them. -/
import Derived.Test.YtogjjmbcbnceoaaGreatDFr2
namespace Go.Proofs.YtogjjmbcbnceoaaGreat
open Go.RowKit

theorem markRow_take {m : List Bool} {row : List Int} {k : Nat} (h : k < row.length) : markRow m (row.take (k + 1)) = (markRow m (row.take k)).set (row.getD k 0).toNat true := by
  unfold markRow
  rw [List.take_add_one, List.getElem?_eq_getElem h, List.foldl_append, getD_of h]
  rfl
theorem stepJ_in {fs : List (List Int)} {l : List Int} {m : List Bool} {a : Nat} (h : m.getD a false = true ∨ amongB l (a : Int) = true) : stepJ fs l m a = markRow m (fs.getD a []) := by
  unfold stepJ
  rw [if_pos]
  rcases h with h | h
  · rw [h]; rfl
  · have : decide ((a : Int) ∈ l) = true := h
    rw [this]; simp
theorem stepJ_out {fs : List (List Int)} {l : List Int} {m : List Bool} {a : Nat} (h1 : m.getD a false = false) (h2 : amongB l (a : Int) = false) : stepJ fs l m a = m := by
  unfold stepJ
  have : decide ((a : Int) ∈ l) = false := h2
  rw [h1, this]
  rfl
theorem front_node {nx : List (List Int)} {a k : Nat} (h : k < (frontL nx a).length) : ∃ t : Nat, (frontL nx a).getD k 0 = (t : Int) ∧ t < nx.length := by
  obtain ⟨b, e, hb, _⟩ := mem_nodesL.1 (getD_mem h : (frontL nx a).getD k 0 ∈ nodesL nx.length (Fr nx a))
  exact ⟨b, e, hb⟩
theorem front_len (nx : List (List Int)) (a : Nat) : (frontL nx a).length ≤ nx.length := nodesL_len _ _
theorem fronts_small {nx : List (List Int)} : ∀ r ∈ frontsL nx, r.length ≤ nx.length := fun r hr => by
  unfold frontsL at hr
  obtain ⟨a, _, rfl⟩ := List.mem_map.1 hr
  exact front_len nx a
/-- All of a list are nodes. -/
def AllIn (n : Nat) (l : List Int) : Prop := ∀ x ∈ l, 0 ≤ x ∧ x < (n : Int)
def InTo (n : Nat) (l : List Int) (k : Nat) : Prop := ∀ q, q < k → 0 ≤ l.getD q 0 ∧ l.getD q 0 < (n : Int)
theorem InTo.all {n : Nat} {l : List Int} (h : InTo n l l.length) : AllIn n l := fun x hx => by
  obtain ⟨j, hj, rfl⟩ := List.mem_iff_getElem.1 hx
  have := h j hj
  rwa [getD_of hj] at this
theorem AllIn.get {n : Nat} {l : List Int} (h : AllIn n l) {k : Nat} (hk : k < l.length) : 0 ≤ l.getD k 0 ∧ l.getD k 0 < (n : Int) := h _ (getD_mem hk)
set_option maxRecDepth 100000 in
set_option maxHeartbeats 4000000 in
theorem rjoins_any (nx : List (List Int)) (l : List Int) (v lv : Value) (w : World) (h : NetAt w v nx) (hl : IntsAt w lv l) (hn : nx.length ≤ 100000) :
    Calls Tryz.prog 27 #[v, lv] w fun e w' => (May nx → AllIn nx.length l → ∃ v', e = .returned (.tuple #[v', .int .i64 0]) ∧ OwnI w' w.heap.size v' (joinL nx fun a => (a : Int) ∈ l)) ∧ (May nx → ¬ AllIn nx.length l → e = .returned (.tuple #[.slice none 0 0, .int .i64 2])) ∧ (¬ May nx → e = .returned (.tuple #[.slice none 0 0, .int .i64 4])) ∧ Below w.heap.size w w' := by
  obtain ⟨va, vc, rfl, _⟩ := h.form
  obtain ⟨la, lc, rfl, hll⟩ := hl.form
  have HFR : Hid _ := rfronts_any nx _ w h hn
  by_cases hM : May nx
  rotate_left
  · have HM : Hid (¬ May nx) := hM
    clear hM h hl
    go_enter Tryz.func27, Tryz.ntmps27
    go_wp2_with (go_at_call 26; go_loud (refine Calls.mono (by exact HFR.out) ?_; rintro e w1 ⟨_, hf, hb1⟩; have he := hf HM.out; subst he; have HB1 : Hid _ := hb1; clear hf hb1))
    go_ret2
    exact ⟨fun h9 => absurd h9 HM.out, fun h9 => absurd h9 HM.out, fun _ => rfl, HB1.out⟩
  have HM : Hid (May nx) := hM
  have HLI : Hid (∀ i, i < l.length → _) := fun i hi => hl.get (i := i) hi
  have HLH : Hid (∀ (a : Nat) W, Below w.heap.size w W → _) := fun a W hb => has_any l (a : Int) _ W (hl.below hb)
  have HNO : Hid (∀ k, k < l.length → ¬ (0 ≤ l.getD k 0 ∧ l.getD k 0 < (nx.length : Int)) → ¬ AllIn nx.length l) := fun k hk hno hall => hno (hall.get hk)
  have HYES : Hid (InTo nx.length l l.length → AllIn nx.length l) := fun h => h.all
  have HFN : Hid (∀ a k, k < (frontL nx a).length → _) := fun a k hk => front_node (nx := nx) (a := a) (k := k) hk
  have HFG : Hid (∀ a, a < nx.length → (frontsL nx).getD a [] = frontL nx a) := fun a ha => frontsL_get ha
  have HFL : Hid ((frontsL nx).length = nx.length) := frontsL_len nx
  have HFS : Hid (∀ r ∈ frontsL nx, r.length ≤ 140737488355328) := fun r hr => by have := fronts_small r hr; omega
  have HIS : Hid (∀ j, (roundsJ (frontsL nx) l nx.length (List.replicate nx.length false) (nx.length + 1)).getD j false = dec (Jn nx (fun a => (a : Int) ∈ l) j)) := fun j => by
    have := roundsJ_is hM l (j := j)
    rcases hx : (roundsJ (frontsL nx) l nx.length (List.replicate nx.length false) (nx.length + 1)).getD j false with _ | _
    · exact (dec_false fun hj => by rw [this.2 hj] at hx; cases hx).symm
    · exact (dec_true (this.1 hx)).symm
  have HJL : Hid (nodesL nx.length (Jn nx fun a => (a : Int) ∈ l) = joinL nx fun a => (a : Int) ∈ l) := rfl
  have HRL : Hid (∀ r, (roundsJ (frontsL nx) l nx.length (List.replicate nx.length false) r).length = nx.length) := fun r => by rw [roundsJ_len]; simp
  clear h hl hM
  obtain ⟨n, hnn⟩ : ∃ n, n = nx.length := ⟨_, rfl⟩
  have HNN : Hid (n = nx.length) := hnn
  rw [← hnn] at HFR HNO HYES HFG HFL HIS HJL HRL hn
  rw [← hnn]
  have hmk := run_make_row' (P := Tryz.prog) 53 4 (.bool false) 1 Tryz.underlying53 infoB rfl .i64 .i64 n (by omega) (by omega)
  obtain ⟨i0, hi0, hz0, hz1, hz2⟩ := info_parts infoI
  obtain ⟨ln, hln⟩ : ∃ ln, ln = l.length := ⟨_, rfl⟩
  rw [← hln] at HLI HLH HNO HYES hll
  rw [← hln]
  clear hnn hln
  go_enter Tryz.func27, Tryz.ntmps27
  go_wp2_with (go_at_call 26; go_loud (refine Calls.mono (by exact HFR.out) ?_; rintro e w1 ⟨hf, _, hb1⟩; obtain ⟨fv, rfl, hg1⟩ := hf HM.out; have HB1 : Hid (Below w.heap.size w w1) := hb1; have HG1 : Hid (NetAt w1 fv (frontsL nx)) := hg1.at' (by rw [HFL.out]; omega) HFS.out; obtain ⟨fa, fc, hfe, _⟩ := HG1.out.form; subst hfe; rw [HFL.out] at HG1; rw [HFL.out]; clear hf hb1 hg1))
  have HFI : Hid (∀ a, a < n → _) := fun a ha => HG1.out.get (i := a) (by rw [HFL.out]; exact ha)
  clear HFR HFS HG1
  go_loopw [8] (fun vi wr => ∃ i : Nat, vi = .int .i64 i ∧ i ≤ ln ∧ Hid (InTo n l i ∧ wr = w1)) (fun vi _ => ln - (intOf vi).toNat)
  case atStart => exact ⟨0, rfl, by omega, fun q hq => by omega, rfl⟩
  case round =>
    obtain ⟨i, rfl, hi, hr⟩ := hrel
    have hw1 := hr.out.2
    subst hw1
    by_cases hin : i < ln
    · have hin' : (i : Int) < ln := by omega
      obtain ⟨g, o, rfl, hg, c0⟩ := HLI.out i hin
      have c0' : wr.cell? ⟨g, o + i, none⟩ = some (.int .i64 (l.getD i 0)) := (HB1.out.cell (p := ⟨g, o + i, none⟩) hg).trans c0
      have HN1 : Hid _ := HNO.out i hin
      have HIT : Hid (0 ≤ l.getD i 0 → l.getD i 0 < (n : Int) → InTo n l (i + 1)) := fun h1 h2 q hq => by
        rcases Nat.lt_or_ge q i with h3 | h3
        · exact hr.out.1 q h3
        · have : q = i := by omega
          subst this; exact ⟨h1, h2⟩
      clear HLI HLH HNO HYES HFI HIS HRL c0
      generalize l.getD i 0 = x at *
      by_cases hx : x < 0
      · have HE : Hid _ := HN1.out (by omega)
        go_wp2
        go_ret2
        exact ⟨fun _ h9 => absurd h9 HE.out, fun _ _ => rfl, fun h9 => absurd HM.out h9, HB1.out⟩
      · have hx' : ¬ x < 0 := hx
        by_cases hxn : (n : Int) ≤ x
        · have HE : Hid _ := HN1.out (by omega)
          go_wp2
          go_ret2
          exact ⟨fun _ h9 => absurd h9 HE.out, fun _ _ => rfl, fun h9 => absurd HM.out h9, HB1.out⟩
        · have hxn' : ¬ (n : Int) ≤ x := hxn
          have HE : Hid _ := HIT.out (by omega) (by omega)
          go_wp2
          go_roundw
          case rel => exact ⟨i + 1, by first | rfl | (congr 1; omega), by omega, HE.out, by first | rfl | trivial⟩
          case measure => simp [intOf]; omega
    · obtain rfl : i = ln := by omega
      have HALL : Hid (AllIn n l) := HYES.out hr.out.1
      have HM0 : Hid _ := OwnB.made wr wr.heap.size n (Nat.le_refl _) (by omega)
      clear HLI HNO HYES hr
      generalize wr = w1 at *
      go_wp2
      generalize hW2 : w1.alloc (.cells (madeCells #[.bool false] n) 4) = w2 at *
      have HB2 : Hid (Below w1.heap.size w1 w2) := by rw [← hW2]; exact below_alloc (Below.refl _ _) _
      clear hW2 hmk
      go_loopw [10] (fun vr wr => ∃ (r : Nat) (m : List Bool), vr = .int .i64 r ∧ r ≤ n + 1 ∧ Hid (Below w1.heap.size w1 wr ∧ OwnB wr w1.heap.size w1.heap.size n m ∧ m = roundsJ (frontsL nx) l n (List.replicate n false) r)) (fun vr _ => n + 1 - (intOf vr).toNat)
      case atStart => exact ⟨0, _, rfl, by omega, HB2.out, HM0.out, rfl⟩
      case round =>
        obtain ⟨r, m, rfl, hr, hq⟩ := hrel
        clear HM0 HB2
        generalize wr = wo at *
        by_cases hrn : r ≤ n
        · have hrn' : (r : Int) ≤ n := by omega
          go_wp2
          go_loopw [11] (fun va wr => ∃ (a : Nat) (m2 : List Bool), va = .int .i64 a ∧ a ≤ n ∧ Hid (Below w1.heap.size w1 wr ∧ OwnB wr w1.heap.size w1.heap.size n m2 ∧ m2 = roundJ (frontsL nx) l m a)) (fun va _ => n - (intOf va).toNat)
          case atStart => exact ⟨0, m, rfl, by omega, hq.out.1, hq.out.2.1, rfl⟩
          case round =>
            obtain ⟨a, m2, rfl, ha, hs⟩ := hrel
            generalize wr = wa at *
            by_cases han : a < n
            · have han' : (a : Int) < n := by omega
              have cA : wa.cell? ⟨w1.heap.size, a, none⟩ = some (.bool (m2.getD a false)) := hs.out.2.1.at' han false
              have HHA : Hid _ := HLH.out a wa (below_trans HB1.out hs.out.1)
              have HSU : Hid (roundJ (frontsL nx) l m (a + 1) = stepJ (frontsL nx) l m2 a) := by show _ = _; rw [roundJ_succ, ← hs.out.2.2]
              -- not in, nor named: nothing
              by_cases hno : m2.getD a false = false ∧ amongB l (a : Int) = false
              · rw [hno.1] at cA
                rw [hno.2] at HHA
                have HX : Hid (m2 = roundJ (frontsL nx) l m (a + 1)) := by show _ = _; rw [HSU.out, stepJ_out hno.1 hno.2]
                clear HFI HIS HRL HLH HSU hno
                go_wp2_with (go_at_call 46; go_loud (refine Calls.mono (by exact HHA.out) ?_; rintro e w5 ⟨rfl, hw5⟩; have hw6 := hw5.symm; subst hw6))
                go_roundw
                case rel => exact ⟨a + 1, m2, by first | rfl | (congr 1; omega), by omega, hs.out.1, hs.out.2.1, HX.out⟩
                case measure => simp [intOf]; omega
              · have HYN : Hid (roundJ (frontsL nx) l m (a + 1) = markRow m2 (frontL nx a)) := by
                  show _ = _
                  rw [HSU.out, stepJ_in, HFG.out a han]
                  rcases h8 : m2.getD a false with _ | _
                  · rcases h9 : amongB l (a : Int) with _ | _
                    · exact absurd ⟨h8, h9⟩ hno
                    · exact .inr rfl
                  · exact .inl rfl
                obtain ⟨fg, fo, ra, rc, rfl, hfg, cf, hIf⟩ := HFI.out a han
                have HRW : Hid (∀ k, k < ((frontsL nx).getD a []).length → _) := fun k hk => hIf.get (i := k) hk
                have hml : ((frontsL nx).getD a []).length ≤ 140737488355328 := by obtain ⟨_, _, _, h9⟩ := hIf.form; exact h9
                have HFNA : Hid (∀ k, k < (frontL nx a).length → _) := fun k hk => HFN.out a k hk
                have HMT : Hid (∀ k, k < (frontL nx a).length → markRow m2 ((frontL nx a).take (k + 1)) = _) := fun k hk => markRow_take (m := m2) hk
                have HME : Hid (markRow m2 ((frontL nx a).take (frontL nx a).length) = markRow m2 (frontL nx a)) := by show _ = _; rw [List.take_length]
                rw [HFG.out a han] at HRW hml cf
                clear hIf HFI HIS HRL HLH HSU
                obtain ⟨row, hrow⟩ : ∃ row, row = frontL nx a := ⟨_, rfl⟩
                rw [← hrow] at HRW hml cf HFNA HMT HME HYN
                clear hrow
                obtain ⟨q, hq2⟩ : ∃ q, q = row.length := ⟨_, rfl⟩
                rw [← hq2] at HRW hml cf HFNA HMT HME
                clear hq2
                have INNER : Hid (∀ (W : World), W = wa → True) := fun _ _ => trivial
                rcases h8 : m2.getD a false with _ | _
                · have h9 : amongB l (a : Int) = true := by
                    rcases h9 : amongB l (a : Int) with _ | _
                    · exact absurd ⟨h8, h9⟩ hno
                    · rfl
                  rw [h8] at cA
                  rw [h9] at HHA
                  clear h8 h9 hno INNER
                  go_wp2_with (go_at_call 46; go_loud (refine Calls.mono (by exact HHA.out) ?_; rintro e w5 ⟨rfl, hw5⟩; have hw6 := hw5.symm; subst hw6))
                  go_loopw [12] (fun vk wr => ∃ (k : Nat) (m3 : List Bool), vk = .int .i64 k ∧ k ≤ q ∧ Hid (Below w1.heap.size w1 wr ∧ OwnB wr w1.heap.size w1.heap.size n m3 ∧ m3 = markRow m2 (row.take k))) (fun vk _ => q - (intOf vk).toNat)
                  case atStart => exact ⟨0, m2, rfl, by omega, hs.out.1, hs.out.2.1, rfl⟩
                  case round =>
                    obtain ⟨k, m3, rfl, hk, ht⟩ := hrel
                    have cf' : wr.cell? ⟨fg, fo + a, none⟩ = some (.slice ra q rc) := (ht.out.1.cell (p := ⟨fg, fo + a, none⟩) hfg).trans cf
                    by_cases hkq : k < q
                    · have hkq' : (k : Int) < q := by omega
                      obtain ⟨gr, or, rfl, hgr, cr⟩ := HRW.out k hkq
                      obtain ⟨t, et, htn⟩ := HFNA.out k hkq
                      rw [← HNN.out] at htn
                      have htn' : (t : Int) < n := by omega
                      have cr' : wr.cell? ⟨gr, or + k, none⟩ = some (.int .i64 (t : Int)) := by rw [← et]; exact (ht.out.1.cell (p := ⟨gr, or + k, none⟩) hgr).trans cr
                      have cm := ht.out.2.1.at' htn false
                      have fm : wr.frozen? ⟨w1.heap.size, t, none⟩ = false := ht.out.2.1.frozenAt t
                      have HX : Hid (m3.set t true = markRow m2 (row.take (k + 1))) := by show _ = _; rw [HMT.out k hkq, et, Int.toNat_natCast, ht.out.2.2]
                      clear HRW HFNA HMT HME cr et
                      generalize m3.getD t false = b9 at *
                      go_wp2
                      go_roundw
                      case rel => exact ⟨k + 1, m3.set t true, by first | rfl | (congr 1; omega), by omega, below_set ht.out.1 (Nat.le_refl _) _ _, ht.out.2.1.set' t true, HX.out⟩
                      case measure => simp [intOf]; omega
                    · obtain rfl : k = q := by omega
                      have HX : Hid (m3 = roundJ (frontsL nx) l m (a + 1)) := by show _ = _; rw [HYN.out, ht.out.2.2, HME.out]
                      clear HRW HFNA HMT HME
                      go_wp2
                      go_roundw
                      case rel => exact ⟨a + 1, m3, by first | rfl | (congr 1; omega), by omega, ht.out.1, ht.out.2.1, HX.out⟩
                      case measure => simp [intOf]; omega
                · rw [h8] at cA
                  clear h8 hno HHA INNER
                  go_wp2
                  go_loopw [12] (fun vk wr => ∃ (k : Nat) (m3 : List Bool), vk = .int .i64 k ∧ k ≤ q ∧ Hid (Below w1.heap.size w1 wr ∧ OwnB wr w1.heap.size w1.heap.size n m3 ∧ m3 = markRow m2 (row.take k))) (fun vk _ => q - (intOf vk).toNat)
                  case atStart => exact ⟨0, m2, rfl, by omega, hs.out.1, hs.out.2.1, rfl⟩
                  case round =>
                    obtain ⟨k, m3, rfl, hk, ht⟩ := hrel
                    have cf' : wr.cell? ⟨fg, fo + a, none⟩ = some (.slice ra q rc) := (ht.out.1.cell (p := ⟨fg, fo + a, none⟩) hfg).trans cf
                    by_cases hkq : k < q
                    · have hkq' : (k : Int) < q := by omega
                      obtain ⟨gr, or, rfl, hgr, cr⟩ := HRW.out k hkq
                      obtain ⟨t, et, htn⟩ := HFNA.out k hkq
                      rw [← HNN.out] at htn
                      have htn' : (t : Int) < n := by omega
                      have cr' : wr.cell? ⟨gr, or + k, none⟩ = some (.int .i64 (t : Int)) := by rw [← et]; exact (ht.out.1.cell (p := ⟨gr, or + k, none⟩) hgr).trans cr
                      have cm := ht.out.2.1.at' htn false
                      have fm : wr.frozen? ⟨w1.heap.size, t, none⟩ = false := ht.out.2.1.frozenAt t
                      have HX : Hid (m3.set t true = markRow m2 (row.take (k + 1))) := by show _ = _; rw [HMT.out k hkq, et, Int.toNat_natCast, ht.out.2.2]
                      clear HRW HFNA HMT HME cr et
                      generalize m3.getD t false = b9 at *
                      go_wp2
                      go_roundw
                      case rel => exact ⟨k + 1, m3.set t true, by first | rfl | (congr 1; omega), by omega, below_set ht.out.1 (Nat.le_refl _) _ _, ht.out.2.1.set' t true, HX.out⟩
                      case measure => simp [intOf]; omega
                    · obtain rfl : k = q := by omega
                      have HX : Hid (m3 = roundJ (frontsL nx) l m (a + 1)) := by show _ = _; rw [HYN.out, ht.out.2.2, HME.out]
                      clear HRW HFNA HMT HME
                      go_wp2
                      go_roundw
                      case rel => exact ⟨a + 1, m3, by first | rfl | (congr 1; omega), by omega, ht.out.1, ht.out.2.1, HX.out⟩
                      case measure => simp [intOf]; omega
            · obtain rfl : a = n := by omega
              have HX : Hid (m2 = roundsJ (frontsL nx) l a (List.replicate a false) (r + 1)) := by
                show m2 = roundJ (frontsL nx) l (roundsJ (frontsL nx) l a (List.replicate a false) r) a
                rw [hs.out.2.2, hq.out.2.2]
              clear HFI HIS HRL HLH
              go_wp2
              go_roundw
              case rel => exact ⟨r + 1, m2, by first | rfl | (congr 1; omega), by omega, hs.out.1, hs.out.2.1, HX.out⟩
              case measure => simp [intOf]; omega
        · obtain rfl : r = n + 1 := by omega
          have hrn' : ¬ ((n + 1 : Nat) : Int) ≤ n := by omega
          have HJI : Hid (∀ a, a < n → wo.cell? ⟨w1.heap.size, a, none⟩ = some (.bool (dec (Jn nx (fun a => (a : Int) ∈ l) a))) ∧ w1.heap.size < wo.heap.size) := fun a ha => ⟨by rw [hq.out.2.1.at' ha false, hq.out.2.2, HIS.out], hq.out.2.1.lt'.2⟩
          have HBO : Hid (Below w.heap.size w wo) := below_trans HB1.out hq.out.1
          clear HFI HIS HRL HLH hq
          go_wp2
          go_loopw [13, 14] (fun vo va wr => ∃ (a : Nat) (l2 : List Int), va = .int .i64 a ∧ a ≤ n ∧ Hid (Below wo.heap.size wo wr ∧ OwnI wr wo.heap.size vo l2 ∧ l2 = nodesL a (Jn nx fun a => (a : Int) ∈ l) ∧ l2.length ≤ a)) (fun _ va _ => n - (intOf va).toNat)
          case atStart => exact ⟨0, [], rfl, by omega, Below.refl _ _, World.ownsRow_nil _ _ _ _, rfl, by simp⟩
          case round =>
            obtain ⟨a, l2, rfl, ha, hs⟩ := hrel
            by_cases han : a < n
            · have han' : (a : Int) < n := by omega
              obtain ⟨cj, hlt⟩ := HJI.out a han
              have cj' : wr.cell? ⟨w1.heap.size, a, none⟩ = some (.bool (dec (Jn nx (fun a => (a : Int) ∈ l) a))) := (hs.out.1.cell (p := ⟨w1.heap.size, a, none⟩) hlt).trans cj
              have HNS : Hid _ := nodesL_succ a (Jn nx fun a => (a : Int) ∈ l)
              have HLN : Hid (l2.length ≤ a) := hs.out.2.2.2
              have HOW : Hid (OwnI wr wo.heap.size _ l2) := hs.out.2.1
              clear cj
              rcases hj : dec (Jn nx (fun a => (a : Int) ∈ l) a) with _ | _
              · rw [hj] at cj' HNS
                have HX : Hid (l2 = nodesL (a + 1) (Jn nx fun a => (a : Int) ∈ l)) := by show _ = _; rw [HNS.out, hs.out.2.2.1]; simp
                clear hj HNS HJI
                go_wp2
                go_roundw
                case rel => exact ⟨a + 1, l2, by first | rfl | (congr 1; omega), by omega, hs.out.1, HOW.out, HX.out, by have := HLN.out; omega⟩
                case measure => simp [intOf]; omega
              · rw [hj] at cj' HNS
                have HX : Hid (l2 ++ [(a : Int)] = nodesL (a + 1) (Jn nx fun a => (a : Int) ∈ l)) := by show _ = _; rw [HNS.out, hs.out.2.2.1]; rfl
                clear hj HNS HJI
                go_wp2_with (at_builtin; go_loud (refine wpList_append_own_at _ rfl _ _ 23 rfl wo.heap.size 3 i0 (.int .i64 0) 1 8 Tryz.underlying23 hi0 hz0 hz1 hz2 rfl (by decide) _ l2.length (l2.map intV) rfl (HOW.out.alloc _) ⟨wr.heap.size, 0, none⟩ 1 1 [intV a] rfl rfl ?c1 ?c2 ?c3 ?c4 ?c5 ?_))
                case c1 => exact cell_one_new wr (intV a) 3
                case c2 => intro u hu; simp at hu; subst hu; rfl
                case c3 => have := HLN.out; unfold maxLen; omega
                case c4 => have := HLN.out; omega
                case c5 => have := hs.out.1.size; simp; omega
                intro v2 w2 ho hg2 _ hat
                have HF : Hid (Below wo.heap.size wo w2) := below_grown (below_alloc hs.out.1 (.cells #[intV a] 3)) hg2 (fun q hqq => (HOW.out.lt q hqq).1)
                have HO : Hid (OwnI w2 wo.heap.size v2 (l2 ++ [(a : Int)])) := by
                  show World.ownsRow _ _ _ _ _ _ _
                  simpa using ho
                clear ho hg2 hat
                go_wp2
                go_roundw
                case rel => exact ⟨a + 1, l2 ++ [(a : Int)], by first | rfl | (congr 1; omega), by omega, HF.out, HO.out, HX.out, by have := HLN.out; simp; omega⟩
                case measure => simp [intOf]; omega
            · obtain rfl : a = n := by omega
              have HX : Hid (l2 = joinL nx fun a => (a : Int) ∈ l) := by show _ = _; rw [hs.out.2.2.1, HJL.out]
              clear HJI
              go_wp2
              go_ret2
              exact ⟨fun _ _ => ⟨_, rfl, by rw [← HX.out]; exact own_mono hs.out.2.1 HBO.out.size⟩, fun _ h9 => absurd HALL.out h9, fun h9 => absurd HM.out h9, below_trans HBO.out hs.out.1⟩
end Go.Proofs.YtogjjmbcbnceoaaGreat
