/- The walk of TokenCovers. -/
import Derived.Test.YtcinlpiidgbnaaaLies2
import Derived.Test.YtcinlpiidgbnaaaIdle
namespace Go.Proofs.Ytcinlpiidgbnaaa
open Go.RowKit

theorem reach_of {s : ByteArray} (z : s.data.toList.length ≤ reachBytes) : s.size ≤ 140737488351232 := by
  unfold reachBytes at z
  have : s.data.toList.length = s.size := by simp
  omega
theorem kept_tok {w1 w2 : World} {a b c : Value} (hb : Below (w1.alloc (.cells #[a, b, c] 35)).heap.size (w1.alloc (.cells #[a, b, c] 35)) w2) :
    w2.cell? ⟨w1.heap.size, 0, none⟩ = some a ∧ w2.cell? ⟨w1.heap.size, 1, none⟩ = some b ∧ w2.cell? ⟨w1.heap.size, 2, none⟩ = some c ∧ w1.heap.size < w2.heap.size := by
  have hz := hb.size
  have hsz : (w1.alloc (.cells #[a, b, c] 35)).heap.size = w1.heap.size + 1 := by simp
  have e := (hb.block w1.heap.size (by omega)).trans (heap_alloc_new w1 _)
  refine ⟨?_, ?_, ?_, by omega⟩
  · simp only [World.cell?, e]; rfl
  · simp only [World.cell?, e]; rfl
  · simp only [World.cell?, e]; rfl
theorem past2' {w : World} {b : Nat} (hb : b < w.heap.size) (o1 o2 : Obj) (j : Nat) : ((w.alloc o1).alloc o2).cell? ⟨b, j, none⟩ = w.cell? ⟨b, j, none⟩ := (past2 hb o1 o2 j).1
/-- What is left to be covered behind i tokens. -/
theorem cov_next {l : List UInt8} {at' : Nat} {t : Tok} {ts : List Tok} (h : cov l at' (t :: ts)) : at' ≤ t.2.1 ∧ t.2.1 ≤ t.2.2 ∧ t.2.2 ≤ l.length ∧ idleP ((l.drop at').take (t.2.1 - at')) ∧
    ((ts = [] ∧ t = (1, l.length, l.length)) ∨ (ts ≠ [] ∧ t.2.1 < t.2.2 ∧ scanS true (txt l t) = .ok [(t.1, 0, t.2.2 - t.2.1), (1, t.2.2 - t.2.1, t.2.2 - t.2.1)] ∧ cov l t.2.2 ts)) := by
  match ts, h with
  | [], h =>
    obtain ⟨h1, h2, h3⟩ := h
    subst h1
    exact ⟨h2, Nat.le_refl _, Nat.le_refl _, h3, .inl ⟨rfl, rfl⟩⟩
  | u :: us, h =>
    obtain ⟨h1, h2, h3, h4, h5, h6⟩ := h
    exact ⟨h1, by omega, h3, h4, .inr ⟨by simp, h2, h5, h6⟩⟩

set_option maxRecDepth 100000 in
set_option maxHeartbeats 2000000 in
theorem covers_walk (s : ByteArray) (z : s.data.toList.length ≤ reachBytes) (w : World) : Calls Try.prog 6 #[.string s] w fun e w' => e = .returned (.bool true) ∧ Below w.heap.size w w' := by
  have zz := reach_of z
  clear z
  have n26 := neq_flt
  by_cases hs : 20000 < s.size
  · have hs' : (20000 : Int) < s.size := by omega
    go_enter Try.func6, Try.ntmps6
    go_wp2_with (go_at_call 9; refine (awake_any _).mono ?_; rintro e w0 ⟨rfl, hb0⟩)
    go_ret
    exact ⟨rfl, hb0⟩
  · have hs' : (s.size : Int) ≤ 20000 := by omega
    have hs2 : s.size ≤ 65536 := by omega
    rcases hsc : scanS true s.data.toList with p | ⟨ts⟩
    · have hp := scanS_err hsc
      rw [show s.data.toList.length = s.size by simp] at hp
      have hC := fun w => scan_bad hs2 hsc w
      have hp' : (p : Int) ≤ s.size := by omega
      have hp0 : (0 : Int) ≤ p := by omega
      clear hsc hs hp zz
      go_enter Try.func6, Try.ntmps6
      go_wp2_with (first | (go_at_call 9; refine (awake_any _).mono ?_; rintro e w0 ⟨rfl, hb0⟩) | (go_at_call 10; refine (hC _).mono ?_; rintro e w1 ⟨ad, cap, rfl, hb1⟩))
      go_ret
      exact ⟨rfl, ((hb0.trans (hb1.mono hb0.size)).alloc (by have := hb0.size; have := hb1.size; omega) _)⟩
    · have hcov : Hid (cov s.data.toList 0 ts) := covers hsc
      have hC := fun w => scan_good hs2 hsc w
      have hn0 : 0 < ts.length := by
        have := scanL_ne hsc
        cases ts with
        | nil => exact absurd rfl this
        | cons t us => simp
      have hlen := scanL_len _ _ _ ts hsc
      rw [drop_len, show s.data.toList.length = s.size by simp] at hlen
      have hn1 : ts.length ≤ 20001 := by omega
      have HL : Hid (s.data.toList.length = s.size) := by show _ = _; simp
      have e35 := eql_tok
      clear hsc zz hlen
      go_enter Try.func6, Try.ntmps6
      go_wp2_with (first | (go_at_call 9; refine (awake_any _).mono ?_; rintro e w0 ⟨rfl, hb0⟩) | (go_at_call 10; refine (hC _).mono ?_; rintro e w1 ⟨v, rfl, hl1, hb1⟩; obtain ⟨ad, cap, rfl, hcells⟩ := hl1; obtain ⟨g, rfl, hcells2⟩ := hcells hn0; clear hcells2))
      have HC : Hid (Lies w1 (.slice (some ⟨g, 0, none⟩) ts.length cap) ts) := ⟨_, cap, rfl, hcells⟩
      have hB1 : Hid (Below w.heap.size w w1) := hb0.trans (hb1.mono hb0.size)
      clear hcells hb0 hb1 hC
      obtain ⟨n, hn⟩ : ∃ n, ts.length = n := ⟨_, rfl⟩
      have HN : Hid (ts.length = n) := hn
      rw [hn] at hn0 hn1 ⊢
      clear hn
      go_loopw [5, 6] (fun at' i wr => ∃ (k a : Nat), k < n ∧ a ≤ s.size ∧ at' = .int .i64 a ∧ i = .int .i64 k ∧ Hid (cov s.data.toList a (ts.drop k) ∧ Below w1.heap.size w1 wr)) (fun _ i _ => n - (intOf i).toNat)
      case atStart => exact ⟨0, 0, hn0, Nat.zero_le _, rfl, rfl, hcov.out, (Below.refl _ _).alloc (Nat.le_refl _) _⟩
      case round =>
        clear hcov
        obtain ⟨k, a, hk, ha, rfl, rfl, hr⟩ := hrel
        have hk' : (k : Int) < n := by omega
        obtain ⟨⟨kd, A, E⟩, ht⟩ : ∃ t, ts[k]? = some t := ⟨_, List.getElem?_eq_getElem (by rw [HN.out]; exact hk)⟩
        have hd : ts.drop k = (kd, A, E) :: ts.drop (k + 1) := by
          obtain ⟨hh, he⟩ := List.getElem?_eq_some_iff.1 ht
          rw [List.drop_eq_getElem_cons hh, he]
        obtain ⟨c0, c1, c2⟩ := lies_at HC.out hr.out.2 ht
        simp only at c0 c1 c2
        have hcv := cov_next (hd ▸ hr.out.1)
        rw [HL.out] at hcv
        simp only at hcv
        obtain ⟨h1, h2, h3, h4, h5⟩ := hcv
        have h1' : ¬ (A : Int) < a := by omega
        have h2' : ¬ (E : Int) < A := by omega
        have h3' : ¬ (s.size : Int) < E := by omega
        have hX : (s.extract a A).data.toList = (s.data.toList.drop a).take (A - a) := Lib.extract_data _ _ _
        have HI : Hid (idleP (s.extract a A).data.toList) := by rw [hX]; exact h4
        have HZ : Hid ((s.extract a A).size ≤ 65536) := by
          show _ ≤ _
          rw [Lib.size_eq, hX]; simp; omega
        have HB : Hid (Below w1.heap.size w1 wr) := hr.out.2
        have HW : Hid (w1.heap.size ≤ wr.heap.size) := hr.out.2.size
        have hzw : Hid (w.heap.size ≤ w1.heap.size) := hB1.out.size
        clear ht hd h4 hX hr
        rcases h5 with ⟨h6, h7⟩ | ⟨h6, h7, h8, h9⟩
        · have hlast : (n : Int) - 1 = (k : Int) := by
            have := congrArg List.length h6
            simp [HN.out] at this
            omega
          injection h7 with i1 i2
          injection i2 with i2 i3
          subst i1 i2 i3
          clear h6
          go_wp2_with (go_at_call 15; refine (idle_any _ _ HZ.out HI.out).mono ?_; rintro e w' ⟨rfl, rfl⟩)
          go_ret
          exact ⟨ret_bool (by simp), (hB1.out.trans (HB.out.mono hzw.out)).alloc (by have := HW.out; have := hzw.out; omega) _⟩
        · have hl2 : ((k : Int) == (n : Int) - 1) = false := by
            have : k + 1 ≠ n := by
              intro h
              apply h6
              exact List.drop_eq_nil_of_le (by rw [HN.out]; omega)
            simp; omega
          have hkn : k + 1 < n := by simp at hl2; omega
          obtain ⟨m, hm⟩ : ∃ m : Nat, E = A + m := ⟨E - A, by omega⟩
          have hX : (s.extract A E).data.toList = txt s.data.toList (kd, A, E) := Lib.extract_data _ _ _
          rw [← hX] at h8
          have hEA : E - A = m := by omega
          rw [hEA] at h8
          have hZ2 : (s.extract A E).size ≤ 65536 := by
            rw [Lib.size_eq, hX]; unfold txt; simp; omega
          have hC2 := fun w => scan_good hZ2 h8 w
          have hmi : (E : Int) - A = m := by omega
          have hm0 : ((m : Int) == 0) = false := by simp; omega
          have hEs : E ≤ s.size := h3
          have HV : Hid (cov s.data.toList E (ts.drop (k + 1))) := h9
          clear h6 h8 h9 hm hX hZ2 hEA
          go_wp2_with (first | (go_at_call 15; refine (idle_any _ _ HZ.out HI.out).mono ?_; rintro e w' ⟨rfl, rfl⟩) | (go_at_call 10; refine (hC2 _).mono ?_; rintro e w2 ⟨v2, rfl, hl2', hb2⟩; obtain ⟨t0, t1, t2, tz⟩ := kept_tok hb2; have q3 := past1 tz; have q4 := past2' tz) | (go_at_call 12; refine (same_below _ _ [(kd, 0, m), (1, m, m)] [(kd, 0, m), (1, m, m)] _ (lies_below hl2' (((Below.refl _ _).alloc (Nat.le_refl _) _).alloc (by simp) _)) (lies_lit _ _ 2 rfl (by simp)) (by simp)).mono ?_; rintro e w3 ⟨rfl, hb3⟩))
          have z2 := hb2.size
          simp at z2
          have z3 := hb3.size
          simp at z3
          have B2 : Below w1.heap.size w1 w2 := (HB.out.alloc HW.out _).trans (hb2.mono (by have := HW.out; simp; omega))
          have B3 : Below w1.heap.size w1 w3 := ((B2.alloc (by have := HW.out; omega) _).alloc (by have := HW.out; simp; omega) _).trans (hb3.mono (by have := HW.out; simp; omega))
          go_roundw
          case rel => exact ⟨k + 1, E, hkn, hEs, rfl, by go_num, HV.out, B3⟩
          case measure => simp [intOf]; omega
end Go.Proofs.Ytcinlpiidgbnaaa
