/- Whether a net is too great to be looked at. -/
import Derived.Test.YtogjjmbcbnceoaaGreatDMay
import Derived.Test.YtogjjmbcbnceoaaGreatDNetM
namespace Go.Proofs.YtogjjmbcbnceoaaGreat
open Go.RowKit

theorem lens_take {rows : List (List Int)} {i : Nat} (h : i < rows.length) : lensA (rows.take (i + 1)) = lensA (rows.take i) + (rows.getD i []).length := by
  unfold lensA
  rw [List.take_add_one, List.map_append, List.sum_append, List.getElem?_eq_getElem h, getD_of h]
  congr 1
theorem lens_take_le (rows : List (List Int)) (i : Nat) : lensA (rows.take i) ≤ lensA rows := by
  have : lensA rows = lensA (rows.take i) + lensA (rows.drop i) := by
    unfold lensA
    rw [← List.sum_append, ← List.map_append, List.take_append_drop]
  omega
def greatB (nx : List (List Int)) : Bool := decide (60 < nx.length ∨ 1200 < nx.length + lensA nx)
theorem greatB_no {nx : List (List Int)} (h : greatB nx = false) : nx.length ≤ 60 ∧ lensA nx ≤ 1200 := by
  unfold greatB at h
  have := of_decide_eq_false h
  omega
set_option maxRecDepth 100000 in
set_option maxHeartbeats 1000000 in
theorem great_any (nx : List (List Int)) (v : Value) (w : World) (h : NetAt w v nx) : Calls Tryz.prog 22 #[v] w fun e w' => e = .returned (.bool (greatB nx)) ∧ w' = w := by
  obtain ⟨a, c, rfl, hll⟩ := h.form
  have HI : Hid (∀ i, i < nx.length → _) := fun i hi => h.get (i := i) hi
  have HL : Hid (∀ i, i < nx.length → _) := fun i hi => lens_take (rows := nx) (i := i) hi
  have HE : Hid (lensA (nx.take nx.length) = lensA nx) := by show _ = _; rw [List.take_length]
  have HLE : Hid (∀ i, lensA (nx.take i) ≤ lensA nx) := fun i => lens_take_le nx i
  have HR : Hid (greatB nx = decide (60 < nx.length ∨ 1200 < nx.length + lensA nx)) := rfl
  obtain ⟨R, hR⟩ : ∃ R, R = greatB nx := ⟨_, rfl⟩
  rw [← hR] at HR
  rw [← hR]
  clear hR
  obtain ⟨n, hn⟩ : ∃ n, n = nx.length := ⟨_, rfl⟩
  rw [← hn] at HI HL HE hll HR
  rw [← hn]
  clear h hn
  go_enter Tryz.func22, Tryz.ntmps22
  go_wp2
  go_loopw [3, 4] (fun vs vi wr => ∃ (i : Nat) (s : Nat), vi = .int .i64 i ∧ i ≤ n ∧ vs = .int .i64 (s : Int) ∧ s ≤ 281474976710656 ∧ Hid (s = n + lensA (nx.take i) ∧ wr = w)) (fun _ vi _ => n - (intOf vi).toNat)
  case atStart => exact ⟨0, n, rfl, by omega, rfl, by omega, by simp [lensA], rfl⟩
  case round =>
    obtain ⟨i, s, rfl, hi, rfl, hsb, hr⟩ := hrel
    have hw := hr.out.2
    subst hw
    by_cases hin : i < n
    · have hin' : (i : Int) < n := by omega
      by_cases hs : s ≤ 1200
      · have hs' : (s : Int) ≤ 1200 := by omega
        obtain ⟨g, o, ra, rc, rfl, hg, c0, hI⟩ := HI.out i hin
        obtain ⟨_, _, _, hml⟩ := hI.form
        have HX : Hid _ := HL.out i hin
        clear HI HL HE hI
        generalize (nx.getD i []).length = m at *
        go_wp2
        go_roundw
        case rel => exact ⟨i + 1, s + m, by first | rfl | (congr 1; omega), by omega, by first | rfl | (congr 1; omega), by omega, by rw [HX.out]; have := hr.out.1; omega, by first | rfl | trivial⟩
        case measure => simp [intOf]; omega
      · have hs' : ¬ (s : Int) ≤ 1200 := by omega
        have hs2 : (1200 : Int) < s := by omega
        have HT : Hid (R = true) := by show R = true; rw [HR.out]; exact decide_eq_true (.inr (by have := hr.out.1; have := HLE.out i; omega))
        clear HI HL HE
        by_cases h3 : (60 : Int) < n
        · go_wp2
          go_ret
          exact ⟨ret_bool HT.out.symm, rfl⟩
        · go_wp2
          go_ret
          exact ⟨ret_bool HT.out.symm, rfl⟩
    · obtain rfl : i = n := by omega
      have HX : Hid (s = i + lensA nx) := by show s = _; rw [hr.out.1, HE.out]
      clear HI HL HE
      by_cases h3 : (60 : Int) < i
      · have HT : Hid (R = true) := by show R = true; rw [HR.out]; exact decide_eq_true (.inl (by omega))
        go_wp2
        go_ret
        exact ⟨ret_bool HT.out.symm, rfl⟩
      · by_cases h4 : (1200 : Int) < s
        · have HT : Hid (R = true) := by show R = true; rw [HR.out]; exact decide_eq_true (.inr (by have := HX.out; omega))
          go_wp2
          go_ret
          exact ⟨ret_bool HT.out.symm, rfl⟩
        · have HT : Hid (R = false) := by show R = false; rw [HR.out]; exact decide_eq_false (by have := HX.out; omega)
          go_wp2
          go_ret
          exact ⟨ret_bool HT.out.symm, rfl⟩
end Go.Proofs.YtogjjmbcbnceoaaGreat
/- What is fixed (11), given what the program's functions do. -/
namespace Go.Proofs.YtogjjmbcbnceoaaGreat
open Go.RowKit

def FrontsOk (nx : List (List Int)) : Prop := ∀ (v : Value) (w : World), NetAt w v nx → Calls Tryz.prog 24 #[v] w fun e w' => (May nx → ∃ v', e = .returned (.tuple #[v', .int .i64 0]) ∧ NetAt w' v' (frontsL nx)) ∧ (¬ May nx → e = .returned (.tuple #[.slice none 0 0, .int .i64 4])) ∧ Below w.heap.size w w'
def JoinsOk (nx : List (List Int)) (l : List Int) : Prop := ∀ (v lv : Value) (w : World), NetAt w v nx → IntsAt w lv l → Calls Tryz.prog 25 #[v, lv] w fun e w' => (May nx → AllIn nx.length l → ∃ v', e = .returned (.tuple #[v', .int .i64 0]) ∧ IntsAt w' v' (joinL nx fun a => (a : Int) ∈ l)) ∧ (May nx → ¬ AllIn nx.length l → e = .returned (.tuple #[.slice none 0 0, .int .i64 2])) ∧ (¬ May nx → e = .returned (.tuple #[.slice none 0 0, .int .i64 4])) ∧ Below w.heap.size w w'
theorem sameI_yes (xs : List Int) (v1 v2 : Value) (W : World) (h1 : IntsAt W v1 xs) (h2 : IntsAt W v2 xs) : Calls Tryz.prog 18 #[v1, v2] W fun e w' => e = .returned (.bool true) ∧ ∃ k, w' = W.drewN k := by
  have := sameI_any xs xs v1 v2 W h1 h2
  rwa [decide_eq_true rfl] at this
theorem sameR_yes (xs : List (List Int)) (v1 v2 : Value) (W : World) (h1 : NetAt W v1 xs) (h2 : NetAt W v2 xs) : Calls Tryz.prog 19 #[v1, v2] W fun e w' => e = .returned (.bool true) ∧ ∃ k, w' = W.drewN k := by
  have := sameR_any xs xs v1 v2 W h1 h2
  rwa [decide_eq_true rfl] at this
def frObjs (N : Nat) : List Obj := [.cells #[intV 3] 3, .cells #[intV 3] 3, .cells #[intV 1] 3, .cells #[.slice none 0 0, sl N 1, sl (N + 1) 1, sl (N + 2) 1, .slice none 0 0, .slice none 0 0] 23]
theorem fr_lit (w : World) : NetAt (allocs w (frObjs w.heap.size)) (sl (w.heap.size + 3) 6) [[], [3], [3], [1], [], []] := by
  have g := fun k o (h : (frObjs w.heap.size)[k]? = some o) => allocs_get (frObjs w.heap.size) w k o h
  refine ⟨[.slice none 0 0, sl w.heap.size 1, sl (w.heap.size + 1) 1, sl (w.heap.size + 2) 1, .slice none 0 0, .slice none 0 0], rfl, row_lit (t := 23) 6 (g 3 _ rfl) (by omega), fun i r kv hr hk => ?_⟩
  rcases i with _ | _ | _ | _ | _ | _ | i
  · cases hr; cases hk; exact row_nil _ _
  · cases hr; cases hk; exact row_lit (t := 3) 1 (g 0 _ rfl) (by omega)
  · cases hr; cases hk; exact row_lit (t := 3) 1 (g 1 _ rfl) (by omega)
  · cases hr; cases hk; exact row_lit (t := 3) 1 (g 2 _ rfl) (by omega)
  · cases hr; cases hk; exact row_nil _ _
  · cases hr; cases hk; exact row_nil _ _
  · simp at hr
set_option maxRecDepth 100000 in
set_option maxHeartbeats 2000000 in
theorem awakeM_any (hF : FrontsOk netM) (hJ : JoinsOk netM [2]) (w : World) : Calls Tryz.prog 23 #[] w fun e w' => e = .returned (.bool true) ∧ Below w.heap.size w w' := by
  have HF : Hid (∀ (v : Value) (W : World), NetAt W v netM → Calls Tryz.prog 24 #[v] W fun e w' => (∃ v', e = .returned (.tuple #[v', .int .i64 0]) ∧ NetAt w' v' [[], [3], [3], [1], [], []]) ∧ Below W.heap.size W w') := fun v W h => (hF v W h).mono fun e w' hh => by
    obtain ⟨v', e1, h2⟩ := hh.1 netM_may
    rw [netM_fronts] at h2
    exact ⟨⟨v', e1, h2⟩, hh.2.2⟩
  have HJ : Hid (∀ (v lv : Value) (W : World), NetAt W v netM → IntsAt W lv [2] → Calls Tryz.prog 25 #[v, lv] W fun e w' => (∃ v', e = .returned (.tuple #[v', .int .i64 0]) ∧ IntsAt w' v' [1, 3]) ∧ Below W.heap.size W w') := fun v lv W h hl => (hJ v lv W h hl).mono fun e w' hh => by
    obtain ⟨v', e1, h2⟩ := hh.1 netM_may (by intro x hx; simp at hx; subst hx; decide)
    rw [netM_joins] at h2
    exact ⟨⟨v', e1, h2⟩, hh.2.2.2⟩
  have HN : Hid (∀ W, _) := fun W => netM_any W
  have HL2 : Hid (∀ W : World, IntsAt (W.alloc (.cells #[.int .i64 2] 3)) (.slice (some ⟨W.heap.size, 0, none⟩) 1 1) [2]) := fun W => ints_lit W [2] (by decide)
  have HL3 : Hid (∀ W : World, IntsAt (W.alloc (.cells #[.int .i64 1, .int .i64 3] 3)) (.slice (some ⟨W.heap.size, 0, none⟩) 2 2) [1, 3]) := fun W => ints_lit W [1, 3] (by decide)
  have HFL : Hid (∀ W : World, NetAt ((((W.alloc (.cells #[.int .i64 3] 3)).alloc (.cells #[.int .i64 3] 3)).alloc (.cells #[.int .i64 1] 3)).alloc (.cells #[.slice none 0 0, .slice (some ⟨W.heap.size, 0, none⟩) 1 1, .slice (some ⟨W.heap.size + 1, 0, none⟩) 1 1, .slice (some ⟨W.heap.size + 2, 0, none⟩) 1 1, .slice none 0 0, .slice none 0 0] 23)) (.slice (some ⟨W.heap.size + 3, 0, none⟩) 6 6) [[], [3], [3], [1], [], []]) := fun W => fr_lit W
  have HSI : Hid _ := sameI_yes
  have HSR : Hid _ := sameR_yes
  have S1 : True := trivial
  clear hF hJ
  go_enter Tryz.func23, Tryz.ntmps23
  go_wp2_with (first
    | (go_at_call 39; clear S1; go_loud (refine Calls.mono (by exact HN.out _) ?_; rintro e w0 ⟨v0, rfl, hn0, hb0⟩; have HN0 : Hid _ := hn0; have HB0 : Hid _ := hb0; clear hn0 hb0))
    | (go_at_call 24; go_loud (refine Calls.mono (by exact HF.out _ _ HN0.out) ?_; rintro e w1 ⟨⟨v1, rfl, hi1⟩, hb1⟩; have HI1 : Hid _ := hi1; have HB1 : Hid (Below w.heap.size w w1) := below_trans HB0.out hb1; clear hi1 hb1))
    | (go_at_call 39; go_loud (refine Calls.mono (by exact HN.out _) ?_; rintro e w2 ⟨v2, rfl, hn2, hb2⟩; have HN2 : Hid _ := hn2; have HB2 : Hid (Below w.heap.size w w2) := below_trans HB1.out hb2; have HI2 : Hid (NetAt w2 v1 [[], [3], [3], [1], [], []]) := HI1.out.below hb2; clear hn2 hb2))
    | (go_at_call 25; go_loud (refine Calls.mono (by exact HJ.out _ _ _ (HN2.out.below (below_alloc (Below.refl _ _) _)) (HL2.out w2)) ?_; rintro e w3 ⟨⟨v3, rfl, hi3⟩, hb3⟩; have HI3 : Hid _ := hi3; have HA3 : Hid (Below w2.heap.size w2 w3) := below_trans (below_alloc (Below.refl _ _) _) hb3; clear hi3 hb3))
    | (go_at_call 19; go_loud (refine Calls.mono (by exact HSR.out _ _ _ _ ((HI2.out.below HA3.out).below (below_alloc (below_alloc (below_alloc (below_alloc (Below.refl _ _) _) _) _) _)) (HFL.out w3)) ?_; rintro e w4 ⟨rfl, hd4⟩; have HA4 : Hid (Below w3.heap.size w3 w4) := below_trans (below_alloc (below_alloc (below_alloc (below_alloc (Below.refl _ _) _) _) _) _) (below_of_drew hd4); clear hd4))
    | (go_at_call 18; go_loud (refine Calls.mono (by exact HSI.out _ _ _ _ ((HI3.out.below HA4.out).below (below_alloc (Below.refl _ _) _)) (HL3.out w4)) ?_; rintro e w5 ⟨rfl, hd5⟩; have HA5 : Hid (Below w4.heap.size w4 w5) := below_trans (below_alloc (Below.refl _ _) _) (below_of_drew hd5); clear hd5)))
  go_ret
  exact ⟨rfl, below_trans (below_trans (below_trans HB2.out HA3.out) HA4.out) HA5.out⟩
end Go.Proofs.YtogjjmbcbnceoaaGreat
