/- The law DomNumbers: its run, given what the program's functions do. -/
import Derived.Test.YthedgacidphgnaaDLaw1
import Derived.Test.YthedgacidphgnaaDNetG
import Derived.Test.YthedgacidphgnaaDRow
namespace Go.Proofs.Ythedgacidphgnaa
open Go.RowKit

theorem may_nil : ¬ May [] := fun h => by have := h.1; simp at this
theorem lensA_small {d : Nat} {rows : List (List Int)} (h : ∀ r ∈ rows, r.length ≤ d) : lensA rows ≤ d * rows.length := by
  unfold lensA
  induction rows with
  | nil => simp
  | cons a rows ih =>
    have h1 := h a (by simp)
    have h2 := ih (fun r hr => h r (by simp [hr]))
    simp only [List.map_cons, List.sum_cons, List.length_cons, Nat.mul_add, Nat.mul_one]
    omega
theorem may_not {x : Int} (hx : ¬ (0 ≤ x ∧ x < 1)) : ¬ May [[x]] := fun h => hx (by have := h.2 [x] (by simp) x (by simp); simpa using this)
theorem net_one (W : World) (x : Int) : NetAt ((W.alloc (.cells #[.int .i64 x] 3)).alloc (.cells #[.slice (some ⟨W.heap.size, 0, none⟩) 1 1] 25)) (.slice (some ⟨W.heap.size + 1, 0, none⟩) 1 1) [[x]] := by
  have h1 : (W.alloc (.cells #[.int .i64 x] 3)).heap.size = W.heap.size + 1 := by simp
  have hr : RowAt ((W.alloc (.cells #[.int .i64 x] 3)).alloc (.cells #[.slice (some ⟨W.heap.size, 0, none⟩) 1 1] 25)) (.slice (some ⟨W.heap.size + 1, 0, none⟩) 1 1) 1 [.slice (some ⟨W.heap.size, 0, none⟩) 1 1] := by
    have h2 := heap_alloc_new (W.alloc (.cells #[.int .i64 x] 3)) (.cells #[.slice (some ⟨W.heap.size, 0, none⟩) 1 1] 25)
    rw [h1] at h2
    exact row_lit (t := 25) 1 h2 (by decide)
  refine ⟨_, rfl, hr, fun i r kv e1 e2 => ?_⟩
  have hi : i = 0 := by have := (List.getElem?_eq_some_iff.1 e1).1; simp at this; exact this
  subst hi
  simp at e1 e2
  subst e1; subst e2
  exact (ints_lit W [x] (by simp)).below (below_alloc (Below.refl _ _) _)
set_option maxRecDepth 100000 in
set_option maxHeartbeats 4000000 in
theorem numbers_any (hT : ∀ nx, nx.length ≤ 20000 → lensA nx ≤ 40000 → TreeOk nx) (hO : OverOk) (hA : ∀ W, Calls Try.prog 9 #[] W fun e w' => e = .returned (.bool true) ∧ Below W.heap.size W w') (w : World) :
    Calls Try.prog 5 #[] w fun e w' => e = .returned (.bool true) ∧ Below w.heap.size w w' := by
  have HTR : Hid (∀ (nx : List (List Int)) (v : Value) (W : World), NetAt W v nx → _) := fun nx v W h => trees_any nx v W h (fun h1 h2 => hT nx (by omega) (by omega)) hA
  have HT0 : Hid (∀ W : World, Calls Try.prog 10 #[.slice none 0 0] W fun e w' => e = .returned (.tuple #[.slice none 0 0, .int .i64 4]) ∧ Below W.heap.size W w') := fun W => (hT [] (by decide) (by decide) _ W ⟨[], rfl, row_nil W _, fun i r kv h => by simp at h⟩).mono fun e w' hh => ⟨hh.2.1 may_nil, hh.2.2⟩
  have HT1 : Hid (∀ W : World, Calls Try.prog 10 #[.slice (some ⟨W.heap.size + 1, 0, none⟩) 1 1] ((W.alloc (.cells #[.int .i64 1] 3)).alloc (.cells #[.slice (some ⟨W.heap.size, 0, none⟩) 1 1] 25)) fun e w' => e = .returned (.tuple #[.slice none 0 0, .int .i64 4]) ∧ Below W.heap.size W w') := fun W => (hT [[1]] (by decide) (by decide) _ _ (net_one W 1)).mono fun e w' hh => ⟨hh.2.1 (may_not (by omega)), below_trans (below_alloc (below_alloc (Below.refl _ _) _) _) hh.2.2⟩
  have HT2 : Hid (∀ W : World, Calls Try.prog 10 #[.slice (some ⟨W.heap.size + 1, 0, none⟩) 1 1] ((W.alloc (.cells #[.int .i64 (-1)] 3)).alloc (.cells #[.slice (some ⟨W.heap.size, 0, none⟩) 1 1] 25)) fun e w' => e = .returned (.tuple #[.slice none 0 0, .int .i64 4]) ∧ Below W.heap.size W w') := fun W => (hT [[-1]] (by decide) (by decide) _ _ (net_one W (-1))).mono fun e w' hh => ⟨hh.2.1 (may_not (by omega)), below_trans (below_alloc (below_alloc (Below.refl _ _) _) _) hh.2.2⟩
  have HLONG : Hid (∀ (G : Nat) (W : World), NetAt W (.slice (some ⟨G, 0, none⟩) 20000 20000) (rowK 20000 19999) → Calls Try.prog 10 #[.slice (some ⟨G, 0, none⟩) 20000 20000] W fun e w' => (∃ a c, e = .returned (.tuple #[.slice a 20000 c, .int .i64 0]) ∧ IntsAt w' (.slice a 20000 c) (rowT 20000)) ∧ Below W.heap.size W w') := fun G W h => (hT _ (by rw [rowK_len]; exact Nat.le_refl _) (by have := lensA_small (rowK_small (n := 20000) (i := 19999)); rw [rowK_len] at this; omega) _ W h).mono fun e w' hh => by
    obtain ⟨v', e1, h1⟩ := hh.1 (rowK_may (n := 20000) (by omega))
    have e9 := rowK_tree (n := 20000) (by omega)
    have h2 : OwnI w' W.heap.size v' (rowT 20000) := by rw [← e9]; exact h1
    have h3 := h2.at' (by rw [rowT_len]; omega)
    obtain ⟨a, c, e2, _⟩ := h3.form
    rw [rowT_len] at e2
    subst e2
    exact ⟨⟨a, c, e1, h3⟩, hh.2.2⟩
  have HV1 : Hid (∀ W : World, Calls Try.prog 13 #[.slice (some ⟨W.heap.size, 0, none⟩) 2 2, .int .i64 1, .int .i64 0] (W.alloc (.cells #[.int .i64 1, .int .i64 0] 3)) fun e w' => e = .returned (.bool true) ∧ Below W.heap.size W w') := fun W => (hO [1, 0] 1 0 _ _ (ints_lit W [1, 0] (by decide))).mono fun e w' hh => ⟨by rw [hh.1, show overL [1, 0] 1 0 = true by decide], below_trans (below_alloc (Below.refl _ _) _) (below_of_drew hh.2)⟩
  have HV2 : Hid (∀ W : World, Calls Try.prog 13 #[.slice (some ⟨W.heap.size, 0, none⟩) 2 2, .int .i64 5, .int .i64 0] (W.alloc (.cells #[.int .i64 1, .int .i64 0] 3)) fun e w' => e = .returned (.bool false) ∧ Below W.heap.size W w') := fun W => (hO [1, 0] 5 0 _ _ (ints_lit W [1, 0] (by decide))).mono fun e w' hh => ⟨by rw [hh.1, show overL [1, 0] 5 0 = false by decide], below_trans (below_alloc (Below.refl _ _) _) (below_of_drew hh.2)⟩
  have HV3 : Hid (∀ W : World, Calls Try.prog 13 #[.slice none 0 0, .int .i64 0, .int .i64 0] W fun e w' => e = .returned (.bool false) ∧ Below W.heap.size W w') := fun W => (hO [] 0 0 _ W (row_nil W _)).mono fun e w' hh => ⟨by rw [hh.1, show overL [] 0 0 = false by decide], below_of_drew hh.2⟩
  have HV4 : Hid (∀ (v : Value) (W : World), IntsAt W v (rowT 20000) → Calls Try.prog 13 #[v, .int .i64 0, .int .i64 19999] W fun e w' => e = .returned (.bool true) ∧ Below W.heap.size W w') := fun v W h => (hO _ 0 19999 v W h).mono fun e w' hh => ⟨by rw [hh.1]; exact congrArg _ (congrArg _ ((rowT_over (n := 20000) (a := 0) (b := 19999) (by omega) (by omega)).trans (decide_eq_true (by omega)))), below_of_drew hh.2⟩
  have HV5 : Hid (∀ (v : Value) (W : World), IntsAt W v (rowT 20000) → Calls Try.prog 13 #[v, .int .i64 19999, .int .i64 0] W fun e w' => e = .returned (.bool false) ∧ Below W.heap.size W w') := fun v W h => (hO _ 19999 0 v W h).mono fun e w' hh => ⟨by rw [hh.1]; exact congrArg _ (congrArg _ ((rowT_over (n := 20000) (a := 19999) (b := 0) (by omega) (by omega)).trans (decide_eq_false (by omega)))), below_of_drew hh.2⟩
  have HA : Hid _ := hA
  have HTV : Hid (∀ (W : World) (a : Option Addr) (c : Nat), IntsAt W (.slice a 20000 c) (rowT 20000) → ∀ i, i < 20000 → ∃ g o, a = some ⟨g, o, none⟩ ∧ W.cell? ⟨g, o + i, none⟩ = some (.int .i64 ((i : Int) - 1))) := fun W a c h i hi => by
    obtain ⟨g, o, h1, _, h2⟩ := h.get (i := i) (by rw [rowT_len]; exact hi)
    rw [rowT_get hi] at h2
    exact ⟨g, o, h1, h2⟩
  have hmk : ∀ W : World, (Instr.makeSlice 22 (.int .i64 20000) (.int .i64 20000)).run Try.prog W = .ok (.slice (some ⟨W.heap.size, 0, none⟩) 20000 20000) (W.alloc (.cells (madeCells #[.slice none 0 0] 20000) 25)) := run_make_row' (P := Try.prog) 22 25 (.slice none 0 0) 24 Try.underlying22 infoS rfl .i64 .i64 20000 (by omega) (by omega)
  have HRN : Hid (∀ W : World, RowsIn (W.alloc (.cells (madeCells #[.slice none 0 0] 20000) 25)) W.heap.size W.heap.size 20000 (List.replicate 20000 (.slice none 0 0)) (rowK 20000 0)) := fun W => by
    have := rows_new W W.heap.size 20000 (Nat.le_refl _) (by omega)
    rw [rowK_zero] at this
    exact this
  obtain ⟨i0, hi0, hz0, hz1, hz2⟩ := info_parts infoI
  obtain ⟨j0, hj0, hy0, hy1, hy2⟩ := info_parts infoS
  clear hT hO hA
  go_enter Try.func5, Try.ntmps5
  go_wp2
  go_loopw [1] (fun vm wr => ∃ m : Nat, vm = .int .i64 m ∧ m ≤ 512 ∧ Hid (Below w.heap.size w wr)) (fun vm _ => 512 - (intOf vm).toNat)
  case atStart => exact ⟨0, rfl, by omega, Below.refl _ _⟩
  case round =>
    obtain ⟨m, rfl, hm, hr⟩ := hrel
    generalize wr = wo at *
    by_cases hmn : m < 512
    · have hmn' : (m : Int) < 512 := by omega
      clear HLONG HT0 HT1 HT2 HV1 HV2 HV3 HV4 HV5 HRN hmk HTV
      go_wp2
      go_loopw [2, 3] (fun vn vi wr => ∃ (i : Nat) (rows : List (List Int)), vi = .int .i64 i ∧ i ≤ 3 ∧ Hid (Below wo.heap.size wo wr ∧ NetG wr wo.heap.size vn rows ∧ rows.length = i ∧ ∀ r ∈ rows, r.length ≤ 3)) (fun _ vi _ => 3 - (intOf vi).toNat)
      case atStart => exact ⟨0, [], rfl, by omega, Below.refl _ _, NetG.nil _ _, rfl, by simp⟩
      case round =>
        obtain ⟨i, rows, rfl, hi, hq⟩ := hrel
        generalize wr = wb at *
        by_cases hin : i < 3
        · have hin' : (i : Int) < 3 := by omega
          clear HTR HA
          go_wp2
          go_loopw [4, 5] (fun vl vk wr => ∃ (k : Nat) (l : List Int), vk = .int .i64 k ∧ k ≤ 3 ∧ Hid (Below wb.heap.size wb wr ∧ OwnI wr wb.heap.size vl l ∧ l.length ≤ k)) (fun _ vk _ => 3 - (intOf vk).toNat)
          case atStart => exact ⟨0, [], rfl, by omega, Below.refl _ _, World.ownsRow_nil _ _ _ _, by simp⟩
          case round =>
            obtain ⟨k, l, rfl, hk, hs⟩ := hrel
            by_cases hkn : k < 3
            · have hkn' : (k : Int) < 3 := by omega
              have HOW : Hid (OwnI wr wb.heap.size _ l) := hs.out.2.1
              have HLN : Hid (l.length ≤ k) := hs.out.2.2
              go_wp2_with (at_builtin; go_loud (refine wpList_append_own_at _ rfl _ _ 25 rfl wb.heap.size 3 i0 (.int .i64 0) 1 8 Try.underlying25 hi0 hz0 hz1 hz2 rfl (by decide) _ l.length (l.map intV) rfl (HOW.out.alloc _) ⟨wr.heap.size, 0, none⟩ 1 1 [intV k] rfl rfl ?c1 ?c2 ?c3 ?c4 ?c5 ?_))
              case c1 => exact cell_one_new wr (intV k) 3
              case c2 => intro u hu; simp at hu; subst hu; rfl
              case c3 => have := HLN.out; unfold maxLen; omega
              case c4 => have := HLN.out; omega
              case c5 => have := hs.out.1.size; simp; omega
              case roundEnd =>
                refine ⟨⟨k + 1, l, by first | rfl | (congr 1; omega), by omega, hs.out.1, HOW.out, by have := HLN.out; omega⟩, ?_⟩
                simp [intOf]; omega
              intro v2 w2 ho hg2 _ hat
              have HF : Hid (Below wb.heap.size wb w2) := below_grown (below_alloc hs.out.1 (.cells #[intV k] 3)) hg2 (fun q hqq => (HOW.out.lt q hqq).1)
              have HO : Hid (OwnI w2 wb.heap.size v2 (l ++ [(k : Int)])) := by
                show World.ownsRow _ _ _ _ _ _ _
                simpa using ho
              clear ho hg2 hat
              go_wp2
              go_roundw
              case rel => exact ⟨k + 1, l ++ [(k : Int)], by first | rfl | (congr 1; omega), by omega, HF.out, HO.out, by have := HLN.out; simp; omega⟩
              case measure => simp [intOf]; omega
            · obtain rfl : k = 3 := by omega
              generalize wr = wc at *
              obtain ⟨la, lc, hle, _⟩ := (OwnI.at' hs.out.2.1 (by have := hs.out.2.2; omega)).form
              subst hle
              have HLL : Hid (rows.length = i) := hq.out.2.2.1
              have HR3 : Hid (∀ r ∈ rows, r.length ≤ 3) := hq.out.2.2.2
              have HL3 : Hid (l.length ≤ 3) := hs.out.2.2
              have HBB : Hid (Below wo.heap.size wo wc) := below_trans hq.out.1 hs.out.1
              obtain ⟨kvs2, hkl, hown, hkid⟩ := hq.out.2.1.below hs.out.1
              have HOL : Hid (OwnI wc wo.heap.size (.slice la l.length lc) l) := own_mono hs.out.2.1 hq.out.1.size
              have HAPT : Hid (∀ g, (Value.slice la l.length lc).ownBlock = some g → u2.ownBlock ≠ some g) := fun g hg e => by
                have h1 := (hs.out.2.1.lt g hg).1
                obtain ⟨k9, h9⟩ := hq.out.2.1.own
                have h2 := (h9.lt g e).2
                omega
              have HK : Hid _ := hkid
              have HOWN : Hid (wc.ownsRow wo.heap.size 25 1 u2 rows.length kvs2) := hown
              have HKL : Hid _ := hkl
              clear hkid hown hkl
              go_wp2_with (at_builtin; go_loud (refine wpList_append_own_at _ rfl _ _ 22 rfl wo.heap.size 25 j0 (.slice none 0 0) 1 24 Try.underlying22 hj0 hy0 hy1 hy2 rfl (by decide) _ rows.length kvs2 rfl (HOWN.out.alloc _) ⟨wc.heap.size, 0, none⟩ 1 1 [(.slice la l.length lc)] rfl rfl ?c1 ?c2 ?c3 ?c4 ?c5 ?_))
              case c1 => exact cell_one_new wc (.slice la l.length lc) 25
              case c2 => intro u hu; simp at hu; subst hu; rfl
              case c3 => have := HLL.out; unfold maxLen; omega
              case c4 => have := HLL.out; omega
              case c5 => have := HBB.out.size; simp; omega
              intro v2 w2 ho hg2 _ hat
              have HF : Hid (Below wo.heap.size wo w2) := below_grown (below_alloc HBB.out (.cells #[(.slice la l.length lc)] 25)) hg2 (fun q hqq => (HOWN.out.lt q hqq).1)
              have HO : Hid (NetG w2 wo.heap.size v2 (rows ++ [l])) := NetG.push (w := wc.alloc (.cells #[(.slice la l.length lc)] 25)) HKL.out (fun i r kv e1 e2 => ⟨owns_below (HK.out i r kv e1 e2).1 (below_alloc (Below.refl _ _) _), (HK.out i r kv e1 e2).2⟩) (owns_below HOL.out (below_alloc (Below.refl _ _) _)) HAPT.out ho hg2 (by simpa using hat)
              clear ho hg2 hat
              go_wp2
              go_roundw
              case rel => exact ⟨i + 1, rows ++ [l], by first | rfl | (congr 1; omega), by omega, HF.out, HO.out, by simp [HLL.out], fun r hr9 => (List.mem_append.1 hr9).elim (HR3.out r) fun h9 => by simp at h9; subst h9; exact HL3.out⟩
              case measure => simp [intOf]; omega
        · obtain rfl : i = 3 := by omega
          have HNA : Hid (NetAt wb u2 rows) := hq.out.2.1.at' (by have := hq.out.2.2.1; omega) (fun r hr9 => by have := hq.out.2.2.2 r hr9; omega)
          have HBW : Hid (Below w.heap.size w wb) := below_trans hr.out hq.out.1
          clear hq hr
          go_wp2_with (go_at_call 3; go_loud (refine Calls.mono (by exact HTR.out rows _ _ HNA.out) ?_; rintro e w1 ⟨rfl, hb1⟩; have HB1 : Hid _ := hb1; clear hb1))
          go_roundw
          case rel => exact ⟨m + 1, by first | rfl | (congr 1; omega), by omega, below_trans HBW.out HB1.out⟩
          case measure => simp [intOf]; omega
    · obtain rfl : m = 512 := by omega
      clear HTR
      go_wp2
      have HN0 : Hid (RowsIn (wo.alloc (.cells (madeCells #[.slice none 0 0] 20000) 25)) wo.heap.size wo.heap.size 20000 _ (rowK 20000 0)) := HRN.out wo
      clear HRN hmk
      go_loopw [7] (fun vi wr => ∃ (i : Nat) (kvs : List Value), vi = .int .i64 i ∧ i ≤ 19999 ∧ Hid (Below wo.heap.size wo wr ∧ RowsIn wr wo.heap.size wo.heap.size 20000 kvs (rowK 20000 i))) (fun vi _ => 19999 - (intOf vi).toNat)
      case atStart => exact ⟨0, _, rfl, by omega, below_alloc (Below.refl _ _) _, HN0.out⟩
      case round =>
        clear HN0
        obtain ⟨i, kvs, rfl, hi, hq⟩ := hrel
        by_cases hin : i < 19999
        · have hin' : (i : Int) + 1 < 20000 := by omega
          have HP : Hid _ := hq.out.2.lit (t := i) (by omega) [(i : Int) + 1, 0] (by simp)
          rw [rowK_succ (by omega)] at HP
          have hG : wo.heap.size < wr.heap.size := hq.out.2.ltG.2
          have HPP : Hid (RowsIn ((wr.setCell ⟨wo.heap.size, i, none⟩ (.slice (some ⟨wr.heap.size, 0, none⟩) 2 2)).alloc (.cells #[.int .i64 ((i : Int) + 1), .int .i64 0] 3)) wo.heap.size wo.heap.size 20000 (kvs.set i (.slice (some ⟨wr.heap.size, 0, none⟩) 2 2)) (rowK 20000 (i + 1))) := by
            have h9 := HP.out
            rw [World.setCell_alloc_past _ _ _ _ hG] at h9
            exact h9
          have HPB : Hid (Below wo.heap.size wo ((wr.setCell ⟨wo.heap.size, i, none⟩ (.slice (some ⟨wr.heap.size, 0, none⟩) 2 2)).alloc (.cells #[.int .i64 ((i : Int) + 1), .int .i64 0] 3))) := below_alloc (below_set hq.out.1 (Nat.le_refl _) _ _) _
          clear HP
          have cG : (wr.alloc (.cells #[intV ((i : Int) + 1), intV 0] 3)).cell? ⟨wo.heap.size, i, none⟩ = some (kvs.getD i (.slice none 0 0)) := (hq.out.2.below (below_alloc (Below.refl _ _) _)).cellG (by have := hq.out.2.klen; simp [List.getD, List.getElem?_eq_getElem (show i < kvs.length by omega)])
          have fG : (wr.alloc (.cells #[intV ((i : Int) + 1), intV 0] 3)).frozen? ⟨wo.heap.size, i, none⟩ = false := (hq.out.2.below (below_alloc (Below.refl _ _) _)).fzG i
          generalize kvs.getD i (.slice none 0 0) = kv0 at *
          clear HLONG HT0 HT1 HT2 HV1 HV2 HV3 HV4 HV5 HTV
          go_wp2
          go_roundw
          case rel => exact ⟨i + 1, _, by first | rfl | (congr 1; omega), by omega, HPB.out, HPP.out⟩
          case measure => simp [intOf]; omega
        · obtain rfl : i = 19999 := by omega
          have HNN : Hid (NetAt wr (.slice (some ⟨wo.heap.size, 0, none⟩) 20000 20000) (rowK 20000 19999)) := hq.out.2.at' (by omega) (fun r hr9 => by have := rowK_small r hr9; omega)
          have HBW : Hid (Below w.heap.size w wr) := below_trans hr.out hq.out.1
          clear hq hr
          go_wp2_with (go_at_call 10; go_loud (refine Calls.mono (by exact HLONG.out _ _ HNN.out) ?_; rintro e w2 ⟨⟨ta, tc, rfl, ht2⟩, hb2⟩; have HB2 : Hid (Below w.heap.size w w2) := below_trans HBW.out hb2; have HT9 : Hid _ := ht2; clear hb2 ht2 HBW HNN HLONG))
          go_loopw [10] (fun vi wq => ∃ i : Nat, vi = .int .i64 i ∧ i ≤ 20000 ∧ Hid (wq = w2)) (fun vi _ => 20000 - (intOf vi).toNat)
          case atStart => exact ⟨0, rfl, by omega, rfl⟩
          case round =>
            obtain ⟨i, rfl, hi, hq⟩ := hrel
            have hq1 := hq.out
            subst hq1
            clear hq
            by_cases hin : i < 20000
            · have hin' : (i : Int) < 20000 := by omega
              obtain ⟨g, o, rfl, cI⟩ := HTV.out _ _ _ HT9.out i hin
              clear HT0 HT1 HT2 HV1 HV2 HV3 HV4 HV5 HTV
              go_wp2
              go_roundw
              case rel => exact ⟨i + 1, by first | rfl | (congr 1; omega), by omega, by first | rfl | trivial⟩
              case measure => simp [intOf]; omega
            · obtain rfl : i = 20000 := by omega
              have HTI : Hid (∀ W, Below wr.heap.size wr W → IntsAt W (.slice ta 20000 tc) (rowT 20000)) := fun W hb => HT9.out.below hb
              have HC : Hid (Below wr.heap.size wr wr) := Below.refl _ _
              clear HTV HT9
              go_wp2_with (first
                | (go_at_call 10; first
                  | (refine Calls.mono (by with_reducible exact HT0.out _) ?_; rintro e w3 ⟨rfl, hb3⟩; replace HC : Hid (Below wr.heap.size wr w3) := below_trans HC.out hb3; clear hb3)
                  | (refine Calls.mono (by with_reducible exact HT1.out _) ?_; rintro e w3 ⟨rfl, hb3⟩; replace HC : Hid (Below wr.heap.size wr w3) := below_trans HC.out hb3; clear hb3)
                  | (refine Calls.mono (by with_reducible exact HT2.out _) ?_; rintro e w3 ⟨rfl, hb3⟩; replace HC : Hid (Below wr.heap.size wr w3) := below_trans HC.out hb3; clear hb3))
                | (go_at_call 13; first
                  | (refine Calls.mono (by with_reducible exact HV1.out _) ?_; rintro e w3 ⟨rfl, hb3⟩; replace HC : Hid (Below wr.heap.size wr w3) := below_trans HC.out hb3; clear hb3)
                  | (refine Calls.mono (by with_reducible exact HV2.out _) ?_; rintro e w3 ⟨rfl, hb3⟩; replace HC : Hid (Below wr.heap.size wr w3) := below_trans HC.out hb3; clear hb3)
                  | (refine Calls.mono (by with_reducible exact HV3.out _) ?_; rintro e w3 ⟨rfl, hb3⟩; replace HC : Hid (Below wr.heap.size wr w3) := below_trans HC.out hb3; clear hb3)
                  | (refine Calls.mono (by with_reducible exact HV4.out _ _ (HTI.out _ HC.out)) ?_; rintro e w3 ⟨rfl, hb3⟩; replace HC : Hid (Below wr.heap.size wr w3) := below_trans HC.out hb3; clear hb3)
                  | (refine Calls.mono (by with_reducible exact HV5.out _ _ (HTI.out _ HC.out)) ?_; rintro e w3 ⟨rfl, hb3⟩; replace HC : Hid (Below wr.heap.size wr w3) := below_trans HC.out hb3; clear hb3))
                | (go_at_call 9; go_loud (refine Calls.mono (by exact HA.out _) ?_; rintro e w4 ⟨rfl, hb4⟩; have HB4 : Hid _ := hb4; clear hb4)))
              go_ret
              exact ⟨rfl, below_trans HB2.out (below_trans HC.out HB4.out)⟩
end Go.Proofs.Ythedgacidphgnaa
