/- The law FrontNumbers: its run, given what the program's functions do. -/
import Derived.Test.YtbbfnladoaimpaaDLawM1
namespace Go.Proofs.Ytbbfnladoaimpaa
open Go.RowKit

theorem netM_none : joinL netM (fun a => (a : Int) ∈ [(4 : Int), 5]) = [] := by
  have cl : ∀ b, Jn netM (fun a => (a : Int) ∈ [(4 : Int), 5]) b → False := fun b hb => hb.least (Q := fun _ => False) fun a b hab hf => by
    have ha : a = 4 ∨ a = 5 := by
      rcases hab with h | h
      · simp at h; omega
      · exact h.elim
    have hb6 : b < 6 := (hf.lt netM_may).2
    have hf' := (netM_fr (a := a) (b := b) (by omega)).1 hf
    have key : ∀ a' b' : Fin 6, (a'.1 = 4 ∨ a'.1 = 5) → frC a'.1 b'.1 = true → False := by decide
    exact key ⟨a, by omega⟩ ⟨b, hb6⟩ ha hf'
  have : joinL netM (fun a => (a : Int) ∈ [(4 : Int), 5]) = ((List.range 6).filter fun _ => false).map fun b : Nat => (b : Int) := nodesL_comp fun b _ => ⟨fun h => (cl b h).elim, fun h => by cases h⟩
  rw [this]
  decide
theorem may_nil : ¬ May [] := fun h => by have := h.1; simp at this
theorem lensA_small {rows : List (List Int)} (h : ∀ r ∈ rows, r.length ≤ 3) : lensA rows ≤ 3 * rows.length := by
  unfold lensA
  induction rows with
  | nil => simp
  | cons a rows ih =>
    have h1 := h a (by simp)
    have h2 := ih (fun r hr => h r (by simp [hr]))
    simp only [List.map_cons, List.sum_cons, List.length_cons]
    omega
set_option maxRecDepth 100000 in
set_option maxHeartbeats 4000000 in
theorem numbers_run (hF : ∀ nx, nx.length ≤ 60 → lensA nx ≤ 1200 → FrontsOk nx) (hJ : ∀ nx l, nx.length ≤ 60 → lensA nx ≤ 1200 → l.length ≤ 600 → JoinsOk nx l) (w : World) :
    Calls Try.prog 5 #[] w fun e w' => e = .returned (.bool true) ∧ Below w.heap.size w w' := by
  have hA : ∀ W, Calls Try.prog 9 #[] W fun e w' => e = .returned (.bool true) ∧ Below W.heap.size W w' := awakeM_any (hF netM (by decide) (by decide)) (hJ netM [2] (by decide) (by decide) (by decide))
  have HFR : Hid (∀ (nx : List (List Int)) (v : Value) (W : World), NetAt W v nx → _) := fun nx v W h => fronts_run nx v W h (hF nx) hA
  have HJR : Hid (∀ (nx : List (List Int)) (l : List Int) (v lv : Value) (W : World), NetAt W v nx → IntsAt W lv l → _) := fun nx l v lv W h hl => joins_run nx l v lv W h hl (hJ nx l) hA
  have HNIL : Hid (∀ W : World, NetAt W (.slice none 0 0) []) := fun W => ⟨[], rfl, row_nil W _, fun i r kv h => by simp at h⟩
  have HF0 : Hid (∀ W : World, Calls Try.prog 10 #[.slice none 0 0] W fun e w' => e = .returned (.tuple #[.slice none 0 0, .int .i64 4]) ∧ Below W.heap.size W w') := fun W => (hF [] (by decide) (by decide) _ W (HNIL.out W)).mono fun e w' hh => ⟨hh.2.1 may_nil, hh.2.2⟩
  have HJ0 : Hid (∀ (lv : Value) (W : World), IntsAt W lv [6] → Calls Try.prog 13 #[.slice none 0 0, lv] W fun e w' => e = .returned (.tuple #[.slice none 0 0, .int .i64 4]) ∧ Below W.heap.size W w') := fun lv W hl => (hJ [] [6] (by decide) (by decide) (by decide) _ lv W (HNIL.out W) hl).mono fun e w' hh => ⟨hh.2.2.1 may_nil, hh.2.2.2⟩
  have HJ1 : Hid (∀ (v lv : Value) (W : World), NetAt W v netM → IntsAt W lv [6] → Calls Try.prog 13 #[v, lv] W fun e w' => e = .returned (.tuple #[.slice none 0 0, .int .i64 2]) ∧ Below W.heap.size W w') := fun v lv W h hl => (hJ netM [6] (by decide) (by decide) (by decide) v lv W h hl).mono fun e w' hh => ⟨hh.2.1 netM_may (fun hh => by have := hh 6 (by simp); simp [netM] at this), hh.2.2.2⟩
  have HJ2 : Hid (∀ (v lv : Value) (W : World), NetAt W v netM → IntsAt W lv [0, -1] → Calls Try.prog 13 #[v, lv] W fun e w' => e = .returned (.tuple #[.slice none 0 0, .int .i64 2]) ∧ Below W.heap.size W w') := fun v lv W h hl => (hJ netM [0, -1] (by decide) (by decide) (by decide) v lv W h hl).mono fun e w' hh => ⟨hh.2.1 netM_may (fun hh => by have := hh (-1) (by simp); omega), hh.2.2.2⟩
  have HJ3 : Hid (∀ (v lv : Value) (W : World), NetAt W v netM → IntsAt W lv [4, 5] → Calls Try.prog 13 #[v, lv] W fun e w' => (∃ a c, e = .returned (.tuple #[.slice a 0 c, .int .i64 0])) ∧ Below W.heap.size W w') := fun v lv W h hl => (hJ netM [4, 5] (by decide) (by decide) (by decide) v lv W h hl).mono fun e w' hh => by
    obtain ⟨v', e1, h1⟩ := hh.1 netM_may (fun x hx => by simp at hx; rcases hx with rfl | rfl <;> decide)
    rw [netM_none] at h1
    obtain ⟨a, c, e2, _⟩ := h1.form
    exact ⟨⟨a, c, by rw [e1, e2]; rfl⟩, hh.2.2.2⟩
  have HN : Hid (∀ W, _) := fun W => netM_any W
  have HA : Hid _ := hA
  have L6 : Hid (∀ W : World, IntsAt (W.alloc (.cells #[.int .i64 6] 3)) (.slice (some ⟨W.heap.size, 0, none⟩) 1 1) [6]) := fun W => ints_lit W [6] (by decide)
  have L0 : Hid (∀ W : World, IntsAt (W.alloc (.cells #[.int .i64 0, .int .i64 (-1)] 3)) (.slice (some ⟨W.heap.size, 0, none⟩) 2 2) [0, -1]) := fun W => ints_lit W [0, -1] (by decide)
  have L4 : Hid (∀ W : World, IntsAt (W.alloc (.cells #[.int .i64 4, .int .i64 5] 3)) (.slice (some ⟨W.heap.size, 0, none⟩) 2 2) [4, 5]) := fun W => ints_lit W [4, 5] (by decide)
  have L2 : Hid (∀ W : World, IntsAt (W.alloc (.cells #[.int .i64 2, .int .i64 0] 3)) (.slice (some ⟨W.heap.size, 0, none⟩) 2 2) [2, 0]) := fun W => ints_lit W [2, 0] (by decide)
  have LX : Hid (∀ (W : World) (x : Int), IntsAt (W.alloc (.cells #[.int .i64 x] 3)) (.slice (some ⟨W.heap.size, 0, none⟩) 1 1) [x]) := fun W x => ints_lit W [x] (by simp)
  obtain ⟨i0, hi0, hz0, hz1, hz2⟩ := info_parts infoI
  obtain ⟨j0, hj0, hy0, hy1, hy2⟩ := info_parts infoS1
  clear hF hJ hA HNIL
  go_enter Try.func5, Try.ntmps5
  go_wp2
  go_loopw [1] (fun vm wr => ∃ m : Nat, vm = .int .i64 m ∧ m ≤ 512 ∧ Hid (Below w.heap.size w wr)) (fun vm _ => 512 - (intOf vm).toNat)
  case atStart => exact ⟨0, rfl, by omega, Below.refl _ _⟩
  case round =>
    obtain ⟨m, rfl, hm, hr⟩ := hrel
    generalize wr = wo at *
    by_cases hmn : m < 512
    · have hmn' : (m : Int) < 512 := by omega
      clear HF0 HJ0 HJ1 HJ2 HJ3 HN L6 L0 L4
      go_wp2
      go_loopw [2, 3] (fun vn vi wr => ∃ (i : Nat) (rows : List (List Int)), vi = .int .i64 i ∧ i ≤ 3 ∧ Hid (Below wo.heap.size wo wr ∧ NetG wr wo.heap.size vn rows ∧ rows.length = i ∧ ∀ r ∈ rows, r.length ≤ 3)) (fun _ vi _ => 3 - (intOf vi).toNat)
      case atStart => exact ⟨0, [], rfl, by omega, Below.refl _ _, NetG.nil _ _, rfl, by simp⟩
      case round =>
        obtain ⟨i, rows, rfl, hi, hq⟩ := hrel
        generalize wr = wb at *
        by_cases hin : i < 3
        · have hin' : (i : Int) < 3 := by omega
          clear HFR HJR HA L2 LX
          go_wp2
          go_loopw [4, 5] (fun vl vk wr => ∃ (k : Nat) (l : List Int), vk = .int .i64 k ∧ k ≤ 3 ∧ Hid (Below wb.heap.size wb wr ∧ OwnI wr wb.heap.size vl l ∧ l.length ≤ k)) (fun _ vk _ => 3 - (intOf vk).toNat)
          case atStart => exact ⟨0, [], rfl, by omega, Below.refl _ _, World.ownsRow_nil _ _ _ _, by simp⟩
          case round =>
            obtain ⟨k, l, rfl, hk, hs⟩ := hrel
            by_cases hkn : k < 3
            · have hkn' : (k : Int) < 3 := by omega
              have HOW : Hid (OwnI wr wb.heap.size _ l) := hs.out.2.1
              have HLN : Hid (l.length ≤ k) := hs.out.2.2
              go_wp2_with (at_builtin; go_loud (refine wpList_append_own_at _ rfl _ _ 29 rfl wb.heap.size 3 i0 (.int .i64 0) 1 8 Try.underlying29 hi0 hz0 hz1 hz2 rfl (by decide) _ l.length (l.map intV) rfl (HOW.out.alloc _) ⟨wr.heap.size, 0, none⟩ 1 1 [intV k] rfl rfl ?c1 ?c2 ?c3 ?c4 ?c5 ?_))
              case c1 => exact cell_one_new wr (intV k) 3
              case c2 => intro u hu; simp at hu; subst hu; rfl
              case c3 => have := HLN.out; unfold maxLen; omega
              case c4 => have := HLN.out; omega
              case c5 => have := hs.out.1.size; simp; omega
              case roundEnd =>
                refine ⟨⟨k + 1, l, by first | rfl | (congr 1; omega), by omega, hs.out.1, HOW.out, by have := HLN.out; omega⟩, ?_⟩
                simp [intOf]; omega
              intro v2 w2 ho hg2 _ hat
              have HF : Hid (Below wb.heap.size wb w2) := below_grown (below_alloc hs.out.1 (.cells #[intV k] 3)) hg2 (fun q hqq => (HOW.out.lt q hqq).1)
              have HO : Hid (OwnI w2 wb.heap.size v2 (l ++ [(k : Int)])) := by
                show World.ownsRow _ _ _ _ _ _ _
                simpa using ho
              clear ho hg2 hat
              go_wp2
              go_roundw
              case rel => exact ⟨k + 1, l ++ [(k : Int)], by first | rfl | (congr 1; omega), by omega, HF.out, HO.out, by have := HLN.out; simp; omega⟩
              case measure => simp [intOf]; omega
            · obtain rfl : k = 3 := by omega
              generalize wr = wc at *
              obtain ⟨la, lc, hle, _⟩ := (OwnI.at' hs.out.2.1 (by have := hs.out.2.2; omega)).form
              subst hle
              have HLL : Hid (rows.length = i) := hq.out.2.2.1
              have HR3 : Hid (∀ r ∈ rows, r.length ≤ 3) := hq.out.2.2.2
              have HL3 : Hid (l.length ≤ 3) := hs.out.2.2
              have HBB : Hid (Below wo.heap.size wo wc) := below_trans hq.out.1 hs.out.1
              obtain ⟨kvs2, hkl, hown, hkid⟩ := hq.out.2.1.below hs.out.1
              have HOL : Hid (OwnI wc wo.heap.size (.slice la l.length lc) l) := own_mono hs.out.2.1 hq.out.1.size
              have HAPT : Hid (∀ g, (Value.slice la l.length lc).ownBlock = some g → u2.ownBlock ≠ some g) := fun g hg e => by
                have h1 := (hs.out.2.1.lt g hg).1
                obtain ⟨k9, h9⟩ := hq.out.2.1.own
                have h2 := (h9.lt g e).2
                omega
              have HK : Hid _ := hkid
              have HOWN : Hid (wc.ownsRow wo.heap.size 29 1 u2 rows.length kvs2) := hown
              have HKL : Hid _ := hkl
              clear hkid hown hkl
              go_wp2_with (at_builtin; go_loud (refine wpList_append_own_at _ rfl _ _ 22 rfl wo.heap.size 29 j0 (.slice none 0 0) 1 24 Try.underlying22 hj0 hy0 hy1 hy2 rfl (by decide) _ rows.length kvs2 rfl (HOWN.out.alloc _) ⟨wc.heap.size, 0, none⟩ 1 1 [(.slice la l.length lc)] rfl rfl ?c1 ?c2 ?c3 ?c4 ?c5 ?_))
              case c1 => exact cell_one_new wc (.slice la l.length lc) 29
              case c2 => intro u hu; simp at hu; subst hu; rfl
              case c3 => have := HLL.out; unfold maxLen; omega
              case c4 => have := HLL.out; omega
              case c5 => have := HBB.out.size; simp; omega
              intro v2 w2 ho hg2 _ hat
              have HF : Hid (Below wo.heap.size wo w2) := below_grown (below_alloc HBB.out (.cells #[(.slice la l.length lc)] 29)) hg2 (fun q hqq => (HOWN.out.lt q hqq).1)
              have HO : Hid (NetG w2 wo.heap.size v2 (rows ++ [l])) := NetG.push (w := wc.alloc (.cells #[(.slice la l.length lc)] 29)) HKL.out (fun i r kv e1 e2 => ⟨owns_below (HK.out i r kv e1 e2).1 (below_alloc (Below.refl _ _) _), (HK.out i r kv e1 e2).2⟩) (owns_below HOL.out (below_alloc (Below.refl _ _) _)) HAPT.out ho hg2 (by simpa using hat)
              clear ho hg2 hat
              go_wp2
              go_roundw
              case rel => exact ⟨i + 1, rows ++ [l], by first | rfl | (congr 1; omega), by omega, HF.out, HO.out, by simp [HLL.out], fun r hr9 => (List.mem_append.1 hr9).elim (HR3.out r) fun h9 => by simp at h9; subst h9; exact HL3.out⟩
              case measure => simp [intOf]; omega
        · obtain rfl : i = 3 := by omega
          have HNA : Hid (NetAt wb u2 rows) := hq.out.2.1.at' (by have := hq.out.2.2.1; omega) (fun r hr9 => by have := hq.out.2.2.2 r hr9; omega)
          have HBW : Hid (Below w.heap.size w wb) := below_trans hr.out hq.out.1
          have HNX : Hid (∀ W, Below wb.heap.size wb W → NetAt W u2 rows) := fun W hb => HNA.out.below hb
          clear hq hr
          go_wp2_with (first
            | (go_at_call 3; go_loud (refine Calls.mono (by exact HFR.out rows _ _ HNA.out) ?_; rintro e w1 ⟨rfl, hb1⟩; have HB1 : Hid _ := hb1; clear hb1))
            | (go_at_call 4; first
              | ((refine Calls.mono (by exact HJR.out rows [2, 0] _ _ _ (HNX.out _ (below_alloc (below_trans HB1.out HB2.out) _)) (L2.out _)) ?_; rintro e w3 ⟨rfl, hb3⟩; have HB3 : Hid (Below w2.heap.size w2 w3) := below_trans (below_alloc (Below.refl _ _) _) hb3; clear hb3))
              | ((refine Calls.mono (by exact HJR.out rows [_] _ _ _ (HNX.out _ (below_alloc HB1.out _)) (LX.out _ _)) ?_; rintro e w2 ⟨rfl, hb2⟩; have HB2 : Hid (Below w1.heap.size w1 w2) := below_trans (below_alloc (Below.refl _ _) _) hb2; clear hb2))))
          go_roundw
          case rel => exact ⟨m + 1, by first | rfl | (congr 1; omega), by omega, below_trans HBW.out (below_trans (below_trans HB1.out HB2.out) HB3.out)⟩
          case measure => simp [intOf]; omega
    · obtain rfl : m = 512 := by omega
      clear HFR HJR LX L2
      go_wp2_with (go_at_call 10; go_loud (refine Calls.mono (by exact HF0.out _) ?_; rintro e w1 ⟨rfl, hb1⟩; have HB1 : Hid (Below w.heap.size w w1) := below_trans hr.out hb1; clear hb1 hr HF0))
      go_wp2_with (go_at_call 13; go_loud (refine Calls.mono (by exact HJ0.out _ _ (L6.out _)) ?_; rintro e w2 ⟨rfl, hb2⟩; have HB2 : Hid (Below w.heap.size w w2) := below_trans (below_alloc HB1.out _) hb2; clear hb2 HB1 HJ0))
      go_wp2_with (first
        | (go_at_call 16; go_loud (refine Calls.mono (by exact HN.out _) ?_; rintro e wn ⟨vn, rfl, hvn, hbn⟩; have HVN : Hid _ := hvn; have HBN : Hid _ := hbn; clear hvn hbn))
        | (go_at_call 13; first
          | ((refine Calls.mono (by exact HJ1.out _ _ _ (HVN.out.below (below_alloc (Below.refl _ _) _)) (L6.out _)) ?_; rintro e w3 ⟨rfl, hb3⟩; replace HB2 : Hid (Below w.heap.size w w3) := below_trans (below_alloc (below_trans HB2.out HBN.out) _) hb3; clear hb3 HVN HBN))
          | ((refine Calls.mono (by exact HJ1.out _ _ _ HVN.out ((L6.out _).below HBN.out)) ?_; rintro e w3 ⟨rfl, hb3⟩; replace HB2 : Hid (Below w.heap.size w w3) := below_trans (below_trans (below_alloc HB2.out _) HBN.out) hb3; clear hb3 HVN HBN))
          | ((refine Calls.mono (by exact HJ2.out _ _ _ (HVN.out.below (below_alloc (Below.refl _ _) _)) (L0.out _)) ?_; rintro e w3 ⟨rfl, hb3⟩; replace HB2 : Hid (Below w.heap.size w w3) := below_trans (below_alloc (below_trans HB2.out HBN.out) _) hb3; clear hb3 HVN HBN))
          | ((refine Calls.mono (by exact HJ2.out _ _ _ HVN.out ((L0.out _).below HBN.out)) ?_; rintro e w3 ⟨rfl, hb3⟩; replace HB2 : Hid (Below w.heap.size w w3) := below_trans (below_trans (below_alloc HB2.out _) HBN.out) hb3; clear hb3 HVN HBN))
          | ((refine Calls.mono (by exact HJ3.out _ _ _ (HVN.out.below (below_alloc (Below.refl _ _) _)) (L4.out _)) ?_; rintro e w3 ⟨⟨la, lc, rfl⟩, hb3⟩; replace HB2 : Hid (Below w.heap.size w w3) := below_trans (below_alloc (below_trans HB2.out HBN.out) _) hb3; clear hb3 HVN HBN))
          | ((refine Calls.mono (by exact HJ3.out _ _ _ HVN.out ((L4.out _).below HBN.out)) ?_; rintro e w3 ⟨⟨la, lc, rfl⟩, hb3⟩; replace HB2 : Hid (Below w.heap.size w w3) := below_trans (below_trans (below_alloc HB2.out _) HBN.out) hb3; clear hb3 HVN HBN)))
        | (go_at_call 9; go_loud (refine Calls.mono (by exact HA.out _) ?_; rintro e w4 ⟨rfl, hb4⟩; have HB4 : Hid _ := hb4; clear hb4)))
      go_ret
      exact ⟨rfl, below_trans HB2.out HB4.out⟩
end Go.Proofs.Ytbbfnladoaimpaa
