/- The law's rows. -/
import Derived.Test.YtdgpdmohfnealaaGreatDoorUNum2M
namespace Go.Proofs.YtdgpdmohfnealaaGreatDoor
open Go.RowKit

theorem allocs_size : ∀ (os : List Obj) (w : World), (allocs w os).heap.size = w.heap.size + os.length
  | [], _ => rfl
  | o :: os, w => by
    have h := allocs_size os (w.alloc o)
    rw [show (w.alloc o).heap.size = w.heap.size + 1 by simp] at h
    show (allocs (w.alloc o) os).heap.size = _
    rw [h, List.length_cons]
    omega
theorem words7_at {w : World} {n : Nat} (h : w.heap.size = n) : WordsAt (w.alloc (.cells #[.int .u64 7] 24)) (sl n 1) [7] := by
  rw [← h]
  exact words7 w
def showL : List (Int × Int) := [(4, 0), (4, 7), (4, 0), (4, 0), (4, 1), (4, 1), (4, 0)]
def wordL : List Int := [0, 7, 0, 0, 1, 1, 0]
theorem same_words : ∀ i, i < 7 → (showL.getD i (0, 0)).2 = wordL.getD i 0 := by decide
theorem wordL_at (W : World) : WordsAt (W.alloc (.cells #[.int .u64 0, .int .u64 7, .int .u64 0, .int .u64 0, .int .u64 1, .int .u64 1, .int .u64 0] 24)) (sl W.heap.size 7) wordL := row_lit (t := 24) 7 (heap_alloc_new W _) (by omega)
set_option maxRecDepth 100000 in
set_option maxHeartbeats 4000000 in
theorem rows_any (w : World) (hP : PartsAt w) : Calls Tryz.prog 8 #[] w fun e w' => e = .returned (.bool true) ∧ Below w.heap.size w w' := by
  have hA : (allocs w (objsR w.heap.size)).heap.size = w.heap.size + 20 := by rw [allocs_size]; rfl
  have hb1 : Below w.heap.size w ((allocs w (objsR w.heap.size)).alloc (.cells #[.int .u64 7] 24)) := below_alloc (allocs_below _ _) _
  have HR : Hid (Calls Tryz.prog 4 #[sl (w.heap.size + 19) 1, .int .i64 0, sl (w.heap.size + 20) 1, .int .i64 9, .int .i64 9] ((allocs w (objsR w.heap.size)).alloc (.cells #[.int .u64 7] 24)) fun e w' => ∃ sa sc, e = .returned (.tuple #[.agg #[.slice sa 7 sc, .int .u8 1, .int .u64 7, .int .u8 0, .int .i64 4, .int .i64 2], .int .i64 0]) ∧ Below w.heap.size w w' ∧ ShowsAt w' (.slice sa 7 sc) showL) := by
    obtain ⟨W, hW⟩ : ∃ W, W = allocs w (objsR w.heap.size) := ⟨_, rfl⟩
    have hg : GrsAt W (sl (w.heap.size + 19) 1) [rowsG] := by rw [hW]; exact atR w
    have hb2 : Below w.heap.size w (W.alloc (.cells #[.int .u64 7] 24)) := by rw [hW]; exact hb1
    rw [← hW] at hA ⊢
    refine (run_r (W.alloc (.cells #[.int .u64 7] 24)) (sl (w.heap.size + 19) 1) (sl (w.heap.size + 20) 1) (hg.below (below_alloc (Below.refl _ _) _)) (hP.below hb2) (words7_at hA)).mono ?_
    rintro e w' ⟨sa, sn, sc, rfl, hb, hs⟩
    obtain ⟨a', c', hv, _, _⟩ := show_form hs
    cases hv
    exact ⟨_, _, rfl, below_trans hb2 hb, hs⟩
  clear hP hA hb1
  go_enter Tryz.func8, Tryz.ntmps8
  go_wp2_with (go_at_call 4; refine Calls.mono (by exact HR.out) ?_; rintro e w2 ⟨sa, sc, rfl, hb, hs⟩; have HB2 : Hid (Below w.heap.size w w2) := hb; have HS2 : Hid (ShowsAt w2 (.slice sa 7 sc) showL) := hs; clear hb hs HR)
  have HT : Hid (Box ((w2.alloc (.cells #[.slice sa 7 sc, .int .u8 1, .int .u64 7, .int .u8 0, .int .i64 4, .int .i64 2] 27)).alloc (.cells #[.int .u64 0, .int .u64 7, .int .u64 0, .int .u64 0, .int .u64 1, .int .u64 1, .int .u64 0] 24)) w2.heap.size [.slice sa 7 sc, .int .u8 1, .int .u64 7, .int .u8 0, .int .i64 4, .int .i64 2]) := (Box.new w2 [.slice sa 7 sc, .int .u8 1, .int .u64 7, .int .u8 0, .int .i64 4, .int .i64 2] 27).below (below_alloc (Below.refl _ _) _)
  have HW : Hid (WordsAt ((w2.alloc (.cells #[.slice sa 7 sc, .int .u8 1, .int .u64 7, .int .u8 0, .int .i64 4, .int .i64 2] 27)).alloc (.cells #[.int .u64 0, .int .u64 7, .int .u64 0, .int .u64 0, .int .u64 1, .int .u64 1, .int .u64 0] 24)) (sl (w2.heap.size + 1) 7) wordL) := by
    have := wordL_at (w2.alloc (.cells #[.slice sa 7 sc, .int .u8 1, .int .u64 7, .int .u8 0, .int .i64 4, .int .i64 2] 27))
    rw [show (w2.alloc (.cells #[.slice sa 7 sc, .int .u8 1, .int .u64 7, .int .u8 0, .int .i64 4, .int .i64 2] 27)).heap.size = w2.heap.size + 1 by simp] at this
    exact this
  have HS : Hid (ShowsAt ((w2.alloc (.cells #[.slice sa 7 sc, .int .u8 1, .int .u64 7, .int .u8 0, .int .i64 4, .int .i64 2] 27)).alloc (.cells #[.int .u64 0, .int .u64 7, .int .u64 0, .int .u64 0, .int .u64 1, .int .u64 1, .int .u64 0] 24)) (.slice sa 7 sc) showL) := HS2.out.below (below_alloc (below_alloc (Below.refl _ _) _) _)
  have HB3 : Hid (Below w.heap.size w ((w2.alloc (.cells #[.slice sa 7 sc, .int .u8 1, .int .u64 7, .int .u8 0, .int .i64 4, .int .i64 2] 27)).alloc (.cells #[.int .u64 0, .int .u64 7, .int .u64 0, .int .u64 0, .int .u64 1, .int .u64 1, .int .u64 0] 24))) := below_alloc (below_alloc HB2.out _) _
  clear HS2 HB2
  obtain ⟨W3, hW3⟩ : ∃ W, W = (w2.alloc (.cells #[.slice sa 7 sc, .int .u8 1, .int .u64 7, .int .u8 0, .int .i64 4, .int .i64 2] 27)).alloc (.cells #[.int .u64 0, .int .u64 7, .int .u64 0, .int .u64 0, .int .u64 1, .int .u64 1, .int .u64 0] 24) := ⟨_, rfl⟩
  rw [← hW3] at HT HW HS HB3 ⊢
  have hW4 : Hid (W3 = (w2.alloc (.cells #[.slice sa 7 sc, .int .u8 1, .int .u64 7, .int .u8 0, .int .i64 4, .int .i64 2] 27)).alloc (.cells #[.int .u64 0, .int .u64 7, .int .u64 0, .int .u64 0, .int .u64 1, .int .u64 1, .int .u64 0] 24)) := hW3
  clear hW3
  go_loopw [5] (fun vi wr => ∃ i : Nat, vi = .int .i64 i ∧ i ≤ 7 ∧ Hid (∃ k, wr = W3.drewN k)) (fun vi _ => 7 - (intOf vi).toNat)
  case atStart => exact ⟨0, rfl, by omega, 0, rfl⟩
  case round =>
    obtain ⟨i, rfl, hi, hr⟩ := hrel
    obtain ⟨q, hq⟩ := hr.out
    have HQ : Hid (wr = W3.drewN q) := hq
    clear hq hr
    by_cases hin : i < 7
    · obtain ⟨g1, o1, rfl, _, k0, k1⟩ := HS.out.get (i := i) hin
      obtain ⟨g2, o2, e2, _, j0⟩ := HW.out.get (i := i) hin
      cases e2
      have k2 := HT.out.cell 0 _ rfl
      rw [same_words i hin] at k1
      rw [show W3.cell? ⟨g1, o1 + i * 2, none⟩ = wr.cell? ⟨g1, o1 + i * 2, none⟩ from by rw [HQ.out]; rfl] at k0
      rw [show W3.cell? ⟨g1, o1 + i * 2 + 1, none⟩ = wr.cell? ⟨g1, o1 + i * 2 + 1, none⟩ from by rw [HQ.out]; rfl] at k1
      rw [show W3.cell? ⟨w2.heap.size + 1, 0 + i, none⟩ = wr.cell? ⟨w2.heap.size + 1, 0 + i, none⟩ from by rw [HQ.out]; rfl, Nat.zero_add] at j0
      rw [show W3.cell? ⟨w2.heap.size, 0, none⟩ = wr.cell? ⟨w2.heap.size, 0, none⟩ from by rw [HQ.out]; rfl] at k2
      have hin' : (i : Int) < 7 := by omega
      clear HS HW HT hW4 HB3
      go_wp2
      go_quiet (fail)
      go_wp2
      go_roundw
      case rel => exact ⟨i + 1, by first | rfl | (congr 1; omega), by omega, _, by rw [HQ.out]; exact drewN_two _ _ _⟩
      case measure => simp [intOf]; omega
    · obtain rfl : i = 7 := by omega
      clear HS HW HT hW4
      go_wp2
      go_ret
      exact ⟨rfl, by rw [HQ.out]; exact below_drewN HB3.out _⟩
end Go.Proofs.YtdgpdmohfnealaaGreatDoor
