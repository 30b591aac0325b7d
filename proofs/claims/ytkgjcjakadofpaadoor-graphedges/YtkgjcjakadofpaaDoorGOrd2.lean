/- A block is met: marked, and put behind the path. -/
import Derived.Test.YtkgjcjakadofpaaDoorGOrd1
namespace Go.Proofs.YtkgjcjakadofpaaDoor
open Go.RowKit

set_option maxRecDepth 100000 in
set_option maxHeartbeats 1000000 in
theorem meet_any {w0 w : World} {n : Nat} {gcs : List Value} {pv lv : Value} {met : List Bool} {path left : List Int} (h : WS w0 n gcs w pv lv met path left) (k : Nat) (hk : k < n) (hp : path.length ≤ 1000000) :
    Calls Tryd.prog 21 #[.int .i64 (k : Int), ptr (w0.heap.size + 2), ptr (w0.heap.size + 3)] w fun e w' => e = .returned (.tuple #[]) ∧ ∃ pv', WS w0 n gcs w' pv' lv (met.set k true) (path ++ [(k : Int)]) left ∧ WM w0.heap.size w pv lv w' pv' lv := by
  have c2 := h.bm.cell 0 _ rfl
  unfold metV at c2
  have f1 := h.metFz k
  have m1 := h.metAt hk
  have hM := h.mark hk
  have hMM : Hid (WM w0.heap.size w pv lv (w.setCell ⟨w0.heap.size + 1, k, none⟩ (.bool true)) pv lv) := WM.mark k _
  have hs := h.lts
  have hs' := hM.lts
  have c3 := h.bp.cell 0 _ rfl
  have f3 := h.bp.fz 0
  have HM : Hid (WS w0 n gcs (w.setCell ⟨w0.heap.size + 1, k, none⟩ (.bool true)) pv lv (met.set k true) path left) := hM
  have hkn : (k : Int) < n := by omega
  obtain ⟨i0, hi, hz0, hz1, hz2⟩ := info_parts infoI
  have HP : Hid (path.length ≤ 1000000) := hp
  clear h hM hp
  go_enter Tryd.func21, Tryd.ntmps21
  go_wp2_with (at_builtin; go_loud (refine wpList_append_own_at _ rfl _ _ 28 rfl (w0.heap.size + 7) 3 i0 (.int .i64 0) 1 8 Tryd.underlying28 hi hz0 hz1 hz2 rfl (by decide) _ _ _ rfl (HM.out.prow.alloc _) ⟨w.heap.size, 0, none⟩ 1 1 [intV k] rfl rfl ?c1 ?c2 ?c3 ?c4 ?c5 ?_))
  case c1 => have := cell_one_new (w.setCell ⟨w0.heap.size + 1, k, none⟩ (.bool true)) (intV k) 3; simpa [World.setCell] using this
  case c2 => intro u hu; simp at hu; subst hu; rfl
  case c3 => have := HP.out; unfold maxLen; omega
  case c4 => have := HP.out; omega
  case c5 => simp; omega
  intro v2 w2 ho hg _ hat
  obtain ⟨g2, cc, rfl, _, _, _, _⟩ := own_form ho
  obtain ⟨hS, hV, q3, g3⟩ := (HM.out.below (below_alloc (Below.refl _ _) (.cells #[intV k] 3))).pushP ho hg (by simpa [World.setCell] using hat)
  have HS : Hid _ := hS
  have HV : Hid _ := (hMM.out.trans (WM.below (below_alloc (Below.refl _ _) (.cells #[intV k] 3)))).trans hV
  clear hS hV ho hg hat
  go_wp2
  go_end0
  exact ⟨rfl, _, HS.out, HV.out⟩
end Go.Proofs.YtkgjcjakadofpaaDoor
