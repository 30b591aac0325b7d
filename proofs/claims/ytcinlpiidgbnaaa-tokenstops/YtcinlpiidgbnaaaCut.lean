/- What the program cuts off at a place: names, literals, signs. -/
import Derived.Test.YtcinlpiidgbnaaaGap
import Derived.Test.YtcinlpiidgbnaaaWord
namespace Go.Proofs.Ytcinlpiidgbnaaa
open Go.RowKit

def tokV (kd a e : Int) : Value := .agg #[.int .u8 kd, .int .i64 a, .int .i64 e]
def fltV (er a : Int) : Value := .agg #[.int .i64 er, .int .i64 a]
/-- A token and a fault, as a cutter hands them back, for what is cut off at place k. -/
def cutV (k : Nat) : Except Nat (Nat × Nat) → Value
  | .error p => .tuple #[tokV 0 0 0, fltV 120 ((k + p : Nat) : Int)]
  | .ok (kd, e) => .tuple #[tokV kd k ((k + e : Nat) : Int), fltV 0 0]
theorem bcell {W w1 : World} (hb : Below W.heap.size W w1) : (∀ b o, b < W.heap.size → w1.cell? ⟨b, o, none⟩ = W.cell? ⟨b, o, none⟩) ∧ (∀ b o, b < W.heap.size → w1.frozen? ⟨b, o, none⟩ = W.frozen? ⟨b, o, none⟩) :=
  ⟨fun b o h => hb.cell (p := ⟨b, o, none⟩) h, fun b o h => hb.frozen (p := ⟨b, o, none⟩) h⟩

theorem new0 {W : World} {g : Nat} (hg : g = W.heap.size) (a : Value) (cs : List Value) (t : TypeId) : (W.alloc (.cells (a :: cs).toArray t)).cell? ⟨g, 0, none⟩ = some a := by
  subst hg
  have h := heap_alloc_new W (.cells (a :: cs).toArray t)
  simp only [World.cell?, h]
  rfl
theorem new1 {W : World} {g : Nat} (hg : g = W.heap.size) (a b : Value) (cs : List Value) (t : TypeId) : (W.alloc (.cells (a :: b :: cs).toArray t)).cell? ⟨g, 1, none⟩ = some b := by
  subst hg
  have h := heap_alloc_new W (.cells (a :: b :: cs).toArray t)
  simp only [World.cell?, h]
  rfl

theorem below_store {B : Nat} {w w1 : World} (h : Below B w w1) (a b c d e : Value) : Below B w (((((w1.setCell ⟨B, 0, none⟩ a).setCell ⟨B, 1, none⟩ b).setCell ⟨B, 2, none⟩ c).setCell ⟨B + 1, 0, none⟩ d).setCell ⟨B + 1, 1, none⟩ e) :=
  ((((h.setCell (Nat.le_refl _) a).setCell (Nat.le_refl _) b).setCell (Nat.le_refl _) c).setCell (Nat.le_succ _) d).setCell (Nat.le_succ _) e

theorem ret_two {F : Func} {R : Ending → World → Prop} {t : Array Value} {w w1 : World} {x0 x1 x2 y0 y1 a b c d e : Value}
    (hB : Below (w.heap.size + 2) ((w.alloc (.cells #[x0, x1, x2] 35)).alloc (.cells #[y0, y1] 26)) w1)
    (hr : ∀ Wf : World, Wf.cell? ⟨w.heap.size, 0, none⟩ = some a → Wf.cell? ⟨w.heap.size, 1, none⟩ = some b → Wf.cell? ⟨w.heap.size, 2, none⟩ = some c → Wf.cell? ⟨w.heap.size + 1, 0, none⟩ = some d → Wf.cell? ⟨w.heap.size + 1, 1, none⟩ = some e →
      (results F t).run Try.prog Wf = .ok (.tuple #[.agg #[a, b, c], .agg #[d, e]]) Wf)
    (hR : ∀ Wf : World, Below w.heap.size w Wf → R (.returned (.tuple #[.agg #[a, b, c], .agg #[d, e]])) Wf) :
    bodyPost Try.prog F R .ret { tmps := t, defers := [] } (((((w1.setCell ⟨w.heap.size, 0, none⟩ a).setCell ⟨w.heap.size, 1, none⟩ b).setCell ⟨w.heap.size, 2, none⟩ c).setCell ⟨w.heap.size + 1, 0, none⟩ d).setCell ⟨w.heap.size + 1, 1, none⟩ e) := by
  have c0 : w1.cell? ⟨w.heap.size, 0, none⟩ = some x0 := by rw [hB.cell (p := ⟨w.heap.size, 0, none⟩) (by simp)]; simp [go_sem]
  have c1 : w1.cell? ⟨w.heap.size, 1, none⟩ = some x1 := by rw [hB.cell (p := ⟨w.heap.size, 1, none⟩) (by simp)]; simp [go_sem]
  have c2 : w1.cell? ⟨w.heap.size, 2, none⟩ = some x2 := by rw [hB.cell (p := ⟨w.heap.size, 2, none⟩) (by simp)]; simp [go_sem]
  have d0 : w1.cell? ⟨w.heap.size + 1, 0, none⟩ = some y0 := by rw [hB.cell (p := ⟨w.heap.size + 1, 0, none⟩) (by simp)]; exact new0 (by simp) _ _ _
  have d1 : w1.cell? ⟨w.heap.size + 1, 1, none⟩ = some y1 := by rw [hB.cell (p := ⟨w.heap.size + 1, 1, none⟩) (by simp)]; exact new1 (by simp) _ _ _ _
  refine bodyPost_ret (hr _ ?_ ?_ ?_ ?_ ?_) rfl (hR _ (below_store (((Below.refl _ _).alloc (Nat.le_refl _) _).alloc (by simp) _ |>.trans (hB.mono (by omega))) _ _ _ _ _))
  all_goals simp [go_sem, c0, c1, c2, d0, d1]

set_option maxHeartbeats 400000 in
theorem name_any (s : ByteArray) (k : Nat) (w : World) (hs : s.size ≤ 65536) (hk : k ≤ s.size) :
    Calls Try.prog 16 #[.string s, .int .i64 (k : Int)] w fun e w' => e = .returned (cutV k (nameL (s.data.toList.drop k))) ∧ Below w.heap.size w w' := by
  have hL := rowL_le ldB (s.data.toList.drop k)
  rw [show (s.data.toList.drop k).length = s.size - k by simp] at hL
  have hR := fun b cap w => row2_any s k 2 3 b cap w hs hk
  rw [is_ld] at hR
  have hN : nameL (s.data.toList.drop k) = if 32 < rowL ldB (s.data.toList.drop k) then .error 0 else .ok (if wordB ((s.data.toList.drop k).take (rowL ldB (s.data.toList.drop k))) then 3 else 2, rowL ldB (s.data.toList.drop k)) := rfl
  obtain ⟨n, hn⟩ : ∃ n, n = rowL ldB (s.data.toList.drop k) := ⟨_, rfl⟩
  rw [← hn] at hR hL hN
  clear hn
  obtain ⟨m, hm⟩ : ∃ m, m = k + n := ⟨_, rfl⟩
  rw [← hm] at hR
  have hmk : k ≤ m := by omega
  have hms : m ≤ s.size := by omega
  by_cases h32 : 32 < n
  · rw [if_pos h32] at hN
    have hv : Hid (cutV k (nameL (s.data.toList.drop k)) = .tuple #[.agg #[.int .u8 0, .int .i64 0, .int .i64 0], .agg #[.int .i64 120, .int .i64 (k : Int)]]) := by rw [hN]; rfl
    have h32' : 32 < (m : Int) - k := by omega
    clear hN hm hL h32
    go_enter Try.func16, Try.ntmps16
    go_wp2_with (first | (go_at_call 28; refine (hR _ _ _ ?h1 ?h2).mono ?_; (case h1 => exact new0 (by simp) _ _ _); (case h2 => exact new1 (by simp) _ _ _ _); rintro e w' ⟨rfl, rfl⟩) | (go_at_call 29; refine (refused_any _ _).mono ?_; rintro e w1 ⟨rfl, hb⟩; obtain ⟨hc, hf⟩ := bcell hb))
    refine ret_two (((Below.refl _ _).alloc (by simp) _).trans (hb.mono (by simp))) ?r (fun Wf h => ⟨by rw [hv.out], h⟩)
    case r => intro Wf h0 h1 h2 h3 h4; simp [results, Try.results16, go_sem, h0, h1, h2, h3, h4]
  · rw [if_neg h32] at hN
    have hx : Hid ((s.extract k m).data.toList = (s.data.toList.drop k).take n) := by
      show _ = _
      rw [Lib.extract_data]; congr 1; omega
    obtain ⟨b, hbw⟩ : ∃ b, wordB ((s.data.toList.drop k).take n) = b := ⟨_, rfl⟩
    rw [hbw] at hN
    have hW : Hid (wordB (s.extract k m).data.toList = b) := by rw [hx.out]; exact hbw
    have h32' : (m : Int) - k ≤ 32 := by omega
    have hmi : ((k + n : Nat) : Int) = m := by omega
    cases b
    · have hv : Hid (cutV k (nameL (s.data.toList.drop k)) = .tuple #[.agg #[.int .u8 2, .int .i64 k, .int .i64 (m : Int)], .agg #[.int .i64 0, .int .i64 0]]) := by show _ = _; rw [hN, ← hmi]; rfl
      clear hN hm hL h32 hbw hx hmi
      go_enter Try.func16, Try.ntmps16
      go_wp2_with (first | (go_at_call 28; refine (hR _ _ _ ?h1 ?h2).mono ?_; (case h1 => exact new0 (by simp) _ _ _); (case h2 => exact new1 (by simp) _ _ _ _); rintro e w' ⟨rfl, rfl⟩) | (go_at_call 13; refine (word_any _ _).mono ?_; rintro e w' ⟨rfl, rfl⟩; rw [hW.out]) | (go_at_call 30; refine (taken_any _ _ _ _).mono ?_; rintro e w1 ⟨rfl, hb⟩; obtain ⟨hc, hf⟩ := bcell hb))
      refine ret_two (((Below.refl _ _).alloc (by simp) _).trans (hb.mono (by simp))) ?r (fun Wf h => ⟨by rw [hv.out], h⟩)
      case r => intro Wf h0 h1 h2 h3 h4; simp [results, Try.results16, go_sem, h0, h1, h2, h3, h4]
    · have hv : Hid (cutV k (nameL (s.data.toList.drop k)) = .tuple #[.agg #[.int .u8 3, .int .i64 k, .int .i64 (m : Int)], .agg #[.int .i64 0, .int .i64 0]]) := by show _ = _; rw [hN, ← hmi]; rfl
      clear hN hm hL h32 hbw hx hmi
      go_enter Try.func16, Try.ntmps16
      go_wp2_with (first | (go_at_call 28; refine (hR _ _ _ ?h1 ?h2).mono ?_; (case h1 => exact new0 (by simp) _ _ _); (case h2 => exact new1 (by simp) _ _ _ _); rintro e w' ⟨rfl, rfl⟩) | (go_at_call 13; refine (word_any _ _).mono ?_; rintro e w' ⟨rfl, rfl⟩; rw [hW.out]) | (go_at_call 30; refine (taken_any _ _ _ _).mono ?_; rintro e w1 ⟨rfl, hb⟩; obtain ⟨hc, hf⟩ := bcell hb))
      refine ret_two (((Below.refl _ _).alloc (by simp) _).trans (hb.mono (by simp))) ?r (fun Wf h => ⟨by rw [hv.out], h⟩)
      case r => intro Wf h0 h1 h2 h3 h4; simp [results, Try.results16, go_sem, h0, h1, h2, h3, h4]
end Go.Proofs.Ytcinlpiidgbnaaa
