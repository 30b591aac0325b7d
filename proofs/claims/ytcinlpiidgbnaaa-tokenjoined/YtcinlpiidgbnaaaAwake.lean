/- awake: the program cuts a source, and refuses one. -/
import Derived.Test.YtcinlpiidgbnaaaSame
namespace Go.Proofs.Ytcinlpiidgbnaaa
open Go.RowKit

theorem lies_below {w w2 : World} {v : Value} {ts : List Tok} (h : Lies w v ts) (hb : Below w.heap.size w w2) : Lies w2 v ts := by
  obtain ⟨ad, cap, hv, hc⟩ := h
  refine ⟨ad, cap, hv, fun h0 => ?_⟩
  obtain ⟨g, hg, hcs⟩ := hc h0
  have hlt : g < w.heap.size := by
    have h1 := (hcs 0 h0).1
    rcases Nat.lt_or_ge g w.heap.size with h | h
    · exact h
    · simp [World.cell?, Array.getElem?_eq_none h] at h1
  refine ⟨g, hg, fun j hj => ?_⟩
  obtain ⟨a, b, c⟩ := hcs j hj
  exact ⟨(hb.cell (p := ⟨g, j * 3, none⟩) hlt).trans a, (hb.cell (p := ⟨g, j * 3 + 1, none⟩) hlt).trans b, (hb.cell (p := ⟨g, j * 3 + 2, none⟩) hlt).trans c⟩
theorem lies_lit (W : World) (ts : List Tok) (cap : Nat) {cs : Array Value} (hcs : cs.toList = tokCells ts) {g : Nat} (hg : g = W.heap.size) : Lies (W.alloc (.cells cs 35)) (.slice (some ⟨g, 0, none⟩) ts.length cap) ts := by
  subst hg
  refine ⟨_, cap, rfl, fun _ => ⟨_, rfl, fun j hj => ?_⟩⟩
  have hh := heap_alloc_new W (.cells cs 35)
  have hc := tokCells_at ts j hj
  have e : ∀ i : Nat, (W.alloc (.cells cs 35)).cell? ⟨W.heap.size, i, none⟩ = (tokCells ts)[i]? := by
    intro i
    simp only [World.cell?, hh, ← hcs]
    simp
  rw [e, e, e, Nat.mul_comm j 3]
  exact hc
theorem kept_flt {w1 w2 : World} {a b : Value} (hb : Below (w1.alloc (.cells #[a, b] 26)).heap.size (w1.alloc (.cells #[a, b] 26)) w2) :
    w2.cell? ⟨w1.heap.size, 0, none⟩ = some a ∧ w2.cell? ⟨w1.heap.size, 1, none⟩ = some b ∧ w1.heap.size < w2.heap.size := by
  have hz := hb.size
  have hsz : (w1.alloc (.cells #[a, b] 26)).heap.size = w1.heap.size + 1 := by simp
  have e := (hb.block w1.heap.size (by omega)).trans (heap_alloc_new w1 _)
  refine ⟨?_, ?_, by omega⟩
  · simp only [World.cell?, e]; rfl
  · simp only [World.cell?, e]; rfl
theorem past1 {w : World} {b : Nat} (hb : b < w.heap.size) (o : Obj) (j : Nat) : (w.alloc o).cell? ⟨b, j, none⟩ = w.cell? ⟨b, j, none⟩ :=
  ((Below.refl w.heap.size w).alloc (Nat.le_refl _) o).cell (p := ⟨b, j, none⟩) hb

theorem same_below (va vb : Value) (ta tb : List Tok) (w : World) (ha : Lies w va ta) (hb : Lies w vb tb) (hl : ta.length ≤ 65537) :
    Calls Try.prog 12 #[va, vb] w fun e w' => e = .returned (.bool (decide (ta = tb))) ∧ Below w.heap.size w w' := by
  refine (same_any va vb ta tb w ha hb hl).mono ?_
  rintro e w' ⟨rfl, n, rfl⟩
  exact ⟨rfl, ⟨rfl, rfl, rfl, Nat.le_refl _, fun _ _ => rfl⟩⟩
def srcA : ByteArray := ⟨#[97, 60, 61, 53, 117, 56, 32, 47, 47, 32, 120]⟩
def srcB : ByteArray := ⟨#[49, 46, 53, 101]⟩
theorem toks_A : toksOf srcA.data.toList = [(2, 0, 1), (6, 1, 3), (4, 3, 6), (1, 11, 11)] ∧ errOf srcA.data.toList = 0 ∧ atOf srcA.data.toList = 0 := by decide +kernel
theorem toks_B : toksOf srcB.data.toList = [] ∧ errOf srcB.data.toList = 120 ∧ atOf srcB.data.toList = 4 := by decide +kernel
theorem word_u8 : wordB (⟨#[117, 56]⟩ : ByteArray).data.toList = true := by decide
theorem scan_A (s : ByteArray) (hs : s = srcA) (w : World) : Calls Try.prog 10 #[.string s] w fun e w' => ∃ v, e = .returned (.tuple #[v, .agg #[.int .i64 0, .int .i64 0]]) ∧ Lies w' v [(2, 0, 1), (6, 1, 3), (4, 3, 6), (1, 11, 11)] ∧ Below w.heap.size w w' := by
  subst hs
  refine (scan_any srcA w (by decide)).mono ?_
  rintro e w' ⟨v, rfl, h, hb⟩
  rw [toks_A.2.1, toks_A.2.2]
  rw [toks_A.1] at h
  exact ⟨v, rfl, lies_own h, hb⟩
theorem scan_B (s : ByteArray) (hs : s = srcB) (w : World) : Calls Try.prog 10 #[.string s] w fun e w' => ∃ v, e = .returned (.tuple #[v, .agg #[.int .i64 120, .int .i64 4]]) ∧ Below w.heap.size w w' := by
  subst hs
  refine (scan_any srcB w (by decide)).mono ?_
  rintro e w' ⟨v, rfl, h, hb⟩
  rw [toks_B.2.1, toks_B.2.2]
  exact ⟨v, rfl, hb⟩

set_option maxHeartbeats 400000 in
theorem awake_any (w : World) : Calls Try.prog 9 #[] w fun e w' => e = .returned (.bool true) ∧ Below w.heap.size w w' := by
  have e26 := eql_flt
  have hw8 := word_u8
  go_enter Try.func9, Try.ntmps9
  generalize hA : (ByteArray.mk #[97, 60, 61, 53, 117, 56, 32, 47, 47, 32, 120]) = A
  generalize hB : (ByteArray.mk #[49, 46, 53, 101]) = B
  generalize hU : (ByteArray.mk #[117, 56]) = U
  have HA : Hid (A = srcA) := hA.symm
  have HB : Hid (B = srcB) := hB.symm
  rw [hU] at hw8
  clear hA hB hU
  go_wp2_with (first | (go_at_call 10; refine (scan_A _ ?a1 _).mono ?_; (case a1 => exact HA.out); rintro e w1 ⟨v1, rfl, hl1, hb1⟩) | (go_at_call 10; refine (scan_B _ ?a2 _).mono ?_; (case a2 => exact HB.out); rintro e w2 ⟨v2, rfl, hb2⟩; obtain ⟨q0, q1, q2⟩ := kept_flt hb2; have q3 := past1 q2; have hl2 := lies_below hl1 ((Below.refl _ _).alloc (Nat.le_refl _) _ |>.trans (hb2.mono (by simp)))) | (go_at_call 13; refine (word_any _ _).mono ?_; rintro e w' ⟨rfl, rfl⟩) | (go_at_call 12; refine (same_below _ _ [(2, 0, 1), (6, 1, 3), (4, 3, 6), (1, 11, 11)] [(2, 0, 1), (6, 1, 3), (4, 3, 6), (1, 11, 11)] _ (lies_below hl2 (((Below.refl _ _).alloc (Nat.le_refl _) _).alloc (by simp) _)) (lies_lit _ _ 4 rfl (by simp)) (by decide)).mono ?_; rintro e w3 ⟨rfl, hb3⟩; obtain ⟨hc, hf⟩ := bcell hb3))
  go_ret
  refine ⟨ret_bool (by decide), ?_⟩
  exact ((hb1.trans (((Below.refl _ _).alloc (Nat.le_refl _) _).mono hb1.size)).trans ((hb2.mono (by have := hb1.size; simp; omega)))).trans ((((Below.refl _ _).alloc (Nat.le_refl _) _).alloc (by simp) _ |>.mono (by have := hb1.size; omega)).trans (hb3.mono (by have := hb1.size; simp; omega)))
end Go.Proofs.Ytcinlpiidgbnaaa
