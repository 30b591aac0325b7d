/- The walk of TokenKeeps. -/
import Derived.Test.YtcinlpiidgbnaabAwake
import Derived.Test.YtcinlpiidgbnaabToks
import Derived.SizedLaws
namespace Go.Proofs.Ytcinlpiidgbnaab
open Go.RowKit

theorem reach_of {s : ByteArray} (z : s.data.toList.length ≤ reachBytes) : s.size ≤ maxLen := by
  unfold reachBytes at z
  unfold maxLen
  have : s.data.toList.length = s.size := by simp
  omega
/-- A row of tokens of the call's own, past which other rows lie. -/
theorem lies_set {w : World} {v : Value} {ts : List Tok} (h : Lies w v ts) {a : Addr} (hne : ∀ q, v.ownBlock = some q → q ≠ a.block) (u : Value) : Lies (w.setCell a u) v ts := by
  obtain ⟨ad, cap, hv, hc⟩ := h
  refine ⟨ad, cap, hv, fun h0 => ?_⟩
  obtain ⟨g, hg, hcs⟩ := hc h0
  have hga : g ≠ a.block := hne g (by rw [hv, hg]; rfl)
  refine ⟨g, hg, fun j hj => ?_⟩
  have e : ∀ i : Nat, (w.setCell a u).cell? ⟨g, i, none⟩ = w.cell? ⟨g, i, none⟩ := by
    intro i
    exact World.cell?_of_block (Below.heap_setCell w a u g hga)
  rw [e, e, e]
  exact hcs j hj
/-- The row at block g has n tokens, whose second cells can be written. -/
def Open (w : World) (g n : Nat) : Prop := ∀ j, j < n → (∃ x, w.cell? ⟨g, j * 3 + 1, none⟩ = some x) ∧ w.frozen? ⟨g, j * 3 + 1, none⟩ = false
theorem open_own {w : World} {base : Nat} {v : Value} {ts : List Tok} (h : w.ownsRow base 32 3 v ts.length (tokCells ts)) : ∃ ad cap, v = .slice ad ts.length cap ∧ (0 < ts.length → ∃ g, ad = some ⟨g, 0, none⟩ ∧ base ≤ g ∧ g < w.heap.size ∧ Open w g ts.length) := by
  rcases h.2 with ⟨hv, h0⟩ | ⟨g, cap, cur, hv, hb, hh, _⟩
  · exact ⟨none, 0, by rw [hv, h0], fun h => by omega⟩
  · subst hv
    refine ⟨some ⟨g, 0, none⟩, cap, rfl, fun _ => ⟨g, rfl, hb, ?_, fun j hj => ?_⟩⟩
    · rcases Nat.lt_or_ge g w.heap.size with h | h
      · exact h
      · rw [Array.getElem?_eq_none h] at hh; cases hh
    · have hc := (tokCells_at ts j hj).2.1
      rw [Nat.mul_comm 3 j] at hc
      exact ⟨⟨_, by rw [h.cellAt (j * 3 + 1) (by omega)]; exact hc⟩, h.frozenAt _⟩
theorem open_below {w w2 : World} {g n : Nat} (h : Open w g n) (hg : g < w.heap.size) (hb : Below w.heap.size w w2) : Open w2 g n := by
  intro j hj
  obtain ⟨⟨x, hx⟩, hf⟩ := h j hj
  exact ⟨⟨x, (hb.cell (p := ⟨g, j * 3 + 1, none⟩) hg).trans hx⟩, (hb.frozen (p := ⟨g, j * 3 + 1, none⟩) hg).trans hf⟩
theorem open_set {w : World} {g n : Nat} (h : Open w g n) (a : Addr) (u : Value) : Open (w.setCell a u) g n := by
  intro j hj
  obtain ⟨⟨x, hx⟩, hf⟩ := h j hj
  refine ⟨cell?_setCell_some hx, ?_⟩
  simp [go_sem, hf]

set_option maxRecDepth 100000 in
set_option maxHeartbeats 2000000 in
theorem keeps_walk (s : ByteArray) (z : s.data.toList.length ≤ reachBytes) (w : World) : Calls Try.prog 3 #[.string s] w fun e w' => e = .returned (.bool true) ∧ Below w.heap.size w w' := by
  have hm : Hid (s.size ≤ maxLen) := reach_of z
  have n26 := neq_flt
  by_cases hs : 20000 < s.size
  · have hs' : (20000 : Int) < s.size := by omega
    clear z
    go_enter Try.func3, Try.ntmps3
    go_wp2_with (go_at_call 4; refine (awake_any _).mono ?_; rintro e w0 ⟨rfl, hb0⟩)
    go_ret
    exact ⟨rfl, hb0⟩
  · have hs' : (s.size : Int) ≤ 20000 := by omega
    have hC := fun w => scan_any s w hm.out
    have hlen : Hid ((toksOf s.data.toList).length ≤ 65537) := toks_len _
    unfold Told at hC
    generalize toksOf s.data.toList = ts at hC hlen
    generalize errOf s.data.toList = er at hC
    generalize atOf s.data.toList = a at hC
    clear z hm hs
    go_enter Try.func3, Try.ntmps3
    go_wp2_with (first | (go_at_call 4; refine (awake_any _).mono ?_; rintro e w0 ⟨rfl, hb0⟩) | (go_at_call 5; have hh1 := ho1; clear hh1; refine (hC _).mono ?_; rintro e w2 ⟨v2, rfl, ho2, hb2⟩; obtain ⟨q0, q1, q2⟩ := kept_flt hb2; have q3 := past1 q2; have hl1 := lies_below (lies_own ho1) ((Below.refl _ _).alloc (Nat.le_refl _) _ |>.trans (hb2.mono (by simp))); have hl2 := lies_own ho2) | (go_at_call 5; refine (hC _).mono ?_; rintro e w1 ⟨v1, rfl, ho1, hb1⟩) | (go_at_call 6; refine (same_below _ _ ts ts _ (lies_below hl1 ((Below.refl _ _).alloc (Nat.le_refl _) _)) (lies_below hl2 ((Below.refl _ _).alloc (Nat.le_refl _) _)) hlen.out).mono ?_; rintro e w3 ⟨rfl, hb3⟩))
    have z0 := hb0.size
    have z1 := hb1.size
    have z2 := hb2.size
    simp at z2
    have z3 := hb3.size
    simp at z3
    have hne : ∀ q, v2.ownBlock = some q → w1.heap.size < q := by
      intro q hq
      have := (ho2.lt q hq).1
      simp at this; omega
    have b1 : Below w.heap.size w w1 := hb0.trans (hb1.mono z0)
    have b2 : Below w.heap.size w w2 := (b1.alloc (by omega) _).trans (hb2.mono (by simp; omega))
    have b3 : Below w.heap.size w w3 := (b2.alloc (by omega) _).trans (hb3.mono (by simp; omega))
    have c12 : Below w1.heap.size w1 w3 := (((Below.refl _ _).alloc (Nat.le_refl _) _).trans (hb2.mono (by simp))).trans ((((Below.refl _ _).alloc (Nat.le_refl _) _).mono (by omega)).trans (hb3.mono (by simp; omega)))
    have hl3 : Lies w3 v2 ts := lies_below (lies_below hl2 ((Below.refl _ _).alloc (Nat.le_refl _) _)) hb3
    obtain ⟨ad1, cap1, rfl, hop⟩ := open_own ho1
    have HOP : Hid (0 < ts.length → ∃ g, ad1 = some ⟨g, 0, none⟩ ∧ w0.heap.size ≤ g ∧ g < w1.heap.size ∧ Open w3 g ts.length) := by
      intro h
      obtain ⟨g, hg, h1, h2, h3⟩ := hop h
      exact ⟨g, hg, h1, h2, open_below h3 h2 c12⟩
    have HNE : Hid _ := hne
    have H3 : Hid (Below w.heap.size w w3 ∧ Lies w3 v2 ts) := ⟨b3, hl3⟩
    have Z0 : Hid (w.heap.size ≤ w0.heap.size) := z0
    obtain ⟨n, hn⟩ : ∃ n, ts.length = n := ⟨_, rfl⟩
    have HN : Hid (ts.length = n) := hn
    have hn1 : n ≤ 65537 := by rw [← hn]; exact hlen.out
    rw [hn] at HOP ⊢
    clear hn hop hl1 hl2 hl3 b1 b2 b3 c12 hb0 hb1 hb2 hb3 ho1 ho2 hne q0 q1 q2 q3 z0 z1 z2 z3
    go_loopw [7] (fun i wr => ∃ k : Nat, k ≤ n ∧ i = .int .i64 k ∧ Hid ((0 < n → ∃ g, ad1 = some ⟨g, 0, none⟩ ∧ w0.heap.size ≤ g ∧ g < w1.heap.size ∧ Open wr g n) ∧ Below w.heap.size w wr ∧ Lies wr v2 ts)) (fun i _ => n - (intOf i).toNat)
    case atStart => exact ⟨0, Nat.zero_le _, rfl, HOP.out, H3.out.1, H3.out.2⟩
    case round =>
      clear HOP H3
      obtain ⟨k, hk, rfl, hr⟩ := hrel
      by_cases hlt : k < n
      · have hlt' : (k : Int) < n := by omega
        obtain ⟨g, rfl, hg1, hg2, hg3⟩ := hr.out.1 (by omega)
        obtain ⟨⟨x, hx⟩, hf⟩ := hg3 k hlt
        have HG : Hid (w0.heap.size ≤ g ∧ g < w1.heap.size ∧ Open wr g n) := ⟨hg1, hg2, hg3⟩
        clear hg1 hg2 hg3
        go_wp2
        go_roundw
        case rel =>
          refine ⟨k + 1, by omega, by go_num, fun _ => ⟨g, rfl, HG.out.1, HG.out.2.1, open_set HG.out.2.2 _ _⟩, hr.out.2.1.setCell (by have := Z0.out; have := HG.out.1; simp; omega) _, lies_set hr.out.2.2 ?_ _⟩
          intro q hq
          have := HNE.out q hq
          have := HG.out.2.1
          simp; omega
        case measure => simp [intOf]; omega
      · go_wp2_with (first | (go_at_call 5; refine (hC _).mono ?_; rintro e w4 ⟨v4, rfl, ho4, hb4⟩) | (go_at_call 6; refine (same_below _ _ ts ts _ (lies_below (lies_below hr.out.2.2 hb4) ((Below.refl _ _).alloc (Nat.le_refl _) _)) (lies_below (lies_own ho4) ((Below.refl _ _).alloc (Nat.le_refl _) _)) hlen.out).mono ?_; rintro e w5 ⟨rfl, hb5⟩))
        go_ret
        have y0 := hr.out.2.1.size
        have y4 := hb4.size
        have y5 := hb5.size
        simp at y5
        exact ⟨ret_bool (by simp), ((hr.out.2.1.trans (hb4.mono y0)).alloc (by omega) _).trans (hb5.mono (by simp; omega))⟩
end Go.Proofs.Ytcinlpiidgbnaab
