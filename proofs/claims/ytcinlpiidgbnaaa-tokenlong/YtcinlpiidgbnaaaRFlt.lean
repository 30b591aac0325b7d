/- The document's literals with a point, without an e. -/
import Derived.Test.YtcinlpiidgbnaaaRLit
namespace Go.Proofs.Ytcinlpiidgbnaaa
open Go.RowKit

set_option maxHeartbeats 4000000 in
theorem rlit_flt (s : ByteArray) (k : Nat) (w : World) (hs : s.size ≤ 65536) (hk : k ≤ s.size) (h46 : hasL s.data.toList (k + rowL digitB (s.data.toList.drop k)) 46 = true) (h101 : rowL digitB (s.data.toList.drop (k + rowL digitB (s.data.toList.drop k) + 1)) ≠ 0 → hasL s.data.toList (k + rowL digitB (s.data.toList.drop k) + 1 + rowL digitB (s.data.toList.drop (k + rowL digitB (s.data.toList.drop k) + 1))) 101 = false) :
    Calls Try.prog 26 #[.string s, .int .i64 (k : Int)] w fun e w' => e = .returned (rlitV k (litL true (s.data.toList.drop k))) ∧ Below w.heap.size w w' := by
  have hV := lit_absT s.data.toList k
  have hm := row_le_size digitB s k hk
  obtain ⟨n, hn⟩ : ∃ n, rowL digitB (s.data.toList.drop k) = n := ⟨_, rfl⟩
  obtain ⟨e0, he0⟩ : ∃ e0, k + rowL digitB (s.data.toList.drop k) = e0 := ⟨_, rfl⟩
  have hR1 := rrow_in s k e0 false hs hk he0
  rw [hn] at hV hm he0 h46 h101
  rw [he0] at hV hm h46 h101
  clear hn
  rcases has3 s e0 46 46 rfl with ⟨g0, q0, _⟩ | ⟨_, _, b⟩ | ⟨_, b⟩
  case inr.inl => rw [h46] at b; cases b
  case inr.inr => rw [h46] at b; cases b
  rw [h46, if_pos rfl, flt_absT] at hV
  have hq : k + (n + 1) = e0 + 1 := by omega
  rw [hq] at hV
  have g1 : (e0 : Int) < s.size := by omega
  have hm1 := row_le_size digitB s (e0 + 1) g0
  obtain ⟨m, hmd⟩ : ∃ m, rowL digitB (s.data.toList.drop (e0 + 1)) = m := ⟨_, rfl⟩
  obtain ⟨e1, he1⟩ : ∃ e1, e0 + 1 + rowL digitB (s.data.toList.drop (e0 + 1)) = e1 := ⟨_, rfl⟩
  have hR2 := rrow_in s (e0 + 1) e1 false hs g0 he1
  rw [hmd] at hV hm1 he1 h101
  rw [he1] at h101
  by_cases hm0 : m = 0
  · rw [if_pos hm0] at hV
    have hv : Hid (rlitV k (litL true (s.data.toList.drop k)) = .tuple #[.agg #[.int .u8 0, .int .i64 0, .int .i64 0], .int .i64 ((e0 : Int) + 1 : Int), .bool false]) := by show _ = _; rw [hV]; exact rlit_err _ _ _ (by omega)
    have hee : (e1 : Int) = (e0 : Int) + 1 := by omega
    clear hV hmd hm1 hq he0 hm0 he1 h101
    go_enter Try.func26, Try.ntmps26
    go_wp2_with (first | (go_at_call 24; refine (hR1 _ ?a1 _ ?b1 _).mono ?_; (case a1 => omega); (case b1 => rfl); rintro e w' ⟨rfl, rfl⟩) | (go_at_call 24; refine (hR2 _ ?a2 _ ?b2 _).mono ?_; (case a2 => omega); (case b2 => rfl); rintro e w' ⟨rfl, rfl⟩))
    exact bodyPost_ret (v := .tuple #[.agg #[.int .u8 0, .int .i64 0, .int .i64 0], .int .i64 ((e0 : Int) + 1 : Int), .bool false]) (by simp [results, Try.results26, go_sem]) rfl ⟨by rw [hv.out], (Below.refl _ _).alloc (Nat.le_refl _) _⟩
  · rw [if_neg hm0, frc_absT] at hV
    have hke : k + (n + 1 + m) = e1 := by omega
    rw [hke] at hV
    have hn1 : ((e1 : Int) == (e0 : Int) + 1) = false := by simp; omega
    have h101' := h101 hm0
    rw [h101'] at hV
    simp only [Bool.false_eq_true, if_false] at hV
    have hl1 : (e0 : Int) + 1 < e1 := by omega
    have hes1 : e1 ≤ s.size := by omega
    clear hm0 hmd hq he1 he0 h101
    rcases has3 s e1 101 101 rfl with ⟨g2, q2, b2⟩ | ⟨g2, q2, b2⟩ | ⟨g2, b2⟩
    · rw [h101'] at b2; cases b2
    · have g3 : (e1 : Int) < s.size := by omega
      rw [fin_absT, hke] at hV
      have hEs : e1 ≤ s.size := by omega
      obtain ⟨g, hgd⟩ : ∃ g, e1 + rowL ldB (s.data.toList.drop e1) = g := ⟨_, rfl⟩
      have hR9 := rrow_in s e1 g true hs hEs hgd
      by_cases hg0 : 0 < rowL ldB (s.data.toList.drop e1)
      · rw [if_pos (by simp [hg0])] at hV
        have hv : Hid (rlitV k (litL true (s.data.toList.drop k)) = .tuple #[.agg #[.int .u8 0, .int .i64 0, .int .i64 0], .int .i64 (e1 : Int), .bool false]) := by show _ = _; rw [hV]; exact rlit_err _ _ _ (by omega)
        have hl9 : (e1 : Int) < g := by omega
        clear hV b2 hke hgd hg0
        go_enter Try.func26, Try.ntmps26
        go_wp2_with (first | (go_at_call 24; refine (hR1 _ ?a1 _ ?b1 _).mono ?_; (case a1 => omega); (case b1 => rfl); rintro e w' ⟨rfl, rfl⟩) | (go_at_call 24; refine (hR2 _ ?a2 _ ?b2 _).mono ?_; (case a2 => omega); (case b2 => rfl); rintro e w' ⟨rfl, rfl⟩) | (go_at_call 24; refine (hR9 _ ?a9 _ ?b9 _).mono ?_; (case a9 => omega); (case b9 => rfl); rintro e w' ⟨rfl, rfl⟩))
        exact bodyPost_ret (v := .tuple #[.agg #[.int .u8 0, .int .i64 0, .int .i64 0], .int .i64 (e1 : Int), .bool false]) (by simp [results, Try.results26, go_sem]) rfl ⟨by rw [hv.out], (Below.refl _ _).alloc (Nat.le_refl _) _⟩
      · have hl9 : (g : Int) ≤ e1 := by omega
        rcases has3 s e1 46 46 rfl with ⟨g9, q9, b9⟩ | ⟨g9, q9, b9⟩ | ⟨g9, b9⟩
        · rw [if_pos (by simp [b9])] at hV
          have hv : Hid (rlitV k (litL true (s.data.toList.drop k)) = .tuple #[.agg #[.int .u8 0, .int .i64 0, .int .i64 0], .int .i64 (e1 : Int), .bool false]) := by show _ = _; rw [hV]; exact rlit_err _ _ _ (by omega)
          have g8 : (e1 : Int) < s.size := by omega
          clear hV b2 hke hgd hg0 b9
          go_enter Try.func26, Try.ntmps26
          go_wp2_with (first | (go_at_call 24; refine (hR1 _ ?a1 _ ?b1 _).mono ?_; (case a1 => omega); (case b1 => rfl); rintro e w' ⟨rfl, rfl⟩) | (go_at_call 24; refine (hR2 _ ?a2 _ ?b2 _).mono ?_; (case a2 => omega); (case b2 => rfl); rintro e w' ⟨rfl, rfl⟩) | (go_at_call 24; refine (hR9 _ ?a9 _ ?b9 _).mono ?_; (case a9 => omega); (case b9 => rfl); rintro e w' ⟨rfl, rfl⟩))
          exact bodyPost_ret (v := .tuple #[.agg #[.int .u8 0, .int .i64 0, .int .i64 0], .int .i64 (e1 : Int), .bool false]) (by simp [results, Try.results26, go_sem]) rfl ⟨by rw [hv.out], (Below.refl _ _).alloc (Nat.le_refl _) _⟩
        · rw [if_neg (by simp [b9, hg0])] at hV
          have hv : Hid (rlitV k (litL true (s.data.toList.drop k)) = .tuple #[.agg #[.int .u8 5, .int .i64 (k : Int), .int .i64 (e1 : Int)], .int .i64 0, .bool true]) := by show _ = _; rw [hV]; exact rlit_ok _ _ _ _ _ rfl (by omega)
          have g8 : (e1 : Int) < s.size := by omega
          clear hV b2 hke hgd hg0 b9
          go_enter Try.func26, Try.ntmps26
          go_wp2_with (first | (go_at_call 24; refine (hR1 _ ?a1 _ ?b1 _).mono ?_; (case a1 => omega); (case b1 => rfl); rintro e w' ⟨rfl, rfl⟩) | (go_at_call 24; refine (hR2 _ ?a2 _ ?b2 _).mono ?_; (case a2 => omega); (case b2 => rfl); rintro e w' ⟨rfl, rfl⟩) | (go_at_call 24; refine (hR9 _ ?a9 _ ?b9 _).mono ?_; (case a9 => omega); (case b9 => rfl); rintro e w' ⟨rfl, rfl⟩))
          exact bodyPost_ret (v := .tuple #[.agg #[.int .u8 5, .int .i64 (k : Int), .int .i64 (e1 : Int)], .int .i64 0, .bool true]) (by simp [results, Try.results26, go_sem]) rfl ⟨by rw [hv.out], (Below.refl _ _).alloc (Nat.le_refl _) _⟩
        · exact absurd g2 g9
    · have g3 : ¬ (e1 : Int) < s.size := by omega
      rw [fin_absT, hke] at hV
      have hEs : e1 ≤ s.size := by omega
      obtain ⟨g, hgd⟩ : ∃ g, e1 + rowL ldB (s.data.toList.drop e1) = g := ⟨_, rfl⟩
      have hR9 := rrow_in s e1 g true hs hEs hgd
      by_cases hg0 : 0 < rowL ldB (s.data.toList.drop e1)
      · rw [if_pos (by simp [hg0])] at hV
        have hv : Hid (rlitV k (litL true (s.data.toList.drop k)) = .tuple #[.agg #[.int .u8 0, .int .i64 0, .int .i64 0], .int .i64 (e1 : Int), .bool false]) := by show _ = _; rw [hV]; exact rlit_err _ _ _ (by omega)
        have hl9 : (e1 : Int) < g := by omega
        clear hV b2 hke hgd hg0
        go_enter Try.func26, Try.ntmps26
        go_wp2_with (first | (go_at_call 24; refine (hR1 _ ?a1 _ ?b1 _).mono ?_; (case a1 => omega); (case b1 => rfl); rintro e w' ⟨rfl, rfl⟩) | (go_at_call 24; refine (hR2 _ ?a2 _ ?b2 _).mono ?_; (case a2 => omega); (case b2 => rfl); rintro e w' ⟨rfl, rfl⟩) | (go_at_call 24; refine (hR9 _ ?a9 _ ?b9 _).mono ?_; (case a9 => omega); (case b9 => rfl); rintro e w' ⟨rfl, rfl⟩))
        exact bodyPost_ret (v := .tuple #[.agg #[.int .u8 0, .int .i64 0, .int .i64 0], .int .i64 (e1 : Int), .bool false]) (by simp [results, Try.results26, go_sem]) rfl ⟨by rw [hv.out], (Below.refl _ _).alloc (Nat.le_refl _) _⟩
      · have hl9 : (g : Int) ≤ e1 := by omega
        rcases has3 s e1 46 46 rfl with ⟨g9, q9, b9⟩ | ⟨g9, q9, b9⟩ | ⟨g9, b9⟩
        · exact absurd g9 g2
        · exact absurd g9 g2
        · rw [if_neg (by simp [b9, hg0])] at hV
          have hv : Hid (rlitV k (litL true (s.data.toList.drop k)) = .tuple #[.agg #[.int .u8 5, .int .i64 (k : Int), .int .i64 (e1 : Int)], .int .i64 0, .bool true]) := by show _ = _; rw [hV]; exact rlit_ok _ _ _ _ _ rfl (by omega)
          have g8 : ¬ (e1 : Int) < s.size := by omega
          clear hV b2 hke hgd hg0 b9
          go_enter Try.func26, Try.ntmps26
          go_wp2_with (first | (go_at_call 24; refine (hR1 _ ?a1 _ ?b1 _).mono ?_; (case a1 => omega); (case b1 => rfl); rintro e w' ⟨rfl, rfl⟩) | (go_at_call 24; refine (hR2 _ ?a2 _ ?b2 _).mono ?_; (case a2 => omega); (case b2 => rfl); rintro e w' ⟨rfl, rfl⟩) | (go_at_call 24; refine (hR9 _ ?a9 _ ?b9 _).mono ?_; (case a9 => omega); (case b9 => rfl); rintro e w' ⟨rfl, rfl⟩))
          exact bodyPost_ret (v := .tuple #[.agg #[.int .u8 5, .int .i64 (k : Int), .int .i64 (e1 : Int)], .int .i64 0, .bool true]) (by simp [results, Try.results26, go_sem]) rfl ⟨by rw [hv.out], (Below.refl _ _).alloc (Nat.le_refl _) _⟩
end Go.Proofs.Ytcinlpiidgbnaaa
