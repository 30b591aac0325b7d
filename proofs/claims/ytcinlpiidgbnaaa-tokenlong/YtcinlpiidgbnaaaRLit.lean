/- The document's literals. -/
import Derived.Test.YtcinlpiidgbnaaaRRow
import Derived.Test.YtcinlpiidgbnaaaFloat
namespace Go.Proofs.Ytcinlpiidgbnaaa
open Go.RowKit

/-- What the document's literal hands back, for what is cut off at place k. -/
def rlitV (k : Nat) : Except Nat (Nat × Nat) → Value
  | .error p => .tuple #[.agg #[.int .u8 0, .int .i64 0, .int .i64 0], .int .i64 ((k + p : Nat) : Int), .bool false]
  | .ok (kd, e) => .tuple #[.agg #[.int .u8 (kd : Int), .int .i64 (k : Int), .int .i64 ((k + e : Nat) : Int)], .int .i64 0, .bool true]
theorem rlit_err (k p : Nat) (i : Int) (hi : i = ((k + p : Nat) : Int)) : rlitV k (.error p) = .tuple #[.agg #[.int .u8 0, .int .i64 0, .int .i64 0], .int .i64 i, .bool false] := by rw [hi]; rfl
theorem rlit_ok (k kd e : Nat) (d i : Int) (hd : d = (kd : Int)) (hi : i = ((k + e : Nat) : Int)) : rlitV k (.ok (kd, e)) = .tuple #[.agg #[.int .u8 d, .int .i64 (k : Int), .int .i64 i], .int .i64 0, .bool true] := by rw [hd, hi]; rfl
theorem flt_absT (l : List UInt8) (k f : Nat) : fltL true (l.drop k) f = if rowL digitB (l.drop (k + f)) = 0 then .error f else frcL true (l.drop k) (f + rowL digitB (l.drop (k + f))) := by
  unfold fltL; rw [List.drop_drop]
theorem frc_absT (l : List UInt8) (k e : Nat) : frcL true (l.drop k) e = if hasL l (k + e) 101 then powL true (l.drop k) (expL (l.drop k) e) else finL true (l.drop k) e := by
  unfold frcL; rw [hasL_drop]
theorem pow_absT (l : List UInt8) (k p : Nat) : powL true (l.drop k) p = if rowL digitB (l.drop (k + p)) = 0 then .error p else finL true (l.drop k) (p + rowL digitB (l.drop (k + p))) := by
  unfold powL; rw [List.drop_drop]
theorem fin_absT (l : List UInt8) (k e : Nat) : finL true (l.drop k) e = if 0 < rowL ldB (l.drop (k + e)) || hasL l (k + e) 46 then .error e else .ok (5, e) := by
  unfold finL; rw [List.drop_drop, hasL_drop]
  have e1 : endB true = ldB := rfl
  rw [e1, Bool.true_and]
theorem lit_absT (l : List UInt8) (k : Nat) : litL true (l.drop k) = if hasL l (k + rowL digitB (l.drop k)) 46 then fltL true (l.drop k) (rowL digitB (l.drop k) + 1) else intL (l.drop k) (rowL digitB (l.drop k)) := by
  unfold litL; rw [hasL_drop]
theorem int_absT (l : List UInt8) (k n : Nat) : intL (l.drop k) n = if sufB ((l.drop (k + n)).take (rowL ldB (l.drop (k + n)))) then .ok (4, n + rowL ldB (l.drop (k + n))) else .error n := by
  unfold intL; rw [List.drop_drop]
theorem has3 (s : ByteArray) (k : Nat) (c : UInt8) (d : Int) (hd : d = (c.toNat : Int)) :
    (∃ h : k < s.size, ((s[k].toNat : Int) == d) = true ∧ hasL s.data.toList k c = true) ∨ (∃ h : k < s.size, ((s[k].toNat : Int) == d) = false ∧ hasL s.data.toList k c = false) ∨ (¬ k < s.size ∧ hasL s.data.toList k c = false) := by
  by_cases h : k < s.size
  · cases hv : hasL s.data.toList k c
    · right; left
      rw [hasL_at c h] at hv
      exact ⟨h, by simpa [hd] using hv, rfl⟩
    · left
      rw [hasL_at c h] at hv
      exact ⟨h, by simpa [hd] using hv, rfl⟩
  · right; right; exact ⟨h, hasL_off c h⟩
/-- A plus or a minus at a place, or neither, or the end. -/
theorem sign4 (s : ByteArray) (k : Nat) :
    (∃ h : k < s.size, ((s[k].toNat : Int) == 43) = true ∧ (hasL s.data.toList k 43 || hasL s.data.toList k 45) = true) ∨
    (∃ h : k < s.size, ((s[k].toNat : Int) == 43) = false ∧ ((s[k].toNat : Int) == 45) = true ∧ (hasL s.data.toList k 43 || hasL s.data.toList k 45) = true) ∨
    (∃ h : k < s.size, ((s[k].toNat : Int) == 43) = false ∧ ((s[k].toNat : Int) == 45) = false ∧ (hasL s.data.toList k 43 || hasL s.data.toList k 45) = false) ∨
    (¬ k < s.size ∧ (hasL s.data.toList k 43 || hasL s.data.toList k 45) = false) := by
  rcases has3 s k 43 43 rfl with ⟨h, a, b⟩ | ⟨h, a, b⟩ | ⟨h, b⟩
  · left; exact ⟨h, a, by rw [b]; rfl⟩
  · rcases has3 s k 45 45 rfl with ⟨_, c, d⟩ | ⟨_, c, d⟩ | ⟨h2, _⟩
    · right; left; exact ⟨h, a, c, by rw [d, Bool.or_true]⟩
    · right; right; left; exact ⟨h, a, c, by rw [b, d]; rfl⟩
    · exact absurd h h2
  · right; right; right
    exact ⟨h, by rw [b, hasL_off 45 h]; rfl⟩
theorem suf_no {l : List UInt8} (h1 : (l == [105, 54, 52]) = false) (h2 : (l == [105, 51, 50]) = false) (h3 : (l == [117, 56]) = false) (h0 : l.isEmpty = false) : sufB l = false := by
  unfold sufB
  rw [List.contains_eq_mem]
  simp only [decide_eq_false_iff_not, sufL, List.mem_cons, List.not_mem_nil, or_false]
  rintro (rfl | rfl | rfl | rfl)
  · cases h0
  · simp at h1
  · simp at h2
  · simp at h3
theorem suf5 (l : List UInt8) : l = [] ∨ l = [105, 54, 52] ∨ l = [105, 51, 50] ∨ l = [117, 56] ∨ (l.isEmpty = false ∧ (l == [105, 54, 52]) = false ∧ (l == [105, 51, 50]) = false ∧ (l == [117, 56]) = false) := by
  by_cases h0 : l = []
  · exact .inl h0
  by_cases h1 : l = [105, 54, 52]
  · exact .inr (.inl h1)
  by_cases h2 : l = [105, 51, 50]
  · exact .inr (.inr (.inl h2))
  by_cases h3 : l = [117, 56]
  · exact .inr (.inr (.inr (.inl h3)))
  · exact .inr (.inr (.inr (.inr ⟨by simpa using h0, by simpa using h1, by simpa using h2, by simpa using h3⟩)))
theorem rrow_in (s : ByteArray) (k n : Nat) (b : Bool) (hs : s.size ≤ 65536) (hk : k ≤ s.size) (hn : k + rowL (rowB b) (s.data.toList.drop k) = n) (i : Int) (hi : i = (k : Int)) (c : Bool) (hc : c = b) (w : World) :
    Calls Try.prog 24 #[.string s, .int .i64 i, .bool c] w fun e w' => e = .returned (.int .i64 (n : Int)) ∧ w' = w := by
  subst hn hc; exact rrow_any s i k hi c w hs hk

set_option maxHeartbeats 1000000 in
theorem rlit_int (s : ByteArray) (k : Nat) (w : World) (hs : s.size ≤ 65536) (hk : k ≤ s.size) (h46 : hasL s.data.toList (k + rowL digitB (s.data.toList.drop k)) 46 = false) :
    Calls Try.prog 26 #[.string s, .int .i64 (k : Int)] w fun e w' => e = .returned (rlitV k (litL true (s.data.toList.drop k))) ∧ Below w.heap.size w w' := by
  have hV := lit_absT s.data.toList k
  have hm := row_le_size digitB s k hk
  obtain ⟨n, hn⟩ : ∃ n, rowL digitB (s.data.toList.drop k) = n := ⟨_, rfl⟩
  obtain ⟨e0, he0⟩ : ∃ e0, k + rowL digitB (s.data.toList.drop k) = e0 := ⟨_, rfl⟩
  have hR1 := rrow_in s k e0 false hs hk he0
  rw [hn] at hV hm he0 h46
  rw [he0] at hV hm h46
  clear hn
  rcases has3 s e0 46 46 rfl with ⟨_, _, b⟩ | ⟨g0, q0, _⟩ | ⟨g0, _⟩
  · rw [h46] at b; cases b
  · have g1 : (e0 : Int) < s.size := by omega
    rw [h46] at hV
    simp only [Bool.false_eq_true, if_false] at hV
    rw [int_absT, he0] at hV
    have hg := row_le_size ldB s e0 hm
    obtain ⟨g, hgd⟩ : ∃ g, e0 + rowL ldB (s.data.toList.drop e0) = g := ⟨_, rfl⟩
    have hR2 := rrow_in s e0 g true hs hm hgd
    have hx : (s.extract e0 g).toList = (s.data.toList.drop e0).take (rowL ldB (s.data.toList.drop e0)) := by
      rw [Lib.toList_data, Lib.extract_data]; congr 1; omega
    rw [← hx] at hV
    have hgs : e0 ≤ g := by omega
    rw [hgd] at hg
    clear hx
    rcases suf5 (s.extract e0 g).toList with hX | hX | hX | hX | ⟨x0, x1, x2, x3⟩
    · rw [hX, if_pos (by decide)] at hV
      have hv : Hid (rlitV k (litL true (s.data.toList.drop k)) = .tuple #[.agg #[.int .u8 4, .int .i64 (k : Int), .int .i64 (g : Int)], .int .i64 0, .bool true]) := by show _ = _; rw [hV]; exact rlit_ok _ _ _ _ _ rfl (by omega)
      clear hV hgd he0
      go_enter Try.func26, Try.ntmps26
      go_wp2_with (first | (go_at_call 24; refine (hR1 _ ?a1 _ ?b1 _).mono ?_; (case a1 => omega); (case b1 => rfl); rintro e w' ⟨rfl, rfl⟩) | (go_at_call 24; refine (hR2 _ ?a2 _ ?b2 _).mono ?_; (case a2 => omega); (case b2 => rfl); rintro e w' ⟨rfl, rfl⟩))
      exact bodyPost_ret (v := .tuple #[.agg #[.int .u8 4, .int .i64 (k : Int), .int .i64 (g : Int)], .int .i64 0, .bool true]) (by simp [results, Try.results26, go_sem]) rfl ⟨by rw [hv.out], (Below.refl _ _).alloc (Nat.le_refl _) _⟩
    · rw [hX, if_pos (by decide)] at hV
      have hv : Hid (rlitV k (litL true (s.data.toList.drop k)) = .tuple #[.agg #[.int .u8 4, .int .i64 (k : Int), .int .i64 (g : Int)], .int .i64 0, .bool true]) := by show _ = _; rw [hV]; exact rlit_ok _ _ _ _ _ rfl (by omega)
      clear hV hgd he0
      go_enter Try.func26, Try.ntmps26
      go_wp2_with (first | (go_at_call 24; refine (hR1 _ ?a1 _ ?b1 _).mono ?_; (case a1 => omega); (case b1 => rfl); rintro e w' ⟨rfl, rfl⟩) | (go_at_call 24; refine (hR2 _ ?a2 _ ?b2 _).mono ?_; (case a2 => omega); (case b2 => rfl); rintro e w' ⟨rfl, rfl⟩))
      exact bodyPost_ret (v := .tuple #[.agg #[.int .u8 4, .int .i64 (k : Int), .int .i64 (g : Int)], .int .i64 0, .bool true]) (by simp [results, Try.results26, go_sem]) rfl ⟨by rw [hv.out], (Below.refl _ _).alloc (Nat.le_refl _) _⟩
    · rw [hX, if_pos (by decide)] at hV
      have hv : Hid (rlitV k (litL true (s.data.toList.drop k)) = .tuple #[.agg #[.int .u8 4, .int .i64 (k : Int), .int .i64 (g : Int)], .int .i64 0, .bool true]) := by show _ = _; rw [hV]; exact rlit_ok _ _ _ _ _ rfl (by omega)
      clear hV hgd he0
      go_enter Try.func26, Try.ntmps26
      go_wp2_with (first | (go_at_call 24; refine (hR1 _ ?a1 _ ?b1 _).mono ?_; (case a1 => omega); (case b1 => rfl); rintro e w' ⟨rfl, rfl⟩) | (go_at_call 24; refine (hR2 _ ?a2 _ ?b2 _).mono ?_; (case a2 => omega); (case b2 => rfl); rintro e w' ⟨rfl, rfl⟩))
      exact bodyPost_ret (v := .tuple #[.agg #[.int .u8 4, .int .i64 (k : Int), .int .i64 (g : Int)], .int .i64 0, .bool true]) (by simp [results, Try.results26, go_sem]) rfl ⟨by rw [hv.out], (Below.refl _ _).alloc (Nat.le_refl _) _⟩
    · rw [hX, if_pos (by decide)] at hV
      have hv : Hid (rlitV k (litL true (s.data.toList.drop k)) = .tuple #[.agg #[.int .u8 4, .int .i64 (k : Int), .int .i64 (g : Int)], .int .i64 0, .bool true]) := by show _ = _; rw [hV]; exact rlit_ok _ _ _ _ _ rfl (by omega)
      clear hV hgd he0
      go_enter Try.func26, Try.ntmps26
      go_wp2_with (first | (go_at_call 24; refine (hR1 _ ?a1 _ ?b1 _).mono ?_; (case a1 => omega); (case b1 => rfl); rintro e w' ⟨rfl, rfl⟩) | (go_at_call 24; refine (hR2 _ ?a2 _ ?b2 _).mono ?_; (case a2 => omega); (case b2 => rfl); rintro e w' ⟨rfl, rfl⟩))
      exact bodyPost_ret (v := .tuple #[.agg #[.int .u8 4, .int .i64 (k : Int), .int .i64 (g : Int)], .int .i64 0, .bool true]) (by simp [results, Try.results26, go_sem]) rfl ⟨by rw [hv.out], (Below.refl _ _).alloc (Nat.le_refl _) _⟩
    · rw [suf_no x1 x2 x3 x0] at hV
      simp only [Bool.false_eq_true, if_false] at hV
      have hv : Hid (rlitV k (litL true (s.data.toList.drop k)) = .tuple #[.agg #[.int .u8 0, .int .i64 0, .int .i64 0], .int .i64 (e0 : Int), .bool false]) := by show _ = _; rw [hV]; exact rlit_err _ _ _ (by omega)
      clear hV hgd he0
      go_enter Try.func26, Try.ntmps26
      go_wp2_with (first | (go_at_call 24; refine (hR1 _ ?a1 _ ?b1 _).mono ?_; (case a1 => omega); (case b1 => rfl); rintro e w' ⟨rfl, rfl⟩) | (go_at_call 24; refine (hR2 _ ?a2 _ ?b2 _).mono ?_; (case a2 => omega); (case b2 => rfl); rintro e w' ⟨rfl, rfl⟩))
      exact bodyPost_ret (v := .tuple #[.agg #[.int .u8 0, .int .i64 0, .int .i64 0], .int .i64 (e0 : Int), .bool false]) (by simp [results, Try.results26, go_sem]) rfl ⟨by rw [hv.out], (Below.refl _ _).alloc (Nat.le_refl _) _⟩
  · have g1 : ¬ (e0 : Int) < s.size := by omega
    rw [h46] at hV
    simp only [Bool.false_eq_true, if_false] at hV
    rw [int_absT, he0] at hV
    have hg := row_le_size ldB s e0 hm
    obtain ⟨g, hgd⟩ : ∃ g, e0 + rowL ldB (s.data.toList.drop e0) = g := ⟨_, rfl⟩
    have hR2 := rrow_in s e0 g true hs hm hgd
    have hx : (s.extract e0 g).toList = (s.data.toList.drop e0).take (rowL ldB (s.data.toList.drop e0)) := by
      rw [Lib.toList_data, Lib.extract_data]; congr 1; omega
    rw [← hx] at hV
    have hgs : e0 ≤ g := by omega
    rw [hgd] at hg
    clear hx
    rcases suf5 (s.extract e0 g).toList with hX | hX | hX | hX | ⟨x0, x1, x2, x3⟩
    · rw [hX, if_pos (by decide)] at hV
      have hv : Hid (rlitV k (litL true (s.data.toList.drop k)) = .tuple #[.agg #[.int .u8 4, .int .i64 (k : Int), .int .i64 (g : Int)], .int .i64 0, .bool true]) := by show _ = _; rw [hV]; exact rlit_ok _ _ _ _ _ rfl (by omega)
      clear hV hgd he0
      go_enter Try.func26, Try.ntmps26
      go_wp2_with (first | (go_at_call 24; refine (hR1 _ ?a1 _ ?b1 _).mono ?_; (case a1 => omega); (case b1 => rfl); rintro e w' ⟨rfl, rfl⟩) | (go_at_call 24; refine (hR2 _ ?a2 _ ?b2 _).mono ?_; (case a2 => omega); (case b2 => rfl); rintro e w' ⟨rfl, rfl⟩))
      exact bodyPost_ret (v := .tuple #[.agg #[.int .u8 4, .int .i64 (k : Int), .int .i64 (g : Int)], .int .i64 0, .bool true]) (by simp [results, Try.results26, go_sem]) rfl ⟨by rw [hv.out], (Below.refl _ _).alloc (Nat.le_refl _) _⟩
    · rw [hX, if_pos (by decide)] at hV
      have hv : Hid (rlitV k (litL true (s.data.toList.drop k)) = .tuple #[.agg #[.int .u8 4, .int .i64 (k : Int), .int .i64 (g : Int)], .int .i64 0, .bool true]) := by show _ = _; rw [hV]; exact rlit_ok _ _ _ _ _ rfl (by omega)
      clear hV hgd he0
      go_enter Try.func26, Try.ntmps26
      go_wp2_with (first | (go_at_call 24; refine (hR1 _ ?a1 _ ?b1 _).mono ?_; (case a1 => omega); (case b1 => rfl); rintro e w' ⟨rfl, rfl⟩) | (go_at_call 24; refine (hR2 _ ?a2 _ ?b2 _).mono ?_; (case a2 => omega); (case b2 => rfl); rintro e w' ⟨rfl, rfl⟩))
      exact bodyPost_ret (v := .tuple #[.agg #[.int .u8 4, .int .i64 (k : Int), .int .i64 (g : Int)], .int .i64 0, .bool true]) (by simp [results, Try.results26, go_sem]) rfl ⟨by rw [hv.out], (Below.refl _ _).alloc (Nat.le_refl _) _⟩
    · rw [hX, if_pos (by decide)] at hV
      have hv : Hid (rlitV k (litL true (s.data.toList.drop k)) = .tuple #[.agg #[.int .u8 4, .int .i64 (k : Int), .int .i64 (g : Int)], .int .i64 0, .bool true]) := by show _ = _; rw [hV]; exact rlit_ok _ _ _ _ _ rfl (by omega)
      clear hV hgd he0
      go_enter Try.func26, Try.ntmps26
      go_wp2_with (first | (go_at_call 24; refine (hR1 _ ?a1 _ ?b1 _).mono ?_; (case a1 => omega); (case b1 => rfl); rintro e w' ⟨rfl, rfl⟩) | (go_at_call 24; refine (hR2 _ ?a2 _ ?b2 _).mono ?_; (case a2 => omega); (case b2 => rfl); rintro e w' ⟨rfl, rfl⟩))
      exact bodyPost_ret (v := .tuple #[.agg #[.int .u8 4, .int .i64 (k : Int), .int .i64 (g : Int)], .int .i64 0, .bool true]) (by simp [results, Try.results26, go_sem]) rfl ⟨by rw [hv.out], (Below.refl _ _).alloc (Nat.le_refl _) _⟩
    · rw [hX, if_pos (by decide)] at hV
      have hv : Hid (rlitV k (litL true (s.data.toList.drop k)) = .tuple #[.agg #[.int .u8 4, .int .i64 (k : Int), .int .i64 (g : Int)], .int .i64 0, .bool true]) := by show _ = _; rw [hV]; exact rlit_ok _ _ _ _ _ rfl (by omega)
      clear hV hgd he0
      go_enter Try.func26, Try.ntmps26
      go_wp2_with (first | (go_at_call 24; refine (hR1 _ ?a1 _ ?b1 _).mono ?_; (case a1 => omega); (case b1 => rfl); rintro e w' ⟨rfl, rfl⟩) | (go_at_call 24; refine (hR2 _ ?a2 _ ?b2 _).mono ?_; (case a2 => omega); (case b2 => rfl); rintro e w' ⟨rfl, rfl⟩))
      exact bodyPost_ret (v := .tuple #[.agg #[.int .u8 4, .int .i64 (k : Int), .int .i64 (g : Int)], .int .i64 0, .bool true]) (by simp [results, Try.results26, go_sem]) rfl ⟨by rw [hv.out], (Below.refl _ _).alloc (Nat.le_refl _) _⟩
    · rw [suf_no x1 x2 x3 x0] at hV
      simp only [Bool.false_eq_true, if_false] at hV
      have hv : Hid (rlitV k (litL true (s.data.toList.drop k)) = .tuple #[.agg #[.int .u8 0, .int .i64 0, .int .i64 0], .int .i64 (e0 : Int), .bool false]) := by show _ = _; rw [hV]; exact rlit_err _ _ _ (by omega)
      clear hV hgd he0
      go_enter Try.func26, Try.ntmps26
      go_wp2_with (first | (go_at_call 24; refine (hR1 _ ?a1 _ ?b1 _).mono ?_; (case a1 => omega); (case b1 => rfl); rintro e w' ⟨rfl, rfl⟩) | (go_at_call 24; refine (hR2 _ ?a2 _ ?b2 _).mono ?_; (case a2 => omega); (case b2 => rfl); rintro e w' ⟨rfl, rfl⟩))
      exact bodyPost_ret (v := .tuple #[.agg #[.int .u8 0, .int .i64 0, .int .i64 0], .int .i64 (e0 : Int), .bool false]) (by simp [results, Try.results26, go_sem]) rfl ⟨by rw [hv.out], (Below.refl _ _).alloc (Nat.le_refl _) _⟩
end Go.Proofs.Ytcinlpiidgbnaaa
