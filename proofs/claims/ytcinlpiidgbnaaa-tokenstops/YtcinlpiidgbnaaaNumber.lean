/- What the program cuts off at a place: all literals. -/
import Derived.Test.YtcinlpiidgbnaaaFloat
namespace Go.Proofs.Ytcinlpiidgbnaaa
open Go.RowKit

theorem lit_abs (l : List UInt8) (k : Nat) : litL false (l.drop k) = if hasL l (k + rowL digitB (l.drop k)) 46 then fltL false (l.drop k) (rowL digitB (l.drop k) + 1) else intL (l.drop k) (rowL digitB (l.drop k)) := by
  unfold litL; rw [hasL_drop]
theorem int_abs (l : List UInt8) (k n : Nat) : intL (l.drop k) n = if sufB ((l.drop (k + n)).take (rowL ldB (l.drop (k + n)))) then .ok (4, n + rowL ldB (l.drop (k + n))) else .error n := by
  unfold intL; rw [List.drop_drop]
theorem suf_true {l x : List UInt8} (h : (l == x) = true) (hx : sufB x = true) : sufB l = true := by
  have e : l = x := by simpa using h
  rw [e, hx]
theorem suf_empty {l : List UInt8} (h : l.isEmpty = true) : sufB l = true := by
  have e : l = [] := by simpa using h
  rw [e]; rfl
theorem suf_false {l : List UInt8} (h1 : (l == [105, 54, 52]) = false) (h2 : (l == [105, 51, 50]) = false) (h3 : (l == [117, 56]) = false) (h0 : l.isEmpty = false) : sufB l = false := by
  unfold sufB
  rw [List.contains_eq_mem]
  simp only [decide_eq_false_iff_not, sufL, List.mem_cons, List.not_mem_nil, or_false]
  rintro (rfl | rfl | rfl | rfl)
  · cases h0
  · simp at h1
  · simp at h2
  · simp at h3

set_option maxHeartbeats 400000 in
theorem number_any (s : ByteArray) (k : Nat) (w : World) (hs : s.size ≤ 65536) (hk : k ≤ s.size) :
    Calls Try.prog 17 #[.string s, .int .i64 (k : Int)] w fun e w' => e = .returned (cutV k (litL false (s.data.toList.drop k))) ∧ Below w.heap.size w w' := by
  have hV := lit_abs s.data.toList k
  have hm := row_le_size digitB s k hk
  obtain ⟨e0, he0⟩ : ∃ e0, k + rowL digitB (s.data.toList.drop k) = e0 := ⟨_, rfl⟩
  have hR1 := row1_in s digitB 3 is_digit k e0 hs hk he0
  obtain ⟨n, hn⟩ : ∃ n, rowL digitB (s.data.toList.drop k) = n := ⟨_, rfl⟩
  rw [hn] at hV hm he0
  rw [he0] at hV hm
  clear hn
  cases h46 : hasL s.data.toList e0 46
  · rw [h46] at hV
    simp only [Bool.false_eq_true, if_false] at hV
    rw [int_abs, he0] at hV
    have hg := row_le_size ldB s e0 hm
    obtain ⟨g, hgd⟩ : ∃ g, e0 + rowL ldB (s.data.toList.drop e0) = g := ⟨_, rfl⟩
    have hR2 := row2_in s e0 g hs hm hgd
    have hx : (s.extract e0 g).toList = (s.data.toList.drop e0).take (rowL ldB (s.data.toList.drop e0)) := by
      rw [Lib.toList_data, Lib.extract_data]; congr 1; omega
    rw [← hx] at hV
    have hgs : e0 ≤ g := by omega
    rw [hgd] at hg
    have hk0 : k ≤ e0 := by omega
    have hE : sufB (s.extract e0 g).toList = true → Hid (cutV k (litL false (s.data.toList.drop k)) = .tuple #[.agg #[.int .u8 4, .int .i64 (k : Int), .int .i64 (g : Int)], .agg #[.int .i64 0, .int .i64 0]]) := by
      intro h; show _ = _; rw [hV, if_pos h]; exact cut_ok _ _ _ _ _ rfl (by omega)
    have hF : sufB (s.extract e0 g).toList = false → Hid (cutV k (litL false (s.data.toList.drop k)) = .tuple #[.agg #[.int .u8 0, .int .i64 0, .int .i64 0], .agg #[.int .i64 120, .int .i64 (e0 : Int)]]) := by
      intro h; show _ = _; rw [hV, h]; simp only [Bool.false_eq_true, if_false]; exact cut_err _ _ _ (by omega)
    have HE : Hid _ := hE
    have HF : Hid _ := hF
    clear hV hE hF hx hgd he0
    go_enter Try.func17, Try.ntmps17
    go_wp2_with (first | (go_at_call 28; refine (hR1 _ _ _ _ ?a1 3 rfl _ ?l1 ?c1).mono ?_; (case l1 => decide); (case a1 => omega); (case c1 => exact new0 (by simp) _ _ _); rintro e w' ⟨rfl, rfl⟩) | (go_at_call 28; refine (hR2 _ _ _ _ ?a2 _ ?l2 ?c2 ?d2).mono ?_; (case l2 => decide); (case a2 => omega); (case c2 => exact new0 (by simp) _ _ _); (case d2 => exact new1 (by simp) _ _ _ _); rintro e w' ⟨rfl, rfl⟩) | (go_at_call 31; refine (has_in s _ e0 ?p1 (by omega) _ 46 ?q1 _ hs).mono ?_; (case p1 => omega); (case q1 => decide); rintro e w' ⟨rfl, rfl⟩) | (go_at_call 30; refine (taken_any _ _ _ _).mono ?_; rintro e w1 ⟨rfl, hb⟩; obtain ⟨hc, hf⟩ := bcell hb) | (go_at_call 29; refine (refused_any _ _).mono ?_; rintro e w1 ⟨rfl, hb⟩; obtain ⟨hc, hf⟩ := bcell hb))
    all_goals first | (exact no_bool (by assumption) (by assumption)) | skip
    all_goals first | (refine ret_two ((((Below.refl _ _).alloc (by simp <;> omega) _).alloc (by simp <;> omega) _).trans (Below.mono (by assumption) (by simp <;> omega))) ?r0 (fun Wf h => ⟨by rw [(HE.out (suf_true (by assumption) (by decide))).out], h⟩); (case r0 => intro Wf h0 h1 h2 h3 h4; simp [results, Try.results17, go_sem, h0, h1, h2, h3, h4])) | (refine ret_two ((((Below.refl _ _).alloc (by simp <;> omega) _).alloc (by simp <;> omega) _).trans (Below.mono (by assumption) (by simp <;> omega))) ?r1 (fun Wf h => ⟨by rw [(HE.out (suf_empty (by assumption))).out], h⟩); (case r1 => intro Wf h0 h1 h2 h3 h4; simp [results, Try.results17, go_sem, h0, h1, h2, h3, h4])) | (refine ret_two ((((Below.refl _ _).alloc (by simp <;> omega) _).alloc (by simp <;> omega) _).trans (Below.mono (by assumption) (by simp <;> omega))) ?r2 (fun Wf h => ⟨by rw [(HF.out (suf_false (by assumption) (by assumption) (by assumption) (by assumption))).out], h⟩); (case r2 => intro Wf h0 h1 h2 h3 h4; simp [results, Try.results17, go_sem, h0, h1, h2, h3, h4]))
  · rw [h46] at hV
    simp only [if_true] at hV
    have hlt := has_lt h46
    have hF := fun w => float_any s k (n + 1) w ((e0 : Int) + 1) (by omega) hs (by omega)
    rcases hr : fltL false (s.data.toList.drop k) (n + 1) with p | ⟨kd, e⟩
    · obtain ⟨i, hi⟩ : ∃ i : Int, ((k + p : Nat) : Int) = i := ⟨_, rfl⟩
      have hV' : Hid (cutV k (litL false (s.data.toList.drop k)) = .tuple #[.agg #[.int .u8 0, .int .i64 0, .int .i64 0], .agg #[.int .i64 120, .int .i64 i]]) := by show _ = _; rw [hV, hr, ← hi]; rfl
      rw [hr] at hF
      have hF' : ∀ w, Calls Try.prog 32 #[.string s, .int .i64 (k : Int), .int .i64 ((e0 : Int) + 1)] w fun e' w' => e' = .returned (.tuple #[.agg #[.int .u8 0, .int .i64 0, .int .i64 0], .agg #[.int .i64 120, .int .i64 i]]) ∧ Below w.heap.size w w' := by rw [← hi]; exact hF
      clear hF hr hV he0 hi
      go_enter Try.func17, Try.ntmps17
      go_wp2_with (first | (go_at_call 28; refine (hR1 _ _ _ _ ?a1 3 rfl _ ?l1 ?c1).mono ?_; (case l1 => decide); (case a1 => omega); (case c1 => exact new0 (by simp) _ _ _); rintro e w' ⟨rfl, rfl⟩) | (go_at_call 31; refine (has_in s _ e0 ?p1 (by omega) _ 46 ?q1 _ hs).mono ?_; (case p1 => omega); (case q1 => decide); rintro e w' ⟨rfl, rfl⟩) | (go_at_call 32; refine (hF' _).mono ?_; rintro e w1 ⟨rfl, hb⟩; obtain ⟨hc, hf⟩ := bcell hb))
      refine ret_two (((Below.refl _ _).alloc (by simp <;> omega) _).trans (hb.mono (by simp <;> omega))) ?r0 (fun Wf h => ⟨by rw [hV'.out], h⟩)
      case r0 => intro Wf h0 h1 h2 h3 h4; simp [results, Try.results17, go_sem, h0, h1, h2, h3, h4]
    · obtain ⟨i, hi⟩ : ∃ i : Int, ((k + e : Nat) : Int) = i := ⟨_, rfl⟩
      have hV' : Hid (cutV k (litL false (s.data.toList.drop k)) = .tuple #[.agg #[.int .u8 (kd : Int), .int .i64 (k : Int), .int .i64 i], .agg #[.int .i64 0, .int .i64 0]]) := by show _ = _; rw [hV, hr, ← hi]; rfl
      rw [hr] at hF
      have hF' : ∀ w, Calls Try.prog 32 #[.string s, .int .i64 (k : Int), .int .i64 ((e0 : Int) + 1)] w fun e' w' => e' = .returned (.tuple #[.agg #[.int .u8 (kd : Int), .int .i64 (k : Int), .int .i64 i], .agg #[.int .i64 0, .int .i64 0]]) ∧ Below w.heap.size w w' := by rw [← hi]; exact hF
      clear hF hr hV he0 hi
      go_enter Try.func17, Try.ntmps17
      go_wp2_with (first | (go_at_call 28; refine (hR1 _ _ _ _ ?a1 3 rfl _ ?l1 ?c1).mono ?_; (case l1 => decide); (case a1 => omega); (case c1 => exact new0 (by simp) _ _ _); rintro e w' ⟨rfl, rfl⟩) | (go_at_call 31; refine (has_in s _ e0 ?p1 (by omega) _ 46 ?q1 _ hs).mono ?_; (case p1 => omega); (case q1 => decide); rintro e w' ⟨rfl, rfl⟩) | (go_at_call 32; refine (hF' _).mono ?_; rintro e w1 ⟨rfl, hb⟩; obtain ⟨hc, hf⟩ := bcell hb))
      refine ret_two (((Below.refl _ _).alloc (by simp <;> omega) _).trans (hb.mono (by simp <;> omega))) ?r0 (fun Wf h => ⟨by rw [hV'.out], h⟩)
      case r0 => intro Wf h0 h1 h2 h3 h4; simp [results, Try.results17, go_sem, h0, h1, h2, h3, h4]
end Go.Proofs.Ytcinlpiidgbnaaa
