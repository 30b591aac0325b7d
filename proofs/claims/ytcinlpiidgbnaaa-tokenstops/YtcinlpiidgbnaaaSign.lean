/- What the program cuts off at a place: signs, and literals with a point. -/
import Derived.Test.YtcinlpiidgbnaaaCut
namespace Go.Proofs.Ytcinlpiidgbnaaa
open Go.RowKit

theorem two_list {s : ByteArray} {k : Nat} : (s.extract k (k + 2)).toList = (s.data.toList.drop k).take 2 := by
  rw [Lib.toList_data, Lib.extract_data]; congr 1; omega
theorem sign_two {s : ByteArray} {k : Nat} {x : List UInt8} (h : ((s.extract k (k + 2)).toList == x) = true) (hx : twoB x = true) : signL (s.data.toList.drop k) = 2 := by
  have e : (s.extract k (k + 2)).toList = x := by simpa using h
  rw [two_list] at e
  unfold signL; rw [e, if_pos hx]
theorem sign_one {s : ByteArray} {k : Nat} (h : ∀ x ∈ twosL, ((s.extract k (k + 2)).toList == x) = false) : signL (s.data.toList.drop k) = 1 := by
  unfold signL
  rw [if_neg]
  unfold twoB
  rw [List.contains_eq_mem]
  simp only [decide_eq_true_eq]
  intro hm
  have := h _ hm
  rw [two_list] at this
  simp at this
theorem sign_short {l : List UInt8} (h : l.length < 2) : signL l = 1 := by
  match l, h with
  | [], _ => rfl
  | [c], _ =>
    unfold signL
    rw [if_neg]
    simp [twoB, twosL]
theorem sign_v2 {k : Nat} {l : List UInt8} (h : signL l = 2) : cutV k (.ok (6, signL l)) = .tuple #[.agg #[.int .u8 6, .int .i64 (k : Int), .int .i64 ((k : Int) + 2)], .agg #[.int .i64 0, .int .i64 0]] := by
  rw [h]; simp only [cutV, tokV, fltV, Int.natCast_add]; rfl
theorem sign_v1 {k : Nat} {l : List UInt8} (h : signL l = 1) : cutV k (.ok (6, signL l)) = .tuple #[.agg #[.int .u8 6, .int .i64 (k : Int), .int .i64 ((k : Int) + 1)], .agg #[.int .i64 0, .int .i64 0]] := by
  rw [h]; simp only [cutV, tokV, fltV, Int.natCast_add]; rfl
theorem has_in (s : ByteArray) (i : Int) (k : Nat) (hi : i = (k : Int)) (hk : k < 4611686018427387904) (d : Int) (c : UInt8) (hd : d = (c.toNat : Int)) (w : World) (hs : s.size ≤ 65536) :
    Calls Try.prog 31 #[.string s, .int .i64 i, .int .u8 d] w fun e w' => e = .returned (.bool (hasL s.data.toList k c)) ∧ w' = w := by
  subst hi hd; exact has_any s k c w (by omega) hk

set_option maxHeartbeats 1000000 in
theorem sign_any (s : ByteArray) (k : Nat) (w : World) (hs : s.size ≤ 65536) (hk : k < s.size) :
    Calls Try.prog 18 #[.string s, .int .i64 (k : Int)] w fun e w' => e = .returned (cutV k (.ok (6, signL (s.data.toList.drop k)))) ∧ Below w.heap.size w w' := by
  by_cases h2 : k + 2 ≤ s.size
  · go_enter Try.func18, Try.ntmps18
    go_wp2_with (go_at_call 30; refine (taken_any _ _ _ _).mono ?_; rintro e w1 ⟨rfl, hb⟩; obtain ⟨hc, hf⟩ := bcell hb)
    all_goals first | (exact no_bool (by assumption) (by assumption)) | skip
    all_goals first | (refine ret_two (((Below.refl _ _)).trans (Below.mono (by assumption) (by simp))) ?r (fun Wf h => ⟨by rw [sign_v2 (sign_two (by assumption) (by decide))], h⟩); (case r => intro Wf h0 h1 h2 h3 h4; simp [results, Try.results18, go_sem, h0, h1, h2, h3, h4])) | skip
    have ht : ∀ x ∈ twosL, ((s.extract k (k + 2)).toList == x) = false := by
      intro x hx
      simp only [twosL, List.mem_cons, List.not_mem_nil, or_false] at hx
      rcases hx with rfl | rfl | rfl | rfl | rfl | rfl | rfl | rfl
      all_goals assumption
    refine ret_two ((Below.refl _ _).trans (hb.mono (by simp))) ?r (fun Wf h => ⟨by rw [sign_v1 (sign_one ht)], h⟩)
    case r => intro Wf h0 h1 h2 h3 h4; simp [results, Try.results18, go_sem, h0, h1, h2, h3, h4]
  · go_enter Try.func18, Try.ntmps18
    go_wp2_with (go_at_call 30; refine (taken_any _ _ _ _).mono ?_; rintro e w1 ⟨rfl, hb⟩; obtain ⟨hc, hf⟩ := bcell hb)
    refine ret_two ((Below.refl _ _).trans (hb.mono (by simp))) ?r (fun Wf h => ⟨by rw [sign_v1 (sign_short (by simp; omega))], h⟩)
    case r => intro Wf h0 h1 h2 h3 h4; simp [results, Try.results18, go_sem, h0, h1, h2, h3, h4]

theorem signed_any (s : ByteArray) (i : Int) (k : Nat) (hi : i = (k : Int)) (w : World) (hs : s.size ≤ 65536) (hk : k ≤ s.size) :
    Calls Try.prog 36 #[.string s, .int .i64 i] w fun e w' => e = .returned (.int .i64 ((if hasL s.data.toList k 43 || hasL s.data.toList k 45 then k + 1 else k : Nat) : Int)) ∧ w' = w := by
  subst hi
  cases h1 : hasL s.data.toList k 43
  · cases h2 : hasL s.data.toList k 45
    · go_enter Try.func36, Try.ntmps36
      go_wp2_with (first | (go_at_call 31; refine (has_in s _ k ?hh (by omega) _ 43 ?hd _ hs).mono ?_; (case hh => rfl); (case hd => decide); rintro e w' ⟨rfl, rfl⟩) | (go_at_call 31; refine (has_in s _ k ?hh2 (by omega) _ 45 ?hd2 _ hs).mono ?_; (case hh2 => rfl); (case hd2 => decide); rintro e w' ⟨rfl, rfl⟩))
      go_ret
      exact ⟨ret_int rfl, rfl⟩
    · go_enter Try.func36, Try.ntmps36
      go_wp2_with (first | (go_at_call 31; refine (has_in s _ k ?hh (by omega) _ 43 ?hd _ hs).mono ?_; (case hh => rfl); (case hd => decide); rintro e w' ⟨rfl, rfl⟩) | (go_at_call 31; refine (has_in s _ k ?hh2 (by omega) _ 45 ?hd2 _ hs).mono ?_; (case hh2 => rfl); (case hd2 => decide); rintro e w' ⟨rfl, rfl⟩))
      go_ret
      exact ⟨ret_int (by simp), rfl⟩
  · go_enter Try.func36, Try.ntmps36
    go_wp2_with (first | (go_at_call 31; refine (has_in s _ k ?hh (by omega) _ 43 ?hd _ hs).mono ?_; (case hh => rfl); (case hd => decide); rintro e w' ⟨rfl, rfl⟩) | (go_at_call 31; refine (has_in s _ k ?hh2 (by omega) _ 45 ?hd2 _ hs).mono ?_; (case hh2 => rfl); (case hd2 => decide); rintro e w' ⟨rfl, rfl⟩))
    go_ret
    exact ⟨ret_int (by simp), rfl⟩
end Go.Proofs.Ytcinlpiidgbnaaa
