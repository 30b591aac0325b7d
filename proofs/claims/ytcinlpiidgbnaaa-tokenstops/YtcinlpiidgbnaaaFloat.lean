/- What the program cuts off at a place: literals with a point, and all literals. -/
import Derived.Test.YtcinlpiidgbnaaaSign
namespace Go.Proofs.Ytcinlpiidgbnaaa
open Go.RowKit

theorem flt_abs (l : List UInt8) (k f : Nat) : fltL false (l.drop k) f = if rowL digitB (l.drop (k + f)) = 0 then .error f else frcL false (l.drop k) (f + rowL digitB (l.drop (k + f))) := by
  unfold fltL; rw [List.drop_drop]
theorem frc_abs (l : List UInt8) (k e : Nat) : frcL false (l.drop k) e = if hasL l (k + e) 101 then powL false (l.drop k) (expL (l.drop k) e) else finL false (l.drop k) e := by
  unfold frcL; rw [hasL_drop]
theorem exp_abs (l : List UInt8) (k e : Nat) : k + expL (l.drop k) e = if hasL l (k + e + 1) 43 || hasL l (k + e + 1) 45 then k + e + 1 + 1 else k + e + 1 := by
  unfold expL; rw [hasL_drop, hasL_drop, ← Nat.add_assoc]; split <;> rfl
theorem pow_abs (l : List UInt8) (k p : Nat) : powL false (l.drop k) p = if rowL digitB (l.drop (k + p)) = 0 then .error p else finL false (l.drop k) (p + rowL digitB (l.drop (k + p))) := by
  unfold powL; rw [List.drop_drop]
theorem fin_abs (l : List UInt8) (k e : Nat) : finL false (l.drop k) e = if 0 < rowL letterB (l.drop (k + e)) then .error e else .ok (5, e) := by
  unfold finL; rw [List.drop_drop]
  have e1 : endB false = letterB := rfl
  rw [e1]; simp
theorem cut_err (k p : Nat) (i : Int) (hi : i = ((k + p : Nat) : Int)) : cutV k (.error p) = .tuple #[.agg #[.int .u8 0, .int .i64 0, .int .i64 0], .agg #[.int .i64 120, .int .i64 i]] := by rw [hi]; rfl
theorem cut_ok (k kd e : Nat) (d i : Int) (hd : d = (kd : Int)) (hi : i = ((k + e : Nat) : Int)) : cutV k (.ok (kd, e)) = .tuple #[.agg #[.int .u8 d, .int .i64 (k : Int), .int .i64 i], .agg #[.int .i64 0, .int .i64 0]] := by rw [hd, hi]; rfl
theorem row1_in (s : ByteArray) (p : UInt8 → Bool) (x : Nat) (hp : is1 x = p) (k : Nat) (n : Nat) (hs : s.size ≤ 65536) (hk : k ≤ s.size) (hn : k + rowL p (s.data.toList.drop k) = n) (b cap : Nat) (w : World) (i : Int) (hi : i = (k : Int)) (d : Int) (hd : d = (x : Int)) (len : Nat) (hl : len = 1) (hc : w.cell? ⟨b, 0, none⟩ = some (.int .u8 d)) :
    Calls Try.prog 28 #[.string s, .int .i64 i, .slice (some ⟨b, 0, none⟩) len cap] w fun e w' => e = .returned (.int .i64 (n : Int)) ∧ w' = w := by
  subst hp hn hi hd hl; exact row1_any s k x b cap w hs hk hc
theorem row2_in (s : ByteArray) (k : Nat) (n : Nat) (hs : s.size ≤ 65536) (hk : k ≤ s.size) (hn : k + rowL ldB (s.data.toList.drop k) = n) (b cap : Nat) (w : World) (i : Int) (hi : i = (k : Int)) (len : Nat) (hl : len = 2) (hc : w.cell? ⟨b, 0, none⟩ = some (.int .u8 2)) (hd : w.cell? ⟨b, 1, none⟩ = some (.int .u8 3)) :
    Calls Try.prog 28 #[.string s, .int .i64 i, .slice (some ⟨b, 0, none⟩) len cap] w fun e w' => e = .returned (.int .i64 (n : Int)) ∧ w' = w := by
  subst hn hi hl; rw [← is_ld]; exact row2_any s k 2 3 b cap w hs hk hc hd
theorem row_le_size (p : UInt8 → Bool) (s : ByteArray) (k : Nat) (hk : k ≤ s.size) : k + rowL p (s.data.toList.drop k) ≤ s.size := by
  have := rowL_le p (s.data.toList.drop k)
  rw [show (s.data.toList.drop k).length = s.size - k by simp] at this
  omega
theorem has_lt {s : ByteArray} {k : Nat} {c : UInt8} (h : hasL s.data.toList k c = true) : k < s.size := by
  have e : s.data.toList[k]? = some c := by simpa [hasL] using h
  obtain ⟨a, _⟩ := List.getElem?_eq_some_iff.1 e
  simpa using a

set_option maxHeartbeats 1000000 in
theorem float_any (s : ByteArray) (k f : Nat) (w : World) (i : Int) (hi : i = ((k + f : Nat) : Int)) (hs : s.size ≤ 65536) (hk : k + f ≤ s.size) :
    Calls Try.prog 32 #[.string s, .int .i64 (k : Int), .int .i64 i] w fun e w' => e = .returned (cutV k (fltL false (s.data.toList.drop k) f)) ∧ Below w.heap.size w w' := by
  obtain ⟨q, hq⟩ : ∃ q, q = k + f := ⟨_, rfl⟩
  rw [← hq] at hi hk
  subst hi
  have hV := flt_abs s.data.toList k f
  rw [← hq] at hV
  have hm := row_le_size digitB s q hk
  obtain ⟨m, hmd⟩ : ∃ m, rowL digitB (s.data.toList.drop q) = m := ⟨_, rfl⟩
  rw [hmd] at hV hm
  obtain ⟨e0, he0⟩ : ∃ e0, q + rowL digitB (s.data.toList.drop q) = e0 := ⟨_, rfl⟩
  have hR1 := row1_in s digitB 3 is_digit q e0 hs hk he0
  rw [hmd] at he0
  have hes : e0 ≤ s.size := by omega
  by_cases hm0 : m = 0
  · rw [if_pos hm0] at hV
    have hv : Hid (cutV k (fltL false (s.data.toList.drop k) f) = .tuple #[.agg #[.int .u8 0, .int .i64 0, .int .i64 0], .agg #[.int .i64 120, .int .i64 (q : Int)]]) := by show _ = _; rw [hV]; exact cut_err _ _ _ (by omega)
    have hee : (e0 : Int) = q := by omega
    clear hV hmd hm he0 hq hm0
    go_enter Try.func32, Try.ntmps32
    go_wp2_with (first | (go_at_call 28; refine (hR1 _ _ _ _ ?a1 3 rfl _ ?l1 ?c1).mono ?_; (case l1 => decide); (case a1 => omega); (case c1 => exact new0 (by simp) _ _ _); rintro e w' ⟨rfl, rfl⟩) | (go_at_call 29; refine (refused_any _ _).mono ?_; rintro e w1 ⟨rfl, hb⟩; obtain ⟨hc, hf⟩ := bcell hb))
    refine ret_two (((Below.refl _ _).alloc (by simp <;> omega) _).trans (hb.mono (by simp <;> omega))) ?r0 (fun Wf h => ⟨by rw [hv.out], h⟩)
    case r0 => intro Wf h0 h1 h2 h3 h4; simp [results, Try.results32, go_sem, h0, h1, h2, h3, h4]
  · rw [if_neg hm0, frc_abs] at hV
    have hke : k + (f + m) = e0 := by omega
    rw [hke] at hV
    have hne' : ((e0 : Int) == q) = false := by simp; omega
    clear hm0 he0 hmd hm
    cases h101 : hasL s.data.toList e0 101
    · rw [h101] at hV
      simp only [Bool.false_eq_true, if_false] at hV
      rw [fin_abs, hke] at hV
      obtain ⟨g, hg⟩ : ∃ g, e0 + rowL letterB (s.data.toList.drop e0) = g := ⟨_, rfl⟩
      have hR2 := row1_in s letterB 2 is_letter e0 g hs hes hg
      by_cases hg0 : 0 < rowL letterB (s.data.toList.drop e0)
      · rw [if_pos hg0] at hV
        have hv : Hid (cutV k (fltL false (s.data.toList.drop k) f) = .tuple #[.agg #[.int .u8 0, .int .i64 0, .int .i64 0], .agg #[.int .i64 120, .int .i64 (e0 : Int)]]) := by show _ = _; rw [hV]; exact cut_err _ _ _ (by omega)
        have hlt : (e0 : Int) < g := by omega
        clear hV hq hg hg0 hke
        go_enter Try.func32, Try.ntmps32
        go_wp2_with (first | (go_at_call 28; refine (hR1 _ _ _ _ ?a1 3 rfl _ ?l1 ?c1).mono ?_; (case l1 => decide); (case a1 => omega); (case c1 => exact new0 (by simp) _ _ _); rintro e w' ⟨rfl, rfl⟩) | (go_at_call 28; refine (hR2 _ _ _ _ ?a2 2 rfl _ ?l2 ?c2).mono ?_; (case l2 => decide); (case a2 => omega); (case c2 => exact new0 (by simp) _ _ _); rintro e w' ⟨rfl, rfl⟩) | (go_at_call 31; refine (has_in s _ e0 ?p1 (by omega) _ 101 ?q1 _ hs).mono ?_; (case p1 => omega); (case q1 => decide); rintro e w' ⟨rfl, rfl⟩) | (go_at_call 29; refine (refused_any _ _).mono ?_; rintro e w1 ⟨rfl, hb⟩; obtain ⟨hc, hf⟩ := bcell hb))
        refine ret_two ((((Below.refl _ _).alloc (by simp <;> omega) _).alloc (by simp <;> omega) _).trans (hb.mono (by simp <;> omega))) ?r0 (fun Wf h => ⟨by rw [hv.out], h⟩)
        case r0 => intro Wf h0 h1 h2 h3 h4; simp [results, Try.results32, go_sem, h0, h1, h2, h3, h4]
      · rw [if_neg hg0] at hV
        have hv : Hid (cutV k (fltL false (s.data.toList.drop k) f) = .tuple #[.agg #[.int .u8 5, .int .i64 (k : Int), .int .i64 (e0 : Int)], .agg #[.int .i64 0, .int .i64 0]]) := by show _ = _; rw [hV]; exact cut_ok _ _ _ _ _ rfl (by omega)
        have hlt : (g : Int) ≤ e0 := by omega
        clear hV hq hg hg0 hke
        go_enter Try.func32, Try.ntmps32
        go_wp2_with (first | (go_at_call 28; refine (hR1 _ _ _ _ ?a1 3 rfl _ ?l1 ?c1).mono ?_; (case l1 => decide); (case a1 => omega); (case c1 => exact new0 (by simp) _ _ _); rintro e w' ⟨rfl, rfl⟩) | (go_at_call 28; refine (hR2 _ _ _ _ ?a2 2 rfl _ ?l2 ?c2).mono ?_; (case l2 => decide); (case a2 => omega); (case c2 => exact new0 (by simp) _ _ _); rintro e w' ⟨rfl, rfl⟩) | (go_at_call 31; refine (has_in s _ e0 ?p1 (by omega) _ 101 ?q1 _ hs).mono ?_; (case p1 => omega); (case q1 => decide); rintro e w' ⟨rfl, rfl⟩) | (go_at_call 30; refine (taken_any _ _ _ _).mono ?_; rintro e w1 ⟨rfl, hb⟩; obtain ⟨hc, hf⟩ := bcell hb))
        refine ret_two ((((Below.refl _ _).alloc (by simp <;> omega) _).alloc (by simp <;> omega) _).trans (hb.mono (by simp <;> omega))) ?r0 (fun Wf h => ⟨by rw [hv.out], h⟩)
        case r0 => intro Wf h0 h1 h2 h3 h4; simp [results, Try.results32, go_sem, h0, h1, h2, h3, h4]
    · rw [h101] at hV
      simp only [if_true] at hV
      rw [pow_abs] at hV
      have hel := has_lt h101
      have hS := fun w => signed_any s ((e0 : Int) + 1) (e0 + 1) (by omega) w hs (by omega)
      have hX := exp_abs s.data.toList k (f + m)
      rw [hke] at hX
      rw [← hX] at hS
      obtain ⟨p, hp⟩ : ∃ p, k + expL (s.data.toList.drop k) (f + m) = p := ⟨_, rfl⟩
      rw [hp] at hS hV hX
      have hps : p ≤ s.size := by
        rw [hX]
        split
        · rename_i h; rw [Bool.or_eq_true] at h
          rcases h with h | h <;> (have := has_lt h; omega)
        · omega
      have hpe : e0 < p := by rw [hX]; split <;> omega
      clear hX
      have hr := row_le_size digitB s p hps
      obtain ⟨r, hrd⟩ : ∃ r, rowL digitB (s.data.toList.drop p) = r := ⟨_, rfl⟩
      obtain ⟨e1, he1⟩ : ∃ e1, p + rowL digitB (s.data.toList.drop p) = e1 := ⟨_, rfl⟩
      have hR3 := row1_in s digitB 3 is_digit p e1 hs hps he1
      rw [hrd] at hV hr he1
      have he1s : e1 ≤ s.size := by omega
      have hlq : (q : Int) < e0 := by simp at hne'; omega
      by_cases hr0 : r = 0
      · rw [if_pos hr0] at hV
        have hv : Hid (cutV k (fltL false (s.data.toList.drop k) f) = .tuple #[.agg #[.int .u8 0, .int .i64 0, .int .i64 0], .agg #[.int .i64 120, .int .i64 (p : Int)]]) := by show _ = _; rw [hV]; exact cut_err _ _ _ (by omega)
        have hlt : (e1 : Int) = p := by omega
        clear hV hq hke hr hrd hr0 he1 hp
        go_enter Try.func32, Try.ntmps32
        go_wp2_with (first | (go_at_call 28; refine (hR1 _ _ _ _ ?a1 3 rfl _ ?l1 ?c1).mono ?_; (case l1 => decide); (case a1 => omega); (case c1 => exact new0 (by simp) _ _ _); rintro e w' ⟨rfl, rfl⟩) | (go_at_call 28; refine (hR3 _ _ _ _ ?a3 3 rfl _ ?l3 ?c3).mono ?_; (case l3 => decide); (case a3 => omega); (case c3 => exact new0 (by simp) _ _ _); rintro e w' ⟨rfl, rfl⟩) | (go_at_call 31; refine (has_in s _ e0 ?p1 (by omega) _ 101 ?q1 _ hs).mono ?_; (case p1 => omega); (case q1 => decide); rintro e w' ⟨rfl, rfl⟩) | (go_at_call 36; refine (hS _).mono ?_; rintro e w' ⟨rfl, rfl⟩) | (go_at_call 29; refine (refused_any _ _).mono ?_; rintro e w1 ⟨rfl, hb⟩; obtain ⟨hc, hf⟩ := bcell hb))
        refine ret_two ((((Below.refl _ _).alloc (by simp <;> omega) _).alloc (by simp <;> omega) _).trans (hb.mono (by simp <;> omega))) ?r0 (fun Wf h => ⟨by rw [hv.out], h⟩)
        case r0 => intro Wf h0 h1 h2 h3 h4; simp [results, Try.results32, go_sem, h0, h1, h2, h3, h4]
      · rw [if_neg hr0, fin_abs] at hV
        have hke1 : k + (expL (s.data.toList.drop k) (f + m) + r) = e1 := by omega
        rw [hke1] at hV
        have hne1 : ((e1 : Int) == p) = false := by simp; omega
        have hlp : (p : Int) < e1 := by simp at hne1; omega
        clear hr0 he1 hrd hr
        obtain ⟨g, hg⟩ : ∃ g, e1 + rowL letterB (s.data.toList.drop e1) = g := ⟨_, rfl⟩
        have hR2 := row1_in s letterB 2 is_letter e1 g hs he1s hg
        by_cases hg0 : 0 < rowL letterB (s.data.toList.drop e1)
        · rw [if_pos hg0] at hV
          have hv : Hid (cutV k (fltL false (s.data.toList.drop k) f) = .tuple #[.agg #[.int .u8 0, .int .i64 0, .int .i64 0], .agg #[.int .i64 120, .int .i64 (e1 : Int)]]) := by show _ = _; rw [hV]; exact cut_err _ _ _ (by omega)
          have hlt : (e1 : Int) < g := by omega
          clear hV hq hg hg0 hke hke1 hp
          go_enter Try.func32, Try.ntmps32
          go_wp2_with (first | (go_at_call 28; refine (hR1 _ _ _ _ ?a1 3 rfl _ ?l1 ?c1).mono ?_; (case l1 => decide); (case a1 => omega); (case c1 => exact new0 (by simp) _ _ _); rintro e w' ⟨rfl, rfl⟩) | (go_at_call 28; refine (hR3 _ _ _ _ ?a3 3 rfl _ ?l3 ?c3).mono ?_; (case l3 => decide); (case a3 => omega); (case c3 => exact new0 (by simp) _ _ _); rintro e w' ⟨rfl, rfl⟩) | (go_at_call 28; refine (hR2 _ _ _ _ ?a2 2 rfl _ ?l2 ?c2).mono ?_; (case l2 => decide); (case a2 => omega); (case c2 => exact new0 (by simp) _ _ _); rintro e w' ⟨rfl, rfl⟩) | (go_at_call 31; refine (has_in s _ e0 ?p1 (by omega) _ 101 ?q1 _ hs).mono ?_; (case p1 => omega); (case q1 => decide); rintro e w' ⟨rfl, rfl⟩) | (go_at_call 36; refine (hS _).mono ?_; rintro e w' ⟨rfl, rfl⟩) | (go_at_call 29; refine (refused_any _ _).mono ?_; rintro e w1 ⟨rfl, hb⟩; obtain ⟨hc, hf⟩ := bcell hb))
          refine ret_two (((((Below.refl _ _).alloc (by simp <;> omega) _).alloc (by simp <;> omega) _).alloc (by simp <;> omega) _).trans (hb.mono (by simp <;> omega))) ?r0 (fun Wf h => ⟨by rw [hv.out], h⟩)
          case r0 => intro Wf h0 h1 h2 h3 h4; simp [results, Try.results32, go_sem, h0, h1, h2, h3, h4]
        · rw [if_neg hg0] at hV
          have hv : Hid (cutV k (fltL false (s.data.toList.drop k) f) = .tuple #[.agg #[.int .u8 5, .int .i64 (k : Int), .int .i64 (e1 : Int)], .agg #[.int .i64 0, .int .i64 0]]) := by show _ = _; rw [hV]; exact cut_ok _ _ _ _ _ rfl (by omega)
          have hlt : (g : Int) ≤ e1 := by omega
          clear hV hq hg hg0 hke hke1 hp
          go_enter Try.func32, Try.ntmps32
          go_wp2_with (first | (go_at_call 28; refine (hR1 _ _ _ _ ?a1 3 rfl _ ?l1 ?c1).mono ?_; (case l1 => decide); (case a1 => omega); (case c1 => exact new0 (by simp) _ _ _); rintro e w' ⟨rfl, rfl⟩) | (go_at_call 28; refine (hR3 _ _ _ _ ?a3 3 rfl _ ?l3 ?c3).mono ?_; (case l3 => decide); (case a3 => omega); (case c3 => exact new0 (by simp) _ _ _); rintro e w' ⟨rfl, rfl⟩) | (go_at_call 28; refine (hR2 _ _ _ _ ?a2 2 rfl _ ?l2 ?c2).mono ?_; (case l2 => decide); (case a2 => omega); (case c2 => exact new0 (by simp) _ _ _); rintro e w' ⟨rfl, rfl⟩) | (go_at_call 31; refine (has_in s _ e0 ?p1 (by omega) _ 101 ?q1 _ hs).mono ?_; (case p1 => omega); (case q1 => decide); rintro e w' ⟨rfl, rfl⟩) | (go_at_call 36; refine (hS _).mono ?_; rintro e w' ⟨rfl, rfl⟩) | (go_at_call 30; refine (taken_any _ _ _ _).mono ?_; rintro e w1 ⟨rfl, hb⟩; obtain ⟨hc, hf⟩ := bcell hb))
          refine ret_two (((((Below.refl _ _).alloc (by simp <;> omega) _).alloc (by simp <;> omega) _).alloc (by simp <;> omega) _).trans (hb.mono (by simp <;> omega))) ?r0 (fun Wf h => ⟨by rw [hv.out], h⟩)
          case r0 => intro Wf h0 h1 h2 h3 h4; simp [results, Try.results32, go_sem, h0, h1, h2, h3, h4]
end Go.Proofs.Ytcinlpiidgbnaaa
