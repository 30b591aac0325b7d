/- What the program cuts off at a place: literals with a point, and all literals. -/
import Derived.Test.YtbejgachdhfakaaGreatDoorGK
import Derived.Test.YtbejgachdhfakaaGreatDoorGA
namespace Go.Proofs.YtbejgachdhfakaaGreatDoor.Sc
open Go.RowKit

theorem flt_abs (l : List UInt8) (k f : Nat) : fltL false (l.drop k) f = if rowL digitB (l.drop (k + f)) = 0 then .error f else frcL false (l.drop k) (f + rowL digitB (l.drop (k + f))) := by
  unfold fltL; rw [List.drop_drop]
theorem frc_abs (l : List UInt8) (k e : Nat) : frcL false (l.drop k) e = if hasL l (k + e) 101 then powL false (l.drop k) (expL (l.drop k) e) else finL false (l.drop k) e := by
  unfold frcL; rw [hasL_drop]
theorem exp_abs (l : List UInt8) (k e : Nat) : k + expL (l.drop k) e = if hasL l (k + e + 1) 43 || hasL l (k + e + 1) 45 then k + e + 1 + 1 else k + e + 1 := by
  unfold expL; rw [hasL_drop, hasL_drop, ← Nat.add_assoc]; split <;> rfl
theorem pow_abs (l : List UInt8) (k p : Nat) : powL false (l.drop k) p = if rowL digitB (l.drop (k + p)) = 0 then .error p else finL false (l.drop k) (p + rowL digitB (l.drop (k + p))) := by
  unfold powL; rw [List.drop_drop]
theorem fin_abs (l : List UInt8) (k e : Nat) : finL false (l.drop k) e = if 0 < rowL letterB (l.drop (k + e)) then .error e else .ok (5, e) := by
  unfold finL; rw [List.drop_drop]
  have e1 : endB false = letterB := rfl
  rw [e1]; simp
theorem cut_err (k p : Nat) (i : Int) (hi : i = ((k + p : Nat) : Int)) : cutV k (.error p) = .tuple #[.agg #[.int .u8 0, .int .i64 0, .int .i64 0], .agg #[.int .i64 120, .int .i64 i]] := by rw [hi]; rfl
theorem cut_ok (k kd e : Nat) (d i : Int) (hd : d = (kd : Int)) (hi : i = ((k + e : Nat) : Int)) : cutV k (.ok (kd, e)) = .tuple #[.agg #[.int .u8 d, .int .i64 (k : Int), .int .i64 i], .agg #[.int .i64 0, .int .i64 0]] := by rw [hd, hi]; rfl
theorem row1_in (s : ByteArray) (p : UInt8 → Bool) (x : Nat) (hp : is1 x = p) (k : Nat) (n : Nat) (hs : s.size ≤ 65536) (hk : k ≤ s.size) (hn : k + rowL p (s.data.toList.drop k) = n) (b cap : Nat) (w : World) (i : Int) (hi : i = (k : Int)) (d : Int) (hd : d = (x : Int)) (len : Nat) (hl : len = 1) (hc : w.cell? ⟨b, 0, none⟩ = some (.int .u8 d)) :
    Calls Tryz.prog 35 #[.string s, .int .i64 i, .slice (some ⟨b, 0, none⟩) len cap] w fun e w' => e = .returned (.int .i64 (n : Int)) ∧ w' = w := by
  subst hp hn hi hd hl; exact row1_any s k x b cap w hs hk hc
theorem row2_in (s : ByteArray) (k : Nat) (n : Nat) (hs : s.size ≤ 65536) (hk : k ≤ s.size) (hn : k + rowL ldB (s.data.toList.drop k) = n) (b cap : Nat) (w : World) (i : Int) (hi : i = (k : Int)) (len : Nat) (hl : len = 2) (hc : w.cell? ⟨b, 0, none⟩ = some (.int .u8 2)) (hd : w.cell? ⟨b, 1, none⟩ = some (.int .u8 3)) :
    Calls Tryz.prog 35 #[.string s, .int .i64 i, .slice (some ⟨b, 0, none⟩) len cap] w fun e w' => e = .returned (.int .i64 (n : Int)) ∧ w' = w := by
  subst hn hi hl; rw [← is_ld]; exact row2_any s k 2 3 b cap w hs hk hc hd
theorem row_le_size (p : UInt8 → Bool) (s : ByteArray) (k : Nat) (hk : k ≤ s.size) : k + rowL p (s.data.toList.drop k) ≤ s.size := by
  have := rowL_le p (s.data.toList.drop k)
  rw [show (s.data.toList.drop k).length = s.size - k by simp] at this
  omega
theorem has_lt {s : ByteArray} {k : Nat} {c : UInt8} (h : hasL s.data.toList k c = true) : k < s.size := by
  have e : s.data.toList[k]? = some c := by simpa [hasL] using h
  obtain ⟨a, _⟩ := List.getElem?_eq_some_iff.1 e
  simpa using a

set_option maxHeartbeats 1000000 in
theorem float_any (s : ByteArray) (k f : Nat) (w : World) (i : Int) (hi : i = ((k + f : Nat) : Int)) (hs : s.size ≤ 65536) (hk : k + f ≤ s.size) :
    Calls Tryz.prog 40 #[.string s, .int .i64 (k : Int), .int .i64 i] w fun e w' => e = .returned (cutV k (fltL false (s.data.toList.drop k) f)) ∧ Below w.heap.size w w' := by
  obtain ⟨q, hq⟩ : ∃ q, q = k + f := ⟨_, rfl⟩
  rw [← hq] at hi hk
  subst hi
  have hV := flt_abs s.data.toList k f
  rw [← hq] at hV
  have hm := row_le_size digitB s q hk
  obtain ⟨m, hmd⟩ : ∃ m, rowL digitB (s.data.toList.drop q) = m := ⟨_, rfl⟩
  rw [hmd] at hV hm
  obtain ⟨e0, he0⟩ : ∃ e0, q + rowL digitB (s.data.toList.drop q) = e0 := ⟨_, rfl⟩
  have hR1 := row1_in s digitB 3 is_digit q e0 hs hk he0
  rw [hmd] at he0
  have hes : e0 ≤ s.size := by omega
  by_cases hm0 : m = 0
  · rw [if_pos hm0] at hV
    have hv : Hid (cutV k (fltL false (s.data.toList.drop k) f) = .tuple #[.agg #[.int .u8 0, .int .i64 0, .int .i64 0], .agg #[.int .i64 120, .int .i64 (q : Int)]]) := by show _ = _; rw [hV]; exact cut_err _ _ _ (by omega)
    have hee : (e0 : Int) = q := by omega
    clear hV hmd hm he0 hq hm0
    go_enter Tryz.func40, Tryz.ntmps40
    go_wp2_with (first | (go_at_call 35; refine (hR1 _ _ _ _ ?a1 3 rfl _ ?l1 ?c1).mono ?_; (case l1 => decide); (case a1 => omega); (case c1 => exact new0 (by simp) _ _ _); rintro e w' ⟨rfl, rfl⟩) | (go_at_call 36; refine (refused_any _ _).mono ?_; rintro e w1 ⟨rfl, hb⟩; obtain ⟨hc, hf⟩ := bcell hb))
    refine ret_two (((Below.refl _ _).alloc (by simp <;> omega) _).trans (hb.mono (by simp <;> omega))) ?r0 (fun Wf h => ⟨by rw [hv.out], h⟩)
    case r0 => intro Wf h0 h1 h2 h3 h4; simp [results, Tryz.results40, go_sem, h0, h1, h2, h3, h4]
  · rw [if_neg hm0, frc_abs] at hV
    have hke : k + (f + m) = e0 := by omega
    rw [hke] at hV
    have hne' : ((e0 : Int) == q) = false := by simp; omega
    clear hm0 he0 hmd hm
    cases h101 : hasL s.data.toList e0 101
    · rw [h101] at hV
      simp only [Bool.false_eq_true, if_false] at hV
      rw [fin_abs, hke] at hV
      obtain ⟨g, hg⟩ : ∃ g, e0 + rowL letterB (s.data.toList.drop e0) = g := ⟨_, rfl⟩
      have hR2 := row1_in s letterB 2 is_letter e0 g hs hes hg
      by_cases hg0 : 0 < rowL letterB (s.data.toList.drop e0)
      · rw [if_pos hg0] at hV
        have hv : Hid (cutV k (fltL false (s.data.toList.drop k) f) = .tuple #[.agg #[.int .u8 0, .int .i64 0, .int .i64 0], .agg #[.int .i64 120, .int .i64 (e0 : Int)]]) := by show _ = _; rw [hV]; exact cut_err _ _ _ (by omega)
        have hlt : (e0 : Int) < g := by omega
        clear hV hq hg hg0 hke
        go_enter Tryz.func40, Tryz.ntmps40
        go_wp2_with (first | (go_at_call 35; refine (hR1 _ _ _ _ ?a1 3 rfl _ ?l1 ?c1).mono ?_; (case l1 => decide); (case a1 => omega); (case c1 => exact new0 (by simp) _ _ _); rintro e w' ⟨rfl, rfl⟩) | (go_at_call 35; refine (hR2 _ _ _ _ ?a2 2 rfl _ ?l2 ?c2).mono ?_; (case l2 => decide); (case a2 => omega); (case c2 => exact new0 (by simp) _ _ _); rintro e w' ⟨rfl, rfl⟩) | (go_at_call 39; refine (has_in s _ e0 ?p1 (by omega) _ 101 ?q1 _ hs).mono ?_; (case p1 => omega); (case q1 => decide); rintro e w' ⟨rfl, rfl⟩) | (go_at_call 36; refine (refused_any _ _).mono ?_; rintro e w1 ⟨rfl, hb⟩; obtain ⟨hc, hf⟩ := bcell hb))
        refine ret_two ((((Below.refl _ _).alloc (by simp <;> omega) _).alloc (by simp <;> omega) _).trans (hb.mono (by simp <;> omega))) ?r0 (fun Wf h => ⟨by rw [hv.out], h⟩)
        case r0 => intro Wf h0 h1 h2 h3 h4; simp [results, Tryz.results40, go_sem, h0, h1, h2, h3, h4]
      · rw [if_neg hg0] at hV
        have hv : Hid (cutV k (fltL false (s.data.toList.drop k) f) = .tuple #[.agg #[.int .u8 5, .int .i64 (k : Int), .int .i64 (e0 : Int)], .agg #[.int .i64 0, .int .i64 0]]) := by show _ = _; rw [hV]; exact cut_ok _ _ _ _ _ rfl (by omega)
        have hlt : (g : Int) ≤ e0 := by omega
        clear hV hq hg hg0 hke
        go_enter Tryz.func40, Tryz.ntmps40
        go_wp2_with (first | (go_at_call 35; refine (hR1 _ _ _ _ ?a1 3 rfl _ ?l1 ?c1).mono ?_; (case l1 => decide); (case a1 => omega); (case c1 => exact new0 (by simp) _ _ _); rintro e w' ⟨rfl, rfl⟩) | (go_at_call 35; refine (hR2 _ _ _ _ ?a2 2 rfl _ ?l2 ?c2).mono ?_; (case l2 => decide); (case a2 => omega); (case c2 => exact new0 (by simp) _ _ _); rintro e w' ⟨rfl, rfl⟩) | (go_at_call 39; refine (has_in s _ e0 ?p1 (by omega) _ 101 ?q1 _ hs).mono ?_; (case p1 => omega); (case q1 => decide); rintro e w' ⟨rfl, rfl⟩) | (go_at_call 38; refine (taken_any _ _ _ _).mono ?_; rintro e w1 ⟨rfl, hb⟩; obtain ⟨hc, hf⟩ := bcell hb))
        refine ret_two ((((Below.refl _ _).alloc (by simp <;> omega) _).alloc (by simp <;> omega) _).trans (hb.mono (by simp <;> omega))) ?r0 (fun Wf h => ⟨by rw [hv.out], h⟩)
        case r0 => intro Wf h0 h1 h2 h3 h4; simp [results, Tryz.results40, go_sem, h0, h1, h2, h3, h4]
    · rw [h101] at hV
      simp only [if_true] at hV
      rw [pow_abs] at hV
      have hel := has_lt h101
      have hS := fun w => signed_any s ((e0 : Int) + 1) (e0 + 1) (by omega) w hs (by omega)
      have hX := exp_abs s.data.toList k (f + m)
      rw [hke] at hX
      rw [← hX] at hS
      obtain ⟨p, hp⟩ : ∃ p, k + expL (s.data.toList.drop k) (f + m) = p := ⟨_, rfl⟩
      rw [hp] at hS hV hX
      have hps : p ≤ s.size := by
        rw [hX]
        split
        · rename_i h; rw [Bool.or_eq_true] at h
          rcases h with h | h <;> (have := has_lt h; omega)
        · omega
      have hpe : e0 < p := by rw [hX]; split <;> omega
      clear hX
      have hr := row_le_size digitB s p hps
      obtain ⟨r, hrd⟩ : ∃ r, rowL digitB (s.data.toList.drop p) = r := ⟨_, rfl⟩
      obtain ⟨e1, he1⟩ : ∃ e1, p + rowL digitB (s.data.toList.drop p) = e1 := ⟨_, rfl⟩
      have hR3 := row1_in s digitB 3 is_digit p e1 hs hps he1
      rw [hrd] at hV hr he1
      have he1s : e1 ≤ s.size := by omega
      have hlq : (q : Int) < e0 := by simp at hne'; omega
      by_cases hr0 : r = 0
      · rw [if_pos hr0] at hV
        have hv : Hid (cutV k (fltL false (s.data.toList.drop k) f) = .tuple #[.agg #[.int .u8 0, .int .i64 0, .int .i64 0], .agg #[.int .i64 120, .int .i64 (p : Int)]]) := by show _ = _; rw [hV]; exact cut_err _ _ _ (by omega)
        have hlt : (e1 : Int) = p := by omega
        clear hV hq hke hr hrd hr0 he1 hp
        go_enter Tryz.func40, Tryz.ntmps40
        go_wp2_with (first | (go_at_call 35; refine (hR1 _ _ _ _ ?a1 3 rfl _ ?l1 ?c1).mono ?_; (case l1 => decide); (case a1 => omega); (case c1 => exact new0 (by simp) _ _ _); rintro e w' ⟨rfl, rfl⟩) | (go_at_call 35; refine (hR3 _ _ _ _ ?a3 3 rfl _ ?l3 ?c3).mono ?_; (case l3 => decide); (case a3 => omega); (case c3 => exact new0 (by simp) _ _ _); rintro e w' ⟨rfl, rfl⟩) | (go_at_call 39; refine (has_in s _ e0 ?p1 (by omega) _ 101 ?q1 _ hs).mono ?_; (case p1 => omega); (case q1 => decide); rintro e w' ⟨rfl, rfl⟩) | (go_at_call 89; refine (hS _).mono ?_; rintro e w' ⟨rfl, rfl⟩) | (go_at_call 36; refine (refused_any _ _).mono ?_; rintro e w1 ⟨rfl, hb⟩; obtain ⟨hc, hf⟩ := bcell hb))
        refine ret_two ((((Below.refl _ _).alloc (by simp <;> omega) _).alloc (by simp <;> omega) _).trans (hb.mono (by simp <;> omega))) ?r0 (fun Wf h => ⟨by rw [hv.out], h⟩)
        case r0 => intro Wf h0 h1 h2 h3 h4; simp [results, Tryz.results40, go_sem, h0, h1, h2, h3, h4]
      · rw [if_neg hr0, fin_abs] at hV
        have hke1 : k + (expL (s.data.toList.drop k) (f + m) + r) = e1 := by omega
        rw [hke1] at hV
        have hne1 : ((e1 : Int) == p) = false := by simp; omega
        have hlp : (p : Int) < e1 := by simp at hne1; omega
        clear hr0 he1 hrd hr
        obtain ⟨g, hg⟩ : ∃ g, e1 + rowL letterB (s.data.toList.drop e1) = g := ⟨_, rfl⟩
        have hR2 := row1_in s letterB 2 is_letter e1 g hs he1s hg
        by_cases hg0 : 0 < rowL letterB (s.data.toList.drop e1)
        · rw [if_pos hg0] at hV
          have hv : Hid (cutV k (fltL false (s.data.toList.drop k) f) = .tuple #[.agg #[.int .u8 0, .int .i64 0, .int .i64 0], .agg #[.int .i64 120, .int .i64 (e1 : Int)]]) := by show _ = _; rw [hV]; exact cut_err _ _ _ (by omega)
          have hlt : (e1 : Int) < g := by omega
          clear hV hq hg hg0 hke hke1 hp
          go_enter Tryz.func40, Tryz.ntmps40
          go_wp2_with (first | (go_at_call 35; refine (hR1 _ _ _ _ ?a1 3 rfl _ ?l1 ?c1).mono ?_; (case l1 => decide); (case a1 => omega); (case c1 => exact new0 (by simp) _ _ _); rintro e w' ⟨rfl, rfl⟩) | (go_at_call 35; refine (hR3 _ _ _ _ ?a3 3 rfl _ ?l3 ?c3).mono ?_; (case l3 => decide); (case a3 => omega); (case c3 => exact new0 (by simp) _ _ _); rintro e w' ⟨rfl, rfl⟩) | (go_at_call 35; refine (hR2 _ _ _ _ ?a2 2 rfl _ ?l2 ?c2).mono ?_; (case l2 => decide); (case a2 => omega); (case c2 => exact new0 (by simp) _ _ _); rintro e w' ⟨rfl, rfl⟩) | (go_at_call 39; refine (has_in s _ e0 ?p1 (by omega) _ 101 ?q1 _ hs).mono ?_; (case p1 => omega); (case q1 => decide); rintro e w' ⟨rfl, rfl⟩) | (go_at_call 89; refine (hS _).mono ?_; rintro e w' ⟨rfl, rfl⟩) | (go_at_call 36; refine (refused_any _ _).mono ?_; rintro e w1 ⟨rfl, hb⟩; obtain ⟨hc, hf⟩ := bcell hb))
          refine ret_two (((((Below.refl _ _).alloc (by simp <;> omega) _).alloc (by simp <;> omega) _).alloc (by simp <;> omega) _).trans (hb.mono (by simp <;> omega))) ?r0 (fun Wf h => ⟨by rw [hv.out], h⟩)
          case r0 => intro Wf h0 h1 h2 h3 h4; simp [results, Tryz.results40, go_sem, h0, h1, h2, h3, h4]
        · rw [if_neg hg0] at hV
          have hv : Hid (cutV k (fltL false (s.data.toList.drop k) f) = .tuple #[.agg #[.int .u8 5, .int .i64 (k : Int), .int .i64 (e1 : Int)], .agg #[.int .i64 0, .int .i64 0]]) := by show _ = _; rw [hV]; exact cut_ok _ _ _ _ _ rfl (by omega)
          have hlt : (g : Int) ≤ e1 := by omega
          clear hV hq hg hg0 hke hke1 hp
          go_enter Tryz.func40, Tryz.ntmps40
          go_wp2_with (first | (go_at_call 35; refine (hR1 _ _ _ _ ?a1 3 rfl _ ?l1 ?c1).mono ?_; (case l1 => decide); (case a1 => omega); (case c1 => exact new0 (by simp) _ _ _); rintro e w' ⟨rfl, rfl⟩) | (go_at_call 35; refine (hR3 _ _ _ _ ?a3 3 rfl _ ?l3 ?c3).mono ?_; (case l3 => decide); (case a3 => omega); (case c3 => exact new0 (by simp) _ _ _); rintro e w' ⟨rfl, rfl⟩) | (go_at_call 35; refine (hR2 _ _ _ _ ?a2 2 rfl _ ?l2 ?c2).mono ?_; (case l2 => decide); (case a2 => omega); (case c2 => exact new0 (by simp) _ _ _); rintro e w' ⟨rfl, rfl⟩) | (go_at_call 39; refine (has_in s _ e0 ?p1 (by omega) _ 101 ?q1 _ hs).mono ?_; (case p1 => omega); (case q1 => decide); rintro e w' ⟨rfl, rfl⟩) | (go_at_call 89; refine (hS _).mono ?_; rintro e w' ⟨rfl, rfl⟩) | (go_at_call 38; refine (taken_any _ _ _ _).mono ?_; rintro e w1 ⟨rfl, hb⟩; obtain ⟨hc, hf⟩ := bcell hb))
          refine ret_two (((((Below.refl _ _).alloc (by simp <;> omega) _).alloc (by simp <;> omega) _).alloc (by simp <;> omega) _).trans (hb.mono (by simp <;> omega))) ?r0 (fun Wf h => ⟨by rw [hv.out], h⟩)
          case r0 => intro Wf h0 h1 h2 h3 h4; simp [results, Tryz.results40, go_sem, h0, h1, h2, h3, h4]
end Go.Proofs.YtbejgachdhfakaaGreatDoor.Sc
/- What the program cuts off at a place: all literals. -/
namespace Go.Proofs.YtbejgachdhfakaaGreatDoor.Sc
open Go.RowKit

theorem lit_abs (l : List UInt8) (k : Nat) : litL false (l.drop k) = if hasL l (k + rowL digitB (l.drop k)) 46 then fltL false (l.drop k) (rowL digitB (l.drop k) + 1) else intL (l.drop k) (rowL digitB (l.drop k)) := by
  unfold litL; rw [hasL_drop]
theorem int_abs (l : List UInt8) (k n : Nat) : intL (l.drop k) n = if sufB ((l.drop (k + n)).take (rowL ldB (l.drop (k + n)))) then .ok (4, n + rowL ldB (l.drop (k + n))) else .error n := by
  unfold intL; rw [List.drop_drop]
theorem suf_true {l x : List UInt8} (h : (l == x) = true) (hx : sufB x = true) : sufB l = true := by
  have e : l = x := by simpa using h
  rw [e, hx]
theorem suf_empty {l : List UInt8} (h : l.isEmpty = true) : sufB l = true := by
  have e : l = [] := by simpa using h
  rw [e]; rfl
theorem suf_false {l : List UInt8} (h1 : (l == [105, 54, 52]) = false) (h2 : (l == [105, 51, 50]) = false) (h3 : (l == [117, 56]) = false) (h0 : l.isEmpty = false) : sufB l = false := by
  unfold sufB
  rw [List.contains_eq_mem]
  simp only [decide_eq_false_iff_not, sufL, List.mem_cons, List.not_mem_nil, or_false]
  rintro (rfl | rfl | rfl | rfl)
  · cases h0
  · simp at h1
  · simp at h2
  · simp at h3

set_option maxHeartbeats 400000 in
theorem number_any (s : ByteArray) (k : Nat) (w : World) (hs : s.size ≤ 65536) (hk : k ≤ s.size) :
    Calls Tryz.prog 17 #[.string s, .int .i64 (k : Int)] w fun e w' => e = .returned (cutV k (litL false (s.data.toList.drop k))) ∧ Below w.heap.size w w' := by
  have hV := lit_abs s.data.toList k
  have hm := row_le_size digitB s k hk
  obtain ⟨e0, he0⟩ : ∃ e0, k + rowL digitB (s.data.toList.drop k) = e0 := ⟨_, rfl⟩
  have hR1 := row1_in s digitB 3 is_digit k e0 hs hk he0
  obtain ⟨n, hn⟩ : ∃ n, rowL digitB (s.data.toList.drop k) = n := ⟨_, rfl⟩
  rw [hn] at hV hm he0
  rw [he0] at hV hm
  clear hn
  cases h46 : hasL s.data.toList e0 46
  · rw [h46] at hV
    simp only [Bool.false_eq_true, if_false] at hV
    rw [int_abs, he0] at hV
    have hg := row_le_size ldB s e0 hm
    obtain ⟨g, hgd⟩ : ∃ g, e0 + rowL ldB (s.data.toList.drop e0) = g := ⟨_, rfl⟩
    have hR2 := row2_in s e0 g hs hm hgd
    have hx : (s.extract e0 g).toList = (s.data.toList.drop e0).take (rowL ldB (s.data.toList.drop e0)) := by
      rw [Lib.toList_data, Lib.extract_data]; congr 1; omega
    rw [← hx] at hV
    have hgs : e0 ≤ g := by omega
    rw [hgd] at hg
    have hk0 : k ≤ e0 := by omega
    have hE : sufB (s.extract e0 g).toList = true → Hid (cutV k (litL false (s.data.toList.drop k)) = .tuple #[.agg #[.int .u8 4, .int .i64 (k : Int), .int .i64 (g : Int)], .agg #[.int .i64 0, .int .i64 0]]) := by
      intro h; show _ = _; rw [hV, if_pos h]; exact cut_ok _ _ _ _ _ rfl (by omega)
    have hF : sufB (s.extract e0 g).toList = false → Hid (cutV k (litL false (s.data.toList.drop k)) = .tuple #[.agg #[.int .u8 0, .int .i64 0, .int .i64 0], .agg #[.int .i64 120, .int .i64 (e0 : Int)]]) := by
      intro h; show _ = _; rw [hV, h]; simp only [Bool.false_eq_true, if_false]; exact cut_err _ _ _ (by omega)
    have HE : Hid _ := hE
    have HF : Hid _ := hF
    clear hV hE hF hx hgd he0
    go_enter Tryz.func17, Tryz.ntmps17
    go_wp2_with (first | (go_at_call 35; refine (hR1 _ _ _ _ ?a1 3 rfl _ ?l1 ?c1).mono ?_; (case l1 => decide); (case a1 => omega); (case c1 => exact new0 (by simp) _ _ _); rintro e w' ⟨rfl, rfl⟩) | (go_at_call 35; refine (hR2 _ _ _ _ ?a2 _ ?l2 ?c2 ?d2).mono ?_; (case l2 => decide); (case a2 => omega); (case c2 => exact new0 (by simp) _ _ _); (case d2 => exact new1 (by simp) _ _ _ _); rintro e w' ⟨rfl, rfl⟩) | (go_at_call 39; refine (has_in s _ e0 ?p1 (by omega) _ 46 ?q1 _ hs).mono ?_; (case p1 => omega); (case q1 => decide); rintro e w' ⟨rfl, rfl⟩) | (go_at_call 38; refine (taken_any _ _ _ _).mono ?_; rintro e w1 ⟨rfl, hb⟩; obtain ⟨hc, hf⟩ := bcell hb) | (go_at_call 36; refine (refused_any _ _).mono ?_; rintro e w1 ⟨rfl, hb⟩; obtain ⟨hc, hf⟩ := bcell hb))
    all_goals first | (exact no_bool (by assumption) (by assumption)) | skip
    all_goals first | (refine ret_two ((((Below.refl _ _).alloc (by simp <;> omega) _).alloc (by simp <;> omega) _).trans (Below.mono (by assumption) (by simp <;> omega))) ?r0 (fun Wf h => ⟨by rw [(HE.out (suf_true (by assumption) (by decide))).out], h⟩); (case r0 => intro Wf h0 h1 h2 h3 h4; simp [results, Tryz.results17, go_sem, h0, h1, h2, h3, h4])) | (refine ret_two ((((Below.refl _ _).alloc (by simp <;> omega) _).alloc (by simp <;> omega) _).trans (Below.mono (by assumption) (by simp <;> omega))) ?r1 (fun Wf h => ⟨by rw [(HE.out (suf_empty (by assumption))).out], h⟩); (case r1 => intro Wf h0 h1 h2 h3 h4; simp [results, Tryz.results17, go_sem, h0, h1, h2, h3, h4])) | (refine ret_two ((((Below.refl _ _).alloc (by simp <;> omega) _).alloc (by simp <;> omega) _).trans (Below.mono (by assumption) (by simp <;> omega))) ?r2 (fun Wf h => ⟨by rw [(HF.out (suf_false (by assumption) (by assumption) (by assumption) (by assumption))).out], h⟩); (case r2 => intro Wf h0 h1 h2 h3 h4; simp [results, Tryz.results17, go_sem, h0, h1, h2, h3, h4]))
  · rw [h46] at hV
    simp only [if_true] at hV
    have hlt := has_lt h46
    have hF := fun w => float_any s k (n + 1) w ((e0 : Int) + 1) (by omega) hs (by omega)
    rcases hr : fltL false (s.data.toList.drop k) (n + 1) with p | ⟨kd, e⟩
    · obtain ⟨i, hi⟩ : ∃ i : Int, ((k + p : Nat) : Int) = i := ⟨_, rfl⟩
      have hV' : Hid (cutV k (litL false (s.data.toList.drop k)) = .tuple #[.agg #[.int .u8 0, .int .i64 0, .int .i64 0], .agg #[.int .i64 120, .int .i64 i]]) := by show _ = _; rw [hV, hr, ← hi]; rfl
      rw [hr] at hF
      have hF' : ∀ w, Calls Tryz.prog 40 #[.string s, .int .i64 (k : Int), .int .i64 ((e0 : Int) + 1)] w fun e' w' => e' = .returned (.tuple #[.agg #[.int .u8 0, .int .i64 0, .int .i64 0], .agg #[.int .i64 120, .int .i64 i]]) ∧ Below w.heap.size w w' := by rw [← hi]; exact hF
      clear hF hr hV he0 hi
      go_enter Tryz.func17, Tryz.ntmps17
      go_wp2_with (first | (go_at_call 35; refine (hR1 _ _ _ _ ?a1 3 rfl _ ?l1 ?c1).mono ?_; (case l1 => decide); (case a1 => omega); (case c1 => exact new0 (by simp) _ _ _); rintro e w' ⟨rfl, rfl⟩) | (go_at_call 39; refine (has_in s _ e0 ?p1 (by omega) _ 46 ?q1 _ hs).mono ?_; (case p1 => omega); (case q1 => decide); rintro e w' ⟨rfl, rfl⟩) | (go_at_call 40; refine (hF' _).mono ?_; rintro e w1 ⟨rfl, hb⟩; obtain ⟨hc, hf⟩ := bcell hb))
      refine ret_two (((Below.refl _ _).alloc (by simp <;> omega) _).trans (hb.mono (by simp <;> omega))) ?r0 (fun Wf h => ⟨by rw [hV'.out], h⟩)
      case r0 => intro Wf h0 h1 h2 h3 h4; simp [results, Tryz.results17, go_sem, h0, h1, h2, h3, h4]
    · obtain ⟨i, hi⟩ : ∃ i : Int, ((k + e : Nat) : Int) = i := ⟨_, rfl⟩
      have hV' : Hid (cutV k (litL false (s.data.toList.drop k)) = .tuple #[.agg #[.int .u8 (kd : Int), .int .i64 (k : Int), .int .i64 i], .agg #[.int .i64 0, .int .i64 0]]) := by show _ = _; rw [hV, hr, ← hi]; rfl
      rw [hr] at hF
      have hF' : ∀ w, Calls Tryz.prog 40 #[.string s, .int .i64 (k : Int), .int .i64 ((e0 : Int) + 1)] w fun e' w' => e' = .returned (.tuple #[.agg #[.int .u8 (kd : Int), .int .i64 (k : Int), .int .i64 i], .agg #[.int .i64 0, .int .i64 0]]) ∧ Below w.heap.size w w' := by rw [← hi]; exact hF
      clear hF hr hV he0 hi
      go_enter Tryz.func17, Tryz.ntmps17
      go_wp2_with (first | (go_at_call 35; refine (hR1 _ _ _ _ ?a1 3 rfl _ ?l1 ?c1).mono ?_; (case l1 => decide); (case a1 => omega); (case c1 => exact new0 (by simp) _ _ _); rintro e w' ⟨rfl, rfl⟩) | (go_at_call 39; refine (has_in s _ e0 ?p1 (by omega) _ 46 ?q1 _ hs).mono ?_; (case p1 => omega); (case q1 => decide); rintro e w' ⟨rfl, rfl⟩) | (go_at_call 40; refine (hF' _).mono ?_; rintro e w1 ⟨rfl, hb⟩; obtain ⟨hc, hf⟩ := bcell hb))
      refine ret_two (((Below.refl _ _).alloc (by simp <;> omega) _).trans (hb.mono (by simp <;> omega))) ?r0 (fun Wf h => ⟨by rw [hV'.out], h⟩)
      case r0 => intro Wf h0 h1 h2 h3 h4; simp [results, Tryz.results17, go_sem, h0, h1, h2, h3, h4]
end Go.Proofs.YtbejgachdhfakaaGreatDoor.Sc
/- The program's cutters, in a row of method values: what is cut off at a place. -/
namespace Go.Proofs.YtbejgachdhfakaaGreatDoor.Sc
open Go.RowKit

theorem cut_shape (k : Nat) (r : Except Nat (Nat × Nat)) : ∃ a b c d e : Int, cutV k r = .tuple #[.agg #[.int .u8 a, .int .i64 b, .int .i64 c], .agg #[.int .i64 d, .int .i64 e]] := by
  rcases r with p | ⟨kd, e⟩
  · exact ⟨_, _, _, _, _, rfl⟩
  · exact ⟨_, _, _, _, _, rfl⟩
/-- The cutters of a source, at a block. -/
def Cutters (s : ByteArray) (b : Nat) (w : World) : Prop :=
  w.cell? ⟨b, 0, none⟩ = some (.int .u8 2) ∧ w.cell? ⟨b, 1, none⟩ = some (.func (.func 16) #[.string s] #[]) ∧ w.cell? ⟨b, 2, none⟩ = some (.int .u8 3) ∧ w.cell? ⟨b, 3, none⟩ = some (.func (.func 17) #[.string s] #[]) ∧
  w.cell? ⟨b, 4, none⟩ = some (.int .u8 4) ∧ w.cell? ⟨b, 5, none⟩ = some (.func (.func 18) #[.string s] #[]) ∧ b < w.heap.size
theorem cut_sort {c : UInt8} (t : List UInt8) : cutL false (c :: t) = if sortN c = 2 then nameL (c :: t) else if sortN c = 3 then litL false (c :: t) else if sortN c = 4 then .ok (6, signL (c :: t)) else .error 0 := by
  have h := sorts_apart c
  have hm : blankB c = true → markB c = false := by
    rw [blankB_iff]; simp only [decide_eq_true_eq]
    intro h2
    have : c = 32 ∨ c = 9 ∨ c = 10 ∨ c = 13 := by simp only [← UInt8.toNat_inj]; simp; omega
    rcases this with rfl | rfl | rfl | rfl <;> decide
  cases h1 : blankB c <;> cases h2 : letterB c <;> cases h3 : digitB c <;> cases h4 : markB c <;> simp_all [cutL, sortN]

theorem store_func (a : Addr) (fn : Fn) (f c : Array Value) (m : Mode) (w : World) : (store a (.func fn f c) m).run Tryz.prog w = stored Tryz.prog w a (.func fn f c) m := run_store Tryz.prog w a _ m rfl

theorem past3 {w : World} {b : Nat} (hb : b < w.heap.size) (o1 o2 o3 : Obj) (j : Nat) : (((w.alloc o1).alloc o2).alloc o3).cell? ⟨b, j, none⟩ = w.cell? ⟨b, j, none⟩ :=
  ((((Below.refl w.heap.size w).alloc (Nat.le_refl _) o1).alloc (by simp) o2).alloc (by simp; omega) o3).cell (p := ⟨b, j, none⟩) hb
theorem past4 {w : World} {b : Nat} (hb : b < w.heap.size) (o1 o2 o3 o4 : Obj) (j : Nat) : ((((w.alloc o1).alloc o2).alloc o3).alloc o4).cell? ⟨b, j, none⟩ = w.cell? ⟨b, j, none⟩ :=
  (((((Below.refl w.heap.size w).alloc (Nat.le_refl _) o1).alloc (by simp) o2).alloc (by simp; omega) o3).alloc (by simp; omega) o4).cell (p := ⟨b, j, none⟩) hb
theorem past5 {w : World} {b : Nat} (hb : b < w.heap.size) (o1 o2 o3 o4 o5 : Obj) (j : Nat) : (((((w.alloc o1).alloc o2).alloc o3).alloc o4).alloc o5).cell? ⟨b, j, none⟩ = w.cell? ⟨b, j, none⟩ :=
  ((((((Below.refl w.heap.size w).alloc (Nat.le_refl _) o1).alloc (by simp) o2).alloc (by simp; omega) o3).alloc (by simp; omega) o4).alloc (by simp; omega) o5).cell (p := ⟨b, j, none⟩) hb

set_option maxHeartbeats 1000000 in
theorem cutOff_any (s : ByteArray) (k b : Nat) (w : World) (hs : s.size ≤ 65536) (hk : k < s.size) (hC : Cutters s b w) :
    Calls Tryz.prog 20 #[.slice (some ⟨b, 0, none⟩) 3 3, .int .u8 (sortN s[k] : Int), .int .i64 (k : Int)] w fun e w' => e = .returned (cutV k (cutL false (s.data.toList.drop k))) ∧ Below w.heap.size w w' := by
  obtain ⟨a, b1, c, d, e, hv⟩ := cut_shape k (cutL false (s.data.toList.drop k))
  have hx := cut_sort (c := s[k]) (s.data.toList.drop (k + 1))
  rw [← drop_at hk] at hx
  rw [hv]
  obtain ⟨c0, c1, c2, c3, c4, c5, hbw⟩ := hC
  have n0 := name_any s k
  have n1 := number_any s k
  have n2 := sign_any s k
  generalize hq : sortN s[k] = q
  rw [hq] at hx
  clear hq
  by_cases h2 : q = 2
  · subst h2
    rw [if_pos rfl] at hx
    rw [← hx, hv] at n0
    clear hx hv n1 n2
    have hst := store_func
    have p3 := past3 hbw
    have p4 := past4 hbw
    have p5 := past5 hbw
    go_enter Tryz.func20, Tryz.ntmps20
    go_wp2
    refine wp_loop_rounds 1 ?_
    rw [rounds_succ]
    go_wp2_with (go_at_call 16; refine (n0 _ hs (by omega)).mono ?_; rintro e w1 ⟨rfl, hb⟩; obtain ⟨hc, hf⟩ := bcell hb)
    refine ret_two (((Below.refl _ _).alloc (by simp <;> omega) _).trans (hb.mono (by simp <;> omega))) ?r0 (fun Wf h => ⟨rfl, h⟩)
    case r0 => intro Wf h0 h1 h2 h3 h4; simp [results, Tryz.results20, go_sem, h0, h1, h2, h3, h4]
  by_cases h3 : q = 3
  · subst h3
    rw [if_neg (by omega), if_pos rfl] at hx
    rw [← hx, hv] at n1
    clear hx hv n0 n2 h2
    have hst := store_func
    have p3 := past3 hbw
    have p4 := past4 hbw
    have p5 := past5 hbw
    go_enter Tryz.func20, Tryz.ntmps20
    go_wp2
    refine wp_loop_rounds 2 ?_
    rw [rounds_succ]
    go_wp2
    rw [rounds_succ]
    go_wp2_with (go_at_call 17; refine (n1 _ hs (by omega)).mono ?_; rintro e w1 ⟨rfl, hb⟩; obtain ⟨hc, hf⟩ := bcell hb)
    refine ret_two ((((Below.refl _ _).alloc (by simp <;> omega) _).alloc (by simp <;> omega) _).trans (hb.mono (by simp <;> omega))) ?r0 (fun Wf h => ⟨rfl, h⟩)
    case r0 => intro Wf h0 h1 h2 h3 h4; simp [results, Tryz.results20, go_sem, h0, h1, h2, h3, h4]
  by_cases h4 : q = 4
  · subst h4
    rw [if_neg (by omega), if_neg (by omega), if_pos rfl] at hx
    rw [← hx, hv] at n2
    clear hx hv n0 n1 h2 h3
    have hst := store_func
    have p3 := past3 hbw
    have p4 := past4 hbw
    have p5 := past5 hbw
    go_enter Tryz.func20, Tryz.ntmps20
    go_wp2
    refine wp_loop_rounds 3 ?_
    rw [rounds_succ]
    go_wp2
    rw [rounds_succ]
    go_wp2
    rw [rounds_succ]
    go_wp2_with (go_at_call 18; refine (n2 _ hs hk).mono ?_; rintro e w1 ⟨rfl, hb⟩; obtain ⟨hc, hf⟩ := bcell hb)
    refine ret_two (((((Below.refl _ _).alloc (by simp <;> omega) _).alloc (by simp <;> omega) _).alloc (by simp <;> omega) _).trans (hb.mono (by simp <;> omega))) ?r0 (fun Wf h => ⟨rfl, h⟩)
    case r0 => intro Wf h0 h1 h2 h3 h4; simp [results, Tryz.results20, go_sem, h0, h1, h2, h3, h4]
  · rw [if_neg h2, if_neg h3, if_neg h4] at hx
    have n3 := fun w => refused_any (k : Int) w
    have hz : cutV k (.error 0) = .tuple #[.agg #[.int .u8 0, .int .i64 0, .int .i64 0], .agg #[.int .i64 120, .int .i64 (k : Int)]] := rfl
    rw [← hz, ← hx, hv] at n3
    have g2 : ((2 : Int) == (q : Int)) = false := by simp; omega
    have g3 : ((3 : Int) == (q : Int)) = false := by simp; omega
    have g4 : ((4 : Int) == (q : Int)) = false := by simp; omega
    clear hx hv n0 n1 n2 h2 h3 h4 hz
    have hst := store_func
    have p3 := past3 hbw
    have p4 := past4 hbw
    have p5 := past5 hbw
    go_enter Tryz.func20, Tryz.ntmps20
    go_wp2
    refine wp_loop_rounds 4 ?_
    rw [rounds_succ]
    go_wp2
    rw [rounds_succ]
    go_wp2
    rw [rounds_succ]
    go_wp2
    rw [rounds_succ]
    go_wp2_with (go_at_call 36; refine (n3 _).mono ?_; rintro e w1 ⟨rfl, hb⟩; obtain ⟨hc, hf⟩ := bcell hb)
    refine ret_two (((((Below.refl _ _).alloc (by simp <;> omega) _).alloc (by simp <;> omega) _).alloc (by simp <;> omega) _).trans (hb.mono (by simp <;> omega))) ?r0 (fun Wf h => ⟨rfl, h⟩)
    case r0 => intro Wf h0 h1 h2 h3 h4; simp [results, Tryz.results20, go_sem, h0, h1, h2, h3, h4]
end Go.Proofs.YtbejgachdhfakaaGreatDoor.Sc
/- The program's Scan: it tells the tokens and the fault of the plain scan; they lie in new memory. -/
namespace Go.Proofs.YtbejgachdhfakaaGreatDoor.Sc
open Go.RowKit

theorem info38 : (Tryz.prog.info? 38).map (fun i => (i.zero, i.size, i.bytes)) = some (some (.agg #[.int .u8 0, .int .i64 0, .int .i64 0]), 3, 24) := by kernel_rfl
/-- What a scan hands back, in world w' behind world w. -/
def Told (l : List UInt8) (w : World) (e : Ending) (w' : World) : Prop :=
  ∃ v, e = .returned (.tuple #[v, .agg #[.int .i64 (errOf l), .int .i64 (atOf l)]]) ∧ w'.ownsRow w.heap.size 38 3 v (toksOf l).length (tokCells (toksOf l)) ∧ Below w.heap.size w w'

theorem past2 {w : World} {b : Nat} (hb : b < w.heap.size) (o1 o2 : Obj) (j : Nat) : ((w.alloc o1).alloc o2).cell? ⟨b, j, none⟩ = w.cell? ⟨b, j, none⟩ ∧ ((w.alloc o1).alloc o2).frozen? ⟨b, j, none⟩ = w.frozen? ⟨b, j, none⟩ :=
  have h := ((Below.refl w.heap.size w).alloc (Nat.le_refl _) o1).alloc (by simp) o2
  ⟨h.cell (p := ⟨b, j, none⟩) hb, h.frozen (p := ⟨b, j, none⟩) hb⟩
theorem owns_below {w w2 : World} {base : Nat} {e : TypeId} {sz : Nat} {v : Value} {n : Nat} {xs : List Value} (h : w.ownsRow base e sz v n xs) (hb : Below w.heap.size w w2) : w2.ownsRow base e sz v n xs := by
  refine ⟨h.1, ?_⟩
  rcases h.2 with h0 | ⟨g, cap, cur, hv, h1, hh, h2⟩
  · exact .inl h0
  · refine .inr ⟨g, cap, cur, hv, h1, ?_, h2⟩
    have hlt : g < w.heap.size := by
      rcases Nat.lt_or_ge g w.heap.size with h | h
      · exact h
      · rw [Array.getElem?_eq_none h] at hh; cases hh
    rw [hb.block g hlt]; exact hh
theorem own_lt {w : World} {base : Nat} {e : TypeId} {sz : Nat} {v : Value} {n : Nat} {xs : List Value} (h : w.ownsRow base e sz v n xs) : ∀ q, v.ownBlock = some q → base ≤ q ∧ q < w.heap.size := h.lt
/-- Behind the append of one token: what the token's own variable holds; all that is old is as it was. -/
theorem grown_tok {B : Nat} {W wr w2 w3 : World} {v : Value} {n : Nat} {xs : List Value} {a b c : Value} {o1 o2 : Obj} (hown : wr.ownsRow B 38 3 v n xs) (hB : Below B W wr) (hb : Below wr.heap.size wr w2) (hBw : B ≤ wr.heap.size)
    (hg : (((w2.alloc (.cells #[a, b, c] 38)).alloc o1).alloc o2).grownBy w3 v.ownBlock) : w3.cell? ⟨w2.heap.size, 2, none⟩ = some c ∧ Below B W w3 := by
  have hz := hb.size
  have hlt := own_lt hown
  have hsz : (((w2.alloc (.cells #[a, b, c] 38)).alloc o1).alloc o2).heap.size = w2.heap.size + 3 := by simp
  have hne : some w2.heap.size ≠ v.ownBlock := by
    intro he
    have := hlt _ he.symm
    omega
  have e : (((w2.alloc (.cells #[a, b, c] 38)).alloc o1).alloc o2).heap[w2.heap.size]? = some (.cells #[a, b, c] 38) := by
    rw [Below.heap_alloc _ _ _ (by simp <;> omega), Below.heap_alloc _ _ _ (by simp)]
    exact heap_alloc_new w2 _
  have e2 := (hg.block w2.heap.size (by omega) hne).trans e
  refine ⟨by simp only [World.cell?, e2]; rfl, ?_⟩
  have h1 : Below B W w2 := hB.trans (hb.mono hBw)
  have h2 := ((h1.alloc (by omega) (.cells #[a, b, c] 38)).alloc (by simp <;> omega) o1).alloc (by simp <;> omega) o2
  exact h2.grown hg (by omega) (fun q hq => (hlt q hq).1)
theorem cells3_new {W : World} {g : Nat} (hg : g = W.heap.size) (a b c : Value) (t : TypeId) : ∀ j u, [a, b, c][j]? = some u → (W.alloc (.cells #[a, b, c] t)).cell? ((⟨g, 0, none⟩ : Addr).add j) = some u := by
  intro j u h
  subst hg
  have hh := heap_alloc_new W (.cells #[a, b, c] t)
  match j, h with
  | 0, h =>
    rw [show ((⟨W.heap.size, 0, none⟩ : Addr).add 0) = ⟨W.heap.size, 0, none⟩ from rfl]
    simp only [World.cell?, hh]; exact h
  | 1, h =>
    rw [show ((⟨W.heap.size, 0, none⟩ : Addr).add 1) = ⟨W.heap.size, 1, none⟩ from rfl]
    simp only [World.cell?, hh]; exact h
  | 2, h =>
    rw [show ((⟨W.heap.size, 0, none⟩ : Addr).add 2) = ⟨W.heap.size, 2, none⟩ from rfl]
    simp only [World.cell?, hh]; exact h
theorem owns_mono {w : World} {base base' : Nat} {e : TypeId} {sz : Nat} {v : Value} {n : Nat} {xs : List Value} (h : w.ownsRow base e sz v n xs) (hb : base' ≤ base) : w.ownsRow base' e sz v n xs := by
  refine ⟨h.1, ?_⟩
  rcases h.2 with h0 | ⟨g, cap, cur, hv, h1, h2⟩
  · exact .inl h0
  · exact .inr ⟨g, cap, cur, hv, by omega, h2⟩
/-- The world in which the loop begins: the result's cell, and the cutters. -/
def W0 (w : World) (s : ByteArray) : World := (w.alloc (.cells #[.int .i64 0, .int .i64 0] 26)).alloc (.cells #[.int .u8 2, .func (.func 16) #[.string s] #[], .int .u8 3, .func (.func 17) #[.string s] #[], .int .u8 4, .func (.func 18) #[.string s] #[]] 63)
theorem w0_size (w : World) (s : ByteArray) : (W0 w s).heap.size = w.heap.size + 2 := by simp [W0]
theorem w0_below (w : World) (s : ByteArray) : Below w.heap.size w (W0 w s) := ((Below.refl _ _).alloc (Nat.le_refl _) _).alloc (by simp) _
theorem w0_cutters {w wr : World} {s : ByteArray} (h : Below (w.heap.size + 2) (W0 w s) wr) : Cutters s (w.heap.size + 1) wr := by
  have hz := h.size
  rw [w0_size] at hz
  have e : (W0 w s).heap[w.heap.size + 1]? = some (.cells #[.int .u8 2, .func (.func 16) #[.string s] #[], .int .u8 3, .func (.func 17) #[.string s] #[], .int .u8 4, .func (.func 18) #[.string s] #[]] 63) := by
    have := heap_alloc_new (w.alloc (.cells #[.int .i64 0, .int .i64 0] 26)) (.cells #[.int .u8 2, .func (.func 16) #[.string s] #[], .int .u8 3, .func (.func 17) #[.string s] #[], .int .u8 4, .func (.func 18) #[.string s] #[]] 63)
    rw [show (w.alloc (.cells #[.int .i64 0, .int .i64 0] 26)).heap.size = w.heap.size + 1 by simp] at this
    exact this
  have e2 := (h.block (w.heap.size + 1) (by omega)).trans e
  refine ⟨?_, ?_, ?_, ?_, ?_, ?_, by omega⟩ <;> simp only [World.cell?, e2] <;> rfl
theorem w0_res {w wr w2 : World} {s : ByteArray} (h : Below (w.heap.size + 2) (W0 w s) wr) (h2 : Below wr.heap.size wr w2) :
    w2.cell? ⟨w.heap.size, 0, none⟩ = some (.int .i64 0) ∧ w2.cell? ⟨w.heap.size, 1, none⟩ = some (.int .i64 0) ∧ w2.frozen? ⟨w.heap.size, 0, none⟩ = false ∧ w2.frozen? ⟨w.heap.size, 1, none⟩ = false ∧ w.heap.size + 1 < w2.heap.size := by
  have hz := h.size
  rw [w0_size] at hz
  have hz2 := h2.size
  have e : (W0 w s).heap[w.heap.size]? = some (.cells #[.int .i64 0, .int .i64 0] 26) := by
    unfold W0
    rw [Below.heap_alloc _ _ _ (by simp)]
    exact heap_alloc_new w _
  have e2 := ((h2.block w.heap.size (by omega)).trans (h.block w.heap.size (by omega))).trans e
  refine ⟨?_, ?_, ?_, ?_, by omega⟩
  · simp only [World.cell?, e2]; rfl
  · simp only [World.cell?, e2]; rfl
  · simp only [World.frozen?, e2]; rfl
  · simp only [World.frozen?, e2]; rfl

set_option maxHeartbeats 1000000 in
set_option maxRecDepth 100000 in
theorem scan_any (s : ByteArray) (w : World) (hmax : s.size ≤ maxLen) : Calls Tryz.prog 8 #[.string s] w (Told s.data.toList w) := by
  unfold maxLen at hmax
  have hlen : s.data.toList.length = s.size := by simp
  by_cases hs : 65536 < s.size
  · have hT := of_long (l := s.data.toList) (by omega)
    have hs' : (65536 : Int) < s.size := by omega
    clear hlen hmax
    go_enter Tryz.func8, Tryz.ntmps8
    go_wp2
    refine bodyPost_ret (v := .tuple #[.slice none 0 0, .agg #[.int .i64 3, .int .i64 0]]) (by simp [results, Tryz.results8, go_sem]) rfl ⟨.slice none 0 0, ?_, ?_, ?_⟩
    · rw [hT.2.1, hT.2.2]
    · rw [hT.1]; exact World.ownsRow_nil _ _ _ _
    · exact (Below.refl _ _).alloc (Nat.le_refl _) _
  · have hs2 : s.size ≤ 65536 := by omega
    have hmf : ∀ (fn : Fn) (first cap : Array Value) (w : World), (Instr.makeFunc fn first cap).run Tryz.prog w = .ok (.func fn first cap) w := fun _ _ _ _ => rfl
    have hs' : (s.size : Int) ≤ 65536 := by omega
    have hg := gap_any s 0
    have hA : Hid (At false s.data.toList [] (skipL false s.data.toList)) := at_start _ _
    rw [List.drop_zero, Nat.zero_add] at hg
    have hk1s := skipL_le s.data.toList false
    rw [hlen] at hk1s
    obtain ⟨k1, hk1⟩ : ∃ k1, skipL false s.data.toList = k1 := ⟨_, rfl⟩
    rw [hk1] at hg hA hk1s
    have HL : Hid (s.data.toList.length = s.size) := hlen
    clear hk1 hs hmax hlen
    obtain ⟨i0, hi, hz0, hz1, hz2⟩ := info_parts info38
    go_enter Tryz.func8, Tryz.ntmps8
    go_wp2_with (go_at_call 19; refine (hg _ hs2 (by omega)).mono ?_; rintro e w1 ⟨rfl, hb⟩)
    have hB : Hid (Below (w.heap.size + 2) (W0 w s) w1) := hb.mono (by simp)
    clear hb hg
    go_loopw [6, 7] (fun v i wr => ∃ (k : Nat) (ts : List Tok), k ≤ s.size ∧ ts.length ≤ k ∧ i = .int .i64 k ∧ Hid (At false s.data.toList ts k ∧ wr.ownsRow (w.heap.size + 2) 38 3 v ts.length (tokCells ts) ∧ Below (w.heap.size + 2) (W0 w s) wr)) (fun _ i _ => s.size - (intOf i).toNat)
    case atStart => exact ⟨k1, [], hk1s, Nat.zero_le _, rfl, hA.out, World.ownsRow_nil _ _ _ _, hB.out⟩
    case round =>
      clear hA hB hk1s hmf
      obtain ⟨k, ts, hk, htk, rfl, hr⟩ := hrel
      by_cases hlt : k < s.size
      · have hlt' : (k : Int) < s.size := by omega
        have hC := w0_cutters hr.out.2.2
        have hO := cutOff_any s k (w.heap.size + 1) wr hs2 hlt hC
        clear hC
        rcases hc : cutL false (s.data.toList.drop k) with p | ⟨kd, e⟩
        · have hE : Hid (scanS true s.data.toList = .error (k + p)) := by rw [scanS_pt]; exact at_err hr.out.1 (by rw [HL.out]; exact hlt) hc
          rw [hc] at hO
          obtain ⟨i, hiv⟩ : ∃ i : Int, ((k + p : Nat) : Int) = i := ⟨_, rfl⟩
          have hO' : Calls Tryz.prog 20 #[.slice (some ⟨w.heap.size + 1, 0, none⟩) 3 3, .int .u8 (sortN s[k] : Int), .int .i64 (k : Int)] wr fun e w' => e = .returned (.tuple #[.agg #[.int .u8 0, .int .i64 0, .int .i64 0], .agg #[.int .i64 120, .int .i64 i]]) ∧ Below wr.heap.size wr w' := by rw [← hiv]; exact hO
          have hT := of_err (l := s.data.toList) (by rw [HL.out]; omega) hE.out
          rw [hiv] at hT
          have HT : Hid _ := hT
          clear hO hc hT hE hiv
          go_wp2_with (first | (go_at_call 21; refine (sort_any _ _).mono ?_; rintro e w' ⟨rfl, rfl⟩) | (go_at_call 20; refine hO'.mono ?_; rintro e w2 ⟨rfl, hb2⟩; obtain ⟨d0, d1, f0, f1, hzz⟩ := w0_res hr.out.2.2 hb2))
          have q0 := (past2 (show w.heap.size < w2.heap.size by omega) (.cells #[.int .u8 0, .int .i64 0, .int .i64 0] 38) (.cells #[.int .i64 120, .int .i64 i] 26) 0).1.trans d0
          have q1 := (past2 (show w.heap.size < w2.heap.size by omega) (.cells #[.int .u8 0, .int .i64 0, .int .i64 0] 38) (.cells #[.int .i64 120, .int .i64 i] 26) 1).1.trans d1
          have q2 := (past2 (show w.heap.size < w2.heap.size by omega) (.cells #[.int .u8 0, .int .i64 0, .int .i64 0] 38) (.cells #[.int .i64 120, .int .i64 i] 26) 0).2.trans f0
          have q3 := (past2 (show w.heap.size < w2.heap.size by omega) (.cells #[.int .u8 0, .int .i64 0, .int .i64 0] 38) (.cells #[.int .i64 120, .int .i64 i] 26) 1).2.trans f1
          go_region
          all_goals (try go_wp2)
          refine bodyPost_ret (v := .tuple #[.slice none 0 0, .agg #[.int .i64 120, .int .i64 i]]) (by simp [results, Tryz.results8, go_sem, q0, q1]) rfl ⟨.slice none 0 0, ?_, ?_, ?_⟩
          · rw [HT.out.2.1, HT.out.2.2]
          · rw [HT.out.1]; exact World.ownsRow_nil _ _ _ _
          · have b1 := (w0_below w s).trans ((hr.out.2.2.mono (by omega)).trans (hb2.mono (by have := hr.out.2.2.size; rw [w0_size] at this; omega)))
            exact (((((b1.alloc (by omega) _).alloc (by simp <;> omega) _).setCell (Nat.le_refl _) _).setCell (Nat.le_refl _) _)).drew
        · have hS := at_step hr.out.1 (by rw [HL.out]; exact hlt) hc
          rw [HL.out] at hS
          rw [hc] at hO
          have hg2 := fun w => gap_any s (k + e) w hs2 hS.2.2.1
          obtain ⟨k2, hk2⟩ : ∃ k2, k + e + skipL false (s.data.toList.drop (k + e)) = k2 := ⟨_, rfl⟩
          rw [hk2] at hS hg2
          obtain ⟨j, hj⟩ : ∃ j, k + e = j := ⟨_, rfl⟩
          rw [hj] at hS hg2
          have hO' : Calls Tryz.prog 20 #[.slice (some ⟨w.heap.size + 1, 0, none⟩) 3 3, .int .u8 (sortN s[k] : Int), .int .i64 (k : Int)] wr fun e w' => e = .returned (.tuple #[.agg #[.int .u8 (kd : Int), .int .i64 (k : Int), .int .i64 (j : Int)], .agg #[.int .i64 0, .int .i64 0]]) ∧ Below wr.heap.size wr w' := by rw [← hj]; exact hO
          have hkj : k < j := by omega
          have hjk : j ≤ k2 := by omega
          have hk2s : k2 ≤ s.size := hS.2.2.2
          have HS : Hid (At false s.data.toList (ts ++ [(kd, k, j)]) k2) := hS.1
          have hBw : Hid (w.heap.size + 2 ≤ wr.heap.size) := by have := hr.out.2.2.size; rw [w0_size] at this; exact this
          clear hO hc hS hk2 hj
          go_wp2_with (first | (go_at_call 21; refine (sort_any _ _).mono ?_; rintro e w' ⟨rfl, rfl⟩) | (go_at_call 20; refine hO'.mono ?_; rintro e w2 ⟨rfl, hb2⟩; have hown2 := owns_below hr.out.2.1 hb2) | (at_builtin; refine wpList_append_own _ rfl _ _ 23 rfl (w.heap.size + 2) 38 i0 (.agg #[.int .u8 0, .int .i64 0, .int .i64 0]) 3 24 Tryz.underlying23 hi hz0 hz1 hz2 rfl (by decide) _ _ _ rfl (((hown2.alloc _).alloc _).alloc _) ⟨w2.heap.size + 1 + 1, 0, none⟩ 1 1 [.int .u8 (kd : Int), .int .i64 (k : Int), .int .i64 (j : Int)] rfl rfl ?c1 ?c2 ?c3 ?c4 ?c5 ?_))
          case c1 => exact cells3_new (by simp) _ _ _ _
          case c2 => intro u hu; simp at hu; rcases hu with rfl | rfl | rfl <;> rfl
          case c3 => unfold maxLen; omega
          case c4 => omega
          case c5 => have := hb2.size; have := hBw.out; simp; omega
          intro v' w3 hown' hgrow _
          have hG := grown_tok hr.out.2.1 hr.out.2.2 hb2 hBw.out hgrow
          have hcj := hG.1
          have hB3 : Hid (Below (w.heap.size + 2) (W0 w s) w3) := hG.2
          have hO3 : Hid (w3.ownsRow (w.heap.size + 2) 38 3 v' (ts ++ [(kd, k, j)]).length (tokCells (ts ++ [(kd, k, j)]))) := by
            rw [tokCells_snoc, List.length_append]; exact hown'
          clear hG hown' hgrow hown2 hr hb2
          go_wp2_with (go_at_call 19; refine (hg2 _).mono ?_; rintro e w4 ⟨rfl, hb4⟩)
          go_roundw
          case rel =>
            refine ⟨k2, _, hk2s, ?_, rfl, HS.out, owns_below hO3.out hb4, hB3.out.trans (hb4.mono ?_)⟩
            · simp; omega
            · have := hB3.out.size; rw [w0_size] at this; exact this
          case measure => simp [intOf]; omega
      · have hke : k = s.size := by omega
        subst hke
        have hE : Hid (scanS true s.data.toList = .ok (ts ++ [(1, s.size, s.size)])) := by rw [scanS_pt]; exact at_end hr.out.1 (by rw [HL.out]; exact Nat.le_refl _)
        have hT := of_ok (l := s.data.toList) (by rw [HL.out]; omega) hE.out
        have HT : Hid _ := hT
        have hBw : Hid (w.heap.size + 2 ≤ wr.heap.size) := by have := hr.out.2.2.size; rw [w0_size] at this; exact this
        clear hE hT
        go_wp2_with (at_builtin; refine wpList_append_own _ rfl _ _ 23 rfl (w.heap.size + 2) 38 i0 (.agg #[.int .u8 0, .int .i64 0, .int .i64 0]) 3 24 Tryz.underlying23 hi hz0 hz1 hz2 rfl (by decide) _ _ _ rfl ((hr.out.2.1.alloc _).alloc _) ⟨wr.heap.size + 1, 0, none⟩ 1 1 [.int .u8 1, .int .i64 (s.size : Int), .int .i64 (s.size : Int)] rfl rfl ?e1 ?e2 ?e3 ?e4 ?e5 ?_)
        case e1 => exact cells3_new (by simp) _ _ _ _
        case e2 => intro u hu; simp at hu; rcases hu with rfl | rfl | rfl <;> rfl
        case e3 => unfold maxLen; omega
        case e4 => omega
        case e5 => have := hBw.out; simp; omega
        intro v' w3 hown' hgrow _
        have hB3 : Hid (Below (w.heap.size + 2) (W0 w s) w3) := ((hr.out.2.2.alloc hBw.out _).alloc (by have := hBw.out; simp; omega) _).grown hgrow (by have := hBw.out; simp; omega) (fun q hq => (own_lt hr.out.2.1 q hq).1)
        have hO3 : Hid (w3.ownsRow (w.heap.size + 2) 38 3 v' (ts ++ [(1, s.size, s.size)]).length (tokCells (ts ++ [(1, s.size, s.size)]))) := by
          rw [tokCells_snoc, List.length_append]; exact hown'
        obtain ⟨d0, d1, f0, f1, hzz⟩ := w0_res hB3.out (Below.refl _ _)
        clear hown' hgrow hr
        go_wp2
        refine bodyPost_ret (v := .tuple #[v', .agg #[.int .i64 0, .int .i64 0]]) (by simp [results, Tryz.results8, go_sem, d0, d1]) rfl ⟨v', ?_, ?_, ?_⟩
        · rw [HT.out.2.1, HT.out.2.2]
        · rw [HT.out.1]
          exact owns_mono (ownsRow_setCell_below (ownsRow_setCell_below hO3.out (by simp) _) (by simp) _) (by omega)
        · exact (((w0_below w s).trans (hB3.out.mono (by omega))).setCell (Nat.le_refl _) _).setCell (Nat.le_refl _) _
end Go.Proofs.YtbejgachdhfakaaGreatDoor.Sc
