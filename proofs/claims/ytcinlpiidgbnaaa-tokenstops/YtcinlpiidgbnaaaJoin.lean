/- Tokens with a gap behind each are the same tokens; what is refused at a byte is refused there. -/
import Derived.Test.YtcinlpiidgbnaaaCov
namespace Go.Proofs.Ytcinlpiidgbnaaa
open Go.RowKit

def joined (l gap : List UInt8) (ts : List Tok) : List UInt8 := ts.flatMap fun t => txt l t ++ gap
/-- The tokens of what was joined, from a place on; G: the gap's length. -/
def expT (G : Nat) : Nat → List Tok → List Tok
  | _, [] => []
  | p, [_] => [(1, p + G, p + G)]
  | p, t :: u :: us => (t.1, p, p + (t.2.2 - t.2.1)) :: expT G (p + (t.2.2 - t.2.1) + G) (u :: us)
theorem expT_len (G : Nat) : ∀ (ts : List Tok) (p : Nat), (expT G p ts).length = ts.length
  | [], _ => rfl
  | [_], _ => rfl
  | t :: u :: us, p => by simp only [expT, List.length_cons]; rw [expT_len G (u :: us)]; rfl
def Gap (g : List UInt8) : Prop := g = [32] ∨ g = [32, 47, 47, 43, 49, 10]
theorem gap_head {g : List UInt8} (h : Gap g) : g[0]? = some 32 := by rcases h with rfl | rfl <;> rfl
theorem gap_skip {g : List UInt8} (h : Gap g) (y : List UInt8) : skipL false (g ++ y) = g.length + skipL false y := by
  rcases h with rfl | rfl
  · show skipL false (32 :: y) = _
    rw [skip_blank y (by decide)]; simp; omega
  · show skipL false (32 :: 47 :: 47 :: 43 :: 49 :: 10 :: y) = _
    rw [skip_blank _ (by decide)]
    simp [skipL, show blankB 47 = false by decide]
    omega
theorem gap_len {g : List UInt8} (h : Gap g) : 1 ≤ g.length ∧ g.length ≤ 6 := by rcases h with rfl | rfl <;> simp
theorem join_scan {l gap : List UInt8} (hg : Gap gap) : ∀ (f k : Nat) (ts : List Tok), scanL true f k (l.drop k) = .ok ts → k ≤ l.length → ∀ (p f' : Nat), (joined l gap ts).length < f' →
    scanL true f' (p + skipL false (joined l gap ts)) ((joined l gap ts).drop (skipL false (joined l gap ts))) = .ok (expT gap.length p ts) := by
  intro f
  induction f with
  | zero => intro k ts h; cases h
  | succ f ih =>
    intro k ts h hk p f' hf'
    rcases scan_cons h hk with ⟨h1, rfl⟩ | ⟨f1, kd, e, us, hf, hlt, hc, he, hke, hks, rfl, hq⟩
    · have hj : joined l gap [(1, k, k)] = gap := by simp [joined, txt]
      rw [hj] at hf' ⊢
      have hs : skipL false gap = gap.length := by have := gap_skip hg []; simpa [skipL] using this
      rw [hs, List.drop_eq_nil_of_le (Nat.le_refl _)]
      match f', hf' with
      | f' + 1, _ => rfl
    · have hf1 : f1 = f := by omega
      subst hf1
      have hne := scanL_ne hq
      have htx : txt l (kd, k, k + e) = (l.drop k).take e := by unfold txt; simp only [Nat.add_sub_cancel_left]
      have hxl : ((l.drop k).take e).length = e := by simp; omega
      have hj : joined l gap ((kd, k, k + e) :: us) = (l.drop k).take e ++ (gap ++ joined l gap us) := by
        unfold joined; rw [List.flatMap_cons, htx, List.append_assoc]
      rw [hj] at hf' ⊢
      obtain ⟨y2, hy2⟩ : ∃ y2, joined l gap us = y2 := ⟨_, rfl⟩
      have ih2 := ih _ us hq hks (p + e + gap.length)
      rw [hy2] at ih2 hf' ⊢
      have hgl := gap_len hg
      have htk : ((l.drop k).take e ++ (gap ++ y2)).take e = (l.drop k).take e := by rw [List.take_append_of_le_length (by omega), List.take_take, Nat.min_self]
      have hat : ((l.drop k).take e ++ (gap ++ y2))[e]? = some 32 := by
        rw [List.getElem?_append_right (by omega), hxl, Nat.sub_self, List.getElem?_append_left (by omega)]; exact gap_head hg
      have hcut : cutL true ((l.drop k).take e ++ (gap ++ y2)) = .ok (kd, e) := by
        refine cut_loc hc htk.symm ?_
        intro c hc2; rw [hat] at hc2; exact (Option.some.inj hc2).symm
      have hsk : skipL false ((l.drop k).take e ++ (gap ++ y2)) = 0 := by
        refine skip_tok hcut ?_
        intro h2
        match e, hxl, hat, hc, hcut, h2 with
        | 1, _, hat, _, _, h2 =>
          have : (((l.drop k).take 1 ++ (gap ++ y2)).take 2)[1]? = some 32 := by rw [get_take (by omega)]; exact hat
          rw [h2] at this; simp at this
        | e + 2, _, _, _, hcut, h2 =>
          match hz : (l.drop k).take (e + 2) ++ (gap ++ y2), hcut, h2 with
          | [], hcut, _ => cases hcut
          | a :: t, hcut, h2 =>
            match t, h2 with
            | [], h2 => simp at h2
            | b :: u, h2 =>
              simp at h2
              obtain ⟨rfl, rfl⟩ := h2
              have := slash_one hcut rfl
              omega
      rw [hsk, Nat.add_zero, List.drop_zero]
      have hdr : ((l.drop k).take e ++ (gap ++ y2)).drop e = gap ++ y2 := by rw [List.drop_append_of_le_length (by omega), List.drop_eq_nil_of_le (by omega)]; rfl
      match f', hf' with
      | f' + 1, hf' =>
        match hz : (l.drop k).take e ++ (gap ++ y2) with
        | [] => rw [hz] at hcut; cases hcut
        | a :: t =>
          rw [hz] at hcut hdr hf'
          simp only [scanL, hcut]
          rw [← List.drop_drop, hdr, gap_skip hg, ← List.drop_drop, List.drop_left]
          have hlen : y2.length < f' := by
            have := congrArg List.length hz
            simp only [List.length_append, List.length_cons, hxl] at this
            simp only [List.length_cons] at hf'
            omega
          have := ih2 f' hlen
          rw [show p + e + (gap.length + skipL false y2) = p + e + gap.length + skipL false y2 by omega, this]
          match us, hne with
          | u :: us, _ => simp only [glue, expT, Nat.add_sub_cancel_left, List.cons_append, List.nil_append]
theorem join_all {l gap : List UInt8} {ts : List Tok} (hg : Gap gap) (h : scanS true l = .ok ts) : scanS true (joined l gap ts) = .ok (expT gap.length 0 ts) := by
  have := join_scan hg _ _ ts h (skipL_le l false) 0 ((joined l gap ts).length + 1) (by omega)
  rw [Nat.zero_add] at this
  exact this
/-- The tokens lie in the source, and the texts of the joined ones are theirs. -/
theorem toks_in {l : List UInt8} : ∀ (f k : Nat) (ts : List Tok), scanL true f k (l.drop k) = .ok ts → k ≤ l.length → ∀ t ∈ ts, t.2.1 ≤ t.2.2 ∧ t.2.2 ≤ l.length := by
  intro f
  induction f with
  | zero => intro k ts h; cases h
  | succ f ih =>
    intro k ts h hk t ht
    rcases scan_cons h hk with ⟨h1, rfl⟩ | ⟨f1, kd, e, us, hf, hlt, hc, he, hke, hks, rfl, hq⟩
    · simp at ht; subst ht; exact ⟨Nat.le_refl _, hk⟩
    · have hf1 : f1 = f := by omega
      subst hf1
      rcases List.mem_cons.1 ht with rfl | ht
      · exact ⟨by simp, hke⟩
      · exact ih _ us hq hks t ht
theorem join_len {l gap : List UInt8} : ∀ (f k : Nat) (ts : List Tok), scanL true f k (l.drop k) = .ok ts → k ≤ l.length → (joined l gap ts).length + k ≤ l.length + ts.length * gap.length := by
  intro f
  induction f with
  | zero => intro k ts h; cases h
  | succ f ih =>
    intro k ts h hk
    rcases scan_cons h hk with ⟨h1, rfl⟩ | ⟨f1, kd, e, us, hf, hlt, hc, he, hke, hks, rfl, hq⟩
    · simp [joined, txt]; omega
    · have hf1 : f1 = f := by omega
      subst hf1
      have := ih _ us hq hks
      have hj : (joined l gap ((kd, k, k + e) :: us)).length = e + gap.length + (joined l gap us).length := by
        unfold joined
        rw [List.flatMap_cons, List.length_append, List.length_append]
        have : (txt l (kd, k, k + e)).length = e := by unfold txt; simp only [Nat.add_sub_cancel_left]; simp; omega
        omega
      rw [hj, List.length_cons, Nat.add_mul, Nat.one_mul]
      omega
/-- What the joined text holds at a token's place. -/
theorem join_at {l gap : List UInt8} : ∀ (ts : List Tok), (∀ t ∈ ts, t.2.1 ≤ t.2.2 ∧ t.2.2 ≤ l.length) → ∀ (pre : List UInt8) (i : Nat) (h : i < ts.length), i + 1 < ts.length →
    ∃ a, (expT gap.length pre.length ts)[i]? = some (ts[i].1, a, a + (ts[i].2.2 - ts[i].2.1)) ∧ a + (ts[i].2.2 - ts[i].2.1) ≤ (pre ++ joined l gap ts).length ∧ ((pre ++ joined l gap ts).drop a).take (ts[i].2.2 - ts[i].2.1) = txt l ts[i]
  | [], _, _, i, h, _ => by simp at h
  | [t], _, _, i, h, h2 => by simp at h2
  | t :: u :: us, hin, pre, i, h, h2 => by
    have ht := hin t (List.mem_cons_self)
    have htl : (txt l t).length = t.2.2 - t.2.1 := by unfold txt; simp; omega
    have hj : joined l gap (t :: u :: us) = txt l t ++ (gap ++ joined l gap (u :: us)) := by unfold joined; rw [List.flatMap_cons, List.append_assoc]
    match i, h, h2 with
    | 0, _, _ =>
      refine ⟨pre.length, rfl, ?_, ?_⟩
      · rw [hj]; simp only [List.length_append, List.getElem_cons_zero]; omega
      · rw [hj, List.drop_left]
        simp only [List.getElem_cons_zero]
        rw [← htl, List.take_left]
    | i + 1, h, h2 =>
      have hi : i < (u :: us).length := by simpa using h
      have hi2 : i + 1 < (u :: us).length := by simpa using h2
      obtain ⟨a, e1, e2, e3⟩ := join_at (gap := gap) (u :: us) (fun x hx => hin x (List.mem_cons_of_mem _ hx)) (pre ++ txt l t ++ gap) i hi hi2
      have hpl : (pre ++ txt l t ++ gap).length = pre.length + (t.2.2 - t.2.1) + gap.length := by simp only [List.length_append, htl]
      have hpe : pre ++ txt l t ++ gap ++ joined l gap (u :: us) = pre ++ joined l gap (t :: u :: us) := by rw [hj]; simp only [List.append_assoc]
      rw [hpl] at e1
      rw [hpe] at e2 e3
      refine ⟨a, ?_, e2, e3⟩
      show ((t.1, pre.length, pre.length + (t.2.2 - t.2.1)) :: expT gap.length (pre.length + (t.2.2 - t.2.1) + gap.length) (u :: us))[i + 1]? = _
      rw [List.getElem?_cons_succ]; exact e1

/-! What is refused. -/
theorem scanL_err {f k p : Nat} {l : List UInt8} (h : scanL true f k l = .error p) : k ≤ p := by
  match f, l, h with
  | 0, _, h => simp only [scanL, Except.error.injEq] at h; omega
  | f + 1, [], h => cases h
  | f + 1, c :: t, h =>
    simp only [scanL] at h
    match hc : cutL true (c :: t), h with
    | .error q, h => simp only [Except.error.injEq] at h; omega
    | .ok (kd, e), h =>
      simp only at h
      match hq : scanL true f (k + e + skipL false ((c :: t).drop e)) ((c :: t).drop (e + skipL false ((c :: t).drop e))), h with
      | .ok us, h => cases h
      | .error q, h =>
        simp only [glue, Except.error.injEq] at h
        have := scanL_err hq
        omega
theorem drop_take_loc {l l' : List UInt8} {n k : Nat} (h : l.take n = l'.take n) {m : Nat} (hm : k + m ≤ n) : (l.drop k).take m = (l'.drop k).take m := by
  have a : ∀ x : List UInt8, (x.drop k).take m = ((x.take n).drop k).take m := by
    intro x; rw [List.drop_take, List.take_take, Nat.min_eq_left (by omega)]
  rw [a l, a l', h]
theorem not_slash {l : List UInt8} {f k : Nat} (hq : scanL true f k (l.drop k) = .error k) (hlt : k < l.length) (hf : l.length - k < f) : l[k]? ≠ some 47 := by
  intro h47
  obtain ⟨c2, t2, hd2⟩ := drop_cons hlt
  have hc47 : c2 = 47 := by
    have : (l.drop k)[0]? = some 47 := by rw [List.getElem?_drop]; exact h47
    rw [hd2] at this; simpa using this
  subst hc47
  have hok : ∃ x, cutL true (47 :: t2) = .ok x := by
    simp [cutL, show letterB 47 = false by decide, show digitB 47 = false by decide, show markB 47 = true by decide]
  obtain ⟨⟨kd2, e2⟩, hx⟩ := hok
  rw [hd2] at hq
  match f, hq, hf with
  | 0, _, hf => omega
  | f + 1, hq, _ =>
    simp only [scanL, hx] at hq
    match hz : scanL true f (k + e2 + skipL false ((47 :: t2).drop e2)) ((47 :: t2).drop (e2 + skipL false ((47 :: t2).drop e2))), hq with
    | .ok us, hq => cases hq
    | .error q2, hq =>
      simp only [glue, Except.error.injEq] at hq
      have h1 := scanL_err hz
      have h2 := (cutL_ok hx).1
      omega
theorem scan_stop {l l' : List UInt8} {p : Nat} (hp : p < l.length) (hB : Bare l p) (h : l.take (p + 1) = l'.take (p + 1)) : ∀ (f k : Nat), scanL true f k (l.drop k) = .error p → l.length - k < f → ∀ f', l'.length - k < f' → scanL true f' k (l'.drop k) = .error p := by
  have hl' : p < l'.length := by
    have := congrArg List.length h
    simp at this; omega
  intro f
  induction f with
  | zero => intro k _ hf; omega
  | succ f ih =>
    intro k hs hf f' hf'
    have hkp := scanL_err hs
    obtain ⟨c, t, hd⟩ := drop_cons (show k < l.length by omega)
    obtain ⟨c', t', hd'⟩ := drop_cons (show k < l'.length by omega)
    match f', hf' with
    | 0, hf' => omega
    | f' + 1, hf' =>
      rw [hd] at hs
      simp only [scanL] at hs
      match hc : cutL true (c :: t), hs with
      | .error q, hs =>
        simp only [Except.error.injEq] at hs
        rw [← hd] at hc
        have hc2 : cutL true (l'.drop k) = .error q := by
          refine cut_stop hc (drop_take_loc h (by omega)) (by rw [drop_len]; omega) ?_
          intro x hx
          rw [List.getElem?_drop] at hx
          exact hB x (by rw [← hs]; exact hx)
        rw [hd'] at hc2 ⊢
        simp only [scanL, hc2]; rw [hs]
      | .ok (kd, e), hs =>
        simp only at hs
        rw [← hd, List.drop_drop, List.drop_drop, ← Nat.add_assoc] at hs
        rw [← hd] at hc
        obtain ⟨g, hgd⟩ : ∃ g, skipL false (l.drop (k + e)) = g := ⟨_, rfl⟩
        rw [hgd] at hs
        match hq : scanL true f (k + e + g) (l.drop (k + e + g)), hs with
        | .ok us, hs => cases hs
        | .error q, hs =>
          simp only [glue, Except.error.injEq] at hs
          subst hs
          have hle := scanL_err hq
          have hb := cutL_ok hc
          have hc2 : cutL true (l'.drop k) = .ok (kd, e) := cut_same hc (drop_take_loc h (by omega))
          have hsk : skipL false (l'.drop (k + e)) = g := by
            refine skip_loc _ _ false g hgd (drop_take_loc h (by omega)) ?_ (by rw [drop_len]; omega)
            intro h47
            rw [List.getElem?_drop] at h47
            by_cases hlt : k + e + g < q
            · rw [List.getElem?_drop, List.getElem?_drop]
              exact get_loc h (by omega)
            · exfalso
              have hqe : k + e + g = q := by omega
              rw [← hqe] at hq
              exact not_slash hq (by omega) (by omega) h47
          have := ih (k + e + g) hq (by omega) f' (by omega)
          rw [hd'] at hc2 ⊢
          simp only [scanL, hc2]
          rw [← hd', List.drop_drop, List.drop_drop, ← Nat.add_assoc, hsk, this]; rfl
theorem scanS_stop {l l' : List UInt8} {p : Nat} (hs : scanS true l = .error p) (hp : p < l.length) (hB : Bare l p) (h : l.take (p + 1) = l'.take (p + 1)) : scanS true l' = .error p := by
  unfold scanS at hs ⊢
  have hle := scanL_err hs
  have hsk : skipL false l' = skipL false l := by
    refine skip_loc _ _ false _ rfl (take_of h (by omega)) ?_ (by omega)
    intro h47
    by_cases hlt : skipL false l < p
    · exact get_loc h (by omega)
    · exfalso
      have hqe : skipL false l = p := by omega
      rw [← hqe] at hs
      exact not_slash hs (by omega) (by omega) h47
  rw [hsk]
  exact scan_stop hp hB h _ _ hs (by omega) _ (by omega)
theorem has_lt' {l : List UInt8} {i : Nat} {c : UInt8} (h : hasL l i c = true) : i < l.length := by
  have e : l[i]? = some c := by simpa [hasL] using h
  exact (List.getElem?_eq_some_iff.1 e).1
theorem row_len (p : UInt8 → Bool) (l : List UInt8) (k : Nat) (h : k ≤ l.length) : k + rowL p (l.drop k) ≤ l.length := by
  have := rowL_le p (l.drop k)
  rw [drop_len] at this; omega
theorem pow_err {l : List UInt8} {p : Nat} (hp : p ≤ l.length) : posOf (powL true l p) ≤ l.length := by
  unfold powL
  split
  · exact hp
  · rw [fin_pos]; exact row_len _ _ _ hp
theorem frc_err {l : List UInt8} {e : Nat} (he : e ≤ l.length) : posOf (frcL true l e) ≤ l.length := by
  unfold frcL
  split
  · rename_i h
    have h1 := has_lt' h
    refine pow_err ?_
    unfold expL
    split
    · rename_i h2
      rw [Bool.or_eq_true] at h2
      rcases h2 with h2 | h2 <;> (have := has_lt' h2; omega)
    · omega
  · rw [fin_pos]; exact he
theorem lit_err (l : List UInt8) : posOf (litL true l) ≤ l.length := by
  unfold litL
  have h0 := rowL_le digitB l
  split
  · rename_i h
    have h1 := has_lt' h
    unfold fltL
    split
    · exact h1
    · exact frc_err (row_len _ _ _ h1)
  · unfold intL
    split
    · exact row_len _ _ _ h0
    · exact h0
theorem cut_err' {l : List UInt8} {q : Nat} (h : cutL true l = .error q) : q ≤ l.length := by
  match l, h with
  | [], h => simp only [cutL, Except.error.injEq] at h; omega
  | c :: t, h =>
    simp only [cutL] at h
    split at h
    · unfold nameL at h
      split at h
      · simp only [Except.error.injEq] at h; omega
      · cases h
    · split at h
      · have := lit_err (c :: t)
        rw [h] at this; exact this
      · split at h
        · cases h
        · simp only [Except.error.injEq] at h; omega
theorem scanL_ple {l : List UInt8} : ∀ (f k p : Nat), scanL true f k (l.drop k) = .error p → k ≤ l.length → p ≤ l.length := by
  intro f
  induction f with
  | zero => intro k p h hk; simp only [scanL, Except.error.injEq] at h; omega
  | succ f ih =>
    intro k p h hk
    by_cases hlt : k < l.length
    · obtain ⟨c, t, hd⟩ := drop_cons hlt
      rw [hd] at h
      simp only [scanL] at h
      match hc : cutL true (c :: t), h with
      | .error q, h =>
        simp only [Except.error.injEq] at h
        rw [← hd] at hc
        have := cut_err' hc
        rw [drop_len] at this; omega
      | .ok (kd, e), h =>
        simp only at h
        rw [← hd, List.drop_drop, List.drop_drop, ← Nat.add_assoc] at h
        rw [← hd] at hc
        have hb := cutL_ok hc
        rw [drop_len] at hb
        have hs := skipL_le (l.drop (k + e)) false
        rw [drop_len] at hs
        match hq : scanL true f (k + e + skipL false (l.drop (k + e))) (l.drop (k + e + skipL false (l.drop (k + e)))), h with
        | .ok us, h => cases h
        | .error q, h =>
          simp only [glue, Except.error.injEq] at h
          rw [← h]
          exact ih _ q hq (by omega)
    · rw [List.drop_eq_nil_of_le (by omega)] at h
      cases h
theorem scanS_err {l : List UInt8} {p : Nat} (hs : scanS true l = .error p) : p ≤ l.length := scanL_ple _ _ p hs (skipL_le l false)
end Go.Proofs.Ytcinlpiidgbnaaa
