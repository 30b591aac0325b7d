/- What the runner keeps, as calls with words and elements: each small step. -/
import Derived.Test.YtdgpdmohfnealaaGreatDoorUHi1M
namespace Go.Proofs.YtdgpdmohfnealaaGreatDoor

/-- What the runner keeps says these calls, the last one first; F: the newest settings. -/
structure Hi (P : List Gr) (S : St) (fs : List Fr) (F : Nat → Nat → Nat) : Prop where
  lay : Lay P fs S.calls.reverse S.kept S.rows F
  nw : NwOk P S.nw F
  all : ∀ f ∈ fs, ∃ l, S.nw[f.g]? = some (some l)
/-- The same, of the last call. -/
structure Opn (P : List Gr) (S : St) (f : Fr) (fs : List Fr) (F F0 : Nat → Nat → Nat) (c : Cl) (cs : List Cl) : Prop where
  calls : S.calls = cs.reverse ++ [c]
  cg : c.g = f.g
  cb : c.b = f.b
  cx : c.nx = f.nx
  ck : c.k ≤ S.kept.length
  cr : c.r ≤ S.rows.length
  gl : f.g < P.length
  low : Lay P fs cs (S.kept.take c.k) (S.rows.take c.r) F0
  ne : ∀ g, g ≠ f.g → F g = F0 g
  seg : Seg (P.getD f.g default) (F0 f.g) (F f.g) c.k c.r (S.kept.drop c.k) (S.rows.drop c.r) f
  nw : NwOk P S.nw F
  own : ∃ l, S.nw[f.g]? = some (some l)
  all : ∀ h ∈ fs, ∃ l, S.nw[h.g]? = some (some l)
theorem Hi.opn {P : List Gr} {S : St} {f : Fr} {fs : List Fr} {F : Nat → Nat → Nat} (h : Hi P S (f :: fs) F) : ∃ F0 c cs, Opn P S f fs F F0 c cs := by
  have hl := h.lay
  have hlen := hl.len
  cases hc : S.calls.reverse with
  | nil => rw [hc] at hlen; simp at hlen
  | cons c cs =>
    rw [hc] at hl
    obtain ⟨a1, a2, a3, a4, a5, a6, F0, a7, a8, a9⟩ := hl
    refine ⟨F0, c, cs, ?_, a1, a2, a3, a4, a5, a6, a7, a8, a9, h.nw, h.all f (by simp), fun q hq => h.all q (by simp [hq])⟩
    have := congrArg List.reverse hc
    rw [List.reverse_reverse, List.reverse_cons] at this
    exact this
theorem Opn.hi {P : List Gr} {S : St} {f : Fr} {fs : List Fr} {F F0 : Nat → Nat → Nat} {c : Cl} {cs : List Cl} (h : Opn P S f fs F F0 c cs) : Hi P S (f :: fs) F := by
  refine ⟨?_, h.nw, fun q hq => by
    rcases List.mem_cons.1 hq with rfl | hq
    · exact h.own
    · exact h.all q hq⟩
  rw [h.calls, List.reverse_append, List.reverse_reverse]
  exact ⟨h.cg, h.cb, h.cx, h.ck, h.cr, h.gl, F0, h.low, h.ne, h.seg⟩
theorem Opn.top {P : List Gr} {S : St} {f : Fr} {fs : List Fr} {F F0 : Nat → Nat → Nat} {c : Cl} {cs : List Cl} (h : Opn P S f fs F F0 c cs) : S.top = c := by
  unfold St.top
  rw [h.calls]
  simp
theorem Opn.clen {P : List Gr} {S : St} {f : Fr} {fs : List Fr} {F F0 : Nat → Nat → Nat} {c : Cl} {cs : List Cl} (h : Opn P S f fs F F0 c cs) : S.calls.length = fs.length + 1 := by
  rw [h.calls, List.length_append, List.length_reverse, h.low.len]
  rfl
theorem Opn.low0 {P : List Gr} {S : St} {f : Fr} {fs : List Fr} {F F0 : Nat → Nat → Nat} {c : Cl} {cs : List Cl} (h : Opn P S f fs F F0 c cs) (g d : Nat) : F0 g d ≤ c.k := by
  have := h.low.bound g d
  rw [List.length_take] at this
  omega
theorem Opn.row {P : List Gr} {S : St} {f : Fr} {fs : List Fr} {F F0 : Nat → Nat → Nat} {c : Cl} {cs : List Cl} (h : Opn P S f fs F F0 c cs) : ∃ l, S.nw[S.top.g]? = some (some l) ∧ S.row S.top.g = l ∧ l.length = cellsOf (P.getD f.g default) ∧ ∀ d, l.getD d 0 = (F f.g d : Int) := by
  obtain ⟨l, hl⟩ := h.own
  rw [← h.cg, ← h.top] at hl
  obtain ⟨h1, h2⟩ := h.nw.here _ l hl
  rw [h.top, h.cg] at h1 h2
  exact ⟨l, hl, row_eq hl, h1, h2⟩
theorem Opn.find {P : List Gr} {S : St} {f : Fr} {fs : List Fr} {F F0 : Nat → Nat → Nat} {c : Cl} {cs : List Cl} (h : Opn P S f fs F F0 c cs) (d : Nat) : S.find d = if c.k < F f.g d then F f.g d else 0 := by
  obtain ⟨l, h1, h2, h3, h4⟩ := h.row
  unfold St.find
  rw [h2, h4, h.top, Int.toNat_natCast]
  by_cases e : c.k < F f.g d
  · rw [if_pos (by omega), if_pos e]
  · rw [if_neg (by omega), if_neg e]
/-- A cell's setting by the last call: there, or not. -/
theorem Opn.cases {P : List Gr} {S : St} {f : Fr} {fs : List Fr} {F F0 : Nat → Nat → Nat} {c : Cl} {cs : List Cl} (h : Opn P S f fs F F0 c cs) (d : Nat) :
    (∃ (i : Nat) (a : Sg), (S.kept.drop c.k)[i]? = some a ∧ a.cell = d ∧ S.find d = c.k + i + 1 ∧ S.kept[c.k + i]? = some a) ∨ ((∀ (i : Nat) (a : Sg), (S.kept.drop c.k)[i]? = some a → a.cell ≠ d) ∧ S.find d = 0) := by
  rcases h.seg.find (h.low0 f.g) d with ⟨i, a, hi, hc, hF⟩ | ⟨hn, _, hF⟩
  · refine .inl ⟨i, a, hi, hc, ?_, ?_⟩
    · rw [h.find, if_pos (by omega), hF]
    · rw [← List.getElem?_drop]; exact hi
  · exact .inr ⟨hn, by rw [h.find, if_neg (by omega)]⟩
theorem Opn.get {P : List Gr} {S : St} {f : Fr} {fs : List Fr} {F F0 : Nat → Nat → Nat} {c : Cl} {cs : List Cl} (h : Opn P S f fs F F0 c cs) {v : Nat} (hv : v < (P.getD f.g default).vars.length) : S.get v = f.ev v := by
  unfold St.get
  rcases h.cases v with ⟨i, a, hi, hc, hf, hk⟩ | ⟨hn, hf⟩
  · subst hc
    rw [hf, if_neg (by omega), Nat.add_sub_cancel, h.seg.ev1 i a hi hv]
    simp [List.getD, hk]
  · rw [if_pos hf, h.seg.ev0 v hv hn]
theorem getD_at {α : Type} {l : List α} {i : Nat} {a d : α} (h : l[i]? = some a) : l.getD i d = a := by rw [List.getD, h]; rfl
theorem drop_set_eq {α : Type} (l : List α) (k i : Nat) (a : α) : (l.set (k + i) a).drop k = (l.drop k).set i a := by
  rw [List.drop_set]
  rw [if_neg (by omega), Nat.add_sub_cancel_left]
theorem take_set_eq {α : Type} (l : List α) (k i : Nat) (a : α) : (l.set (k + i) a).take k = l.take k := by
  rw [List.take_set, List.set_eq_of_length_le (by rw [List.length_take]; omega)]
theorem NwOk.put {P : List Gr} {nw : List (Option (List Int))} {F : Nat → Nat → Nat} (h : NwOk P nw F) {g : Nat} {l : List Int} (hg : nw[g]? = some (some l)) {d : Nat} (hd : d < l.length) (n : Nat) :
    NwOk P (nw.set g (some (l.set d (n : Int)))) (fun g' => if g' = g then (fun d' => if d' = d then n else F g d') else F g') := by
  have hgl := (List.getElem?_eq_some_iff.1 hg).1
  refine ⟨by rw [List.length_set]; exact h.len, fun g' l' hl' => ?_, fun g' hg' => ?_⟩
  · rw [List.getElem?_set] at hl'
    by_cases e : g = g'
    · rw [if_pos e, if_pos hgl] at hl'
      cases hl'
      subst e
      obtain ⟨h1, h2⟩ := h.here g l hg
      refine ⟨by rw [List.length_set]; exact h1, fun c => ?_⟩
      rw [if_pos rfl]
      by_cases e2 : c = d
      · subst e2
        rw [if_pos rfl]
        simp [List.getD, hd]
      · rw [if_neg e2, ← h2]
        simp [List.getD, Ne.symm e2]
    · rw [if_neg e] at hl'
      obtain ⟨h1, h2⟩ := h.here g' l' hl'
      refine ⟨h1, fun c => ?_⟩
      rw [if_neg (Ne.symm e)]
      exact h2 c
  · rw [List.getElem?_set] at hg'
    by_cases e : g = g'
    · rw [if_pos e, if_pos hgl] at hg'
      cases hg'
    · rw [if_neg e] at hg'
      intro c
      rw [if_neg (Ne.symm e)]
      exact h.nil g' hg' c
theorem all_set {nw : List (Option (List Int))} {g g' : Nat} {l l' : List Int} (hg : nw[g]? = some (some l)) (hg' : ∃ q, nw[g']? = some (some q)) : ∃ q, (nw.set g (some l'))[g']? = some (some q) := by
  have hgl := (List.getElem?_eq_some_iff.1 hg).1
  rw [List.getElem?_set]
  by_cases e : g = g'
  · rw [if_pos e, if_pos hgl]; exact ⟨_, rfl⟩
  · rw [if_neg e]; exact hg'
/-- A variable is set. -/
theorem Opn.set {P : List Gr} {S : St} {f : Fr} {fs : List Fr} {F F0 : Nat → Nat → Nat} {c : Cl} {cs : List Cl} (h : Opn P S f fs F F0 c cs) {v : Nat} (hv : v < (P.getD f.g default).vars.length) (x : Int) :
    ∃ F', Opn P (S.set v x) { f with ev := updE f.ev v x } fs F' F0 c cs := by
  rcases h.cases v with ⟨i, a, hi, hc, hf, hk⟩ | ⟨hn, hf⟩
  · have e : S.set v x = { S with kept := S.kept.set (c.k + i) { a with word := x } } := by
      unfold St.set
      rw [if_neg (by omega), hf, Nat.add_sub_cancel]
      simp [List.getD, hk]
    rw [e]
    refine ⟨F, h.calls, h.cg, h.cb, h.cx, by simp [h.ck], h.cr, h.gl, ?_, h.ne, ?_, h.nw, h.own, h.all⟩
    · show Lay P fs cs ((S.kept.set (c.k + i) _).take c.k) _ F0
      rw [take_set_eq]; exact h.low
    · show Seg _ _ _ c.k c.r ((S.kept.set (c.k + i) _).drop c.k) _ _
      rw [drop_set_eq]
      subst hc
      exact h.seg.word hi hv x
  · obtain ⟨l, h1, h2, h3, h4⟩ := h.row
    have hkl : c.k + (S.kept.drop c.k).length = S.kept.length := by have := h.ck; rw [List.length_drop]; omega
    have e : S.set v x = { S with kept := S.kept ++ [⟨v, F f.g v, x⟩], nw := S.nw.set f.g (some (l.set v ((S.kept.length + 1 : Nat) : Int))) } := by
      unfold St.set
      rw [if_pos hf, h2, h4, Int.toNat_natCast, h.top, h.cg]
      rfl
    rw [h.top, h.cg] at h1
    rw [e]
    refine ⟨fun g' => if g' = f.g then (fun d' => if d' = v then S.kept.length + 1 else F f.g d') else F g', h.calls, h.cg, h.cb, h.cx, by have := h.ck; simp; omega, h.cr, h.gl, ?_, fun g hg => ?_, ?_, ?_, all_set h1 h.own, fun q hq => all_set h1 (h.all q hq)⟩
    · show Lay P fs cs ((S.kept ++ _).take c.k) _ F0
      rw [List.take_append_of_le_length h.ck]; exact h.low
    · rw [if_neg hg]; exact h.ne g hg
    · show Seg _ _ _ c.k c.r ((S.kept ++ [_]).drop c.k) _ _
      rw [List.drop_append_of_le_length h.ck]
      have := h.seg.more hv hn x
      rw [hkl] at this
      simp only [if_true]
      exact this
    · exact h.nw.put h1 (d := v) (by rw [h3]; unfold cellsOf; omega) (S.kept.length + 1)
/-- Sizes of arrays, as a program has them that is right. -/
def sized (G : Gr) : Prop := ∀ q, q < G.arrs.length → 0 < (G.arrs.getD q default).2 ∧ (G.arrs.getD q default).2 ≤ 256
theorem szOf_eq {G : Gr} (hs : sized G) {q : Nat} (hq : q < G.arrs.length) : (G.arrs.getD q default).2 = (szOf G q : Int) := by
  have := hs q hq
  unfold szOf
  omega
/-- An element of a call. -/
def Fr.elem (G : Gr) (f : Fr) (q : Nat) (i : Int) : Int := if i < (G.arrs.getD q default).2 then f.ar q i.toNat else 0
def Fr.put (G : Gr) (f : Fr) (q : Nat) (i x : Int) : Fr := if (G.arrs.getD q default).2 ≤ i then f else { f with ar := fun u j => if u = q then (if j = i.toNat then x else f.ar q j) else f.ar u j }
def Fr.wipe (f : Fr) (q : Nat) : Fr := { f with ar := fun u j => if u = q then 0 else f.ar u j }
theorem Opn.arr {P : List Gr} {S : St} {f : Fr} {fs : List Fr} {F F0 : Nat → Nat → Nat} {c : Cl} {cs : List Cl} (h : Opn P S f fs F F0 c cs) {q i : Nat} {a : Sg} (hi : (S.kept.drop c.k)[i]? = some a) (hc : a.cell = (P.getD f.g default).vars.length + q) :
    ∃ p : Nat, a.word = ((c.r + p : Nat) : Int) ∧ c.r + p + szOf (P.getD f.g default) q ≤ S.rows.length ∧ ∀ j, j < szOf (P.getD f.g default) q → f.ar q j = S.rows.getD (c.r + p + j) 0 := by
  obtain ⟨p, e1, e2, e3⟩ := h.seg.ar1 i a hi q hc
  have := h.cr
  rw [List.length_drop] at e2
  refine ⟨p, e1, by omega, fun j hj => ?_⟩
  rw [e3 j hj]
  simp only [List.getD]
  rw [List.getElem?_drop, Nat.add_assoc]
theorem Opn.elem {P : List Gr} {S : St} {f : Fr} {fs : List Fr} {F F0 : Nat → Nat → Nat} {c : Cl} {cs : List Cl} (h : Opn P S f fs F F0 c cs) (hs : sized (P.getD f.g default)) {q : Nat} (hq : q < (P.getD f.g default).arrs.length) {i : Int} (hi0 : 0 ≤ i) : S.elem (P.getD f.g default) q i = f.elem (P.getD f.g default) q i := by
  have hz := szOf_eq hs hq
  unfold St.elem Fr.elem
  rcases h.cases ((P.getD f.g default).vars.length + q) with ⟨j, a, hj, hc, hf, hk⟩ | ⟨hn, hf⟩
  · obtain ⟨p, e1, e2, e3⟩ := h.arr hj hc
    rw [hf, if_neg (by omega), Nat.add_sub_cancel]
    by_cases e : i < ((P.getD f.g default).arrs.getD q default).2
    · rw [if_pos e, if_pos e, e3 _ (by omega), getD_at hk, e1, Int.toNat_natCast]
    · rw [if_neg e, if_neg e]
  · rw [if_pos hf]
    split
    · exact (h.seg.ar0 q hn _).symm
    · rfl
theorem Opn.lies {P : List Gr} {S : St} {f : Fr} {fs : List Fr} {F F0 : Nat → Nat → Nat} {c : Cl} {cs : List Cl} (h : Opn P S f fs F F0 c cs) (q : Nat) :
    ∀ i, S.find ((P.getD f.g default).vars.length + q) = i + 1 → ∃ f1 : Nat, (S.kept.getD i default).word = (f1 : Int) ∧ f1 + szOf (P.getD f.g default) q ≤ S.rows.length := by
  intro i hi
  rcases h.cases ((P.getD f.g default).vars.length + q) with ⟨j, a, hj, hc, hf, hk⟩ | ⟨hn, hf⟩
  · obtain ⟨p, e1, e2, e3⟩ := h.arr hj hc
    have : i = c.k + j := by omega
    subst this
    exact ⟨c.r + p, by rw [getD_at hk, e1], e2⟩
  · omega
theorem getD_set_self {l : List Int} {i : Nat} (x : Int) (h : i < l.length) : (l.set i x).getD i 0 = x := by simp [List.getD, h]
theorem getI_set_ne {l : List Int} {i j : Nat} (x : Int) (h : i ≠ j) : (l.set i x).getD j 0 = l.getD j 0 := by simp [List.getD, h]
/-- An element is put where the array has room. -/
theorem Opn.poke {P : List Gr} {S : St} {f : Fr} {fs : List Fr} {F F0 : Nat → Nat → Nat} {c : Cl} {cs : List Cl} (h : Opn P S f fs F F0 c cs) (hs : sized (P.getD f.g default)) {q : Nat} (hq : q < (P.getD f.g default).arrs.length) {i : Int} (hi0 : 0 ≤ i) (hi : i < ((P.getD f.g default).arrs.getD q default).2) (x : Int) (hf0 : S.find ((P.getD f.g default).vars.length + q) ≠ 0) :
    Opn P (S.poke (P.getD f.g default) q i x) { f with ar := fun u j => if u = q then (if j = i.toNat then x else f.ar q j) else f.ar u j } fs F F0 c cs := by
  have hz := szOf_eq hs hq
  rcases h.cases ((P.getD f.g default).vars.length + q) with ⟨j, a, hj, hc, hf, hk⟩ | ⟨hn, hf⟩
  · obtain ⟨p, e1, e2, e3⟩ := h.arr hj hc
    have e : S.poke (P.getD f.g default) q i x = { S with rows := S.rows.set (c.r + (p + i.toNat)) x } := by
      unfold St.poke
      rw [hf, Nat.add_sub_cancel, getD_at hk, e1, Int.toNat_natCast, Nat.add_assoc]
    rw [e]
    refine ⟨h.calls, h.cg, h.cb, h.cx, h.ck, by simp [h.cr], h.gl, ?_, h.ne, ?_, h.nw, h.own, h.all⟩
    · show Lay P fs cs _ ((S.rows.set (c.r + _) x).take c.r) F0
      rw [take_set_eq]; exact h.low
    · show Seg _ _ _ c.k c.r _ ((S.rows.set (c.r + _) x).drop c.r) _
      rw [drop_set_eq]
      have hdl : (S.rows.drop c.r).length = S.rows.length - c.r := List.length_drop
      refine h.seg.poke hj hc e1 (by simp) (e := fun j => if j = i.toNat then x else f.ar q j) (fun k hk2 => ?_) (fun k hk2 => ?_)
      · by_cases e4 : k = i.toNat
        · subst e4
          rw [if_pos rfl, getD_set_self _ (by omega)]
        · rw [if_neg e4, getI_set_ne _ (by omega), e3 k hk2]
          simp only [List.getD]
          rw [List.getElem?_drop, Nat.add_assoc]
      · rw [getI_set_ne _ (by omega)]
  · exact (hf0 hf).elim
theorem Opn.room {P : List Gr} {S : St} {f : Fr} {fs : List Fr} {F F0 : Nat → Nat → Nat} {c : Cl} {cs : List Cl} (h : Opn P S f fs F F0 c cs) (hs : sized (P.getD f.g default)) {q : Nat} (hq : q < (P.getD f.g default).arrs.length) :
    ∃ F', Opn P (S.room (P.getD f.g default) q) f fs F' F0 c cs ∧ (S.room (P.getD f.g default) q).find ((P.getD f.g default).vars.length + q) ≠ 0 := by
  obtain ⟨d, hd⟩ : ∃ d, d = (P.getD f.g default).vars.length + q := ⟨_, rfl⟩
  have hdc : d < cellsOf (P.getD f.g default) := by rw [hd]; unfold cellsOf; omega
  unfold St.room
  rw [← hd]
  by_cases h0 : S.find d = 0
  · rw [if_pos h0]
    rcases h.cases d with ⟨i, a, hi, hc, hf, hk⟩ | ⟨hn, hf⟩
    · omega
    · obtain ⟨l, h1, h2, h3, h4⟩ := h.row
      have hkl : c.k + (S.kept.drop c.k).length = S.kept.length := by have := h.ck; rw [List.length_drop]; omega
      have hrl : c.r + (S.rows.drop c.r).length = S.rows.length := by have := h.cr; rw [List.length_drop]; omega
      have e : ({ S.set d (S.rows.length : Int) with rows := S.rows ++ List.replicate ((P.getD f.g default).arrs.getD q default).2.toNat 0 } : St) = { S with kept := S.kept ++ [⟨d, F f.g d, (S.rows.length : Int)⟩], nw := S.nw.set f.g (some (l.set d ((S.kept.length + 1 : Nat) : Int))), rows := S.rows ++ List.replicate (szOf (P.getD f.g default) q) 0 } := by
        unfold St.set
        rw [if_pos hf, h2, h4, Int.toNat_natCast, h.top, h.cg]
        rfl
      rw [h.top, h.cg] at h1
      rw [e]
      have O : Opn P ({ S with kept := S.kept ++ [⟨d, F f.g d, (S.rows.length : Int)⟩], nw := S.nw.set f.g (some (l.set d ((S.kept.length + 1 : Nat) : Int))), rows := S.rows ++ List.replicate (szOf (P.getD f.g default) q) 0 } : St) f fs (fun g' => if g' = f.g then (fun d' => if d' = d then S.kept.length + 1 else F f.g d') else F g') F0 c cs := by
        refine ⟨h.calls, h.cg, h.cb, h.cx, by have := h.ck; simp; omega, by have := h.cr; simp; omega, h.gl, ?_, fun g hg => ?_, ?_, ?_, all_set h1 h.own, fun q hq => all_set h1 (h.all q hq)⟩
        · show Lay P fs cs ((S.kept ++ _).take c.k) ((S.rows ++ _).take c.r) F0
          rw [List.take_append_of_le_length h.ck, List.take_append_of_le_length h.cr]; exact h.low
        · rw [if_neg hg]; exact h.ne g hg
        · show Seg _ _ _ c.k c.r ((S.kept ++ [_]).drop c.k) ((S.rows ++ _).drop c.r) _
          rw [List.drop_append_of_le_length h.ck, List.drop_append_of_le_length h.cr]
          have := h.seg.room (u := q) (by rw [← hd]; exact hdc) (by have := hs q hq; unfold szOf; omega) (by rw [← hd]; exact hn)
          rw [hkl, hrl, ← hd] at this
          simp only [if_true]
          exact this
        · exact h.nw.put h1 (d := d) (by rw [h3]; exact hdc) (S.kept.length + 1)
      refine ⟨_, O, ?_⟩
      rw [O.find, if_pos rfl, if_pos rfl, if_pos (by have := h.ck; omega)]
      omega
  · rw [if_neg h0]
    exact ⟨F, h, h0⟩
theorem Opn.put {P : List Gr} {S : St} {f : Fr} {fs : List Fr} {F F0 : Nat → Nat → Nat} {c : Cl} {cs : List Cl} (h : Opn P S f fs F F0 c cs) (hs : sized (P.getD f.g default)) {q : Nat} (hq : q < (P.getD f.g default).arrs.length) {i : Int} (hi0 : 0 ≤ i) (x : Int) :
    ∃ F', Opn P (S.put (P.getD f.g default) q i x) (f.put (P.getD f.g default) q i x) fs F' F0 c cs := by
  unfold St.put Fr.put
  by_cases e : ((P.getD f.g default).arrs.getD q default).2 ≤ i
  · rw [if_pos e, if_pos e]; exact ⟨F, h⟩
  · rw [if_neg e, if_neg e]
    obtain ⟨F', O, hf⟩ := h.room hs hq
    exact ⟨F', O.poke hs hq hi0 (by omega) x hf⟩
theorem zeroes_at : ∀ (n : Nat) (l : List Int) (f j : Nat), f + n ≤ l.length → (zeroes l f n).getD j 0 = if f ≤ j ∧ j < f + n then 0 else l.getD j 0
  | 0, l, f, j, _ => by rw [zeroes, if_neg (by omega)]
  | n + 1, l, f, j, h => by
    rw [zeroes, zeroes_at n (l.set f 0) (f + 1) j (by simp; omega)]
    by_cases e : f = j
    · subst e
      rw [if_neg (by omega), if_pos (by omega), getD_set_self _ (by omega)]
    · rw [getI_set_ne _ e]
      by_cases e2 : f ≤ j ∧ j < f + (n + 1)
      · rw [if_pos e2, if_pos (by omega)]
      · rw [if_neg e2, if_neg (by omega)]
theorem zeroes_drop : ∀ (n : Nat) (l : List Int) (k f : Nat), (zeroes l (k + f) n).drop k = zeroes (l.drop k) f n
  | 0, _, _, _ => rfl
  | n + 1, l, k, f => by
    rw [zeroes, zeroes, Nat.add_assoc, zeroes_drop n _ k (f + 1), drop_set_eq]
theorem zeroes_take : ∀ (n : Nat) (l : List Int) (k f : Nat), (zeroes l (k + f) n).take k = l.take k
  | 0, _, _, _ => rfl
  | n + 1, l, k, f => by
    rw [zeroes, Nat.add_assoc, zeroes_take n _ k (f + 1), take_set_eq]
theorem Opn.wipe {P : List Gr} {S : St} {f : Fr} {fs : List Fr} {F F0 : Nat → Nat → Nat} {c : Cl} {cs : List Cl} (h : Opn P S f fs F F0 c cs) {q : Nat} :
    Opn P (S.wipe (P.getD f.g default) q) (f.wipe q) fs F F0 c cs := by
  unfold St.wipe
  rcases h.cases ((P.getD f.g default).vars.length + q) with ⟨j, a, hj, hc, hf, hk⟩ | ⟨hn, hf⟩
  · obtain ⟨p, e1, e2, e3⟩ := h.arr hj hc
    rw [hf, if_neg (by omega), Nat.add_sub_cancel]
    have e4 : (S.kept.getD (c.k + j) default).word.toNat = c.r + p := by rw [getD_at hk, e1, Int.toNat_natCast]
    rw [e4]
    refine ⟨h.calls, h.cg, h.cb, h.cx, h.ck, by show _ ≤ (zeroes _ _ _).length; rw [zeroes_len]; exact h.cr, h.gl, ?_, h.ne, ?_, h.nw, h.own, h.all⟩
    · show Lay P fs cs _ ((zeroes S.rows (c.r + p) _).take c.r) F0
      rw [zeroes_take]; exact h.low
    · show Seg _ _ _ c.k c.r _ ((zeroes S.rows (c.r + p) _).drop c.r) _
      rw [zeroes_drop]
      have hdl : (S.rows.drop c.r).length = S.rows.length - c.r := List.length_drop
      have hin : p + ((P.getD f.g default).arrs.getD q default).2.toNat ≤ (S.rows.drop c.r).length := by unfold szOf at e2; omega
      have := h.seg.poke (rs' := zeroes (S.rows.drop c.r) p ((P.getD f.g default).arrs.getD q default).2.toNat) hj hc e1 (zeroes_len _ _ _) (e := fun _ => 0) (fun k hk2 => by
        rw [zeroes_at _ _ _ _ hin]
        unfold szOf at hk2
        rw [if_pos (by omega)]) (fun k hk2 => by
        rw [zeroes_at _ _ _ _ hin]
        unfold szOf at hk2
        rw [if_neg (by omega)])
      exact this
  · rw [if_pos hf]
    have e : f.wipe q = f := by
      unfold Fr.wipe
      have : (fun u j => if u = q then 0 else f.ar u j) = f.ar := by
        funext u j
        by_cases e : u = q
        · subst e; rw [if_pos rfl, h.seg.ar0 u hn]
        · rw [if_neg e]
      rw [this]
    rw [e]
    exact h
end Go.Proofs.YtdgpdmohfnealaaGreatDoor
