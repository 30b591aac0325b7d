/- What is right of a right program's graphs, as a run asks it. -/
import Derived.Test.YtdgpdmohfnealaaGreatDoorUMoreM
import Derived.Test.YtdgpdmohfnealaaGreatDoorGCheck
import Derived.Test.YtdgpdmohfnealaaGreatDoorXTurn2M
import Derived.Laws.FloatBits
import Derived.Test.YtdgpdmohfnealaaGreatDoorGFit1M
import Derived.Test.YtdgpdmohfnealaaGreatDoorUBeg2M
import Derived.Test.YtdgpdmohfnealaaGreatDoorUOrdM
import Derived.Deep.RegionHeld3
namespace Go.Proofs.YtdgpdmohfnealaaGreatDoor

/-- An instruction of a right graph. -/
structure InOk (P : List Gr) (G : Gr) (x : In) : Prop where
  kind : 1 ≤ x.kind ∧ x.kind ≤ 10
  args : ∀ v ∈ x.args, 0 ≤ v ∧ v < (G.vars.length : Int)
  dst : ¬ x.kind = 7 → ¬ x.kind = 8 → ¬ x.kind = 10 → 0 ≤ x.dst ∧ x.dst < (G.vars.length : Int)
  one : x.kind = 3 ∨ x.kind = 5 ∨ x.kind = 6 ∨ x.kind = 10 → x.args.length = 1
  op : x.kind = 4 → x.args.length = 1 ∨ x.args.length = 2
  two : x.kind = 7 → x.args.length = 2
  arr : x.kind = 6 ∨ x.kind = 7 ∨ x.kind = 8 → 0 ≤ x.ref ∧ x.ref < (G.arrs.length : Int)
  call : x.kind = 9 → 0 ≤ x.ref ∧ x.ref < (P.length : Int) ∧ x.args.length = (P.getD x.ref.toNat default).params.length
theorem inOk_of {P : List Gr} {G : Gr} {x : In} (h : standsB P G x = true) : InOk P G x := by
  obtain ⟨k, o, d, a, b, f⟩ := x
  unfold standsB at h
  rw [Bool.and_eq_true] at h
  obtain ⟨hp, hf⟩ := h
  unfold partsB at hp
  simp only [Bool.and_eq_true, decide_eq_true_eq] at hp
  obtain ⟨⟨k1, k2⟩, hh⟩ := hp
  obtain ⟨ha, hl, hm⟩ := hasB_args hh
  have hd := fun hd => hasB_dst hh hd
  dsimp only at k1 k2 hh ha hl hm hd
  have hA : ∀ v ∈ a, 0 ≤ v ∧ v < (G.vars.length : Int) := fun v hv => inB_iff.1 (List.all_eq_true.1 ha v hv)
  rcases (show k = 1 ∨ k = 2 ∨ k = 3 ∨ k = 4 ∨ k = 5 ∨ k = 6 ∨ k = 7 ∨ k = 8 ∨ k = 9 ∨ k = 10 by omega) with rfl | rfl | rfl | rfl | rfl | rfl | rfl | rfl | rfl | rfl
  all_goals
    refine ⟨⟨k1, k2⟩, hA, fun h7 h8 h10 => ?_, fun h1 => ?_, fun h1 => ?_, fun h1 => ?_, fun h1 => ?_, fun h1 => ?_⟩
    all_goals first
      | (exfalso; dsimp only at h1; omega)
      | (exfalso; dsimp only at h7 h8 h10; omega)
      | (exact inB_iff.1 (hd rfl))
      | (dsimp only at h1 ⊢; simp [hasL] at hl hm; omega)
      | (rw [fitsK_6] at hf; rw [Bool.and_eq_true] at hf; exact inB_iff.1 hf.1)
      | (rw [fitsK_7] at hf; rw [Bool.and_eq_true] at hf; exact inB_iff.1 hf.1)
      | (rw [fitsK_8] at hf; rw [Bool.and_eq_true] at hf; exact inB_iff.1 hf.1)
      | (rw [fitsK_9, Bool.and_eq_true] at hf
         obtain ⟨h2, h3⟩ := hf
         unfold callOkB at h3
         rw [Bool.and_eq_true] at h3
         obtain ⟨q1, q2⟩ := inB_iff.1 h2
         refine ⟨q1, q2, ?_⟩
         have := h3.1
         simp only [beq_iff_eq] at this
         dsimp only at this ⊢
         omega)
/-- An end of a right graph. -/
structure TmOk (G : Gr) (t : Tm) : Prop where
  t0 : t.kind = 1 ∨ t.kind = 2 → 0 ≤ t.t0 ∧ t.t0 < (G.blocks.length : Int)
  t1 : t.kind = 2 → 0 ≤ t.t1 ∧ t.t1 < (G.blocks.length : Int)
  arg : t.kind = 2 ∨ t.kind = 3 → 0 ≤ t.arg ∧ t.arg < (G.vars.length : Int)
theorem behind_in {n : Nat} {t : Int} (h : behindB n t = true) : 0 ≤ t ∧ t < (n : Int) := by
  unfold behindB at h
  rw [Bool.and_eq_true] at h
  exact inB_iff.1 h.2
theorem isOf_in {l : List Int} {v t : Int} (h : isOfB l v t = true) : 0 ≤ v ∧ v < (l.length : Int) := by
  unfold isOfB at h
  simp only [Bool.and_eq_true] at h
  exact inB_iff.1 h.1.1
theorem tmOk_of {G : Gr} {t : Tm} (h : endB G t = true) : TmOk G t := by
  unfold endB at h
  by_cases h1 : t.kind = 1
  · rw [if_pos h1, Bool.and_eq_true] at h
    exact ⟨fun _ => behind_in h.1, fun h2 => by omega, fun h2 => by omega⟩
  · rw [if_neg h1] at h
    by_cases h2 : t.kind = 2
    · rw [if_pos h2] at h
      simp only [Bool.and_eq_true] at h
      exact ⟨fun _ => behind_in h.1.1.2, fun _ => behind_in h.1.2, fun _ => isOf_in h.1.1.1⟩
    · rw [if_neg h2] at h
      by_cases h3 : t.kind = 3
      · rw [if_pos h3, Bool.and_eq_true] at h
        exact ⟨fun q => by omega, fun q => by omega, fun _ => isOf_in h.1⟩
      · exact ⟨fun q => by omega, fun q => by omega, fun q => by omega⟩
theorem npOf_le : ∀ I : List In, npOf I ≤ I.length
  | [] => Nat.le_refl _
  | x :: xs => by
    unfold npOf
    have := npOf_le xs
    split <;> simp <;> omega
theorem npOf_phi : ∀ (I : List In) (i : Nat), i < npOf I → (I.getD i default).kind = 1
  | [], i, h => by simp [npOf] at h
  | x :: xs, i, h => by
    unfold npOf at h
    split at h
    · rename_i hk
      cases i with
      | zero => exact hk
      | succ i => exact npOf_phi xs i (by omega)
    · omega
theorem npOf_stop : ∀ (I : List In), npOf I < I.length → ¬ (I.getD (npOf I) default).kind = 1
  | [], h => by simp at h
  | x :: xs, h => by
    by_cases hk : x.kind = 1
    · have e : npOf (x :: xs) = npOf xs + 1 := by rw [npOf, if_pos hk]
      rw [e] at h ⊢
      have := npOf_stop xs (by simpa using h)
      simpa [List.getD] using this
    · have e : npOf (x :: xs) = 0 := by rw [npOf, if_neg hk]
      rw [e]
      exact hk
theorem phiF_tail {i : Int} {na : Nat} : ∀ {L : List In} {st st' : List Int}, phiF i na L false st = some st' → ∀ x ∈ L, ¬ x.kind = 1
  | [], _, _, _, x, hx => by simp at hx
  | y :: L, st, st', h, x, hx => by
    unfold phiF at h
    by_cases hk : y.kind = 1
    · rw [if_pos hk, if_neg (by simp)] at h
      cases h
    · rw [if_neg hk] at h
      rcases List.mem_cons.1 hx with rfl | hx
      · exact hk
      · exact phiF_tail h x hx
theorem phiF_head {i : Int} {na : Nat} : ∀ {L : List In} {hd : Bool} {st st' : List Int}, phiF i na L hd st = some st' →
    (hd = false → npOf L = 0) ∧ (∀ k, k < npOf L → (L.getD k default).args.length = na) ∧ ∀ k, npOf L ≤ k → k < L.length → ¬ (L.getD k default).kind = 1
  | [], _, _, _, _ => ⟨fun _ => rfl, fun k h => by simp [npOf] at h, fun k _ h => by simp at h⟩
  | y :: L, hd, st, st', h => by
    unfold phiF at h
    by_cases hk : y.kind = 1
    · rw [if_pos hk] at h
      by_cases hc : hd = true ∧ y.args.length = na ∧ st.getD y.dst.toNat 0 ≠ i
      · rw [if_pos hc] at h
        obtain ⟨_, h2, h3⟩ := phiF_head h
        have e : npOf (y :: L) = npOf L + 1 := by rw [npOf, if_pos hk]
        rw [e]
        refine ⟨fun hf => by rw [hf] at hc; simp at hc, fun k hkl => ?_, fun k h4 h5 => ?_⟩
        · cases k with
          | zero => exact hc.2.1
          | succ k => exact h2 k (by omega)
        · cases k with
          | zero => omega
          | succ k => exact h3 k (by omega) (by simpa using h5)
      · rw [if_neg hc] at h
        cases h
    · rw [if_neg hk] at h
      have e : npOf (y :: L) = 0 := by rw [npOf, if_neg hk]
      rw [e]
      have ht := phiF_tail h
      refine ⟨fun _ => rfl, fun k h => by omega, fun k _ h5 => ?_⟩
      cases k with
      | zero => exact hk
      | succ k =>
        have h6 : k < L.length := by simpa using h5
        have : L.getD k default ∈ L := by
          rw [List.getD, List.getElem?_eq_getElem h6]
          exact List.getElem_mem h6
        exact ht _ this
theorem phisF_all {rows : List (List Int)} : ∀ {bs : List Bl} {i : Nat} {st : List Int}, phisF rows bs i st = true → ∀ t, t < bs.length → ∃ st1 st2, phiF ((i + t : Nat) : Int) (rows.getD (i + t) []).length (bs.getD t default).ins (decide (0 < i + t)) st1 = some st2
  | [], _, _, _, t, ht => by simp at ht
  | b :: bs, i, st, h, t, ht => by
    unfold phisF at h
    cases hq : phiF (i : Int) (rows.getD i []).length b.ins (decide (0 < i)) st with
    | none => rw [hq] at h; cases h
    | some st' =>
      rw [hq] at h
      cases t with
      | zero => exact ⟨st, st', hq⟩
      | succ t =>
        obtain ⟨s1, s2, h2⟩ := phisF_all h t (by simpa using ht)
        rw [show i + 1 + t = i + (t + 1) by omega] at h2
        exact ⟨s1, s2, h2⟩
structure GOk (P : List Gr) (G : Gr) : Prop where
  bl : 0 < G.blocks.length ∧ G.blocks.length ≤ 1048576
  sz : ∀ q, q < G.arrs.length → 1 ≤ (G.arrs.getD q default).2 ∧ (G.arrs.getD q default).2 ≤ 256
  par : G.params.length ≤ 8 ∧ ∀ i, i < G.params.length → 0 ≤ G.params.getD i 0 ∧ G.params.getD i 0 < (G.vars.length : Int)
  ins : ∀ t, t < G.blocks.length → ∀ k, k < (G.blocks.getD t default).ins.length → InOk P G ((G.blocks.getD t default).ins.getD k default)
  tm : ∀ t, t < G.blocks.length → TmOk G (G.blocks.getD t default).tm
  phi0 : npOf (G.blocks.getD 0 default).ins = 0
  phi : ∀ t, t < G.blocks.length → ∀ k, k < npOf (G.blocks.getD t default).ins → ((G.blocks.getD t default).ins.getD k default).args.length = ((aheadT (tms G.blocks)).getD t []).length
  tail : ∀ t, t < G.blocks.length → ∀ k, npOf (G.blocks.getD t default).ins ≤ k → k < (G.blocks.getD t default).ins.length → ¬ ((G.blocks.getD t default).ins.getD k default).kind = 1
theorem mem_getD {α : Type} [Inhabited α] {l : List α} {i : Nat} (h : i < l.length) : l.getD i default ∈ l := by
  rw [List.getD, List.getElem?_eq_getElem h]
  exact List.getElem_mem h
theorem gOk_of {P : List Gr} {G : Gr} (h : graphB P G = true) : GOk P G := by
  unfold graphB at h
  simp only [Bool.and_eq_true] at h
  obtain ⟨h1, h2, h3, h4, h5, h6⟩ := h
  have hph : ∀ t, t < G.blocks.length → ∃ st1 st2, phiF (t : Int) ((aheadT (tms G.blocks)).getD t []).length (G.blocks.getD t default).ins (decide (0 < t)) st1 = some st2 := fun t ht => by
    have := phisF_all h6 t ht
    rw [Nat.zero_add] at this
    exact this
  have hb : 0 < G.blocks.length ∧ G.blocks.length ≤ 1048576 := by
    unfold sizesB at h1
    simp only [Bool.and_eq_true, decide_eq_true_eq] at h1
    omega
  refine ⟨hb, fun q hq => ?_, ?_, fun t ht k hk => ?_, fun t ht => ?_, ?_, fun t ht k hk => ?_, fun t ht k hk1 hk2 => ?_⟩
  · unfold typesB at h2
    simp only [Bool.and_eq_true] at h2
    have := List.all_eq_true.1 h2.2.1 _ (mem_getD hq)
    unfold arrB at this
    simp only [Bool.and_eq_true, decide_eq_true_eq] at this
    omega
  · unfold paramsB at h3
    simp only [Bool.and_eq_true, decide_eq_true_eq] at h3
    refine ⟨h3.1, fun i hi => ?_⟩
    have := List.all_eq_true.1 h3.2 i (List.mem_range.2 hi)
    unfold parOk at this
    rw [Bool.and_eq_true] at this
    exact inB_iff.1 this.1
  · have := List.all_eq_true.1 h5 _ (mem_getD ht)
    exact inOk_of (List.all_eq_true.1 this _ (mem_getD hk))
  · exact tmOk_of (List.all_eq_true.1 h4 _ (mem_getD ht))
  · obtain ⟨s1, s2, hq⟩ := hph 0 hb.1
    exact (phiF_head hq).1 (by simp)
  · obtain ⟨s1, s2, hq⟩ := hph t ht
    exact (phiF_head hq).2.1 k hk
  · obtain ⟨s1, s2, hq⟩ := hph t ht
    exact (phiF_head hq).2.2 k hk1 hk2
/-- A right program. -/
def POk (P : List Gr) : Prop := P.length ≤ 64 ∧ ∀ g, g < P.length → GOk P (P.getD g default)
theorem checkF_all {p : List Gr} : ∀ {l : List Gr} {i : Nat} {b : Int}, checkF p l i = (0, b) → ∀ g, g < l.length → graphB p (l.getD g default) = true
  | [], _, _, _, g, hg => by simp at hg
  | G :: l, i, b, h, g, hg => by
    unfold checkF at h
    by_cases hc : graphB p G = true
    · rw [if_pos hc] at h
      cases g with
      | zero => exact hc
      | succ g => exact checkF_all h g (by simpa using hg)
    · rw [if_neg hc] at h
      cases h
theorem pOk_of {P : List Gr} (h : (checkT P).1 = 0) : POk P := by
  unfold checkT at h
  by_cases hc : 64 < P.length
  · rw [if_pos hc] at h; cases h
  · rw [if_neg hc] at h
    obtain ⟨a, b, hb⟩ : ∃ a b, checkF P P 0 = (a, b) := ⟨_, _, rfl⟩
    rw [hb] at h
    have h' : a = 0 := h
    subst h'
    exact ⟨by omega, fun g hg => gOk_of (checkF_all hb g hg)⟩
end Go.Proofs.YtdgpdmohfnealaaGreatDoor
/- What operations and turns tell is a word. -/
namespace Go.Proofs.YtdgpdmohfnealaaGreatDoor.Sc
open Go.RowKit

theorem word_zero : word 0 := by unfold word; omega
theorem word_cut {t a : Int} (h : word a) : word (cutI t a) := by
  unfold cutI
  have h' := h
  unfold word at h'
  split
  · unfold word; omega
  · split
    · unfold word; omega
    · split
      · exact word_wrap _
      · split
        · split
          · unfold word; omega
          · exact h
        · split
          · exact h
          · exact word_zero
theorem word_truth (b : Bool) : word (truthI b) := by unfold truthI word; split <;> omega
theorem word_nat {n : Nat} (h : n < 2 ^ 64) : word (n : Int) := by unfold word; omega
theorem word_res {op : BinOp} {x y : Nat} : word (resI (floatBits op .f64 x y)) := by
  cases h : floatBits op .f64 x y with
  | none => show word 9221120237041090560; unfold word; omega
  | some r =>
    have hr : r < 2 ^ 64 := by
      cases op <;> simp only [floatBits] at h <;> first
        | cases h
        | exact Ieee.Format.add_lt _ h
        | exact Ieee.Format.sub_lt _ h
        | exact Ieee.Format.mul_lt _ h
        | exact Ieee.Format.div_lt _ h
    exact word_cut (word_nat hr)
theorem word_flt (o : Int) (x y : Nat) : word (fltI o x y) := by
  unfold fltI
  repeat' split
  all_goals first | exact word_res | exact word_truth _
theorem word_bits {o t a b : Int} : word (bitsI o t a b) := by
  unfold bitsI divI
  repeat' split
  all_goals first
    | exact word_cut (word_wrap _)
    | exact word_wrap _
    | exact word_zero
    | exact word_truth _
theorem word_two {o t a b : Int} : word (twoI o t a b) := by
  unfold twoI
  repeat' split
  all_goals first
    | exact word_flt _ _ _
    | exact word_bits
    | exact word_zero
theorem word_neg {a : Int} (h : word a) : word ((Op.negFloat .f64 a.toNat : Nat) : Int) := by
  unfold word at h
  refine word_nat ?_
  show a.toNat ^^^ 2 ^ 63 < 2 ^ 64
  exact Nat.xor_lt_two_pow (by omega) (by decide)
theorem word_one {o t a : Int} (h1 : word a) : word (oneI o t a) := by
  unfold oneI
  repeat' split
  all_goals first
    | exact word_cut (word_xor _ h1)
    | exact word_cut (word_neg h1)
    | exact word_cut (word_wrap _)
    | exact word_zero
theorem word_turn {ty fr a : Int} (h1 : word a) : word (turnI ty fr a) := by
  unfold turnI wpartI
  repeat' split
  all_goals first
    | exact h1
    | exact word_wrap _
    | exact word_cut h1
    | exact word_zero
    | exact word_cut (word_nat (Ieee.Format.nearest_lt _ _ _ _))
end Go.Proofs.YtdgpdmohfnealaaGreatDoor.Sc
/- An instruction is done: what the runner keeps afterwards says what the document says. -/
namespace Go.Proofs.YtdgpdmohfnealaaGreatDoor
open Go.RowKit

structure FrOk (P : List Gr) (f : Fr) : Prop where
  gl : f.g < P.length
  bl : f.b < (grOf P f).blocks.length
  ev : ∀ v, Sc.word (f.ev v)
  ar : ∀ q j, Sc.word (f.ar q j)
  np : npOf (insOf P f) ≤ f.nx
  nl : f.nx ≤ (insOf P f).length
/-- All calls that live are well; all but the last one wait for a call. -/
def HOk (P : List Gr) : List Fr → Prop
  | [] => True
  | f :: fs => FrOk P f ∧ ∀ f2 ∈ fs, FrOk P f2 ∧ 0 < f2.nx ∧ ((insOf P f2).getD (f2.nx - 1) default).kind = 9
/-- What a run leans on. -/
structure RunB (E : Env) (C : Nat) : Prop where
  ok : POk E.P
  bits : ∀ g t k, Sc.word ((((E.P.getD g default).blocks.getD t default).ins).getD k default).bits
  blks : ∀ g, (E.P.getD g default).blocks.length ≤ 100000
  cells : ∀ g, cellsOf (E.P.getD g default) ≤ C
  capC : C ≤ 1000000
  cap : E.dep * C ≤ 3000000
  dep : E.dep ≤ 1000000000
  ins : most E.P 1000000
/-- All but what is kept of cells stands. -/
structure Rest (S S' : St) : Prop where
  fin : S'.fin = S.fin
  val : S'.val = S.val
  trap : S'.trap = S.trap
  steps : S'.steps = S.steps
  deep : S'.deep = S.deep
theorem St.set_rest (S : St) (c : Nat) (x : Int) : Rest S (S.set c x) ∧ (S.set c x).shows = S.shows := by
  unfold St.set
  split <;> exact ⟨⟨rfl, rfl, rfl, rfl, rfl⟩, rfl⟩
theorem St.put_rest (G : Gr) (S : St) (r : Nat) (i x : Int) : Rest S (S.put G r i x) ∧ (S.put G r i x).shows = S.shows := by
  unfold St.put
  split
  · exact ⟨⟨rfl, rfl, rfl, rfl, rfl⟩, rfl⟩
  · unfold St.poke St.room
    split
    · obtain ⟨⟨a, b, c, d, e⟩, f⟩ := S.set_rest (G.vars.length + r) (S.rows.length : Int)
      exact ⟨⟨a, b, c, d, e⟩, f⟩
    · exact ⟨⟨rfl, rfl, rfl, rfl, rfl⟩, rfl⟩
theorem St.wipe_rest (G : Gr) (S : St) (r : Nat) : Rest S (S.wipe G r) ∧ (S.wipe G r).shows = S.shows := by
  unfold St.wipe
  split <;> exact ⟨⟨rfl, rfl, rfl, rfl, rfl⟩, rfl⟩
theorem Opn.tg {P : List Gr} {S : St} {f : Fr} {fs : List Fr} {F F0 : Nat → Nat → Nat} {c : Cl} {cs : List Cl} (h : Opn P S f fs F F0 c cs) : S.top.g = f.g := by rw [h.top, h.cg]
theorem Opn.asks {E : Env} {S : St} {f : Fr} {fs : List Fr} {F F0 : Nat → Nat → Nat} {c : Cl} {cs : List Cl} (h : Opn E.P S f fs F F0 c cs) (hb : fs.length + 1 ≤ 140737488355328) : ∃ l, Asks E S fs.length l ∧ l.length = cellsOf (E.P.getD f.g default) := by
  obtain ⟨l, h1, h2, h3, h4⟩ := h.row
  refine ⟨l, ⟨h.clen, hb, h1, fun d => ?_⟩, h3⟩
  rw [h4]
  have := h.hi.lay.bound f.g d
  omega
theorem Opn.size {E : Env} {C : Nat} (hB : RunB E C) {S : St} {f : Fr} {fs : List Fr} {F F0 : Nat → Nat → Nat} {c : Cl} {cs : List Cl} (h : Opn E.P S f fs F F0 c cs) (hd : fs.length + 1 ≤ E.dep) : S.kept.length ≤ 3000000 ∧ S.rows.length ≤ 768000000 := by
  have := h.hi.lay.kept hB.cells
  have h2 : (f :: fs).length * C ≤ E.dep * C := Nat.mul_le_mul_right _ (by simpa using hd)
  have := hB.cap
  omega
theorem gOk {E : Env} {C : Nat} (hB : RunB E C) {g : Nat} (hg : g < E.P.length) : GOk E.P (E.P.getD g default) := hB.ok.2 g hg
theorem gsized {E : Env} {C : Nat} (hB : RunB E C) {g : Nat} (hg : g < E.P.length) : sized (E.P.getD g default) := fun q hq => by
  have := (gOk hB hg).sz q hq
  omega
theorem argN_lt {P : List Gr} {G : Gr} {x : In} (hi : InOk P G x) {i : Nat} (h : i < x.args.length) : argN x i < G.vars.length ∧ x.args.getD i 0 = ((argN x i : Nat) : Int) := by
  have hm : x.args.getD i 0 ∈ x.args := by rw [List.getD, List.getElem?_eq_getElem h]; exact List.getElem_mem h
  have := hi.args _ hm
  unfold argN
  omega
theorem do_sim {E : Env} {C : Nat} (hB : RunB E C) {w : World} {V : Vals} {ss : List Slot} {S : St} (h : Rn E w V ss S) {f : Fr} {fs : List Fr} {F F0 : Nat → Nat → Nat} {c : Cl} {cs : List Cl} (ho : Opn E.P S f fs F F0 c cs) (hd : fs.length + 1 ≤ E.dep) (hsl : S.shows.length ≤ 1000000000)
    (hev : ∀ v, Sc.word (f.ev v)) {x : In} (hi : InOk E.P (grOf E.P f) x) (h1 : ¬ x.kind = 1) (h9 : ¬ x.kind = 9) {g o : Nat} {av : Value} (hx : InAt E.w0 g o av x) :
    Calls Tryz.prog 18 #[ptr E.B, .pointer (some ⟨g, o, none⟩)] w fun e w' => e = .returned (.tuple #[]) ∧ ∃ V' ss' S' F', Rn E w' V' ss' S' ∧ V'.cv = V.cv ∧ Opn E.P S' (f.doI (grOf E.P f) x) fs F' F0 c cs ∧ S'.shows = S.shows ++ showI (grOf E.P f) f x ∧ Rest S S' := by
  have hdd := hB.dep
  obtain ⟨hk1, hk2⟩ := ho.size hB hd
  obtain ⟨l, ha, hl⟩ := ho.asks (by omega)
  have htg := ho.tg
  have hgl := ho.gl
  have hG : E.P.getD S.top.g default = grOf E.P f := by rw [htg]; rfl
  have hsz := gsized hB hgl
  have hcl : (grOf E.P f).vars.length ≤ l.length := by rw [hl]; unfold cellsOf grOf; omega
  have get : ∀ i, i < x.args.length → S.get (argN x i) = f.ev (argN x i) := fun i hi' => ho.get (argN_lt hi hi').1
  have hgt : S.top.g < E.P.length := by rw [htg]; exact hgl
  have setD : ∀ (V' : Vals) (w' : World) (ss' : List Slot) (y : Int), Rn E w' V' ss' (S.set x.dst.toNat y) → V'.cv = V.cv → (0 ≤ x.dst ∧ x.dst < ((grOf E.P f).vars.length : Int)) → f.doI (grOf E.P f) x = f.setE x.dst.toNat y → showI (grOf E.P f) f x = [] → ∃ V' ss' S' F', Rn E w' V' ss' S' ∧ V'.cv = V.cv ∧ Opn E.P S' (f.doI (grOf E.P f) x) fs F' F0 c cs ∧ S'.shows = S.shows ++ showI (grOf E.P f) f x ∧ Rest S S' := fun V' w' ss' y hr hcv hdst he hs => by
    obtain ⟨F', O⟩ := ho.set (v := x.dst.toNat) (by show _ < (grOf E.P f).vars.length; omega) y
    obtain ⟨q1, q2⟩ := S.set_rest x.dst.toNat y
    rw [he, hs]
    exact ⟨V', ss', _, F', hr, hcv, O, by rw [q2, List.append_nil], q1⟩
  have hdn : ∀ (hdst : 0 ≤ x.dst ∧ x.dst < ((grOf E.P f).vars.length : Int)), x.dst = ((x.dst.toNat : Nat) : Int) ∧ x.dst.toNat < l.length := fun hdst => by omega
  have no10 : ¬ x.kind = 10 → showI (grOf E.P f) f x = [] := fun hk => by unfold showI; rw [if_neg hk]
  have hkk := hi.kind
  rcases (show x.kind = 2 ∨ x.kind = 3 ∨ x.kind = 4 ∨ x.kind = 5 ∨ x.kind = 6 ∨ x.kind = 7 ∨ x.kind = 8 ∨ x.kind = 10 by omega) with hk | hk | hk | hk | hk | hk | hk | hk
  · have hdst := hi.dst (by omega) (by omega) (by omega)
    obtain ⟨d1, d2⟩ := hdn hdst
    refine (do_const h ha hx hk d1 d2 (by omega)).mono ?_
    rintro e w' ⟨he, kv', ss', hr⟩
    exact ⟨he, setD _ w' ss' _ hr rfl hdst (by unfold Fr.doI; rw [if_pos hk]) (no10 (by omega))⟩
  · have hdst := hi.dst (by omega) (by omega) (by omega)
    obtain ⟨d1, d2⟩ := hdn hdst
    have hn := hi.one (by omega)
    obtain ⟨a1, a2⟩ := argN_lt hi (i := 0) (by omega)
    refine (do_copy h ha hx hk d1 d2 (by omega) a2 (by omega) (by omega)).mono ?_
    rintro e w' ⟨he, kv', ss', hr⟩
    rw [get 0 (by omega)] at hr
    exact ⟨he, setD _ w' ss' _ hr rfl hdst (by unfold Fr.doI; rw [if_neg (by omega), if_pos hk]) (no10 (by omega))⟩
  · have hdst := hi.dst (by omega) (by omega) (by omega)
    obtain ⟨d1, d2⟩ := hdn hdst
    have hn := hi.op hk
    obtain ⟨a1, a2⟩ := argN_lt hi (i := 0) (by omega)
    have hre : S.reck (grOf E.P f) x = f.reck (grOf E.P f) x := by
      unfold St.reck Fr.reck
      rcases hn with hn | hn
      · rw [if_pos hn, if_pos hn]
        show Sc.oneI _ ((grOf E.P f).vars.getD (argN x 0) 0) (S.get (argN x 0)) = _
        rw [get 0 (by omega)]
      · rw [if_neg (by omega), if_neg (by omega)]
        show Sc.twoI _ ((grOf E.P f).vars.getD (argN x 0) 0) (S.get (argN x 0)) (S.get (argN x 1)) = _
        rw [get 0 (by omega), get 1 (by omega)]
    refine (do_op h ha hx hk d1 d2 (by omega) (fun k => ?_)).mono ?_
    · rcases hn with hn | hn
      · exact reck_one (h.drewN k) ha hgt hx hn a2 (by omega) (by rw [hG]; exact a1) (by rw [get 0 (by omega)]; exact hev _)
      · obtain ⟨b1, b2⟩ := argN_lt hi (i := 1) (by omega)
        exact reck_two (h.drewN k) ha hgt hx (by omega) a2 b2 (by omega) (by omega) (by rw [hG]; exact a1) (by rw [get 0 (by omega)]; exact hev _) (by rw [get 1 (by omega)]; exact hev _)
    · rintro e w' ⟨he, kv', ss', hr⟩
      rw [hG, hre] at hr
      exact ⟨he, setD _ w' ss' _ hr rfl hdst (by unfold Fr.doI; rw [if_neg (by omega), if_neg (by omega), if_pos hk]) (no10 (by omega))⟩
  · have hdst := hi.dst (by omega) (by omega) (by omega)
    obtain ⟨d1, d2⟩ := hdn hdst
    have hn := hi.one (by omega)
    obtain ⟨a1, a2⟩ := argN_lt hi (i := 0) (by omega)
    refine (do_cast h ha hgt hx hk d1 d2 (by rw [hG]; omega) (by omega) a2 (by omega) (by rw [hG]; exact a1) (by omega) (by rw [get 0 (by omega)]; exact hev _)).mono ?_
    rintro e w' ⟨he, kv', ss', hr⟩
    rw [get 0 (by omega), hG] at hr
    exact ⟨he, setD _ w' ss' _ hr rfl hdst (by unfold Fr.doI; rw [if_neg (by omega), if_neg (by omega), if_neg (by omega), if_pos hk]) (no10 (by omega))⟩
  · have hdst := hi.dst (by omega) (by omega) (by omega)
    obtain ⟨d1, d2⟩ := hdn hdst
    have hn := hi.one (by omega)
    obtain ⟨a1, a2⟩ := argN_lt hi (i := 0) (by omega)
    have hr0 := hi.arr (by omega)
    have hq : x.ref.toNat < (grOf E.P f).arrs.length := by omega
    have hsq := hsz _ hq
    have he := szOf_eq hsz hq
    refine (do_load (r := x.ref.toNat) (sz := szOf (grOf E.P f) x.ref.toNat) h ⟨ha, hgt, by rw [hG]; exact hq, by rw [hG]; exact hl⟩ hx hk d1 d2 (by omega) (by omega) a2 (by omega) (by omega) (by rw [get 0 (by omega)]; exact hev _) (by rw [hG]; exact he) (by unfold szOf; unfold grOf; omega) (by unfold szOf; unfold grOf; omega) (by rw [hG]; exact ho.lies _)).mono ?_
    rintro e w' ⟨he, kv', ss', hr⟩
    have hel : S.elem (grOf E.P f) x.ref.toNat (f.ev (argN x 0)) = f.elem (grOf E.P f) x.ref.toNat (f.ev (argN x 0)) := ho.elem hsz hq (hev _).1
    rw [get 0 (by omega), hG, hel] at hr
    exact ⟨he, setD _ w' ss' _ hr rfl hdst (by unfold Fr.doI; rw [if_neg (by omega), if_neg (by omega), if_neg (by omega), if_neg (by omega), if_pos hk]) (no10 (by omega))⟩
  · have hn := hi.two hk
    obtain ⟨a1, a2⟩ := argN_lt hi (i := 0) (by omega)
    obtain ⟨b1, b2⟩ := argN_lt hi (i := 1) (by omega)
    have hr0 := hi.arr (by omega)
    have hq : x.ref.toNat < (grOf E.P f).arrs.length := by omega
    have hsq := hsz _ hq
    have he := szOf_eq hsz hq
    refine (do_store (r := x.ref.toNat) (sz := szOf (grOf E.P f) x.ref.toNat) h ⟨ha, hgt, by rw [hG]; exact hq, by rw [hG]; exact hl⟩ hx hk (by omega) (by omega) a2 (by omega) b2 (by omega) (by omega) (by omega) (by rw [ho.top]; exact ho.ck) (by rw [get 0 (by omega)]; exact hev _) (by rw [hG]; exact he) (by unfold szOf; unfold grOf; omega) (by unfold szOf; unfold grOf; omega) (by rw [hG]; exact ho.lies _)).mono ?_
    rintro e w' ⟨he, kv', rv', ss', hr⟩
    rw [get 0 (by omega), get 1 (by omega), hG] at hr
    obtain ⟨F', O⟩ := ho.put hsz hq (hev (argN x 0)).1 (f.ev (argN x 1))
    obtain ⟨q1, q2⟩ := S.put_rest (grOf E.P f) x.ref.toNat (f.ev (argN x 0)) (f.ev (argN x 1))
    have e1 : f.doI (grOf E.P f) x = f.put (grOf E.P f) x.ref.toNat (f.ev (argN x 0)) (f.ev (argN x 1)) := by
      unfold Fr.doI
      rw [if_neg (by omega), if_neg (by omega), if_neg (by omega), if_neg (by omega), if_neg (by omega), if_pos hk]
    rw [e1, no10 (by omega)]
    exact ⟨he, _, ss', _, F', hr, rfl, O, by rw [q2, List.append_nil], q1⟩
  · have hr0 := hi.arr (by omega)
    have hq : x.ref.toNat < (grOf E.P f).arrs.length := by omega
    have hsq := hsz _ hq
    have he := szOf_eq hsz hq
    refine (do_clear (r := x.ref.toNat) (sz := szOf (grOf E.P f) x.ref.toNat) h ⟨ha, hgt, by rw [hG]; exact hq, by rw [hG]; exact hl⟩ hx hk (by omega) (by rw [hG]; exact he) (by unfold szOf; unfold grOf; omega) (by rw [hG]; exact ho.lies _)).mono ?_
    rintro e w' ⟨he, ss', hr⟩
    rw [hG] at hr
    have O := ho.wipe (q := x.ref.toNat)
    obtain ⟨q1, q2⟩ := S.wipe_rest (grOf E.P f) x.ref.toNat
    have e1 : f.doI (grOf E.P f) x = f.wipe x.ref.toNat := by
      unfold Fr.doI
      rw [if_neg (by omega), if_neg (by omega), if_neg (by omega), if_neg (by omega), if_neg (by omega), if_neg (by omega), if_pos hk]
    rw [e1, no10 (by omega)]
    exact ⟨he, _, ss', _, F, hr, rfl, O, by rw [q2, List.append_nil], q1⟩
  · have hn := hi.one (by omega)
    obtain ⟨a1, a2⟩ := argN_lt hi (i := 0) (by omega)
    refine (do_show h ha hgt hx hk hn a2 (by omega) (by rw [hG]; exact a1) hsl).mono ?_
    rintro e w' ⟨he, sv', ss', hr⟩
    rw [get 0 (by omega), hG] at hr
    have e1 : f.doI (grOf E.P f) x = f := by
      unfold Fr.doI
      rw [if_neg (by omega), if_neg (by omega), if_neg (by omega), if_neg (by omega), if_neg (by omega), if_neg (by omega), if_neg (by omega)]
    have e2 : showI (grOf E.P f) f x = [((grOf E.P f).vars.getD (argN x 0) 0, f.ev (argN x 0))] := by unfold showI; rw [if_pos hk]
    rw [e1, e2]
    exact ⟨he, _, ss', _, F, hr, rfl, ho.turn rfl rfl rfl rfl, rfl, ⟨rfl, rfl, rfl, rfl, rfl⟩⟩
end Go.Proofs.YtdgpdmohfnealaaGreatDoor
/- A row of one's own that lies in a block from its beginning. -/
namespace Go.Proofs.YtdgpdmohfnealaaGreatDoor
abbrev newV (N n : Nat) : Value := .slice (some ⟨N, 0, none⟩) n n
end Go.Proofs.YtdgpdmohfnealaaGreatDoor
/- A region that draws its order: one condition on the world behind every operation but the late ones, which wait for all that is taken first. -/
namespace Go.Proofs.YtdgpdmohfnealaaGreatDoor
open Go.RowKit

def wpAnyL (P : Program) (ops : Array Oper) (Q : Exit → Act → World → Prop) (S : World → Prop) (late : Nat → Bool) : Nat → Array Bool → Act → World → Prop
  | 0, l, a, w => Region.ready .any ops l = [] ∧ Q .normal a w
  | n + 1, l, a, w => (Region.ready .any ops l = [] → Q .normal a w) ∧ ∀ i ∈ Region.ready .any ops l, wpOp P ops Q i (fun a' w' => (late i = false → S w') ∧ wpAnyL P ops Q S late n (l.setIfInBounds i true) a' w') a w
theorem wpAny_of_late {P : Program} {ops : Array Oper} {Q : Exit → Act → World → Prop} {S : World → Prop} {late : Nat → Bool} : ∀ (n : Nat) (l : Array Bool) (a : Act) (w : World), wpAnyL P ops Q S late n l a w → wpAny P .any ops Q n l a w
  | 0, _, _, _, h => h
  | n + 1, _, _, _, h => ⟨h.1, fun i hi => wpOp_mono (fun a' w' h' => wpAny_of_late n _ a' w' h'.2) (h.2 i hi)⟩
/-- Each late one waits for i. -/
def lateB (ops : Array Oper) (late : Nat → Bool) (i : Nat) : Bool := (List.range ops.size).all fun j => !late j || depB .any ops j i
theorem lateB_spec {ops : Array Oper} {late : Nat → Bool} {i : Nat} (h : lateB ops late i = true) {j : Nat} {oj : Oper} (hj : ops[j]? = some oj) (hl : late j = true) : ∃ e ∈ oj.after, Region.binds .any e = true ∧ e.on = i := by
  unfold lateB at h
  rw [List.all_eq_true] at h
  have h1 := h j (by simpa using (Array.getElem?_eq_some_iff.1 hj).1)
  rw [hl] at h1
  obtain ⟨o, ho, e, he⟩ := depB_spec (by simpa using h1)
  rw [hj] at ho
  cases ho
  exact ⟨e, he⟩
theorem wpAnyL_first {P : Program} {ops : Array Oper} {Q : Exit → Act → World → Prop} {S : World → Prop} {late : Nat → Bool} {i : Nat} {oi : Oper} {v : Value} (hi : ops[i]? = some oi) (hs : Region.noSelect ops = true) (hQ : ∀ c a w, Q (.panic c) (a.put oi.dst v) w → Q (.panic c) a w) (hl : lateB ops late i = true) :
    ∀ (n : Nat) (l : Array Bool) (a : Act) (w : World), (∀ j oj, ops[j]? = some oj → j ≠ i → l.getD j true = false → (∀ e ∈ oj.after, Region.binds .any e = true → e.on ≠ i) → oi.apart ops oj = true) →
      i ∈ Region.ready .any ops l → YieldsIf P ops S oi v a → S w → wpAnyL P ops Q S late n (l.setIfInBounds i true) (a.put oi.dst v) w → wpAnyL P ops Q S late (n + 1) l a w := by
  intro n
  induction n with
  | zero =>
    intro l a w _ hr hy hS H
    refine ⟨fun h => (by rw [h] at hr; cases hr), fun j hj => ?_⟩
    by_cases hji : j = i
    · subst hji; exact hy.wpOp hi hS ⟨fun _ => hS, H⟩
    · have := ready_mono hj hji
      rw [H.1] at this
      cases this
  | succ n ih =>
    intro l a w hfree hr hy hS H
    refine ⟨fun h => (by rw [h] at hr; cases hr), fun j hj => ?_⟩
    by_cases hji : j = i
    · subst hji; exact hy.wpOp hi hS ⟨fun _ => hS, H⟩
    · obtain ⟨hun, oj, hoj, hall⟩ := mem_ready.1 hj
      have hi0 := getD_f.1 (mem_ready.1 hr).1
      have hnot : ∀ e ∈ oj.after, Region.binds .any e = true → e.on ≠ i := fun e he hb heq => by
        have h1 := getD_t.1 (hall e he hb)
        rw [heq, hi0] at h1
        cases h1
      have hnl : late j = false := by
        cases hlj : late j with
        | false => rfl
        | true =>
          obtain ⟨e, he, hb, hon⟩ := lateB_spec hl hoj hlj
          exact absurd hon (hnot e he hb)
      have h2 := wpOp_putIf hoj (hfree j oj hoj hji hun hnot) (fun cs b => Region.noSelect_spec hs i oi cs b hi) (fun cs b => Region.noSelect_spec hs j oj cs b hoj) hQ hy (H.2 j (ready_mono hj hji))
      refine wpOp_mono (fun a' w' h3 => ⟨h3.2.1, ih (l.setIfInBounds j true) a' w' (fun k ok hk hki hu hno => hfree k ok hk hki ?_ hno) (ready_mono hr (Ne.symm hji)) h3.1 (h3.2.1 hnl) ?_⟩) h2
      · by_cases hjk : j = k
        · subst hjk; exact hun
        · rw [getD_set_ne true hjk] at hu; exact hu
      · rw [Array.setIfInBounds_comm _ _ hji]
        exact h3.2.2
theorem wpAnyL_take {P : Program} {ops : Array Oper} {Q : Exit → Act → World → Prop} {S : World → Prop} {late : Nat → Bool} {n : Nat} {l : Array Bool} {a : Act} {w : World} (i : Nat) {oi : Oper} {v : Value} (hi : ops[i]? = some oi) (hs : Region.noSelect ops = true) (hf : Region.free .any ops l i = true) (hr : (Region.ready .any ops l).contains i = true) (hl : lateB ops late i = true)
    (hQ : ∀ c a w, Q (.panic c) (a.put oi.dst v) w → Q (.panic c) a w) (hS : S w) (hy : YieldsIf P ops S oi v a) (h : wpAnyL P ops Q S late n (l.setIfInBounds i true) (a.put oi.dst v) w) : wpAnyL P ops Q S late (n + 1) l a w :=
  wpAnyL_first hi hs hQ hl n l a w (Region.free_spec hi hf) (by simpa using hr) hy hS h
/-- One alone may come up. -/
theorem wpAnyL_one {P : Program} {ops : Array Oper} {Q : Exit → Act → World → Prop} {S : World → Prop} {late : Nat → Bool} {n : Nat} {l : Array Bool} {a : Act} {w : World} (i : Nat) {o : Oper} (hr : Region.ready .any ops l = [i]) (ho : ops[i]? = some o)
    (h : ∀ K : Act → World → Prop, (∀ a w, (late i = false → S w) → wpAnyL P ops Q S late n (l.setIfInBounds i true) a w → K a w) → if Region.wanted o (yielded ops a.tmps) = true then Oper.wp P o a w K Q else K (a.put o.dst undef) w) : wpAnyL P ops Q S late (n + 1) l a w := by
  refine ⟨fun h0 => (by rw [hr] at h0; cases h0), fun j hj => ?_⟩
  rw [hr] at hj
  simp at hj
  subst hj
  exact wpOp_step ho (fun K hK => h K fun a w h1 h2 => hK a w ⟨h1, h2⟩)
theorem wpAnyL_done {P : Program} {ops : Array Oper} {Q : Exit → Act → World → Prop} {S : World → Prop} {late : Nat → Bool} {l : Array Bool} {a : Act} {w : World} (hr : Region.ready .any ops l = []) (h : Q .normal a w) : wpAnyL P ops Q S late 0 l a w := ⟨hr, h⟩
theorem wp_region_late {P : Program} {id : Nat} {ops : Array Oper} {Q : Exit → Act → World → Prop} {a : Act} {w : World} (S : World → Prop) (late : Nat → Bool) (hm : P.follows .mixedOrders = true) (hS : S w.drew) (h : S w.drew → wpAnyL P ops Q S late ops.size (Array.replicate ops.size false) a w.drew) : (Code.region id ops true).wp P Q a w :=
  wp_region_any hm (wpAny_of_late _ _ _ _ (h hS))
end Go.Proofs.YtdgpdmohfnealaaGreatDoor
