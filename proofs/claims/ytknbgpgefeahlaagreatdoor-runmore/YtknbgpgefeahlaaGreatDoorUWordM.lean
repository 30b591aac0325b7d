/- Check finds the first graph that is not right. -/
import Derived.Test.YtknbgpgefeahlaaGreatDoorGRight3
import Derived.Test.YtknbgpgefeahlaaGreatDoorUMoreM
import Derived.Test.YtknbgpgefeahlaaGreatDoorXTurn2M
import Derived.Laws.FloatBits
namespace Go.Proofs.YtknbgpgefeahlaaGreatDoor
open Go.RowKit

def checkF (p : List Gr) : List Gr → Nat → Int × Int
  | [], _ => (0, 0)
  | G :: l, i => if graphB p G = true then checkF p l (i + 1) else (4, (i : Int))
def checkT (p : List Gr) : Int × Int := if 64 < p.length then (3, 0) else checkF p p 0
theorem checkF_drop {p l : List Gr} {i : Nat} (h : i < l.length) : checkF p (l.drop i) i = if graphB p (l.getD i default) = true then checkF p (l.drop (i + 1)) (i + 1) else (4, (i : Int)) := by
  have e : l.getD i default = l[i] := by simp [List.getD, List.getElem?_eq_getElem h]
  rw [e, List.drop_eq_getElem_cons h]
  rfl
theorem ret_errs {a b c d : Int} (h : (a, b) = (c, d)) : Ending.returned (.tuple #[.int .i64 a, .int .i64 b]) = .returned (.tuple #[.int .i64 c, .int .i64 d]) := by cases h; rfl
set_option maxRecDepth 100000 in
set_option maxHeartbeats 4000000 in
theorem check_any (p : List Gr) (ppv : Value) (w : World) (hp : GrsAt w ppv p) (hP : PartsAt w) (hn : p.length ≤ 64 → ∀ G ∈ p, G.blocks.length ≤ 100000) :
    Calls Tryz.prog 14 #[ppv] w fun e w' => e = .returned (.tuple #[.int .i64 (checkT p).1, .int .i64 (checkT p).2]) ∧ Below w.heap.size w w' := by
  obtain ⟨qa, qc, rfl, hql⟩ := hp.form
  have HC : Hid (∀ i, i < p.length → p.length ≤ 64 → ∀ pv vv av bv W, Below w.heap.size w W → GrAt w pv vv av bv (p.getD i default) → Calls Tryz.prog 22 #[.slice qa p.length qc, .agg #[.string (p.getD i default).name, pv, .int .u8 (p.getD i default).result, vv, av, bv]] W fun e w' => e = .returned (.bool (graphB p (p.getD i default))) ∧ Below W.heap.size W w') := fun i hi h64 pv vv av bv W hb h => gright_any p _ _ pv vv av bv W (hp.below hb) (h.below hb) (hP.below hb) (hn h64 _ (by rw [List.getD, List.getElem?_eq_getElem hi]; exact List.getElem_mem hi))
  have HG : Hid (∀ i, i < p.length → _) := fun i hi => hp.get (i := i) hi
  have HDR : Hid (∀ i, i < p.length → _) := fun i hi => checkF_drop (p := p) (l := p) (i := i) hi
  have HZ : Hid (checkF p (p.drop p.length) p.length = (0, 0)) := by show _ = _; rw [List.drop_length]; rfl
  obtain ⟨R, hR⟩ : ∃ R, R = checkT p := ⟨_, rfl⟩
  rw [← hR]
  clear hp hP hn
  by_cases h64 : 64 < p.length
  · have HR : Hid ((3, 0) = R) := by show _ = _; rw [hR, checkT, if_pos h64]
    have h64' : (64 : Int) < p.length := by omega
    clear hR HC HG HDR HZ
    go_enter Tryz.func14, Tryz.ntmps14
    go_wp2
    go_ret2
    exact ⟨ret_errs HR.out, Below.refl _ _⟩
  · have HR : Hid (checkF p (p.drop 0) 0 = R) := by show _ = _; rw [hR, checkT, if_neg h64]; rfl
    have hle : (p.length : Int) ≤ 64 := by omega
    have HLE : Hid (p.length ≤ 64) := by show p.length ≤ 64; omega
    clear hR
    obtain ⟨n, hnl⟩ : ∃ n, n = p.length := ⟨_, rfl⟩
    rw [← hnl] at HC HG HDR HZ HLE hle ⊢
    clear hnl h64 hql
    go_enter Tryz.func14, Tryz.ntmps14
    go_wp2
    go_loopw [11] (fun vi wr => ∃ i : Nat, vi = .int .i64 i ∧ i ≤ n ∧ Hid (checkF p (p.drop i) i = R ∧ Below w.heap.size w wr)) (fun vi _ => n - (intOf vi).toNat)
    case atStart => exact ⟨0, rfl, by omega, HR.out, Below.refl _ _⟩
    case round =>
      obtain ⟨i, rfl, hi, hr⟩ := hrel
      clear HR
      by_cases hin : i < n
      · obtain ⟨g, o, pv, vv, av, bv, rfl, hg, c0, c1, c2, c3, c4, c5, hG⟩ := HG.out i hin
        have hin' : (i : Int) < n := by omega
        have hcl : ∀ j, wr.cell? ⟨g, j, none⟩ = w.cell? ⟨g, j, none⟩ := fun j => hr.out.2.cell (p := ⟨g, j, none⟩) hg
        rw [← hcl] at c0 c1 c2 c3 c4 c5
        have HD := HDR.out i hin
        rw [hr.out.1] at HD
        have HCI := fun W hb => HC.out i hin HLE.out pv vv av bv W hb hG
        obtain ⟨pa, pc, va, vc, aa, ac, ba, bc, rfl, rfl, rfl, rfl, _, _, _, _⟩ := hG.openF
        clear hG hcl HG HDR HC HZ
        generalize graphB p (p.getD i default) = gb at *
        generalize (p.getD i default).name = nm at *
        generalize (p.getD i default).result = r at *
        generalize (p.getD i default).params.length = pl at *
        generalize (p.getD i default).vars.length = m at *
        generalize (p.getD i default).arrs.length = al at *
        generalize (p.getD i default).blocks.length = bl at *
        have HB1 : Hid (Below w.heap.size w (wr.alloc (.cells #[.string nm, .slice pa pl pc, .int .u8 r, .slice va m vc, .slice aa al ac, .slice ba bl bc] 46))) := below_alloc hr.out.2 _
        have HCJ : Hid _ := HCI
        have HDD : Hid _ := HD
        clear HCI HD
        cases gb with
        | true =>
          go_wp2_with (go_at_call 22; go_loud (refine Calls.mono (by exact HCJ.out _ HB1.out) ?_; rintro e w1 ⟨rfl, hb1⟩; have HW1 : Hid _ := hb1; clear hb1))
          go_roundw
          case rel => exact ⟨i + 1, by first | rfl | (congr 1; omega), by omega, by have h9 := HDD.out; simpa using h9.symm, below_trans HB1.out HW1.out⟩
          case measure => simp [intOf]; omega
        | false =>
          go_wp2_with (go_at_call 22; go_loud (refine Calls.mono (by exact HCJ.out _ HB1.out) ?_; rintro e w1 ⟨rfl, hb1⟩; have HW1 : Hid _ := hb1; clear hb1))
          go_ret2
          have h8 : R = (4, (i : Int)) := by have h9 := HDD.out; rw [h9]; simp
          exact ⟨ret_errs h8.symm, below_trans HB1.out HW1.out⟩
      · obtain rfl : i = n := by omega
        have hd : (0, 0) = R := by have h9 := hr.out.1; rw [HZ.out] at h9; exact h9
        have HD : Hid _ := hd
        clear hd HG HDR HC HZ
        go_wp2
        go_ret2
        exact ⟨ret_errs HD.out, hr.out.2⟩
end Go.Proofs.YtknbgpgefeahlaaGreatDoor
/- What is right of a right program's graphs, as a run asks it. -/
namespace Go.Proofs.YtknbgpgefeahlaaGreatDoor

/-- An instruction of a right graph. -/
structure InOk (P : List Gr) (G : Gr) (x : In) : Prop where
  kind : 1 ≤ x.kind ∧ x.kind ≤ 10
  args : ∀ v ∈ x.args, 0 ≤ v ∧ v < (G.vars.length : Int)
  dst : ¬ x.kind = 7 → ¬ x.kind = 8 → ¬ x.kind = 10 → 0 ≤ x.dst ∧ x.dst < (G.vars.length : Int)
  one : x.kind = 3 ∨ x.kind = 5 ∨ x.kind = 6 ∨ x.kind = 10 → x.args.length = 1
  op : x.kind = 4 → x.args.length = 1 ∨ x.args.length = 2
  two : x.kind = 7 → x.args.length = 2
  arr : x.kind = 6 ∨ x.kind = 7 ∨ x.kind = 8 → 0 ≤ x.ref ∧ x.ref < (G.arrs.length : Int)
  call : x.kind = 9 → 0 ≤ x.ref ∧ x.ref < (P.length : Int) ∧ x.args.length = (P.getD x.ref.toNat default).params.length
theorem inOk_of {P : List Gr} {G : Gr} {x : In} (h : standsB P G x = true) : InOk P G x := by
  obtain ⟨k, o, d, a, b, f⟩ := x
  unfold standsB at h
  rw [Bool.and_eq_true] at h
  obtain ⟨hp, hf⟩ := h
  unfold partsB at hp
  simp only [Bool.and_eq_true, decide_eq_true_eq] at hp
  obtain ⟨⟨k1, k2⟩, hh⟩ := hp
  obtain ⟨ha, hl, hm⟩ := hasB_args hh
  have hd := fun hd => hasB_dst hh hd
  dsimp only at k1 k2 hh ha hl hm hd
  have hA : ∀ v ∈ a, 0 ≤ v ∧ v < (G.vars.length : Int) := fun v hv => inB_iff.1 (List.all_eq_true.1 ha v hv)
  rcases (show k = 1 ∨ k = 2 ∨ k = 3 ∨ k = 4 ∨ k = 5 ∨ k = 6 ∨ k = 7 ∨ k = 8 ∨ k = 9 ∨ k = 10 by omega) with rfl | rfl | rfl | rfl | rfl | rfl | rfl | rfl | rfl | rfl
  all_goals
    refine ⟨⟨k1, k2⟩, hA, fun h7 h8 h10 => ?_, fun h1 => ?_, fun h1 => ?_, fun h1 => ?_, fun h1 => ?_, fun h1 => ?_⟩
    all_goals first
      | (exfalso; dsimp only at h1; omega)
      | (exfalso; dsimp only at h7 h8 h10; omega)
      | (exact inB_iff.1 (hd rfl))
      | (dsimp only at h1 ⊢; simp [hasL] at hl hm; omega)
      | (rw [fitsK_6] at hf; rw [Bool.and_eq_true] at hf; exact inB_iff.1 hf.1)
      | (rw [fitsK_7] at hf; rw [Bool.and_eq_true] at hf; exact inB_iff.1 hf.1)
      | (rw [fitsK_8] at hf; rw [Bool.and_eq_true] at hf; exact inB_iff.1 hf.1)
      | (rw [fitsK_9, Bool.and_eq_true] at hf
         obtain ⟨h2, h3⟩ := hf
         unfold callOkB at h3
         rw [Bool.and_eq_true] at h3
         obtain ⟨q1, q2⟩ := inB_iff.1 h2
         refine ⟨q1, q2, ?_⟩
         have := h3.1
         simp only [beq_iff_eq] at this
         dsimp only at this ⊢
         omega)
/-- An end of a right graph. -/
structure TmOk (G : Gr) (t : Tm) : Prop where
  t0 : t.kind = 1 ∨ t.kind = 2 → 0 ≤ t.t0 ∧ t.t0 < (G.blocks.length : Int)
  t1 : t.kind = 2 → 0 ≤ t.t1 ∧ t.t1 < (G.blocks.length : Int)
  arg : t.kind = 2 ∨ t.kind = 3 → 0 ≤ t.arg ∧ t.arg < (G.vars.length : Int)
theorem behind_in {n : Nat} {t : Int} (h : behindB n t = true) : 0 ≤ t ∧ t < (n : Int) := by
  unfold behindB at h
  rw [Bool.and_eq_true] at h
  exact inB_iff.1 h.2
theorem isOf_in {l : List Int} {v t : Int} (h : isOfB l v t = true) : 0 ≤ v ∧ v < (l.length : Int) := by
  unfold isOfB at h
  simp only [Bool.and_eq_true] at h
  exact inB_iff.1 h.1.1
theorem tmOk_of {G : Gr} {t : Tm} (h : endB G t = true) : TmOk G t := by
  unfold endB at h
  by_cases h1 : t.kind = 1
  · rw [if_pos h1, Bool.and_eq_true] at h
    exact ⟨fun _ => behind_in h.1, fun h2 => by omega, fun h2 => by omega⟩
  · rw [if_neg h1] at h
    by_cases h2 : t.kind = 2
    · rw [if_pos h2] at h
      simp only [Bool.and_eq_true] at h
      exact ⟨fun _ => behind_in h.1.1.2, fun _ => behind_in h.1.2, fun _ => isOf_in h.1.1.1⟩
    · rw [if_neg h2] at h
      by_cases h3 : t.kind = 3
      · rw [if_pos h3, Bool.and_eq_true] at h
        exact ⟨fun q => by omega, fun q => by omega, fun _ => isOf_in h.1⟩
      · exact ⟨fun q => by omega, fun q => by omega, fun q => by omega⟩
theorem npOf_le : ∀ I : List In, npOf I ≤ I.length
  | [] => Nat.le_refl _
  | x :: xs => by
    unfold npOf
    have := npOf_le xs
    split <;> simp <;> omega
theorem npOf_phi : ∀ (I : List In) (i : Nat), i < npOf I → (I.getD i default).kind = 1
  | [], i, h => by simp [npOf] at h
  | x :: xs, i, h => by
    unfold npOf at h
    split at h
    · rename_i hk
      cases i with
      | zero => exact hk
      | succ i => exact npOf_phi xs i (by omega)
    · omega
theorem npOf_stop : ∀ (I : List In), npOf I < I.length → ¬ (I.getD (npOf I) default).kind = 1
  | [], h => by simp at h
  | x :: xs, h => by
    by_cases hk : x.kind = 1
    · have e : npOf (x :: xs) = npOf xs + 1 := by rw [npOf, if_pos hk]
      rw [e] at h ⊢
      have := npOf_stop xs (by simpa using h)
      simpa [List.getD] using this
    · have e : npOf (x :: xs) = 0 := by rw [npOf, if_neg hk]
      rw [e]
      exact hk
theorem phiF_tail {i : Int} {na : Nat} : ∀ {L : List In} {st st' : List Int}, phiF i na L false st = some st' → ∀ x ∈ L, ¬ x.kind = 1
  | [], _, _, _, x, hx => by simp at hx
  | y :: L, st, st', h, x, hx => by
    unfold phiF at h
    by_cases hk : y.kind = 1
    · rw [if_pos hk, if_neg (by simp)] at h
      cases h
    · rw [if_neg hk] at h
      rcases List.mem_cons.1 hx with rfl | hx
      · exact hk
      · exact phiF_tail h x hx
theorem phiF_head {i : Int} {na : Nat} : ∀ {L : List In} {hd : Bool} {st st' : List Int}, phiF i na L hd st = some st' →
    (hd = false → npOf L = 0) ∧ (∀ k, k < npOf L → (L.getD k default).args.length = na) ∧ ∀ k, npOf L ≤ k → k < L.length → ¬ (L.getD k default).kind = 1
  | [], _, _, _, _ => ⟨fun _ => rfl, fun k h => by simp [npOf] at h, fun k _ h => by simp at h⟩
  | y :: L, hd, st, st', h => by
    unfold phiF at h
    by_cases hk : y.kind = 1
    · rw [if_pos hk] at h
      by_cases hc : hd = true ∧ y.args.length = na ∧ st.getD y.dst.toNat 0 ≠ i
      · rw [if_pos hc] at h
        obtain ⟨_, h2, h3⟩ := phiF_head h
        have e : npOf (y :: L) = npOf L + 1 := by rw [npOf, if_pos hk]
        rw [e]
        refine ⟨fun hf => by rw [hf] at hc; simp at hc, fun k hkl => ?_, fun k h4 h5 => ?_⟩
        · cases k with
          | zero => exact hc.2.1
          | succ k => exact h2 k (by omega)
        · cases k with
          | zero => omega
          | succ k => exact h3 k (by omega) (by simpa using h5)
      · rw [if_neg hc] at h
        cases h
    · rw [if_neg hk] at h
      have e : npOf (y :: L) = 0 := by rw [npOf, if_neg hk]
      rw [e]
      have ht := phiF_tail h
      refine ⟨fun _ => rfl, fun k h => by omega, fun k _ h5 => ?_⟩
      cases k with
      | zero => exact hk
      | succ k =>
        have h6 : k < L.length := by simpa using h5
        have : L.getD k default ∈ L := by
          rw [List.getD, List.getElem?_eq_getElem h6]
          exact List.getElem_mem h6
        exact ht _ this
theorem phisF_all {rows : List (List Int)} : ∀ {bs : List Bl} {i : Nat} {st : List Int}, phisF rows bs i st = true → ∀ t, t < bs.length → ∃ st1 st2, phiF ((i + t : Nat) : Int) (rows.getD (i + t) []).length (bs.getD t default).ins (decide (0 < i + t)) st1 = some st2
  | [], _, _, _, t, ht => by simp at ht
  | b :: bs, i, st, h, t, ht => by
    unfold phisF at h
    cases hq : phiF (i : Int) (rows.getD i []).length b.ins (decide (0 < i)) st with
    | none => rw [hq] at h; cases h
    | some st' =>
      rw [hq] at h
      cases t with
      | zero => exact ⟨st, st', hq⟩
      | succ t =>
        obtain ⟨s1, s2, h2⟩ := phisF_all h t (by simpa using ht)
        rw [show i + 1 + t = i + (t + 1) by omega] at h2
        exact ⟨s1, s2, h2⟩
structure GOk (P : List Gr) (G : Gr) : Prop where
  bl : 0 < G.blocks.length ∧ G.blocks.length ≤ 1048576
  sz : ∀ q, q < G.arrs.length → 1 ≤ (G.arrs.getD q default).2 ∧ (G.arrs.getD q default).2 ≤ 256
  par : G.params.length ≤ 8 ∧ ∀ i, i < G.params.length → 0 ≤ G.params.getD i 0 ∧ G.params.getD i 0 < (G.vars.length : Int)
  ins : ∀ t, t < G.blocks.length → ∀ k, k < (G.blocks.getD t default).ins.length → InOk P G ((G.blocks.getD t default).ins.getD k default)
  tm : ∀ t, t < G.blocks.length → TmOk G (G.blocks.getD t default).tm
  phi0 : npOf (G.blocks.getD 0 default).ins = 0
  phi : ∀ t, t < G.blocks.length → ∀ k, k < npOf (G.blocks.getD t default).ins → ((G.blocks.getD t default).ins.getD k default).args.length = ((aheadT (tms G.blocks)).getD t []).length
  tail : ∀ t, t < G.blocks.length → ∀ k, npOf (G.blocks.getD t default).ins ≤ k → k < (G.blocks.getD t default).ins.length → ¬ ((G.blocks.getD t default).ins.getD k default).kind = 1
theorem mem_getD {α : Type} [Inhabited α] {l : List α} {i : Nat} (h : i < l.length) : l.getD i default ∈ l := by
  rw [List.getD, List.getElem?_eq_getElem h]
  exact List.getElem_mem h
theorem gOk_of {P : List Gr} {G : Gr} (h : graphB P G = true) : GOk P G := by
  unfold graphB at h
  simp only [Bool.and_eq_true] at h
  obtain ⟨h1, h2, h3, h4, h5, h6⟩ := h
  have hph : ∀ t, t < G.blocks.length → ∃ st1 st2, phiF (t : Int) ((aheadT (tms G.blocks)).getD t []).length (G.blocks.getD t default).ins (decide (0 < t)) st1 = some st2 := fun t ht => by
    have := phisF_all h6 t ht
    rw [Nat.zero_add] at this
    exact this
  have hb : 0 < G.blocks.length ∧ G.blocks.length ≤ 1048576 := by
    unfold sizesB at h1
    simp only [Bool.and_eq_true, decide_eq_true_eq] at h1
    omega
  refine ⟨hb, fun q hq => ?_, ?_, fun t ht k hk => ?_, fun t ht => ?_, ?_, fun t ht k hk => ?_, fun t ht k hk1 hk2 => ?_⟩
  · unfold typesB at h2
    simp only [Bool.and_eq_true] at h2
    have := List.all_eq_true.1 h2.2.1 _ (mem_getD hq)
    unfold arrB at this
    simp only [Bool.and_eq_true, decide_eq_true_eq] at this
    omega
  · unfold paramsB at h3
    simp only [Bool.and_eq_true, decide_eq_true_eq] at h3
    refine ⟨h3.1, fun i hi => ?_⟩
    have := List.all_eq_true.1 h3.2 i (List.mem_range.2 hi)
    unfold parOk at this
    rw [Bool.and_eq_true] at this
    exact inB_iff.1 this.1
  · have := List.all_eq_true.1 h5 _ (mem_getD ht)
    exact inOk_of (List.all_eq_true.1 this _ (mem_getD hk))
  · exact tmOk_of (List.all_eq_true.1 h4 _ (mem_getD ht))
  · obtain ⟨s1, s2, hq⟩ := hph 0 hb.1
    exact (phiF_head hq).1 (by simp)
  · obtain ⟨s1, s2, hq⟩ := hph t ht
    exact (phiF_head hq).2.1 k hk
  · obtain ⟨s1, s2, hq⟩ := hph t ht
    exact (phiF_head hq).2.2 k hk1 hk2
/-- A right program. -/
def POk (P : List Gr) : Prop := P.length ≤ 64 ∧ ∀ g, g < P.length → GOk P (P.getD g default)
theorem checkF_all {p : List Gr} : ∀ {l : List Gr} {i : Nat} {b : Int}, checkF p l i = (0, b) → ∀ g, g < l.length → graphB p (l.getD g default) = true
  | [], _, _, _, g, hg => by simp at hg
  | G :: l, i, b, h, g, hg => by
    unfold checkF at h
    by_cases hc : graphB p G = true
    · rw [if_pos hc] at h
      cases g with
      | zero => exact hc
      | succ g => exact checkF_all h g (by simpa using hg)
    · rw [if_neg hc] at h
      cases h
theorem pOk_of {P : List Gr} (h : (checkT P).1 = 0) : POk P := by
  unfold checkT at h
  by_cases hc : 64 < P.length
  · rw [if_pos hc] at h; cases h
  · rw [if_neg hc] at h
    obtain ⟨a, b, hb⟩ : ∃ a b, checkF P P 0 = (a, b) := ⟨_, _, rfl⟩
    rw [hb] at h
    have h' : a = 0 := h
    subst h'
    exact ⟨by omega, fun g hg => gOk_of (checkF_all hb g hg)⟩
end Go.Proofs.YtknbgpgefeahlaaGreatDoor
/- What operations and turns tell is a word. -/
namespace Go.Proofs.YtknbgpgefeahlaaGreatDoor.Sc
open Go.RowKit

theorem word_zero : word 0 := by unfold word; omega
theorem word_cut {t a : Int} (h : word a) : word (cutI t a) := by
  unfold cutI
  have h' := h
  unfold word at h'
  split
  · unfold word; omega
  · split
    · unfold word; omega
    · split
      · exact word_wrap _
      · split
        · split
          · unfold word; omega
          · exact h
        · split
          · exact h
          · exact word_zero
theorem word_truth (b : Bool) : word (truthI b) := by unfold truthI word; split <;> omega
theorem word_nat {n : Nat} (h : n < 2 ^ 64) : word (n : Int) := by unfold word; omega
theorem word_res {op : BinOp} {x y : Nat} : word (resI (floatBits op .f64 x y)) := by
  cases h : floatBits op .f64 x y with
  | none => show word 9221120237041090560; unfold word; omega
  | some r =>
    have hr : r < 2 ^ 64 := by
      cases op <;> simp only [floatBits] at h <;> first
        | cases h
        | exact Ieee.Format.add_lt _ h
        | exact Ieee.Format.sub_lt _ h
        | exact Ieee.Format.mul_lt _ h
        | exact Ieee.Format.div_lt _ h
    exact word_cut (word_nat hr)
theorem word_flt (o : Int) (x y : Nat) : word (fltI o x y) := by
  unfold fltI
  repeat' split
  all_goals first | exact word_res | exact word_truth _
theorem word_bits {o t a b : Int} : word (bitsI o t a b) := by
  unfold bitsI divI
  repeat' split
  all_goals first
    | exact word_cut (word_wrap _)
    | exact word_wrap _
    | exact word_zero
    | exact word_truth _
theorem word_two {o t a b : Int} : word (twoI o t a b) := by
  unfold twoI
  repeat' split
  all_goals first
    | exact word_flt _ _ _
    | exact word_bits
    | exact word_zero
theorem word_neg {a : Int} (h : word a) : word ((Op.negFloat .f64 a.toNat : Nat) : Int) := by
  unfold word at h
  refine word_nat ?_
  show a.toNat ^^^ 2 ^ 63 < 2 ^ 64
  exact Nat.xor_lt_two_pow (by omega) (by decide)
theorem word_one {o t a : Int} (h1 : word a) : word (oneI o t a) := by
  unfold oneI
  repeat' split
  all_goals first
    | exact word_cut (word_xor _ h1)
    | exact word_cut (word_neg h1)
    | exact word_cut (word_wrap _)
    | exact word_zero
theorem word_turn {ty fr a : Int} (h1 : word a) : word (turnI ty fr a) := by
  unfold turnI wpartI
  repeat' split
  all_goals first
    | exact h1
    | exact word_wrap _
    | exact word_cut h1
    | exact word_zero
    | exact word_cut (word_nat (Ieee.Format.nearest_lt _ _ _ _))
end Go.Proofs.YtknbgpgefeahlaaGreatDoor.Sc
