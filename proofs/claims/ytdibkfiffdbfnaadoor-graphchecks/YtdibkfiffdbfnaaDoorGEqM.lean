/- Check finds the first graph that is not right. -/
import Derived.Test.YtdibkfiffdbfnaaDoorGRight3
import Derived.Test.YtdibkfiffdbfnaaDoorGRRgt
namespace Go.Proofs.YtdibkfiffdbfnaaDoor
open Go.RowKit

def checkF (p : List Gr) : List Gr → Nat → Int × Int
  | [], _ => (0, 0)
  | G :: l, i => if graphB p G = true then checkF p l (i + 1) else (4, (i : Int))
def checkT (p : List Gr) : Int × Int := if 64 < p.length then (3, 0) else checkF p p 0
theorem checkF_drop {p l : List Gr} {i : Nat} (h : i < l.length) : checkF p (l.drop i) i = if graphB p (l.getD i default) = true then checkF p (l.drop (i + 1)) (i + 1) else (4, (i : Int)) := by
  have e : l.getD i default = l[i] := by simp [List.getD, List.getElem?_eq_getElem h]
  rw [e, List.drop_eq_getElem_cons h]
  rfl
theorem ret_errs {a b c d : Int} (h : (a, b) = (c, d)) : Ending.returned (.tuple #[.int .i64 a, .int .i64 b]) = .returned (.tuple #[.int .i64 c, .int .i64 d]) := by cases h; rfl
set_option maxRecDepth 100000 in
set_option maxHeartbeats 4000000 in
theorem check_any (p : List Gr) (ppv : Value) (w : World) (hp : GrsAt w ppv p) (hP : PartsAt w) (hn : p.length ≤ 64 → ∀ G ∈ p, G.blocks.length ≤ 100000) :
    Calls Tryd.prog 6 #[ppv] w fun e w' => e = .returned (.tuple #[.int .i64 (checkT p).1, .int .i64 (checkT p).2]) ∧ Below w.heap.size w w' := by
  obtain ⟨qa, qc, rfl, hql⟩ := hp.form
  have HC : Hid (∀ i, i < p.length → p.length ≤ 64 → ∀ pv vv av bv W, Below w.heap.size w W → GrAt w pv vv av bv (p.getD i default) → Calls Tryd.prog 14 #[.slice qa p.length qc, .agg #[.string (p.getD i default).name, pv, .int .u8 (p.getD i default).result, vv, av, bv]] W fun e w' => e = .returned (.bool (graphB p (p.getD i default))) ∧ Below W.heap.size W w') := fun i hi h64 pv vv av bv W hb h => gright_any p _ _ pv vv av bv W (hp.below hb) (h.below hb) (hP.below hb) (hn h64 _ (by rw [List.getD, List.getElem?_eq_getElem hi]; exact List.getElem_mem hi))
  have HG : Hid (∀ i, i < p.length → _) := fun i hi => hp.get (i := i) hi
  have HDR : Hid (∀ i, i < p.length → _) := fun i hi => checkF_drop (p := p) (l := p) (i := i) hi
  have HZ : Hid (checkF p (p.drop p.length) p.length = (0, 0)) := by show _ = _; rw [List.drop_length]; rfl
  obtain ⟨R, hR⟩ : ∃ R, R = checkT p := ⟨_, rfl⟩
  rw [← hR]
  clear hp hP hn
  by_cases h64 : 64 < p.length
  · have HR : Hid ((3, 0) = R) := by show _ = _; rw [hR, checkT, if_pos h64]
    have h64' : (64 : Int) < p.length := by omega
    clear hR HC HG HDR HZ
    go_enter Tryd.func6, Tryd.ntmps6
    go_wp2
    go_ret2
    exact ⟨ret_errs HR.out, Below.refl _ _⟩
  · have HR : Hid (checkF p (p.drop 0) 0 = R) := by show _ = _; rw [hR, checkT, if_neg h64]; rfl
    have hle : (p.length : Int) ≤ 64 := by omega
    have HLE : Hid (p.length ≤ 64) := by show p.length ≤ 64; omega
    clear hR
    obtain ⟨n, hnl⟩ : ∃ n, n = p.length := ⟨_, rfl⟩
    rw [← hnl] at HC HG HDR HZ HLE hle ⊢
    clear hnl h64 hql
    go_enter Tryd.func6, Tryd.ntmps6
    go_wp2
    go_loopw [11] (fun vi wr => ∃ i : Nat, vi = .int .i64 i ∧ i ≤ n ∧ Hid (checkF p (p.drop i) i = R ∧ Below w.heap.size w wr)) (fun vi _ => n - (intOf vi).toNat)
    case atStart => exact ⟨0, rfl, by omega, HR.out, Below.refl _ _⟩
    case round =>
      obtain ⟨i, rfl, hi, hr⟩ := hrel
      clear HR
      by_cases hin : i < n
      · obtain ⟨g, o, pv, vv, av, bv, rfl, hg, c0, c1, c2, c3, c4, c5, hG⟩ := HG.out i hin
        have hin' : (i : Int) < n := by omega
        have hcl : ∀ j, wr.cell? ⟨g, j, none⟩ = w.cell? ⟨g, j, none⟩ := fun j => hr.out.2.cell (p := ⟨g, j, none⟩) hg
        rw [← hcl] at c0 c1 c2 c3 c4 c5
        have HD := HDR.out i hin
        rw [hr.out.1] at HD
        have HCI := fun W hb => HC.out i hin HLE.out pv vv av bv W hb hG
        obtain ⟨pa, pc, va, vc, aa, ac, ba, bc, rfl, rfl, rfl, rfl, _, _, _, _⟩ := hG.openF
        clear hG hcl HG HDR HC HZ
        generalize graphB p (p.getD i default) = gb at *
        generalize (p.getD i default).name = nm at *
        generalize (p.getD i default).result = r at *
        generalize (p.getD i default).params.length = pl at *
        generalize (p.getD i default).vars.length = m at *
        generalize (p.getD i default).arrs.length = al at *
        generalize (p.getD i default).blocks.length = bl at *
        have HB1 : Hid (Below w.heap.size w (wr.alloc (.cells #[.string nm, .slice pa pl pc, .int .u8 r, .slice va m vc, .slice aa al ac, .slice ba bl bc] 35))) := below_alloc hr.out.2 _
        have HCJ : Hid _ := HCI
        have HDD : Hid _ := HD
        clear HCI HD
        cases gb with
        | true =>
          go_wp2_with (go_at_call 14; go_loud (refine Calls.mono (by exact HCJ.out _ HB1.out) ?_; rintro e w1 ⟨rfl, hb1⟩; have HW1 : Hid _ := hb1; clear hb1))
          go_roundw
          case rel => exact ⟨i + 1, by first | rfl | (congr 1; omega), by omega, by have h9 := HDD.out; simpa using h9.symm, below_trans HB1.out HW1.out⟩
          case measure => simp [intOf]; omega
        | false =>
          go_wp2_with (go_at_call 14; go_loud (refine Calls.mono (by exact HCJ.out _ HB1.out) ?_; rintro e w1 ⟨rfl, hb1⟩; have HW1 : Hid _ := hb1; clear hb1))
          go_ret2
          have h8 : R = (4, (i : Int)) := by have h9 := HDD.out; rw [h9]; simp
          exact ⟨ret_errs h8.symm, below_trans HB1.out HW1.out⟩
      · obtain rfl : i = n := by omega
        have hd : (0, 0) = R := by have h9 := hr.out.1; rw [HZ.out] at h9; exact h9
        have HD : Hid _ := hd
        clear hd HG HDR HC HZ
        go_wp2
        go_ret2
        exact ⟨ret_errs HD.out, hr.out.2⟩
end Go.Proofs.YtdibkfiffdbfnaaDoor
/- The document's side: Check finds the first graph that is not right. -/
namespace Go.Proofs.YtdibkfiffdbfnaaDoor
open Go.RowKit

def rcheckF (p : List Gr) : List Gr → Nat → Int × Int
  | [], _ => (0, 0)
  | G :: l, i => if rightR p G = true then rcheckF p l (i + 1) else (4, (i : Int))
def rcheckT (p : List Gr) : Int × Int := if 64 < p.length then (3, 0) else rcheckF p p 0
theorem rcheckF_drop {p l : List Gr} {i : Nat} (h : i < l.length) : rcheckF p (l.drop i) i = if rightR p (l.getD i default) = true then rcheckF p (l.drop (i + 1)) (i + 1) else (4, (i : Int)) := by
  have e : l.getD i default = l[i] := by simp [List.getD, List.getElem?_eq_getElem h]
  rw [e, List.drop_eq_getElem_cons h]
  rfl
set_option maxRecDepth 100000 in
set_option maxHeartbeats 4000000 in
theorem rcheck_any (p : List Gr) (ppv : Value) (w : World) (hp : GrsAt w ppv p) (hn : p.length ≤ 64 → ∀ G ∈ p, G.blocks.length ≤ 100000) :
    Calls Tryd.prog 7 #[ppv] w fun e w' => e = .returned (.tuple #[.int .i64 (rcheckT p).1, .int .i64 (rcheckT p).2]) ∧ Below w.heap.size w w' := by
  obtain ⟨qa, qc, rfl, hql⟩ := hp.form
  have HC : Hid (∀ i, i < p.length → p.length ≤ 64 → ∀ pv vv av bv W, Below w.heap.size w W → GrAt w pv vv av bv (p.getD i default) → Calls Tryd.prog 15 #[.slice qa p.length qc, .agg #[.string (p.getD i default).name, pv, .int .u8 (p.getD i default).result, vv, av, bv]] W fun e w' => e = .returned (.bool (rightR p (p.getD i default))) ∧ Below W.heap.size W w') := fun i hi h64 pv vv av bv W hb h => rright_g p _ _ pv vv av bv W (hp.below hb) (h.below hb) (hn h64 _ (by rw [List.getD, List.getElem?_eq_getElem hi]; exact List.getElem_mem hi))
  have HG : Hid (∀ i, i < p.length → _) := fun i hi => hp.get (i := i) hi
  have HDR : Hid (∀ i, i < p.length → _) := fun i hi => rcheckF_drop (p := p) (l := p) (i := i) hi
  have HZ : Hid (rcheckF p (p.drop p.length) p.length = (0, 0)) := by show _ = _; rw [List.drop_length]; rfl
  obtain ⟨R, hR⟩ : ∃ R, R = rcheckT p := ⟨_, rfl⟩
  rw [← hR]
  clear hp hn
  by_cases h64 : 64 < p.length
  · have HR : Hid ((3, 0) = R) := by show _ = _; rw [hR, rcheckT, if_pos h64]
    have h64' : (64 : Int) < p.length := by omega
    clear hR HC HG HDR HZ
    go_enter Tryd.func7, Tryd.ntmps7
    go_wp2
    go_ret2
    exact ⟨ret_errs HR.out, Below.refl _ _⟩
  · have HR : Hid (rcheckF p (p.drop 0) 0 = R) := by show _ = _; rw [hR, rcheckT, if_neg h64]; rfl
    have hle : (p.length : Int) ≤ 64 := by omega
    have HLE : Hid (p.length ≤ 64) := by show p.length ≤ 64; omega
    clear hR
    obtain ⟨n, hnl⟩ : ∃ n, n = p.length := ⟨_, rfl⟩
    rw [← hnl] at HC HG HDR HZ HLE hle ⊢
    clear hnl h64 hql
    go_enter Tryd.func7, Tryd.ntmps7
    go_wp2
    go_loopw [4] (fun vi wr => ∃ i : Nat, vi = .int .i64 i ∧ i ≤ n ∧ Hid (rcheckF p (p.drop i) i = R ∧ Below w.heap.size w wr)) (fun vi _ => n - (intOf vi).toNat)
    case atStart => exact ⟨0, rfl, by omega, HR.out, Below.refl _ _⟩
    case round =>
      obtain ⟨i, rfl, hi, hr⟩ := hrel
      clear HR
      by_cases hin : i < n
      · obtain ⟨g, o, pv, vv, av, bv, rfl, hg, c0, c1, c2, c3, c4, c5, hG⟩ := HG.out i hin
        have hin' : (i : Int) < n := by omega
        have hcl : ∀ j, wr.cell? ⟨g, j, none⟩ = w.cell? ⟨g, j, none⟩ := fun j => hr.out.2.cell (p := ⟨g, j, none⟩) hg
        rw [← hcl] at c0 c1 c2 c3 c4 c5
        have HD := HDR.out i hin
        rw [hr.out.1] at HD
        have HCI := fun W hb => HC.out i hin HLE.out pv vv av bv W hb hG
        obtain ⟨pa, pc, va, vc, aa, ac, ba, bc, rfl, rfl, rfl, rfl, _, _, _, _⟩ := hG.openF
        clear hG hcl HG HDR HC HZ
        generalize rightR p (p.getD i default) = gb at *
        generalize (p.getD i default).name = nm at *
        generalize (p.getD i default).result = r at *
        generalize (p.getD i default).params.length = pl at *
        generalize (p.getD i default).vars.length = m at *
        generalize (p.getD i default).arrs.length = al at *
        generalize (p.getD i default).blocks.length = bl at *
        have HB1 : Hid (Below w.heap.size w wr) := hr.out.2
        have HCJ : Hid _ := HCI
        have HDD : Hid _ := HD
        clear HCI HD
        cases gb with
        | true =>
          go_wp2_with (go_at_call 15; go_loud (refine Calls.mono (by exact HCJ.out _ HB1.out) ?_; rintro e w1 ⟨rfl, hb1⟩; have HW1 : Hid _ := hb1; clear hb1))
          go_roundw
          case rel => exact ⟨i + 1, by first | rfl | (congr 1; omega), by omega, by have h9 := HDD.out; simpa using h9.symm, below_trans HB1.out HW1.out⟩
          case measure => simp [intOf]; omega
        | false =>
          go_wp2_with (go_at_call 15; go_loud (refine Calls.mono (by exact HCJ.out _ HB1.out) ?_; rintro e w1 ⟨rfl, hb1⟩; have HW1 : Hid _ := hb1; clear hb1))
          go_ret2
          have h8 : R = (4, (i : Int)) := by have h9 := HDD.out; rw [h9]; simp
          exact ⟨ret_errs h8.symm, below_trans HB1.out HW1.out⟩
      · obtain rfl : i = n := by omega
        have hd : (0, 0) = R := by have h9 := hr.out.1; rw [HZ.out] at h9; exact h9
        have HD : Hid _ := hd
        clear hd HG HDR HC HZ
        go_wp2
        go_ret2
        exact ⟨ret_errs HD.out, hr.out.2⟩
end Go.Proofs.YtdibkfiffdbfnaaDoor
/- Both sides of Check are one: plain. -/
namespace Go.Proofs.YtdibkfiffdbfnaaDoor
open Go.RowKit

theorem scB_typed (t : Int) : scB t = typedB t := by
  rw [Bool.eq_iff_iff, typedB_iff]
  unfold scB
  simp
theorem arrR_arrB (a : Int × Int) : arrR a = arrB a := by
  unfold arrR arrB
  rw [scB_typed]
  simp [Bool.and_assoc]
theorem parR_not (ps : List Int) (j : Nat) : parR ps j = !((ps.take j).contains (ps.getD j 0)) := by
  unfold parR
  rw [Bool.eq_iff_iff]
  simp only [decide_eq_true_eq, plcF_iff]
  simp
theorem getD_mem {l : List Int} {j : Nat} (h : j < l.length) : l.getD j 0 ∈ l := by
  rw [List.getD, List.getElem?_eq_getElem h]
  exact List.getElem_mem h
theorem mem_getD {l : List Int} {x : Int} (h : x ∈ l) : ∃ j, j < l.length ∧ l.getD j 0 = x := by
  obtain ⟨j, hj, he⟩ := List.mem_iff_getElem.1 h
  exact ⟨j, hj, by rw [List.getD, List.getElem?_eq_getElem hj]; exact he⟩
theorem params_same (G : Gr) : (G.params.all (inB · G.vars.length) && (List.range G.params.length).all (parR G.params)) = (List.range G.params.length).all (parOk G.vars.length G.params) := by
  rw [Bool.eq_iff_iff]
  simp only [Bool.and_eq_true, List.all_eq_true, List.mem_range]
  constructor
  · rintro ⟨h1, h2⟩ j hj
    unfold parOk
    rw [Bool.and_eq_true]
    refine ⟨h1 _ (getD_mem hj), ?_⟩
    rw [← parR_not]
    exact h2 j hj
  · intro h
    refine ⟨fun x hx => ?_, fun j hj => ?_⟩
    · obtain ⟨j, hj, rfl⟩ := mem_getD hx
      have := h j hj
      unfold parOk at this
      rw [Bool.and_eq_true] at this
      exact this.1
    · have := h j hj
      unfold parOk at this
      rw [Bool.and_eq_true] at this
      rw [parR_not]
      exact this.2
theorem head_same (G : Gr) : headR G = (sizesB G && (typesB G && paramsB G)) := by
  unfold headR sizesB typesB paramsB
  rw [← params_same]
  have e1 : G.vars.all scB = G.vars.all typedB := by congr 1; funext t; exact scB_typed t
  have e2 : G.arrs.all arrR = G.arrs.all arrB := by congr 1; funext t; exact arrR_arrB t
  rw [e1, e2, scB_typed, show decide (1 ≤ G.blocks.length) = decide (0 < G.blocks.length) from rfl]
  generalize decide (0 < G.blocks.length) = a1
  generalize decide (G.blocks.length ≤ 1048576) = a2
  generalize decide (G.vars.length ≤ 1048576) = a3
  generalize decide (G.arrs.length ≤ 1048576) = a4
  generalize decide (G.params.length ≤ 8) = a5
  generalize typedB G.result = a6
  generalize G.params.all (inB · G.vars.length) = a7
  generalize G.vars.all typedB = a8
  generalize G.arrs.all arrB = a9
  generalize (List.range G.params.length).all (parR G.params) = a10
  cases a1 <;> cases a2 <;> cases a3 <;> cases a4 <;> cases a5 <;> cases a6 <;> cases a7 <;> cases a8 <;> cases a9 <;> rfl
/-- What is told of types of a graph whose head is right. -/
structure Typed (G : Gr) : Prop where
  var : ∀ v, inB v G.vars.length = true → typedB (varT G.vars v) = true
  arr : ∀ v, inB v G.arrs.length = true → typedB (G.arrs.getD v.toNat default).1 = true
  res : typedB G.result = true
theorem typed_of {G : Gr} (h : typesB G = true) : Typed G := by
  unfold typesB at h
  simp only [Bool.and_eq_true] at h
  refine ⟨fun v hv => ?_, fun v hv => ?_, h.2.2⟩
  · obtain ⟨k, hk⟩ : ∃ k : Nat, v = (k : Int) := Int.eq_ofNat_of_zero_le (inB_iff.1 hv).1
    have hlt : k < G.vars.length := by have := (inB_iff.1 hv).2; omega
    rw [hk, varT, Int.toNat_natCast]
    exact List.all_eq_true.1 h.1 _ (getD_mem hlt)
  · obtain ⟨k, hk⟩ : ∃ k : Nat, v = (k : Int) := Int.eq_ofNat_of_zero_le (inB_iff.1 hv).1
    have hlt : k < G.arrs.length := by have := (inB_iff.1 hv).2; omega
    rw [hk, Int.toNat_natCast]
    have h1 := List.all_eq_true.1 h.2.1 (G.arrs.getD k default) (by rw [List.getD, List.getElem?_eq_getElem hlt]; exact List.getElem_mem hlt)
    unfold arrB at h1
    simp only [Bool.and_eq_true] at h1
    exact h1.1.1
theorem isOf_iff {G : Gr} (v t : Int) (ht : typedB t = true) : isOfB G.vars v t = (inB v G.vars.length && varT G.vars v == t) := by
  unfold isOfB varT
  rw [ht, Bool.and_true]
theorem behind_inner (n : Nat) (t : Int) : behindB n t = innerB t n := by
  unfold behindB innerB inB
  rw [Bool.eq_iff_iff]
  simp
  omega
theorem end_same {G : Gr} (h : Typed G) (t : Tm) : endB G t = rendB G t := by
  unfold endB rendB
  rw [behind_inner, behind_inner, isOf_iff t.arg 1 rfl, isOf_iff t.arg G.result h.res]
  split
  · rfl
  split
  · generalize inB t.arg G.vars.length = a
    generalize (varT G.vars t.arg == 1) = b
    generalize innerB t.t0 G.blocks.length = c
    generalize innerB t.t1 G.blocks.length = d
    generalize (t.trap == 0) = e
    cases a <;> cases b <;> cases c <;> cases d <;> rfl
  split
  · rw [Bool.and_assoc]
  split
  · rw [Bool.and_assoc]
  · rfl
end Go.Proofs.YtdibkfiffdbfnaaDoor
