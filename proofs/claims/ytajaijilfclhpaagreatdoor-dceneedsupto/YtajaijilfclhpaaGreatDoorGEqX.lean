/- The program and the document call the same graphs right. Plain. -/
import Derived.Test.YtajaijilfclhpaaGreatDoorGRPlM
namespace Go.Proofs.YtajaijilfclhpaaGreatDoor
open Go.RowKit Go.Sort

theorem scB_typed (t : Int) : scB t = typedB t := by
 rw [Bool.eq_iff_iff, typedB_iff]
 unfold scB
 simp
theorem arrR_arrB (a : Int × Int) : arrR a = arrB a := by
 unfold arrR arrB
 rw [scB_typed]
 simp [Bool.and_assoc]
theorem parR_not (ps : List Int) (j : Nat) : parR ps j = !((ps.take j).contains (ps.getD j 0)) := by
 unfold parR
 rw [Bool.eq_iff_iff]
 simp only [decide_eq_true_eq, plcF_iff]
 simp
theorem getD_mem {l : List Int} {j : Nat} (h : j < l.length) : l.getD j 0 ∈ l := by
 rw [List.getD, List.getElem?_eq_getElem h]
 exact List.getElem_mem h
theorem mem_getD {l : List Int} {x : Int} (h : x ∈ l) : ∃ j, j < l.length ∧ l.getD j 0 = x := by
 obtain ⟨j, hj, he⟩ := List.mem_iff_getElem.1 h
 exact ⟨j, hj, by rw [List.getD, List.getElem?_eq_getElem hj]; exact he⟩
theorem params_same (G : Gr) : (G.params.all (inB · G.vars.length) && (List.range G.params.length).all (parR G.params)) = (List.range G.params.length).all (parOk G.vars.length G.params) := by
 rw [Bool.eq_iff_iff]
 simp only [Bool.and_eq_true, List.all_eq_true, List.mem_range]
 constructor
 ·rintro ⟨h1, h2⟩ j hj
  unfold parOk
  rw [Bool.and_eq_true]
  refine ⟨h1 _ (getD_mem hj), ?_⟩
  rw [← parR_not]
  exact h2 j hj
 ·intro h
  refine ⟨fun x hx => ?_, fun j hj => ?_⟩
  ·obtain ⟨j, hj, rfl⟩ := mem_getD hx
   have := h j hj
   unfold parOk at this
   rw [Bool.and_eq_true] at this
   exact this.1
  ·have := h j hj
   unfold parOk at this
   rw [Bool.and_eq_true] at this
   rw [parR_not]
   exact this.2
theorem head_same (G : Gr) : headR G = (sizesB G && (typesB G && paramsB G)) := by
 unfold headR sizesB typesB paramsB
 rw [← params_same]
 have e1 : G.vars.all scB = G.vars.all typedB := by congr 1; funext t; exact scB_typed t
 have e2 : G.arrs.all arrR = G.arrs.all arrB := by congr 1; funext t; exact arrR_arrB t
 rw [e1, e2, scB_typed, show decide (1 ≤ G.blocks.length) = decide (0 < G.blocks.length) from rfl]
 generalize decide (0 < G.blocks.length) = a1
 generalize decide (G.blocks.length ≤ 1048576) = a2
 generalize decide (G.vars.length ≤ 1048576) = a3
 generalize decide (G.arrs.length ≤ 1048576) = a4
 generalize decide (G.params.length ≤ 8) = a5
 generalize typedB G.result = a6
 generalize G.params.all (inB · G.vars.length) = a7
 generalize G.vars.all typedB = a8
 generalize G.arrs.all arrB = a9
 generalize (List.range G.params.length).all (parR G.params) = a10
 cases a1 <;> cases a2 <;> cases a3 <;> cases a4 <;> cases a5 <;> cases a6 <;> cases a7 <;> cases a8 <;> cases a9 <;> rfl
/-- What is told of types of a graph whose head is right. -/
structure Typed (G : Gr) : Prop where
 var : ∀ v, inB v G.vars.length = true → typedB (varT G.vars v) = true
 arr : ∀ v, inB v G.arrs.length = true → typedB (G.arrs.getD v.toNat default).1 = true
 res : typedB G.result = true
theorem typed_of {G : Gr} (h : typesB G = true) : Typed G := by
 unfold typesB at h
 simp only [Bool.and_eq_true] at h
 refine ⟨fun v hv => ?_, fun v hv => ?_, h.2.2⟩
 ·obtain ⟨k, hk⟩ : ∃ k : Nat, v = (k : Int) := Int.eq_ofNat_of_zero_le (inB_iff.1 hv).1
  have hlt : k < G.vars.length := by have := (inB_iff.1 hv).2; omega
  rw [hk, varT, Int.toNat_natCast]
  exact List.all_eq_true.1 h.1 _ (getD_mem hlt)
 ·obtain ⟨k, hk⟩ : ∃ k : Nat, v = (k : Int) := Int.eq_ofNat_of_zero_le (inB_iff.1 hv).1
  have hlt : k < G.arrs.length := by have := (inB_iff.1 hv).2; omega
  rw [hk, Int.toNat_natCast]
  have h1 := List.all_eq_true.1 h.2.1 (G.arrs.getD k default) (by rw [List.getD, List.getElem?_eq_getElem hlt]; exact List.getElem_mem hlt)
  unfold arrB at h1
  simp only [Bool.and_eq_true] at h1
  exact h1.1.1
theorem isOf_iff {G : Gr} (v t : Int) (ht : typedB t = true) : isOfB G.vars v t = (inB v G.vars.length && varT G.vars v == t) := by
 unfold isOfB varT
 rw [ht, Bool.and_true]
theorem behind_inner (n : Nat) (t : Int) : behindB n t = innerB t n := by
 unfold behindB innerB inB
 rw [Bool.eq_iff_iff]
 simp
 omega
theorem end_same {G : Gr} (h : Typed G) (t : Tm) : endB G t = rendB G t := by
 unfold endB rendB
 rw [behind_inner, behind_inner, isOf_iff t.arg 1 rfl, isOf_iff t.arg G.result h.res]
 split
 ·rfl
 split
 ·generalize inB t.arg G.vars.length = a
  generalize (varT G.vars t.arg == 1) = b
  generalize innerB t.t0 G.blocks.length = c
  generalize innerB t.t1 G.blocks.length = d
  generalize (t.trap == 0) = e
  cases a <;> cases b <;> cases c <;> cases d <;> rfl
 split
 ·rw [Bool.and_assoc]
 split
 ·rw [Bool.and_assoc]
 ·rfl

theorem len_le_max {n : Nat} (h : n ≤ 140737488355328) : decide ((n : Int) ≤ 9223372036854775807) = true := decide_eq_true (by omega)
theorem len_is (n k : Nat) : (decide ((k : Int) ≤ (n : Int)) && decide ((n : Int) ≤ (k : Int))) = ((n : Int) == (k : Int)) := by
 rw [Bool.eq_iff_iff]
 simp
 omega
theorem same_1 {p : List Gr} {G : Gr} {op dst : Int} {args : List Int} {bits ref : Int} (h : Typed G) (hl : args.length ≤ 140737488355328) : standsB p G ⟨1, op, dst, args, bits, ref⟩ = (aloneR G ⟨1, op, dst, args, bits, ref⟩ && insR p G ⟨1, op, dst, args, bits, ref⟩) := by
 have e1 : partsB G.vars.length ⟨1, op, dst, args, bits, ref⟩ = (op == 0 && (bits == 0 && (ref == 0 && (inB dst G.vars.length && args.all (inB · G.vars.length))))) := by
  simp [partsB, hasB, hasL, len_le_max hl, Bool.and_assoc]
 have e2 : plainB ⟨1, op, dst, args, bits, ref⟩ = (op == 0 && (bits == 0 && ref == 0)) := by simp [plainB]
 have e3 : insR p G ⟨1, op, dst, args, bits, ref⟩ = true := by simp [insR]
 unfold standsB
 rw [fitsK_1, aloneK_1, e1, e2, e3]
 unfold alikeB
 dsimp only
 cases hd : inB dst G.vars.length with
 | false => simp
 | true =>
  rw [h.var _ hd]
  simp only [Bool.and_true, Bool.true_and]
  ac_rfl
theorem same_2 {p : List Gr} {G : Gr} {op dst : Int} {args : List Int} {bits ref : Int} : standsB p G ⟨2, op, dst, args, bits, ref⟩ = (aloneR G ⟨2, op, dst, args, bits, ref⟩ && insR p G ⟨2, op, dst, args, bits, ref⟩) := by
 have e1 : partsB G.vars.length ⟨2, op, dst, args, bits, ref⟩ = (op == 0 && (ref == 0 && (inB dst G.vars.length && (args.all (inB · G.vars.length) && args.length == 0)))) := by
  have := len_is args.length 0
  simp only [Int.natCast_zero] at this
  have e0 : ((args.length : Int) == 0) = (args.length == 0) := by rw [Bool.eq_iff_iff]; simp
  rw [e0] at this
  simp only [partsB, hasB]
  rw [← this]
  simp [hasL, Bool.and_assoc]
 have e2 : plainB ⟨2, op, dst, args, bits, ref⟩ = (op == 0 && (ref == 0 && args.length == 0)) := by simp [plainB]
 have e3 : insR p G ⟨2, op, dst, args, bits, ref⟩ = true := by simp [insR]
 unfold standsB
 rw [fitsK_2, aloneK_2, e1, e2, e3]
 simp only [Bool.and_true]
 ac_rfl
theorem one_arg {args : List Int} (h : (args.length : Int) = 1) : ∃ a, args = [a] := by
 match args, h with
 | [a], _ => exact ⟨a, rfl⟩
 | [], h => simp at h
 | _ :: _ :: _, h => simp at h; omega
theorem two_arg {args : List Int} (h : (args.length : Int) = 2) : ∃ a b, args = [a, b] := by
 match args, h with
 | [a, b], _ => exact ⟨a, b, rfl⟩
 | [], h => simp at h
 | [_], h => simp at h
 | _ :: _ :: _ :: _, h => simp at h; omega
theorem same_3 {p : List Gr} {G : Gr} {op dst : Int} {args : List Int} {bits ref : Int} (h : Typed G) : standsB p G ⟨3, op, dst, args, bits, ref⟩ = (aloneR G ⟨3, op, dst, args, bits, ref⟩ && insR p G ⟨3, op, dst, args, bits, ref⟩) := by
 have e1 : partsB G.vars.length ⟨3, op, dst, args, bits, ref⟩ = (op == 0 && (bits == 0 && (ref == 0 && (inB dst G.vars.length && (args.all (inB · G.vars.length) && (args.length : Int) == 1))))) := by
  have := len_is args.length 1
  rw [show ((1 : Nat) : Int) = 1 from rfl] at this
  simp only [partsB, hasB]
  rw [← this]
  simp [hasL, Bool.and_assoc]
 have e2 : plainB ⟨3, op, dst, args, bits, ref⟩ = (op == 0 && (bits == 0 && ref == 0)) := by simp [plainB]
 have e3 : insR p G ⟨3, op, dst, args, bits, ref⟩ = true := by simp [insR]
 unfold standsB
 rw [fitsK_3, aloneK_3, e1, e2, e3]
 unfold alikeB
 dsimp only
 cases hd : inB dst G.vars.length with
 | false => simp
 | true =>
  rw [h.var _ hd]
  by_cases hl : (args.length : Int) = 1
  ·obtain ⟨a, rfl⟩ := one_arg hl
   simp only [List.all_cons, List.all_nil, List.getD_cons_zero, Bool.and_true, Bool.true_and, hl, beq_self_eq_true]
   ac_rfl
  ·rw [beq_false_of_ne hl]
   simp
theorem ofB_range {o t : Int} (h : ofB o t = true) : 1 ≤ o ∧ o ≤ 18 := by
 unfold ofB at h
 split at h
 ·omega
 split at h
 ·omega
 split at h
 ·omega
 split at h
 ·omega
 split at h
 ·omega
 ·cases h
theorem nOp_range (o : Int) : nOp o = 1 ∨ nOp o = 2 := by
 unfold nOp
 split <;> simp
theorem same_4 {p : List Gr} {G : Gr} {op dst : Int} {args : List Int} {bits ref : Int} : standsB p G ⟨4, op, dst, args, bits, ref⟩ = (aloneR G ⟨4, op, dst, args, bits, ref⟩ && insR p G ⟨4, op, dst, args, bits, ref⟩) := by
 have e1 : partsB G.vars.length ⟨4, op, dst, args, bits, ref⟩ = (bits == 0 && (ref == 0 && (inB dst G.vars.length && (args.all (inB · G.vars.length) && (decide (1 ≤ (args.length : Int)) && decide ((args.length : Int) ≤ 2)))))) := by
  simp [partsB, hasB, hasL, Bool.and_assoc]
 have e2 : plainB ⟨4, op, dst, args, bits, ref⟩ = (bits == 0 && ref == 0) := by simp [plainB]
 have e3 : insR p G ⟨4, op, dst, args, bits, ref⟩ = true := by simp [insR]
 unfold standsB
 rw [fitsK_4, aloneK_4, e1, e2, e3]
 unfold opOkB opR
 dsimp only
 by_cases hl : (args.length : Int) = nOp op
 ·have hr := nOp_range op
  rw [beq_iff_eq.2 hl, decide_eq_true (show 1 ≤ (args.length : Int) by omega), decide_eq_true (show (args.length : Int) ≤ 2 by omega)]
  cases ho : ofB op (varT G.vars (args.getD 0 0)) with
  | false => simp
  | true =>
   have hq := ofB_range ho
   rw [decide_eq_true hq.1, decide_eq_true hq.2]
   simp only [Bool.and_true, Bool.true_and]
   ac_rfl
 ·rw [beq_false_of_ne hl]
  simp
theorem same_5 {p : List Gr} {G : Gr} {op dst : Int} {args : List Int} {bits ref : Int} : standsB p G ⟨5, op, dst, args, bits, ref⟩ = (aloneR G ⟨5, op, dst, args, bits, ref⟩ && insR p G ⟨5, op, dst, args, bits, ref⟩) := by
 have e1 : partsB G.vars.length ⟨5, op, dst, args, bits, ref⟩ = (op == 0 && (bits == 0 && (ref == 0 && (inB dst G.vars.length && (args.all (inB · G.vars.length) && (args.length : Int) == 1))))) := by
  have := len_is args.length 1
  rw [show ((1 : Nat) : Int) = 1 from rfl] at this
  simp only [partsB, hasB]
  rw [← this]
  simp [hasL, Bool.and_assoc]
 have e2 : plainB ⟨5, op, dst, args, bits, ref⟩ = (op == 0 && (bits == 0 && ref == 0)) := by simp [plainB]
 have e3 : insR p G ⟨5, op, dst, args, bits, ref⟩ = true := by simp [insR]
 unfold standsB
 rw [fitsK_5, aloneK_5, e1, e2, e3]
 simp only [Bool.and_true]
 ac_rfl
theorem same_6 {p : List Gr} {G : Gr} {op dst : Int} {args : List Int} {bits ref : Int} (h : Typed G) : standsB p G ⟨6, op, dst, args, bits, ref⟩ = (aloneR G ⟨6, op, dst, args, bits, ref⟩ && insR p G ⟨6, op, dst, args, bits, ref⟩) := by
 have e1 : partsB G.vars.length ⟨6, op, dst, args, bits, ref⟩ = (op == 0 && (bits == 0 && (inB dst G.vars.length && (args.all (inB · G.vars.length) && (args.length : Int) == 1)))) := by
  have := len_is args.length 1
  rw [show ((1 : Nat) : Int) = 1 from rfl] at this
  simp only [partsB, hasB]
  rw [← this]
  simp [hasL, Bool.and_assoc]
 have e2 : plainB ⟨6, op, dst, args, bits, ref⟩ = (op == 0 && bits == 0) := by simp [plainB]
 have e3 : insR p G ⟨6, op, dst, args, bits, ref⟩ = true := by simp [insR]
 have e4 : fitsB p G ⟨6, op, dst, args, bits, ref⟩ = (inB ref G.arrs.length && (isOfB G.vars (args.getD 0 0) 4 && isOfB G.vars dst (G.arrs.getD ref.toNat default).1)) := by simp [fitsB, arrOkB]
 unfold standsB
 rw [e4, aloneK_6, e1, e2, e3]
 cases hr : inB ref G.arrs.length with
 | false => simp
 | true =>
  rw [isOf_iff _ 4 rfl, isOf_iff _ _ (h.arr _ hr)]
  by_cases hl : (args.length : Int) = 1
  ·obtain ⟨a, rfl⟩ := one_arg hl
   simp only [List.all_cons, List.all_nil, List.getD_cons_zero, Bool.and_true, Bool.true_and, hl, beq_self_eq_true]
   cases inB a G.vars.length <;> cases inB dst G.vars.length <;> simp [Bool.and_assoc]
  ·rw [beq_false_of_ne hl]
   simp
theorem same_7 {p : List Gr} {G : Gr} {op dst : Int} {args : List Int} {bits ref : Int} (h : Typed G) : standsB p G ⟨7, op, dst, args, bits, ref⟩ = (aloneR G ⟨7, op, dst, args, bits, ref⟩ && insR p G ⟨7, op, dst, args, bits, ref⟩) := by
 have e1 : partsB G.vars.length ⟨7, op, dst, args, bits, ref⟩ = (op == 0 && (bits == 0 && (dst == 0 && (args.all (inB · G.vars.length) && (args.length : Int) == 2)))) := by
  have := len_is args.length 2
  rw [show ((2 : Nat) : Int) = 2 from rfl] at this
  simp only [partsB, hasB]
  rw [← this]
  simp [hasL, Bool.and_assoc]
 have e2 : plainB ⟨7, op, dst, args, bits, ref⟩ = (dst == 0 && (op == 0 && bits == 0)) := by simp [plainB]
 have e3 : insR p G ⟨7, op, dst, args, bits, ref⟩ = true := by simp [insR]
 have e4 : fitsB p G ⟨7, op, dst, args, bits, ref⟩ = (inB ref G.arrs.length && (isOfB G.vars (args.getD 0 0) 4 && isOfB G.vars (args.getD 1 0) (G.arrs.getD ref.toNat default).1)) := by simp [fitsB, arrOkB]
 unfold standsB
 rw [e4, aloneK_7, e1, e2, e3]
 cases hr : inB ref G.arrs.length with
 | false => simp
 | true =>
  rw [isOf_iff _ 4 rfl, isOf_iff _ _ (h.arr _ hr)]
  by_cases hl : (args.length : Int) = 2
  ·obtain ⟨a, b, rfl⟩ := two_arg hl
   simp only [List.all_cons, List.all_nil, List.getD_cons_zero, List.getD_cons_succ, Bool.and_true, Bool.true_and, hl, beq_self_eq_true]
   cases inB a G.vars.length <;> cases inB b G.vars.length <;> cases (dst == 0) <;> simp [Bool.and_assoc]
  ·rw [beq_false_of_ne hl]
   simp
theorem same_8 {p : List Gr} {G : Gr} {op dst : Int} {args : List Int} {bits ref : Int} : standsB p G ⟨8, op, dst, args, bits, ref⟩ = (aloneR G ⟨8, op, dst, args, bits, ref⟩ && insR p G ⟨8, op, dst, args, bits, ref⟩) := by
 have e1 : partsB G.vars.length ⟨8, op, dst, args, bits, ref⟩ = (op == 0 && (bits == 0 && (dst == 0 && (args.all (inB · G.vars.length) && args.length == 0)))) := by
  have := len_is args.length 0
  simp only [Int.natCast_zero] at this
  have e0 : ((args.length : Int) == 0) = (args.length == 0) := by rw [Bool.eq_iff_iff]; simp
  rw [e0] at this
  simp only [partsB, hasB]
  rw [← this]
  simp [hasL, Bool.and_assoc]
 have e2 : plainB ⟨8, op, dst, args, bits, ref⟩ = (dst == 0 && (op == 0 && (bits == 0 && args.length == 0))) := by simp [plainB]
 have e3 : insR p G ⟨8, op, dst, args, bits, ref⟩ = true := by simp [insR]
 have e4 : fitsB p G ⟨8, op, dst, args, bits, ref⟩ = inB ref G.arrs.length := by simp [fitsB, arrOkB]
 unfold standsB
 rw [e4, aloneK_8, e1, e2, e3]
 simp only [Bool.and_true]
 ac_rfl
theorem same_10 {p : List Gr} {G : Gr} {op dst : Int} {args : List Int} {bits ref : Int} : standsB p G ⟨10, op, dst, args, bits, ref⟩ = (aloneR G ⟨10, op, dst, args, bits, ref⟩ && insR p G ⟨10, op, dst, args, bits, ref⟩) := by
 have e1 : partsB G.vars.length ⟨10, op, dst, args, bits, ref⟩ = (op == 0 && (bits == 0 && (ref == 0 && (dst == 0 && (args.all (inB · G.vars.length) && (args.length : Int) == 1))))) := by
  have := len_is args.length 1
  rw [show ((1 : Nat) : Int) = 1 from rfl] at this
  simp only [partsB, hasB]
  rw [← this]
  simp [hasL, Bool.and_assoc]
 have e2 : plainB ⟨10, op, dst, args, bits, ref⟩ = (dst == 0 && (op == 0 && (bits == 0 && ref == 0))) := by simp [plainB]
 have e3 : insR p G ⟨10, op, dst, args, bits, ref⟩ = true := by simp [insR]
 have e4 : fitsB p G ⟨10, op, dst, args, bits, ref⟩ = true := by simp [fitsB]
 unfold standsB
 rw [e4, aloneK_10, e1, e2, e3]
 simp only [Bool.and_true]
 ac_rfl

theorem isOf_any_iff {vars : List Int} {v t : Int} : isOfB vars v t = true ↔ inB v vars.length = true ∧ varT vars v = t ∧ typedB t = true := by
 unfold isOfB varT
 simp only [Bool.and_eq_true, beq_iff_eq, and_assoc]
theorem same_9 {p : List Gr} {G : Gr} {op dst : Int} {args : List Int} {bits ref : Int} (h : Typed G) (hl : args.length ≤ 140737488355328) : standsB p G ⟨9, op, dst, args, bits, ref⟩ = (aloneR G ⟨9, op, dst, args, bits, ref⟩ && insR p G ⟨9, op, dst, args, bits, ref⟩) := by
 have e1 : partsB G.vars.length ⟨9, op, dst, args, bits, ref⟩ = (op == 0 && (bits == 0 && (inB dst G.vars.length && args.all (inB · G.vars.length)))) := by
  simp [partsB, hasB, hasL, len_le_max hl, Bool.and_assoc]
 have e2 : plainB ⟨9, op, dst, args, bits, ref⟩ = (op == 0 && bits == 0) := by simp [plainB]
 have e3 : insR p G ⟨9, op, dst, args, bits, ref⟩ = calledR p G.vars ⟨9, op, dst, args, bits, ref⟩ := by simp [insR]
 have e4 : fitsB p G ⟨9, op, dst, args, bits, ref⟩ = (inB ref p.length && callOkB G.vars ⟨9, op, dst, args, bits, ref⟩ (p.getD ref.toNat default)) := by simp [fitsB]
 unfold standsB
 rw [e4, aloneK_9, e1, e2, e3]
 unfold calledR callOkB
 dsimp only
 generalize p.getD ref.toNat default = F
 cases hd : inB dst G.vars.length with
 | false => simp
 | true =>
  cases ha : args.all (inB · G.vars.length) with
  | false => simp
  | true =>
   cases hr : inB ref p.length with
   | false => simp
   | true =>
    rw [decide_eq_true (inB_iff.1 hr).1]
    simp only [Bool.and_true, Bool.true_and]
    congr 1
    have har : ∀ i, i < args.length → inB (args.getD i 0) G.vars.length = true := fun i hi => List.all_eq_true.1 ha _ (getD_mem hi)
    rw [Bool.eq_iff_iff]
    simp only [Bool.and_eq_true, beq_iff_eq, List.all_eq_true, List.mem_range, isOf_any_iff]
    unfold callOk
    simp only [Bool.and_eq_true, isOf_any_iff]
    constructor
    ·rintro ⟨h1, h2, h3, h4, h5⟩
     have hlen : F.params.length = args.length := by omega
     refine ⟨hlen, fun x hx => ?_, h4, fun i hi => ?_⟩
     ·obtain ⟨j, hj, rfl⟩ := mem_getD hx
      exact (h2 j hj).1
     ·exact (h2 i (by omega)).2.2.1
    ·rintro ⟨h1, h2, h3, h4⟩
     refine ⟨by omega, fun i hi => ⟨h2 _ (getD_mem hi), har i (by omega), h4 i (by omega), ?_⟩, hd, h3, ?_⟩
     ·rw [← h4 i (by omega)]
      exact h.var _ (har i (by omega))
     ·rw [← h3]
      exact h.var _ hd
theorem ins_same {p : List Gr} {G : Gr} (h : Typed G) (x : In) (hl : x.args.length ≤ 140737488355328) : standsB p G x = (aloneR G x && insR p G x) := by
 obtain ⟨k, op, dst, args, bits, ref⟩ := x
 dsimp only at hl
 by_cases h1 : 1 ≤ k
 ·by_cases h10 : k ≤ 10
  ·have hk : k = 1 ∨ k = 2 ∨ k = 3 ∨ k = 4 ∨ k = 5 ∨ k = 6 ∨ k = 7 ∨ k = 8 ∨ k = 9 ∨ k = 10 := by omega
   rcases hk with rfl | rfl | rfl | rfl | rfl | rfl | rfl | rfl | rfl | rfl
   ·exact same_1 h hl
   ·exact same_2
   ·exact same_3 h
   ·exact same_4
   ·exact same_5
   ·exact same_6 h
   ·exact same_7 h
   ·exact same_8
   ·exact same_9 h hl
   ·exact same_10
  ·unfold standsB partsB aloneR
   rw [decide_eq_false h10]
   simp
 ·unfold standsB partsB aloneR
  rw [decide_eq_false h1]
  simp
/- Phis. -/
theorem phi_none {i : Int} {na : Nat} : ∀ (L : List In) (st : List Int), (∃ x ∈ L, x.kind = 1) → phiF i na L false st = none
 | x :: xs, st, h => by
  unfold phiF
  by_cases hx : x.kind = 1
  ·rw [if_pos hx, if_neg (by simp)]
  ·rw [if_neg hx]
   refine phi_none xs st ?_
   obtain ⟨y, hy, hk⟩ := h
   rcases List.mem_cons.1 hy with rfl | hy
   ·exact absurd hk hx
   ·exact ⟨y, hy, hk⟩
 | [], _, h => by obtain ⟨_, hm, _⟩ := h; cases hm
theorem phi_some {i : Int} {na : Nat} : ∀ (L : List In) (st : List Int), (∀ x ∈ L, x.kind ≠ 1) → phiF i na L false st = some st
 | x :: xs, st, h => by
  unfold phiF
  rw [if_neg (h x (by simp))]
  exact phi_some xs st fun y hy => h y (by simp [hy])
 | [], _, _ => rfl
theorem phiR_some {i na : Nat} : ∀ (L : List In) (k : Nat) (st : List Int), (∀ x ∈ L, x.kind ≠ 1) → phiR i na L k st = true
 | x :: xs, k, st, h => by
  unfold phiR
  rw [if_neg (h x (by simp))]
  exact phiR_some xs (k + 1) st fun y hy => h y (by simp [hy])
 | [], _, _, _ => rfl
theorem phiR_none {i na : Nat} : ∀ (L : List In) (k : Nat) (st : List Int), st.length < k → (∃ x ∈ L, x.kind = 1) → phiR i na L k st = false
 | x :: xs, k, st, hlt, h => by
  unfold phiR
  by_cases hx : x.kind = 1
  ·rw [if_pos hx, decide_eq_false (show ¬ st.length = k by omega)]
   simp
  ·rw [if_neg hx]
   refine phiR_none xs (k + 1) st (by omega) ?_
   obtain ⟨y, hy, hk⟩ := h
   rcases List.mem_cons.1 hy with rfl | hy
   ·exact absurd hk hx
   ·exact ⟨y, hy, hk⟩
 | [], _, _, _, h => by obtain ⟨_, hm, _⟩ := h; cases hm
theorem phiR_zero {na : Nat} : ∀ (L : List In) (k : Nat) (S : List Int), (∃ x ∈ L, x.kind = 1) → phiR 0 na L k S = false
 | x :: xs, k, S, h => by
  unfold phiR
  by_cases hx : x.kind = 1
  ·rw [if_pos hx]
   simp
  ·rw [if_neg hx]
   refine phiR_zero xs (k + 1) S ?_
   obtain ⟨y, hy, hk⟩ := h
   rcases List.mem_cons.1 hy with rfl | hy
   ·exact absurd hk hx
   ·exact ⟨y, hy, hk⟩
 | [], _, _, h => by obtain ⟨_, hm, _⟩ := h; cases hm
/-- What a block's head has set so far: both sides' notes of it. -/
def Marks (i : Nat) (m : Nat) (S : List Int) (st : List Int) : Prop := st.length = m ∧ ∀ d : Nat, d < m → (st.getD d 0 = (i : Int) ↔ (d : Int) ∈ S)
theorem phi_head {i na m : Nat} (hi : 0 < i) : ∀ (L : List In) (S st : List Int), Marks i m S st → (∀ x ∈ L, x.kind = 1 → inB x.dst m = true) →
  (phiF (i : Int) na L true st).isSome = phiR i na L S.length S
 | x :: xs, S, st, hM, hd => by
  unfold phiF phiR
  by_cases hx : x.kind = 1
  ·rw [if_pos hx, if_pos hx]
   have hin := hd x (by simp) hx
   obtain ⟨d, hdd⟩ : ∃ d : Nat, x.dst = (d : Int) := Int.eq_ofNat_of_zero_le (inB_iff.1 hin).1
   have hdm : d < m := by have := (inB_iff.1 hin).2; omega
   have hmem : st.getD x.dst.toNat 0 = (i : Int) ↔ x.dst ∈ S := by rw [hdd, Int.toNat_natCast]; exact hM.2 d hdm
   rw [decide_eq_true (show i ≠ 0 by omega), decide_eq_true (rfl : S.length = S.length)]
   by_cases hna : x.args.length = na
   ·rw [decide_eq_true hna]
    by_cases hS : x.dst ∈ S
    ·rw [if_neg (by intro hh; exact hh.2.2 (hmem.2 hS)), decide_eq_false (fun hh => plcF_iff.1 hh hS)]
     rfl
    ·rw [if_pos ⟨rfl, hna, fun hh => hS (hmem.1 hh)⟩, decide_eq_true (plcF_iff.2 hS)]
     have hl : S.length + 1 = (S ++ [x.dst]).length := by simp
     rw [hl, phi_head hi xs (S ++ [x.dst]) (st.set x.dst.toNat (i : Int)) ?_ (fun y hy => hd y (by simp [hy]))]
     ·rfl
     ·refine ⟨by simp [hM.1], fun e he => ?_⟩
      rw [hdd, Int.toNat_natCast]
      have hds : d < st.length := by rw [hM.1]; exact hdm
      by_cases hed : d = e
      ·subst hed
       simp [List.getD, hds]
      ·have h1 : (st.set d (i : Int)).getD e 0 = st.getD e 0 := by simp [List.getD, hed]
       rw [h1, hM.2 e he]
       simp only [List.mem_append, List.mem_singleton]
       constructor
       ·intro hh; exact .inl hh
       ·rintro (hh | hh)
        ·exact hh
        ·omega
   ·rw [if_neg (by intro hh; exact hna hh.2.1), decide_eq_false hna]
    rfl
  ·rw [if_neg hx, if_neg hx]
   by_cases hex : ∃ y ∈ xs, y.kind = 1
   ·rw [phi_none xs st hex, phiR_none xs (S.length + 1) S (by omega) hex]
    rfl
   ·have hno : ∀ y ∈ xs, y.kind ≠ 1 := fun y hy hk => hex ⟨y, hy, hk⟩
    rw [phi_some xs st hno, phiR_some xs (S.length + 1) S hno]
    rfl
 | [], S, st, _, _ => by unfold phiF phiR; rfl
theorem phi_le {i : Int} {na : Nat} : ∀ (L : List In) (hd : Bool) (st st' : List Int), phiF i na L hd st = some st' → (∀ d, st.getD d 0 < i) ∨ (∀ d, st.getD d 0 ≤ i) → ∀ d, st'.getD d 0 ≤ i
 | x :: xs, hd, st, st', h, hst => by
  have hle : ∀ d, st.getD d 0 ≤ i := by
   rcases hst with hs | hs
   ·intro d; have := hs d; omega
   ·exact hs
  unfold phiF at h
  split at h
  ·split at h
   ·refine phi_le xs hd _ st' h (.inr fun d => ?_)
    by_cases hdd : x.dst.toNat = d
    ·subst hdd
     by_cases hlt : x.dst.toNat < st.length
     ·simp [List.getD, hlt]
     ·have := hle x.dst.toNat
      rw [List.set_eq_of_length_le (by omega)]
      exact this
    ·have := hle d
     simpa [List.getD, hdd] using this
   ·cases h
  ·exact phi_le xs false st st' h (.inr hle)
 | [], _, st, st', h, hst => by
  unfold phiF at h
  cases h
  rcases hst with hs | hs
  ·intro d; have := hs d; omega
  ·exact hs
theorem phis_same {rows : List (List Int)} {m : Nat} : ∀ (bs : List Bl) (i : Nat) (st : List Int), st.length = m → (∀ d, st.getD d 0 < (i : Int) ∨ i = 0) → (i = 0 → ∀ d, st.getD d 0 = 0) → (∀ b ∈ bs, ∀ x ∈ b.ins, x.kind = 1 → inB x.dst m = true) →
  phisF rows bs i st = phisRF rows bs i
 | b :: bs, i, st, hl, h1, h0, hd => by
  unfold phisF phisRF
  have hdb := hd b (by simp)
  by_cases hi : i = 0
  ·subst hi
   rw [decide_eq_false (show ¬ 0 < 0 by omega)]
   by_cases hex : ∃ y ∈ b.ins, y.kind = 1
   ·rw [phi_none b.ins st hex]
    rw [phiR_zero b.ins 0 [] hex]
    rfl
   ·have hno : ∀ y ∈ b.ins, y.kind ≠ 1 := fun y hy hk => hex ⟨y, hy, hk⟩
    rw [phi_some b.ins st hno, phiR_some b.ins 0 [] hno, Bool.true_and]
    exact phis_same bs 1 st hl (fun d => .inl (by rw [h0 rfl d]; decide)) (fun h => by cases h) (fun b hb => hd b (by simp [hb]))
  ·have hi' : 0 < i := by omega
   rw [decide_eq_true hi']
   have hlt : ∀ d, st.getD d 0 < (i : Int) := fun d => by
    rcases h1 d with h | h
    ·exact h
    ·exact absurd h hi
   have hh := phi_head (na := (rows.getD i []).length) hi' b.ins [] st ⟨hl, fun d _ => ⟨fun e => by have := hlt d; omega, fun e => by cases e⟩⟩ hdb
   rw [show ([] : List Int).length = 0 from rfl] at hh
   rw [← hh]
   cases hp : phiF (i : Int) (rows.getD i []).length b.ins true st with
   | none => rfl
   | some st' =>
    simp only [Option.isSome_some, Bool.true_and]
    have hle := phi_le b.ins true st st' hp (.inl hlt)
    refine phis_same bs (i + 1) st' (by rw [phiF_len hp]; exact hl) (fun d => .inl ?_) (fun h => by omega) (fun b hb => hd b (by simp [hb]))
    have := hle d
    omega
 | [], _, _, _, _, _, _ => rfl
theorem phisB_same {G : Gr} (hd : ∀ b ∈ G.blocks, ∀ x ∈ b.ins, x.kind = 1 → inB x.dst G.vars.length = true) : phisB G = phisR G := by
 unfold phisB phisR
 refine phis_same G.blocks 0 _ (by simp) (fun d => .inr rfl) (fun _ d => ?_) hd
 simp [List.getD, List.getElem?_replicate]
 split <;> rfl
theorem graph_same {p : List Gr} {G : Gr} (hl : ∀ b ∈ G.blocks, ∀ x ∈ b.ins, x.args.length ≤ 140737488355328) : graphB p G = rightR p G := by
 unfold graphB rightR aloneG
 have hh := head_same G
 by_cases hs : sizesB G = true ∧ typesB G = true ∧ paramsB G = true
 ·obtain ⟨h1, h2, h3⟩ := hs
  rw [h1, h2, h3] at hh
  rw [hh, h1, h2, h3]
  simp only [Bool.true_and]
  have hT := typed_of h2
  have e1 : (G.blocks.all fun b => endB G b.tm) = G.blocks.all fun b => rendB G b.tm := by congr 1; funext b; exact end_same hT b.tm
  have e2 : (G.blocks.all fun b => b.ins.all (standsB p G)) = ((G.blocks.all fun b => b.ins.all (aloneR G)) && G.blocks.all (bodyR p G)) := by
   rw [Bool.eq_iff_iff]
   simp only [Bool.and_eq_true, List.all_eq_true, bodyR]
   constructor
   ·intro h
    refine ⟨fun b hb x hx => ?_, fun b hb x hx => ?_⟩
    ·have := h b hb x hx
     rw [ins_same hT x (hl b hb x hx), Bool.and_eq_true] at this
     exact this.1
    ·have := h b hb x hx
     rw [ins_same hT x (hl b hb x hx), Bool.and_eq_true] at this
     exact this.2
   ·rintro ⟨ha, hb'⟩ b hb x hx
    rw [ins_same hT x (hl b hb x hx), Bool.and_eq_true]
    exact ⟨ha b hb x hx, hb' b hb x hx⟩
  have e3 : G.blocks.all (blockR G) = ((G.blocks.all fun b => rendB G b.tm) && (G.blocks.all fun b => b.ins.all (aloneR G))) := by
   rw [Bool.eq_iff_iff]
   simp only [Bool.and_eq_true, List.all_eq_true, blockR]
   exact ⟨fun h => ⟨fun b hb => (h b hb).1, fun b hb => (h b hb).2⟩, fun h b hb => ⟨h.1 b hb, h.2 b hb⟩⟩
  rw [e1, e2, e3]
  cases ha : (G.blocks.all fun b => b.ins.all (aloneR G)) with
  | false => simp
  | true =>
   have hd : ∀ b ∈ G.blocks, ∀ x ∈ b.ins, x.kind = 1 → inB x.dst G.vars.length = true := fun b hb x hx hk => aloneR_dst (List.all_eq_true.1 (List.all_eq_true.1 ha b hb) x hx) (by omega)
   rw [phisB_same hd]
   simp only [Bool.and_true, Bool.true_and]
   ac_rfl
 ·have hf : headR G = false := by
   rw [hh]
   cases h1 : sizesB G <;> cases h2 : typesB G <;> cases h3 : paramsB G <;> simp_all
  rw [hf]
  have hg : (sizesB G && (typesB G && paramsB G)) = false := by rw [← hh]; exact hf
  generalize (G.blocks.all fun b => endB G b.tm) = q1
  generalize (G.blocks.all fun b => b.ins.all (standsB p G)) = q2
  generalize phisB G = q3
  revert hg
  generalize sizesB G = a
  generalize typesB G = b
  generalize paramsB G = c
  cases a <;> cases b <;> cases c <;> simp
end Go.Proofs.YtajaijilfclhpaaGreatDoor
