/- Both sides of Check are one: instructions. -/
import Derived.Test.YtdibkfiffdbfnaaDoorGEqM
namespace Go.Proofs.YtdibkfiffdbfnaaDoor
open Go.RowKit

theorem len_le_max {n : Nat} (h : n ≤ 140737488355328) : decide ((n : Int) ≤ 9223372036854775807) = true := decide_eq_true (by omega)
theorem len_ge (n : Nat) : decide ((0 : Int) ≤ (n : Int)) = true := decide_eq_true (by omega)
theorem len_is (n k : Nat) : (decide ((k : Int) ≤ (n : Int)) && decide ((n : Int) ≤ (k : Int))) = ((n : Int) == (k : Int)) := by
  rw [Bool.eq_iff_iff]
  simp
  omega
theorem same_1 {p : List Gr} {G : Gr} {op dst : Int} {args : List Int} {bits ref : Int} (h : Typed G) (hl : args.length ≤ 140737488355328) : standsB p G ⟨1, op, dst, args, bits, ref⟩ = (aloneR G ⟨1, op, dst, args, bits, ref⟩ && insR p G ⟨1, op, dst, args, bits, ref⟩) := by
  have e1 : partsB G.vars.length ⟨1, op, dst, args, bits, ref⟩ = (op == 0 && (bits == 0 && (ref == 0 && (inB dst G.vars.length && args.all (inB · G.vars.length))))) := by
    simp [partsB, hasB, hasL, len_le_max hl, Bool.and_assoc]
  have e2 : plainB ⟨1, op, dst, args, bits, ref⟩ = (op == 0 && (bits == 0 && ref == 0)) := by simp [plainB]
  have e3 : insR p G ⟨1, op, dst, args, bits, ref⟩ = true := by simp [insR]
  unfold standsB
  rw [fitsK_1, aloneK_1, e1, e2, e3]
  unfold alikeB
  dsimp only
  cases hd : inB dst G.vars.length with
  | false => simp
  | true =>
    rw [h.var _ hd]
    simp only [Bool.and_true, Bool.true_and]
    ac_rfl
theorem same_2 {p : List Gr} {G : Gr} {op dst : Int} {args : List Int} {bits ref : Int} : standsB p G ⟨2, op, dst, args, bits, ref⟩ = (aloneR G ⟨2, op, dst, args, bits, ref⟩ && insR p G ⟨2, op, dst, args, bits, ref⟩) := by
  have e1 : partsB G.vars.length ⟨2, op, dst, args, bits, ref⟩ = (op == 0 && (ref == 0 && (inB dst G.vars.length && (args.all (inB · G.vars.length) && args.length == 0)))) := by
    have := len_is args.length 0
    simp only [Int.natCast_zero] at this
    have e0 : ((args.length : Int) == 0) = (args.length == 0) := by rw [Bool.eq_iff_iff]; simp
    rw [e0] at this
    simp only [partsB, hasB]
    rw [← this]
    simp [hasL, Bool.and_assoc]
  have e2 : plainB ⟨2, op, dst, args, bits, ref⟩ = (op == 0 && (ref == 0 && args.length == 0)) := by simp [plainB]
  have e3 : insR p G ⟨2, op, dst, args, bits, ref⟩ = true := by simp [insR]
  unfold standsB
  rw [fitsK_2, aloneK_2, e1, e2, e3]
  simp only [Bool.and_true]
  ac_rfl
theorem one_arg {args : List Int} (h : (args.length : Int) = 1) : ∃ a, args = [a] := by
  match args, h with
  | [a], _ => exact ⟨a, rfl⟩
  | [], h => simp at h
  | _ :: _ :: _, h => simp at h; omega
theorem two_arg {args : List Int} (h : (args.length : Int) = 2) : ∃ a b, args = [a, b] := by
  match args, h with
  | [a, b], _ => exact ⟨a, b, rfl⟩
  | [], h => simp at h
  | [_], h => simp at h
  | _ :: _ :: _ :: _, h => simp at h; omega
theorem parts_n (k : Nat) (n : Nat) : (decide ((k : Int) ≤ (n : Int)) && decide ((n : Int) ≤ (k : Int))) = ((n : Int) == (k : Int)) := len_is n k
theorem same_3 {p : List Gr} {G : Gr} {op dst : Int} {args : List Int} {bits ref : Int} (h : Typed G) : standsB p G ⟨3, op, dst, args, bits, ref⟩ = (aloneR G ⟨3, op, dst, args, bits, ref⟩ && insR p G ⟨3, op, dst, args, bits, ref⟩) := by
  have e1 : partsB G.vars.length ⟨3, op, dst, args, bits, ref⟩ = (op == 0 && (bits == 0 && (ref == 0 && (inB dst G.vars.length && (args.all (inB · G.vars.length) && (args.length : Int) == 1))))) := by
    have := len_is args.length 1
    rw [show ((1 : Nat) : Int) = 1 from rfl] at this
    simp only [partsB, hasB]
    rw [← this]
    simp [hasL, Bool.and_assoc]
  have e2 : plainB ⟨3, op, dst, args, bits, ref⟩ = (op == 0 && (bits == 0 && ref == 0)) := by simp [plainB]
  have e3 : insR p G ⟨3, op, dst, args, bits, ref⟩ = true := by simp [insR]
  unfold standsB
  rw [fitsK_3, aloneK_3, e1, e2, e3]
  unfold alikeB
  dsimp only
  cases hd : inB dst G.vars.length with
  | false => simp
  | true =>
    rw [h.var _ hd]
    by_cases hl : (args.length : Int) = 1
    · obtain ⟨a, rfl⟩ := one_arg hl
      simp only [List.all_cons, List.all_nil, List.getD_cons_zero, Bool.and_true, Bool.true_and, hl, beq_self_eq_true]
      ac_rfl
    · rw [beq_false_of_ne hl]
      simp
theorem ofB_range {o t : Int} (h : ofB o t = true) : 1 ≤ o ∧ o ≤ 18 := by
  unfold ofB at h
  split at h
  · omega
  split at h
  · omega
  split at h
  · omega
  split at h
  · omega
  split at h
  · omega
  · cases h
theorem nOp_range (o : Int) : nOp o = 1 ∨ nOp o = 2 := by
  unfold nOp
  split <;> simp
theorem same_4 {p : List Gr} {G : Gr} {op dst : Int} {args : List Int} {bits ref : Int} : standsB p G ⟨4, op, dst, args, bits, ref⟩ = (aloneR G ⟨4, op, dst, args, bits, ref⟩ && insR p G ⟨4, op, dst, args, bits, ref⟩) := by
  have e1 : partsB G.vars.length ⟨4, op, dst, args, bits, ref⟩ = (bits == 0 && (ref == 0 && (inB dst G.vars.length && (args.all (inB · G.vars.length) && (decide (1 ≤ (args.length : Int)) && decide ((args.length : Int) ≤ 2)))))) := by
    simp [partsB, hasB, hasL, Bool.and_assoc]
  have e2 : plainB ⟨4, op, dst, args, bits, ref⟩ = (bits == 0 && ref == 0) := by simp [plainB]
  have e3 : insR p G ⟨4, op, dst, args, bits, ref⟩ = true := by simp [insR]
  unfold standsB
  rw [fitsK_4, aloneK_4, e1, e2, e3]
  unfold opOkB opR
  dsimp only
  by_cases hl : (args.length : Int) = nOp op
  · have hr := nOp_range op
    rw [beq_iff_eq.2 hl, decide_eq_true (show 1 ≤ (args.length : Int) by omega), decide_eq_true (show (args.length : Int) ≤ 2 by omega)]
    cases ho : ofB op (varT G.vars (args.getD 0 0)) with
    | false => simp
    | true =>
      have hq := ofB_range ho
      rw [decide_eq_true hq.1, decide_eq_true hq.2]
      simp only [Bool.and_true, Bool.true_and]
      ac_rfl
  · rw [beq_false_of_ne hl]
    simp
theorem same_5 {p : List Gr} {G : Gr} {op dst : Int} {args : List Int} {bits ref : Int} : standsB p G ⟨5, op, dst, args, bits, ref⟩ = (aloneR G ⟨5, op, dst, args, bits, ref⟩ && insR p G ⟨5, op, dst, args, bits, ref⟩) := by
  have e1 : partsB G.vars.length ⟨5, op, dst, args, bits, ref⟩ = (op == 0 && (bits == 0 && (ref == 0 && (inB dst G.vars.length && (args.all (inB · G.vars.length) && (args.length : Int) == 1))))) := by
    have := len_is args.length 1
    rw [show ((1 : Nat) : Int) = 1 from rfl] at this
    simp only [partsB, hasB]
    rw [← this]
    simp [hasL, Bool.and_assoc]
  have e2 : plainB ⟨5, op, dst, args, bits, ref⟩ = (op == 0 && (bits == 0 && ref == 0)) := by simp [plainB]
  have e3 : insR p G ⟨5, op, dst, args, bits, ref⟩ = true := by simp [insR]
  unfold standsB
  rw [fitsK_5, aloneK_5, e1, e2, e3]
  simp only [Bool.and_true]
  ac_rfl
theorem same_6 {p : List Gr} {G : Gr} {op dst : Int} {args : List Int} {bits ref : Int} (h : Typed G) : standsB p G ⟨6, op, dst, args, bits, ref⟩ = (aloneR G ⟨6, op, dst, args, bits, ref⟩ && insR p G ⟨6, op, dst, args, bits, ref⟩) := by
  have e1 : partsB G.vars.length ⟨6, op, dst, args, bits, ref⟩ = (op == 0 && (bits == 0 && (inB dst G.vars.length && (args.all (inB · G.vars.length) && (args.length : Int) == 1)))) := by
    have := len_is args.length 1
    rw [show ((1 : Nat) : Int) = 1 from rfl] at this
    simp only [partsB, hasB]
    rw [← this]
    simp [hasL, Bool.and_assoc]
  have e2 : plainB ⟨6, op, dst, args, bits, ref⟩ = (op == 0 && bits == 0) := by simp [plainB]
  have e3 : insR p G ⟨6, op, dst, args, bits, ref⟩ = true := by simp [insR]
  have e4 : fitsB p G ⟨6, op, dst, args, bits, ref⟩ = (inB ref G.arrs.length && (isOfB G.vars (args.getD 0 0) 4 && isOfB G.vars dst (G.arrs.getD ref.toNat default).1)) := by simp [fitsB, arrOkB]
  unfold standsB
  rw [e4, aloneK_6, e1, e2, e3]
  cases hr : inB ref G.arrs.length with
  | false => simp
  | true =>
    rw [isOf_iff _ 4 rfl, isOf_iff _ _ (h.arr _ hr)]
    by_cases hl : (args.length : Int) = 1
    · obtain ⟨a, rfl⟩ := one_arg hl
      simp only [List.all_cons, List.all_nil, List.getD_cons_zero, Bool.and_true, Bool.true_and, hl, beq_self_eq_true]
      cases inB a G.vars.length <;> cases inB dst G.vars.length <;> simp [Bool.and_assoc]
    · rw [beq_false_of_ne hl]
      simp
theorem same_7 {p : List Gr} {G : Gr} {op dst : Int} {args : List Int} {bits ref : Int} (h : Typed G) : standsB p G ⟨7, op, dst, args, bits, ref⟩ = (aloneR G ⟨7, op, dst, args, bits, ref⟩ && insR p G ⟨7, op, dst, args, bits, ref⟩) := by
  have e1 : partsB G.vars.length ⟨7, op, dst, args, bits, ref⟩ = (op == 0 && (bits == 0 && (dst == 0 && (args.all (inB · G.vars.length) && (args.length : Int) == 2)))) := by
    have := len_is args.length 2
    rw [show ((2 : Nat) : Int) = 2 from rfl] at this
    simp only [partsB, hasB]
    rw [← this]
    simp [hasL, Bool.and_assoc]
  have e2 : plainB ⟨7, op, dst, args, bits, ref⟩ = (dst == 0 && (op == 0 && bits == 0)) := by simp [plainB]
  have e3 : insR p G ⟨7, op, dst, args, bits, ref⟩ = true := by simp [insR]
  have e4 : fitsB p G ⟨7, op, dst, args, bits, ref⟩ = (inB ref G.arrs.length && (isOfB G.vars (args.getD 0 0) 4 && isOfB G.vars (args.getD 1 0) (G.arrs.getD ref.toNat default).1)) := by simp [fitsB, arrOkB]
  unfold standsB
  rw [e4, aloneK_7, e1, e2, e3]
  cases hr : inB ref G.arrs.length with
  | false => simp
  | true =>
    rw [isOf_iff _ 4 rfl, isOf_iff _ _ (h.arr _ hr)]
    by_cases hl : (args.length : Int) = 2
    · obtain ⟨a, b, rfl⟩ := two_arg hl
      simp only [List.all_cons, List.all_nil, List.getD_cons_zero, List.getD_cons_succ, Bool.and_true, Bool.true_and, hl, beq_self_eq_true]
      cases inB a G.vars.length <;> cases inB b G.vars.length <;> cases (dst == 0) <;> simp [Bool.and_assoc]
    · rw [beq_false_of_ne hl]
      simp
theorem same_8 {p : List Gr} {G : Gr} {op dst : Int} {args : List Int} {bits ref : Int} : standsB p G ⟨8, op, dst, args, bits, ref⟩ = (aloneR G ⟨8, op, dst, args, bits, ref⟩ && insR p G ⟨8, op, dst, args, bits, ref⟩) := by
  have e1 : partsB G.vars.length ⟨8, op, dst, args, bits, ref⟩ = (op == 0 && (bits == 0 && (dst == 0 && (args.all (inB · G.vars.length) && args.length == 0)))) := by
    have := len_is args.length 0
    simp only [Int.natCast_zero] at this
    have e0 : ((args.length : Int) == 0) = (args.length == 0) := by rw [Bool.eq_iff_iff]; simp
    rw [e0] at this
    simp only [partsB, hasB]
    rw [← this]
    simp [hasL, Bool.and_assoc]
  have e2 : plainB ⟨8, op, dst, args, bits, ref⟩ = (dst == 0 && (op == 0 && (bits == 0 && args.length == 0))) := by simp [plainB]
  have e3 : insR p G ⟨8, op, dst, args, bits, ref⟩ = true := by simp [insR]
  have e4 : fitsB p G ⟨8, op, dst, args, bits, ref⟩ = inB ref G.arrs.length := by simp [fitsB, arrOkB]
  unfold standsB
  rw [e4, aloneK_8, e1, e2, e3]
  simp only [Bool.and_true]
  ac_rfl
theorem same_10 {p : List Gr} {G : Gr} {op dst : Int} {args : List Int} {bits ref : Int} : standsB p G ⟨10, op, dst, args, bits, ref⟩ = (aloneR G ⟨10, op, dst, args, bits, ref⟩ && insR p G ⟨10, op, dst, args, bits, ref⟩) := by
  have e1 : partsB G.vars.length ⟨10, op, dst, args, bits, ref⟩ = (op == 0 && (bits == 0 && (ref == 0 && (dst == 0 && (args.all (inB · G.vars.length) && (args.length : Int) == 1))))) := by
    have := len_is args.length 1
    rw [show ((1 : Nat) : Int) = 1 from rfl] at this
    simp only [partsB, hasB]
    rw [← this]
    simp [hasL, Bool.and_assoc]
  have e2 : plainB ⟨10, op, dst, args, bits, ref⟩ = (dst == 0 && (op == 0 && (bits == 0 && ref == 0))) := by simp [plainB]
  have e3 : insR p G ⟨10, op, dst, args, bits, ref⟩ = true := by simp [insR]
  have e4 : fitsB p G ⟨10, op, dst, args, bits, ref⟩ = true := by simp [fitsB]
  unfold standsB
  rw [e4, aloneK_10, e1, e2, e3]
  simp only [Bool.and_true]
  ac_rfl
end Go.Proofs.YtdibkfiffdbfnaaDoor
