/- Nothing put to a list. -/
import Derived.Test.YtogjjmbcbnceoaaGreatDMem
import Derived.Deep.Upon
import Derived.ArgAppend
namespace Go.Proofs.YtogjjmbcbnceoaaGreat
open Go.RowKit

theorem append_none (base : Option Addr) (n c : Nat) (hle : n ≤ c) (a : Option Addr) (c2 : Nat) (W : World) : (Builtin.append_ #[23, 23] 23 #[.slice base n c, .slice a 0 c2]).run Tryz.prog W = .ok (.slice base n c) W := by
  obtain ⟨i0, hi0, hz0, hz1, hz2⟩ := info_parts infoI
  refine run_append_nothing W 23 23 23 3 i0 Tryz.underlying23 hi0 base n c hle _ ?_
  refine ⟨.inl ⟨_, Tryz.underlying23⟩, fun w' => by simp [Builtin.lenOf], ?_, ?_, by simp, by simp⟩
  · cases a with
    | none => simp [Builtin.firstCells]
    | some a => simp [Builtin.firstCells]; first | rfl | simp [loadCells]
  · cases a with
    | none => simp [Builtin.firstCells]
    | some a => simp [Builtin.firstCells]; first | rfl | simp [loadCells]
theorem wpList_append_none {P : Program} (w : World) {ops : Array Oper} {rest : List Oper} {o : Oper} {a : Act} {Q : Exit → Act → World → Prop}
    (hg : o.guard = none) (s x : Operand) (t : TypeId) (hop : o.op = Op.call { callee := Callee.builtin Builtin.append, args := #[s, x], argTypes := #[t, t] }) (v y : Value) (hs : a.eval s = v) (hx : a.eval x = y)
    (hrun : (Builtin.append_ #[t, t] o.type #[v, y]).run P w = .ok v w) (hK : wpList P ops Q rest (a.put o.dst v) w) : wpList P ops Q (o :: rest) a w := by
  refine wpList_plain hg fun K hK' => ?_
  unfold Oper.wp
  simp [execOp, hop, resolve, invoke, builtin, hs, hx, hrun, Result.andThen]
  exact hK' _ _ hK
end Go.Proofs.YtogjjmbcbnceoaaGreat
