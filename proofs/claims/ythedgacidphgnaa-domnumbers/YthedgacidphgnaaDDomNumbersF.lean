/- The row's closed facts, one by one. -/
import Derived.Test.YthedgacidphgnaaRows
import Derived.Test.YthedgacidphgnaaChecked
import Derived.ProofKit
import Derived.Stop.Joined
namespace Go.Proofs.Ythedgacidphgnaa.domNumbers
open Go

theorem p1 : Rows.domNumbersRow.wf (OpenSpec.ofChange Rows.domNumbersSpec) = true := by kernel_rfl
theorem p2 : laidOutB Try.prog = true := by kernel_rfl
theorem p3 : mapsRowed Try.prog = true := by kernel_rfl
theorem p4 : (Rows.domNumbersRow.inPlace == Try.prog.inPlace 5) = true := by kernel_rfl
theorem p5 : (Rows.domNumbersRow.unfollowed == Try.prog.unfollowed 5) = true := by kernel_rfl
theorem p6 : (Rows.domNumbersRow.recurses == Try.prog.recurses 5) = true := by kernel_rfl
theorem p7 : (Rows.domNumbersRow.named == Try.prog.varsNamed 5) = true := by kernel_rfl
theorem p8 : Try.prog.stopsHeard = true := by kernel_rfl
theorem p9 : Try.prog.mayEnter = true := by kernel_rfl
theorem p10 : (Rows.domNumbersRow.lifted == Try.prog.liftsFinal) = true := by kernel_rfl
theorem p11 : (Rows.domNumbersRow.plainKeys == Try.prog.plainKeys) = true := by kernel_rfl
theorem p12 : namedTie Try.prog Rows.domNumbersRow.named Rows.domNumbersSpec.vars = true := by kernel_rfl
theorem facts : joinedFacts Try.prog 5 Try.f5 Rows.domNumbersSpec Rows.domNumbersRow = true := by
  unfold joinedFacts
  rw [p1, p2, p3, p4, p5, p6, p7, p8, p9, p10, p11, p12]
  kernel_rfl
end Go.Proofs.Ythedgacidphgnaa.domNumbers
