/- The row's closed facts, one by one. -/
import Derived.Test.YtbbfnladoaimpaaRows
import Derived.Test.YtbbfnladoaimpaaChecked
import Derived.ProofKit
import Derived.Stop.Joined
namespace Go.Proofs.Ytbbfnladoaimpaa.frontNumbers
open Go

theorem p1 : Rows.frontNumbersRow.wf (OpenSpec.ofChange Rows.frontNumbersSpec) = true := by kernel_rfl
theorem p2 : laidOutB Try.prog = true := by kernel_rfl
theorem p3 : mapsRowed Try.prog = true := by kernel_rfl
theorem p4 : (Rows.frontNumbersRow.inPlace == Try.prog.inPlace 5) = true := by kernel_rfl
theorem p5 : (Rows.frontNumbersRow.unfollowed == Try.prog.unfollowed 5) = true := by kernel_rfl
theorem p6 : (Rows.frontNumbersRow.recurses == Try.prog.recurses 5) = true := by kernel_rfl
theorem p7 : (Rows.frontNumbersRow.named == Try.prog.varsNamed 5) = true := by kernel_rfl
theorem p8 : Try.prog.stopsHeard = true := by kernel_rfl
theorem p9 : Try.prog.mayEnter = true := by kernel_rfl
theorem p10 : (Rows.frontNumbersRow.lifted == Try.prog.liftsFinal) = true := by kernel_rfl
theorem p11 : (Rows.frontNumbersRow.plainKeys == Try.prog.plainKeys) = true := by kernel_rfl
theorem p12 : namedTie Try.prog Rows.frontNumbersRow.named Rows.frontNumbersSpec.vars = true := by kernel_rfl
theorem facts : joinedFacts Try.prog 5 Try.f5 Rows.frontNumbersSpec Rows.frontNumbersRow = true := by
  unfold joinedFacts
  rw [p1, p2, p3, p4, p5, p6, p7, p8, p9, p10, p11, p12]
  kernel_rfl
end Go.Proofs.Ytbbfnladoaimpaa.frontNumbers
