/- The row's closed facts, one by one. -/
import Derived.Test.YtbbfnladoaimpaaRows
import Derived.Test.YtbbfnladoaimpaaChecked
import Derived.ProofKit
import Derived.Stop.Joined
namespace Go.Proofs.Ytbbfnladoaimpaa.frontJoins
open Go

theorem p1 : Rows.frontJoinsRow.wf (OpenSpec.ofChange Rows.frontJoinsSpec) = true := by kernel_rfl
theorem p2 : laidOutB Try.prog = true := by kernel_rfl
theorem p3 : mapsRowed Try.prog = true := by kernel_rfl
theorem p4 : (Rows.frontJoinsRow.inPlace == Try.prog.inPlace 4) = true := by kernel_rfl
theorem p5 : (Rows.frontJoinsRow.unfollowed == Try.prog.unfollowed 4) = true := by kernel_rfl
theorem p6 : (Rows.frontJoinsRow.recurses == Try.prog.recurses 4) = true := by kernel_rfl
theorem p7 : (Rows.frontJoinsRow.named == Try.prog.varsNamed 4) = true := by kernel_rfl
theorem p8 : Try.prog.stopsHeard = true := by kernel_rfl
theorem p9 : Try.prog.mayEnter = true := by kernel_rfl
theorem p10 : (Rows.frontJoinsRow.lifted == Try.prog.liftsFinal) = true := by kernel_rfl
theorem p11 : (Rows.frontJoinsRow.plainKeys == Try.prog.plainKeys) = true := by kernel_rfl
theorem p12 : namedTie Try.prog Rows.frontJoinsRow.named Rows.frontJoinsSpec.vars = true := by kernel_rfl
theorem facts : joinedFacts Try.prog 4 Try.f4 Rows.frontJoinsSpec Rows.frontJoinsRow = true := by
  unfold joinedFacts
  rw [p1, p2, p3, p4, p5, p6, p7, p8, p9, p10, p11, p12]
  kernel_rfl
end Go.Proofs.Ytbbfnladoaimpaa.frontJoins
