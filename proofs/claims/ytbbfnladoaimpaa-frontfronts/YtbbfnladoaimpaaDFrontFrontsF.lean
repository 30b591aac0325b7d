/- The row's closed facts, one by one. -/
import Derived.Test.YtbbfnladoaimpaaRows
import Derived.Test.YtbbfnladoaimpaaChecked
import Derived.ProofKit
import Derived.Stop.Joined
namespace Go.Proofs.Ytbbfnladoaimpaa.frontFronts
open Go

theorem p1 : Rows.frontFrontsRow.wf (OpenSpec.ofChange Rows.frontFrontsSpec) = true := by kernel_rfl
theorem p2 : laidOutB Try.prog = true := by kernel_rfl
theorem p3 : mapsRowed Try.prog = true := by kernel_rfl
theorem p4 : (Rows.frontFrontsRow.inPlace == Try.prog.inPlace 3) = true := by kernel_rfl
theorem p5 : (Rows.frontFrontsRow.unfollowed == Try.prog.unfollowed 3) = true := by kernel_rfl
theorem p6 : (Rows.frontFrontsRow.recurses == Try.prog.recurses 3) = true := by kernel_rfl
theorem p7 : (Rows.frontFrontsRow.named == Try.prog.varsNamed 3) = true := by kernel_rfl
theorem p8 : Try.prog.stopsHeard = true := by kernel_rfl
theorem p9 : Try.prog.mayEnter = true := by kernel_rfl
theorem p10 : (Rows.frontFrontsRow.lifted == Try.prog.liftsFinal) = true := by kernel_rfl
theorem p11 : (Rows.frontFrontsRow.plainKeys == Try.prog.plainKeys) = true := by kernel_rfl
theorem p12 : namedTie Try.prog Rows.frontFrontsRow.named Rows.frontFrontsSpec.vars = true := by kernel_rfl
theorem facts : joinedFacts Try.prog 3 Try.f3 Rows.frontFrontsSpec Rows.frontFrontsRow = true := by
  unfold joinedFacts
  rw [p1, p2, p3, p4, p5, p6, p7, p8, p9, p10, p11, p12]
  kernel_rfl
end Go.Proofs.Ytbbfnladoaimpaa.frontFronts
