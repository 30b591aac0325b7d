/- The row's closed facts, one by one. -/
import Derived.Test.YtbbfnladoaimpaaRows
import Derived.Test.YtbbfnladoaimpaaChecked
import Derived.ProofKit
import Derived.Stop.Joined
namespace Go.Proofs.Ytbbfnladoaimpaa.frontLeastUpto
open Go

theorem p1 : Rows.frontLeastUptoRow.wf (OpenSpec.ofChange (Rows.OpenSpec.upto Rows.frontLeastSpec).bare) = true := by kernel_rfl
theorem p2 : laidOutB Try.prog = true := by kernel_rfl
theorem p3 : mapsRowed Try.prog = true := by kernel_rfl
theorem p4 : (Rows.frontLeastUptoRow.inPlace == Try.prog.inPlace 7) = true := by kernel_rfl
theorem p5 : (Rows.frontLeastUptoRow.unfollowed == Try.prog.unfollowed 7) = true := by kernel_rfl
theorem p6 : (Rows.frontLeastUptoRow.recurses == Try.prog.recurses 7) = true := by kernel_rfl
theorem p7 : (Rows.frontLeastUptoRow.named == Try.prog.varsNamed 7) = true := by kernel_rfl
theorem p8 : Try.prog.stopsHeard = true := by kernel_rfl
theorem p9 : Try.prog.mayEnter = true := by kernel_rfl
theorem p10 : (Rows.frontLeastUptoRow.lifted == Try.prog.liftsFinal) = true := by kernel_rfl
theorem p11 : (Rows.frontLeastUptoRow.plainKeys == Try.prog.plainKeys) = true := by kernel_rfl
theorem p12 : namedTie Try.prog Rows.frontLeastUptoRow.named (Rows.OpenSpec.upto Rows.frontLeastSpec).bare.vars = true := by kernel_rfl
theorem facts : joinedFacts Try.prog 7 Try.f7 (Rows.OpenSpec.upto Rows.frontLeastSpec).bare Rows.frontLeastUptoRow = true := by
  unfold joinedFacts
  rw [p1, p2, p3, p4, p5, p6, p7, p8, p9, p10, p11, p12]
  kernel_rfl
end Go.Proofs.Ytbbfnladoaimpaa.frontLeastUpto
