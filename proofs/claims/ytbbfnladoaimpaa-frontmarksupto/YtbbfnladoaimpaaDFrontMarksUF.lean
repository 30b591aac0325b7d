/- The row's closed facts, one by one. -/
import Derived.Test.YtbbfnladoaimpaaRows
import Derived.Test.YtbbfnladoaimpaaChecked
import Derived.ProofKit
import Derived.Stop.Joined
namespace Go.Proofs.Ytbbfnladoaimpaa.frontMarksUpto
open Go

theorem p1 : Rows.frontMarksUptoRow.wf (OpenSpec.ofChange (Rows.OpenSpec.upto Rows.frontMarksSpec).bare) = true := by kernel_rfl
theorem p2 : laidOutB Try.prog = true := by kernel_rfl
theorem p3 : mapsRowed Try.prog = true := by kernel_rfl
theorem p4 : (Rows.frontMarksUptoRow.inPlace == Try.prog.inPlace 6) = true := by kernel_rfl
theorem p5 : (Rows.frontMarksUptoRow.unfollowed == Try.prog.unfollowed 6) = true := by kernel_rfl
theorem p6 : (Rows.frontMarksUptoRow.recurses == Try.prog.recurses 6) = true := by kernel_rfl
theorem p7 : (Rows.frontMarksUptoRow.named == Try.prog.varsNamed 6) = true := by kernel_rfl
theorem p8 : Try.prog.stopsHeard = true := by kernel_rfl
theorem p9 : Try.prog.mayEnter = true := by kernel_rfl
theorem p10 : (Rows.frontMarksUptoRow.lifted == Try.prog.liftsFinal) = true := by kernel_rfl
theorem p11 : (Rows.frontMarksUptoRow.plainKeys == Try.prog.plainKeys) = true := by kernel_rfl
theorem p12 : namedTie Try.prog Rows.frontMarksUptoRow.named (Rows.OpenSpec.upto Rows.frontMarksSpec).bare.vars = true := by kernel_rfl
theorem facts : joinedFacts Try.prog 6 Try.f6 (Rows.OpenSpec.upto Rows.frontMarksSpec).bare Rows.frontMarksUptoRow = true := by
  unfold joinedFacts
  rw [p1, p2, p3, p4, p5, p6, p7, p8, p9, p10, p11, p12]
  kernel_rfl
end Go.Proofs.Ytbbfnladoaimpaa.frontMarksUpto
