/- The row's closed facts, one by one. -/
import Derived.Test.YtogjjmbcbnceoaaGreatRows
import Derived.Test.YtogjjmbcbnceoaaGreatChecked
import Derived.ProofKit
import Derived.Stop.Joined
namespace Go.Proofs.YtogjjmbcbnceoaaGreat.frontKeeps
open Go

theorem p1 : Rows.frontKeepsRow.wf (OpenSpec.ofChange Rows.frontKeepsSpec) = true := by kernel_rfl
theorem p2 : laidOutB Tryz.prog = true := by kernel_rfl
theorem p3 : mapsRowed Tryz.prog = true := by kernel_rfl
theorem p4 : (Rows.frontKeepsRow.inPlace == Tryz.prog.inPlace 4) = true := by kernel_rfl
theorem p5 : (Rows.frontKeepsRow.unfollowed == Tryz.prog.unfollowed 4) = true := by kernel_rfl
theorem p6 : (Rows.frontKeepsRow.recurses == Tryz.prog.recurses 4) = true := by kernel_rfl
theorem p7 : (Rows.frontKeepsRow.named == Tryz.prog.varsNamed 4) = true := by kernel_rfl
theorem p8 : Tryz.prog.stopsHeard = true := by kernel_rfl
theorem p9 : Tryz.prog.mayEnter = true := by kernel_rfl
theorem p10 : (Rows.frontKeepsRow.lifted == Tryz.prog.liftsFinal) = true := by kernel_rfl
theorem p11 : (Rows.frontKeepsRow.plainKeys == Tryz.prog.plainKeys) = true := by kernel_rfl
theorem p12 : namedTie Tryz.prog Rows.frontKeepsRow.named Rows.frontKeepsSpec.vars = true := by kernel_rfl
theorem facts : joinedFacts Tryz.prog 4 Tryz.f4 Rows.frontKeepsSpec Rows.frontKeepsRow = true := by
  unfold joinedFacts
  rw [p1, p2, p3, p4, p5, p6, p7, p8, p9, p10, p11, p12]
  kernel_rfl
end Go.Proofs.YtogjjmbcbnceoaaGreat.frontKeeps
