/- The row's closed facts, one by one. -/
import Derived.Test.YtobnpllppohofaaGreatDoorCards
import Derived.ProofKit
namespace Go.Proofs.YtobnpllppohofaaGreatDoor.graphNumbers
open Go

theorem p1 : Rows.graphNumbersRow.wf (OpenSpec.ofChange Rows.graphNumbersSpec) = true := by kernel_rfl
theorem p2 : laidOutB Tryz.prog = true := by kernel_rfl
theorem p3 : mapsRowed Tryz.prog = true := by kernel_rfl
theorem p4 : (Rows.graphNumbersRow.inPlace == Tryz.prog.inPlace 3) = true := by kernel_rfl
theorem p5 : (Rows.graphNumbersRow.unfollowed == Tryz.prog.unfollowed 3) = true := by kernel_rfl
theorem p6 : (Rows.graphNumbersRow.recurses == Tryz.prog.recurses 3) = true := by kernel_rfl
theorem p7 : (Rows.graphNumbersRow.named == Tryz.prog.varsNamed 3) = true := by kernel_rfl
theorem p8 : Tryz.prog.stopsHeard = true := by kernel_rfl
theorem p9 : Tryz.prog.mayEnter = true := by kernel_rfl
theorem p10 : (Rows.graphNumbersRow.lifted == Tryz.prog.liftsFinal) = true := by kernel_rfl
theorem p11 : (Rows.graphNumbersRow.plainKeys == Tryz.prog.plainKeys) = true := by kernel_rfl
theorem p12 : namedTie Tryz.prog Rows.graphNumbersRow.named Rows.graphNumbersSpec.vars = true := by kernel_rfl
theorem facts : joinedFacts Tryz.prog 3 Tryz.f3 Rows.graphNumbersSpec Rows.graphNumbersRow = true := by
  unfold joinedFacts
  rw [p1, p2, p3, p4, p5, p6, p7, p8, p9, p10, p11, p12]
  kernel_rfl
end Go.Proofs.YtobnpllppohofaaGreatDoor.graphNumbers
