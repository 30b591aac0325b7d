/- The row's closed facts, one by one. -/
import Derived.Test.YtknbgpgefeahlaaGreatDoorCards
import Derived.ProofKit
namespace Go.Proofs.YtknbgpgefeahlaaGreatDoor.runMore
open Go

theorem p1 : Rows.runMoreRow.wf (OpenSpec.ofChange Rows.runMoreSpec) = true := by kernel_rfl
theorem p2 : laidOutB Tryz.prog = true := by kernel_rfl
theorem p3 : mapsRowed Tryz.prog = true := by kernel_rfl
theorem p4 : (Rows.runMoreRow.inPlace == Tryz.prog.inPlace 4) = true := by kernel_rfl
theorem p5 : (Rows.runMoreRow.unfollowed == Tryz.prog.unfollowed 4) = true := by kernel_rfl
theorem p6 : (Rows.runMoreRow.recurses == Tryz.prog.recurses 4) = true := by kernel_rfl
theorem p7 : (Rows.runMoreRow.named == Tryz.prog.varsNamed 4) = true := by kernel_rfl
theorem p8 : Tryz.prog.stopsHeard = true := by kernel_rfl
theorem p9 : Tryz.prog.mayEnter = true := by kernel_rfl
theorem p10 : (Rows.runMoreRow.lifted == Tryz.prog.liftsFinal) = true := by kernel_rfl
theorem p11 : (Rows.runMoreRow.plainKeys == Tryz.prog.plainKeys) = true := by kernel_rfl
theorem p12 : namedTie Tryz.prog Rows.runMoreRow.named Rows.runMoreSpec.vars = true := by kernel_rfl
theorem facts : joinedFacts Tryz.prog 4 Tryz.f4 Rows.runMoreSpec Rows.runMoreRow = true := by
  unfold joinedFacts
  rw [p1, p2, p3, p4, p5, p6, p7, p8, p9, p10, p11, p12]
  kernel_rfl
end Go.Proofs.YtknbgpgefeahlaaGreatDoor.runMore
