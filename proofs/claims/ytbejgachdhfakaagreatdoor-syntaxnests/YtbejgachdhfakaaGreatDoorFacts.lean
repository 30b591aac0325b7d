/- The row's closed facts, one by one. -/
import Derived.Test.YtbejgachdhfakaaGreatDoorCards
import Derived.ProofKit
namespace Go.Proofs.YtbejgachdhfakaaGreatDoor.syntaxNests
open Go

theorem p1 : Rows.syntaxNestsRow.wf (OpenSpec.ofChange Rows.syntaxNestsSpec) = true := by kernel_rfl
theorem p2 : laidOutB Tryz.prog = true := by kernel_rfl
theorem p3 : mapsRowed Tryz.prog = true := by kernel_rfl
theorem p4 : (Rows.syntaxNestsRow.inPlace == Tryz.prog.inPlace 5) = true := by kernel_rfl
theorem p5 : (Rows.syntaxNestsRow.unfollowed == Tryz.prog.unfollowed 5) = true := by kernel_rfl
theorem p6 : (Rows.syntaxNestsRow.recurses == Tryz.prog.recurses 5) = true := by kernel_rfl
theorem p7 : (Rows.syntaxNestsRow.named == Tryz.prog.varsNamed 5) = true := by kernel_rfl
theorem p8 : Tryz.prog.stopsHeard = true := by kernel_rfl
theorem p9 : Tryz.prog.mayEnter = true := by kernel_rfl
theorem p10 : (Rows.syntaxNestsRow.lifted == Tryz.prog.liftsFinal) = true := by kernel_rfl
theorem p11 : (Rows.syntaxNestsRow.plainKeys == Tryz.prog.plainKeys) = true := by kernel_rfl
theorem p12 : namedTie Tryz.prog Rows.syntaxNestsRow.named Rows.syntaxNestsSpec.vars = true := by kernel_rfl
theorem facts : joinedFacts Tryz.prog 5 Tryz.f5 Rows.syntaxNestsSpec Rows.syntaxNestsRow = true := by
  unfold joinedFacts
  rw [p1, p2, p3, p4, p5, p6, p7, p8, p9, p10, p11, p12]
  kernel_rfl
end Go.Proofs.YtbejgachdhfakaaGreatDoor.syntaxNests
