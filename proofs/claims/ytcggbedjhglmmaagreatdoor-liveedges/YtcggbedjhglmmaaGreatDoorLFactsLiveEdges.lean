/- The row's closed facts, one by one. -/
import Derived.Test.YtcggbedjhglmmaaGreatDoorCards
import Derived.ProofKit
namespace Go.Proofs.YtcggbedjhglmmaaGreatDoor.liveEdges
open Go

theorem p1 : Rows.liveEdgesRow.wf (OpenSpec.ofChange Rows.liveEdgesSpec) = true := by kernel_rfl
theorem p2 : laidOutB Tryz.prog = true := by kernel_rfl
theorem p3 : mapsRowed Tryz.prog = true := by kernel_rfl
theorem p4 : (Rows.liveEdgesRow.inPlace == Tryz.prog.inPlace 4) = true := by kernel_rfl
theorem p5 : (Rows.liveEdgesRow.unfollowed == Tryz.prog.unfollowed 4) = true := by kernel_rfl
theorem p6 : (Rows.liveEdgesRow.recurses == Tryz.prog.recurses 4) = true := by kernel_rfl
theorem p7 : (Rows.liveEdgesRow.named == Tryz.prog.varsNamed 4) = true := by kernel_rfl
theorem p8 : Tryz.prog.stopsHeard = true := by kernel_rfl
theorem p9 : Tryz.prog.mayEnter = true := by kernel_rfl
theorem p10 : (Rows.liveEdgesRow.lifted == Tryz.prog.liftsFinal) = true := by kernel_rfl
theorem p11 : (Rows.liveEdgesRow.plainKeys == Tryz.prog.plainKeys) = true := by kernel_rfl
theorem p12 : namedTie Tryz.prog Rows.liveEdgesRow.named Rows.liveEdgesSpec.vars = true := by kernel_rfl
theorem facts : joinedFacts Tryz.prog 4 Tryz.f4 Rows.liveEdgesSpec Rows.liveEdgesRow = true := by
  unfold joinedFacts
  rw [p1, p2, p3, p4, p5, p6, p7, p8, p9, p10, p11, p12]
  kernel_rfl
end Go.Proofs.YtcggbedjhglmmaaGreatDoor.liveEdges
