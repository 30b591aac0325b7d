/- The row's closed facts, one by one. -/
import Derived.Test.YtkgjcjakadofpaaDoorCards
import Derived.ProofKit
namespace Go.Proofs.YtkgjcjakadofpaaDoor.graphEdges
open Go

theorem p1 : Rows.graphEdgesRow.wf (OpenSpec.ofChange Rows.graphEdgesSpec) = true := by kernel_rfl
theorem p2 : laidOutB Tryd.prog = true := by kernel_rfl
theorem p3 : mapsRowed Tryd.prog = true := by kernel_rfl
theorem p4 : (Rows.graphEdgesRow.inPlace == Tryd.prog.inPlace 4) = true := by kernel_rfl
theorem p5 : (Rows.graphEdgesRow.unfollowed == Tryd.prog.unfollowed 4) = true := by kernel_rfl
theorem p6 : (Rows.graphEdgesRow.recurses == Tryd.prog.recurses 4) = true := by kernel_rfl
theorem p7 : (Rows.graphEdgesRow.named == Tryd.prog.varsNamed 4) = true := by kernel_rfl
theorem p8 : Tryd.prog.stopsHeard = true := by kernel_rfl
theorem p9 : Tryd.prog.mayEnter = true := by kernel_rfl
theorem p10 : (Rows.graphEdgesRow.lifted == Tryd.prog.liftsFinal) = true := by kernel_rfl
theorem p11 : (Rows.graphEdgesRow.plainKeys == Tryd.prog.plainKeys) = true := by kernel_rfl
theorem p12 : namedTie Tryd.prog Rows.graphEdgesRow.named Rows.graphEdgesSpec.vars = true := by kernel_rfl
theorem facts : joinedFacts Tryd.prog 4 Tryd.f4 Rows.graphEdgesSpec Rows.graphEdgesRow = true := by
  unfold joinedFacts
  rw [p1, p2, p3, p4, p5, p6, p7, p8, p9, p10, p11, p12]
  kernel_rfl
end Go.Proofs.YtkgjcjakadofpaaDoor.graphEdges
