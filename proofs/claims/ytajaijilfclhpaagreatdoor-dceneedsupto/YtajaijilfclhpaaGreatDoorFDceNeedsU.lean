/- The row's closed facts, one by one. -/
import Derived.Test.YtajaijilfclhpaaGreatDoorCards
import Derived.ProofKit
import Derived.Stop.Joined
namespace Go.Proofs.YtajaijilfclhpaaGreatDoor.dceNeedsUpto
open Go

theorem p1 : Rows.dceNeedsUptoRow.wf (OpenSpec.ofChange (Rows.OpenSpec.upto Rows.dceNeedsSpec).bare) = true := by kernel_rfl
theorem p2 : laidOutB Tryz.prog = true := by kernel_rfl
theorem p3 : mapsRowed Tryz.prog = true := by kernel_rfl
theorem p4 : (Rows.dceNeedsUptoRow.inPlace == Tryz.prog.inPlace 3) = true := by kernel_rfl
theorem p5 : (Rows.dceNeedsUptoRow.unfollowed == Tryz.prog.unfollowed 3) = true := by kernel_rfl
theorem p6 : (Rows.dceNeedsUptoRow.recurses == Tryz.prog.recurses 3) = true := by kernel_rfl
theorem p7 : (Rows.dceNeedsUptoRow.named == Tryz.prog.varsNamed 3) = true := by kernel_rfl
theorem p8 : Tryz.prog.stopsHeard = true := by kernel_rfl
theorem p9 : Tryz.prog.mayEnter = true := by kernel_rfl
theorem p10 : (Rows.dceNeedsUptoRow.lifted == Tryz.prog.liftsFinal) = true := by kernel_rfl
theorem p11 : (Rows.dceNeedsUptoRow.plainKeys == Tryz.prog.plainKeys) = true := by kernel_rfl
theorem p12 : namedTie Tryz.prog Rows.dceNeedsUptoRow.named (Rows.OpenSpec.upto Rows.dceNeedsSpec).bare.vars = true := by kernel_rfl
theorem facts : joinedFacts Tryz.prog 3 Tryz.f3 (Rows.OpenSpec.upto Rows.dceNeedsSpec).bare Rows.dceNeedsUptoRow = true := by
 unfold joinedFacts
 rw [p1, p2, p3, p4, p5, p6, p7, p8, p9, p10, p11, p12]
 kernel_rfl
end Go.Proofs.YtajaijilfclhpaaGreatDoor.dceNeedsUpto
