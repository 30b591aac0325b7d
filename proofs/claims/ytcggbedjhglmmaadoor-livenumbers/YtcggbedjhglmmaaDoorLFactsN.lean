/- The row's closed facts, one by one. -/
import Derived.Test.YtcggbedjhglmmaaDoorCards
import Derived.ProofKit
namespace Go.Proofs.YtcggbedjhglmmaaDoor.liveNumbers
open Go

theorem p1 : Rows.liveNumbersRow.wf (OpenSpec.ofChange Rows.liveNumbersSpec) = true := by kernel_rfl
theorem p2 : laidOutB Tryd.prog = true := by kernel_rfl
theorem p3 : mapsRowed Tryd.prog = true := by kernel_rfl
theorem p4 : (Rows.liveNumbersRow.inPlace == Tryd.prog.inPlace 3) = true := by kernel_rfl
theorem p5 : (Rows.liveNumbersRow.unfollowed == Tryd.prog.unfollowed 3) = true := by kernel_rfl
theorem p6 : (Rows.liveNumbersRow.recurses == Tryd.prog.recurses 3) = true := by kernel_rfl
theorem p7 : (Rows.liveNumbersRow.named == Tryd.prog.varsNamed 3) = true := by kernel_rfl
theorem p8 : Tryd.prog.stopsHeard = true := by kernel_rfl
theorem p9 : Tryd.prog.mayEnter = true := by kernel_rfl
theorem p10 : (Rows.liveNumbersRow.lifted == Tryd.prog.liftsFinal) = true := by kernel_rfl
theorem p11 : (Rows.liveNumbersRow.plainKeys == Tryd.prog.plainKeys) = true := by kernel_rfl
theorem p12 : namedTie Tryd.prog Rows.liveNumbersRow.named Rows.liveNumbersSpec.vars = true := by kernel_rfl
theorem facts : joinedFacts Tryd.prog 3 Tryd.f3 Rows.liveNumbersSpec Rows.liveNumbersRow = true := by
  unfold joinedFacts
  rw [p1, p2, p3, p4, p5, p6, p7, p8, p9, p10, p11, p12]
  kernel_rfl
end Go.Proofs.YtcggbedjhglmmaaDoor.liveNumbers
