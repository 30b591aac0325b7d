/- The row's closed facts, one by one. -/
import Derived.Test.YthedgacidphgnaaRows
import Derived.Test.YthedgacidphgnaaChecked
import Derived.ProofKit
import Derived.Stop.Joined
namespace Go.Proofs.Ythedgacidphgnaa.domOverUpto
open Go

theorem p1 : Rows.domOverUptoRow.wf (OpenSpec.ofChange (Rows.OpenSpec.upto Rows.domOverSpec).bare) = true := by kernel_rfl
theorem p2 : laidOutB Try.prog = true := by kernel_rfl
theorem p3 : mapsRowed Try.prog = true := by kernel_rfl
theorem p4 : (Rows.domOverUptoRow.inPlace == Try.prog.inPlace 6) = true := by kernel_rfl
theorem p5 : (Rows.domOverUptoRow.unfollowed == Try.prog.unfollowed 6) = true := by kernel_rfl
theorem p6 : (Rows.domOverUptoRow.recurses == Try.prog.recurses 6) = true := by kernel_rfl
theorem p7 : (Rows.domOverUptoRow.named == Try.prog.varsNamed 6) = true := by kernel_rfl
theorem p8 : Try.prog.stopsHeard = true := by kernel_rfl
theorem p9 : Try.prog.mayEnter = true := by kernel_rfl
theorem p10 : (Rows.domOverUptoRow.lifted == Try.prog.liftsFinal) = true := by kernel_rfl
theorem p11 : (Rows.domOverUptoRow.plainKeys == Try.prog.plainKeys) = true := by kernel_rfl
theorem p12 : namedTie Try.prog Rows.domOverUptoRow.named (Rows.OpenSpec.upto Rows.domOverSpec).bare.vars = true := by kernel_rfl
theorem facts : joinedFacts Try.prog 6 Try.f6 (Rows.OpenSpec.upto Rows.domOverSpec).bare Rows.domOverUptoRow = true := by
  unfold joinedFacts
  rw [p1, p2, p3, p4, p5, p6, p7, p8, p9, p10, p11, p12]
  kernel_rfl
end Go.Proofs.Ythedgacidphgnaa.domOverUpto
