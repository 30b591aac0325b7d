/- The plain parser's closed runs. -/
import Derived.Test.YtbejgachdhfakaaGreatDoorNPlain
namespace Go.Proofs.YtbejgachdhfakaaGreatDoor
set_option maxHeartbeats 0 in
theorem nest_2 : ∀ n, n < 40 → nestOk 2 n = true := by decide +kernel
end Go.Proofs.YtbejgachdhfakaaGreatDoor
