/- The plain parser's closed runs. -/
import Derived.Test.YtbejgachdhfakaaGreatDoorNPlain
namespace Go.Proofs.YtbejgachdhfakaaGreatDoor
set_option maxHeartbeats 0 in
theorem if_lo : ∀ n, n < 12 → ifOk n = true := by decide +kernel
set_option maxHeartbeats 0 in
theorem if_12s : ∀ n, n < 3 → ifOk (12 + n) = true := by decide +kernel
set_option maxHeartbeats 0 in
theorem if_15s : ∀ n, n < 3 → ifOk (15 + n) = true := by decide +kernel
set_option maxHeartbeats 0 in
theorem if_18s : ∀ n, n < 3 → ifOk (18 + n) = true := by decide +kernel
set_option maxHeartbeats 0 in
theorem if_21 : ifOk 21 = true := by decide +kernel
set_option maxHeartbeats 0 in
theorem if_22 : ifOk 22 = true := by decide +kernel
set_option maxHeartbeats 0 in
theorem if_23 : ifOk 23 = true := by decide +kernel
set_option maxHeartbeats 0 in
theorem if_24 : ifOk 24 = true := by decide +kernel
end Go.Proofs.YtbejgachdhfakaaGreatDoor
