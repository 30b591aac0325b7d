/- The plain parser's closed runs. -/
import Derived.Test.YtbejgachdhfakaaGreatDoorNPlain
namespace Go.Proofs.YtbejgachdhfakaaGreatDoor
set_option maxHeartbeats 0 in
theorem if_25 : ifOk 25 = true := by decide +kernel
set_option maxHeartbeats 0 in
theorem if_26 : ifOk 26 = true := by decide +kernel
set_option maxHeartbeats 0 in
theorem if_27 : ifOk 27 = true := by decide +kernel
set_option maxHeartbeats 0 in
theorem if_28 : ifOk 28 = true := by decide +kernel
set_option maxHeartbeats 0 in
theorem if_29 : ifOk 29 = true := by decide +kernel
set_option maxHeartbeats 0 in
theorem if_30 : ifOk 30 = true := by decide +kernel
set_option maxHeartbeats 0 in
theorem if_31 : ifOk 31 = true := by decide +kernel
end Go.Proofs.YtbejgachdhfakaaGreatDoor
