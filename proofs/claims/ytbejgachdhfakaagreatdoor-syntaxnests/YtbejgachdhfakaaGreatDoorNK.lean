/- The plain parser's closed runs. -/
import Derived.Test.YtbejgachdhfakaaGreatDoorNPlain
namespace Go.Proofs.YtbejgachdhfakaaGreatDoor
set_option maxHeartbeats 0 in
theorem if_32 : ifOk 32 = true := by decide +kernel
set_option maxHeartbeats 0 in
theorem if_33 : ifOk 33 = true := by decide +kernel
set_option maxHeartbeats 0 in
theorem if_34 : ifOk 34 = true := by decide +kernel
set_option maxHeartbeats 0 in
theorem if_35 : ifOk 35 = true := by decide +kernel
set_option maxHeartbeats 0 in
theorem if_36 : ifOk 36 = true := by decide +kernel
set_option maxHeartbeats 0 in
theorem if_37 : ifOk 37 = true := by decide +kernel
set_option maxHeartbeats 0 in
theorem if_38 : ifOk 38 = true := by decide +kernel
set_option maxHeartbeats 0 in
theorem if_39 : ifOk 39 = true := by decide +kernel
end Go.Proofs.YtbejgachdhfakaaGreatDoor
