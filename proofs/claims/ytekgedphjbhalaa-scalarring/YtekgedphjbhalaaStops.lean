/- The contract of package scalar's Stops. -/
import Derived.Test.YtekgedphjbhalaaBase
namespace Go.Proofs.Ytekgedphjbhalaa
open Go.RowKit

set_option maxHeartbeats 400000 in
theorem stops_any (o t b : Int) (w : World) : Calls Try.prog 20 #[.int .u8 o, .int .u8 t, .int .u64 b] w fun e w' => e = .returned (.bool (stopsB o t b)) ∧ w' = w := by
  go_enter Try.func20, Try.ntmps20
  go_wp2_with (first | (go_at_call 37; refine (whole_any _ _).mono ?_; rintro e w' ⟨rfl, rfl⟩))
  all_goals go_ret
  all_goals exact ⟨ret_bool (by simp_all [stopsB]), rfl⟩
end Go.Proofs.Ytekgedphjbhalaa
