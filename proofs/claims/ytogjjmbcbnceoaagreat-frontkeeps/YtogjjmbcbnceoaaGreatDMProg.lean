/- What is fixed holds (11), by the program's own functions. -/
import Derived.Test.YtogjjmbcbnceoaaGreatDJw8M
namespace Go.Proofs.YtogjjmbcbnceoaaGreat
open Go.RowKit

theorem awakeM_ok : ∀ W : World, Calls Tryz.prog 23 #[] W fun e w' => e = .returned (.bool true) ∧ Below W.heap.size W w' := fun W => awakeM_any (fronts_ok (by decide) (by decide)) (joins_ok (by decide) (by decide)) W
theorem fronts_in {nx : List (List Int)} {k : Nat} (h1 : nx.length ≤ 2000000) (h2 : lensA nx ≤ k) (hk : k ≤ 2000000) : FrontsOk nx := fronts_ok h1 (fun r hr => by have := lens_mem hr; omega)
theorem joins_in {nx : List (List Int)} {l : List Int} {k : Nat} (h1 : nx.length ≤ 2000000) (h2 : lensA nx ≤ k) (hk : k ≤ 2000000) : JoinsOk nx l := joins_ok h1 (fun r hr => by have := lens_mem hr; omega)
end Go.Proofs.YtogjjmbcbnceoaaGreat
