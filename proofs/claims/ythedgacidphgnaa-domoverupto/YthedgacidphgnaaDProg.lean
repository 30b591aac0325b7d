/- What is fixed holds, by the program's own functions. -/
import Derived.Test.YthedgacidphgnaaDTree
import Derived.Test.YthedgacidphgnaaDLaw1
namespace Go.Proofs.Ythedgacidphgnaa
open Go.RowKit

theorem awake_ok : ∀ W : World, Calls Try.prog 9 #[] W fun e w' => e = .returned (.bool true) ∧ Below W.heap.size W w' := fun W => awake_any (tree_ok (by decide) (by decide)) over_ok (under_ok (by decide)) W
theorem tree_in {nx : List (List Int)} {k : Nat} (h1 : nx.length ≤ 2000000) (h2 : lensA nx ≤ k) (hk : k ≤ 2000000) : TreeOk nx := tree_ok h1 (fun r hr => by have := lens_mem hr; omega)
end Go.Proofs.Ythedgacidphgnaa
