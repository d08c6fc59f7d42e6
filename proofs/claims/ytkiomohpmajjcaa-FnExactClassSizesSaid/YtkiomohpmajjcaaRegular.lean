/- RegularOf, both sides. -/
import Derived.Test.YtkiomohpmajjcaaSpecTab2
import Derived.Test.YtkiomohpmajjcaaImplTab2
namespace Go.Proofs.Ytkiomohpmajjcaa
open Go.RowKit

noncomputable def regB (n : Nat) (xs : List Int) (i : Nat) : Bool := cdec (∃ x, x < n ∧ tmul n xs (tmul n xs i x) i = i)
end Go.Proofs.Ytkiomohpmajjcaa
