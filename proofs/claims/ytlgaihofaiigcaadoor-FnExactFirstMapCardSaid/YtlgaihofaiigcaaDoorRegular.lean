/- RegularOf, both sides. -/
import Derived.Test.YtlgaihofaiigcaaDoorSpecTab2
import Derived.Test.YtlgaihofaiigcaaDoorImplTab2
namespace Go.Proofs.YtlgaihofaiigcaaDoor
open Go.RowKit

noncomputable def regB (n : Nat) (xs : List Int) (i : Nat) : Bool := cdec (∃ x, x < n ∧ tmul n xs (tmul n xs i x) i = i)
end Go.Proofs.YtlgaihofaiigcaaDoor
