/- The model's functions of tables. -/
import Derived.Test.YtlgaihofaiigcaaTabFns
import Derived.Deep.RegionHeld3
namespace Go.Proofs.Ytlgaihofaiigcaa
open Go.RowKit

def InvPost (n : Nat) (xs : List Int) (i : Nat) (e : Ending) : Prop := (unitB n xs i = true ∧ ∃ k : Nat, k ≤ 40 ∧ (k < n ∧ tmul n xs i k = 0 ∧ tmul n xs k i = 0) ∧ e = .returned (.int .i64 k)) ∨ (unitB n xs i = false ∧ e = .returned (.int .i64 (-1)))
end Go.Proofs.Ytlgaihofaiigcaa
