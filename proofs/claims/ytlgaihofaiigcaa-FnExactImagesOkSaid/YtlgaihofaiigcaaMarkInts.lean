/- The laws' helpers over []int, with what they leave. -/
import Derived.Test.YtlgaihofaiigcaaInts
import Derived.Test.YtlgaihofaiigcaaMarkRules
namespace Go.Proofs.Ytlgaihofaiigcaa
open Go.RowKit

theorem eqIntB (A A' : Option Addr) (n c c' B B' : Nat) (l : List Int) (w : World) (h : Own B w (.slice A n c) 1 n (ints l)) (h' : Own B' w (.slice A' n c') 1 n (ints l)) (hn : n ≤ 4611686018427387904) :
    Calls Try.prog 10 #[.slice A n c, .slice A' n c'] w fun e w' => e = .returned (.bool true) ∧ Below w.heap.size w w' :=
  (eqIntS_yes A A' n c c' B B' l w h h' hn).mono (by rintro e w' ⟨rfl, m, rfl⟩; exact ⟨rfl, below_drewN (Below.refl _ w) m⟩)
end Go.Proofs.Ytlgaihofaiigcaa
