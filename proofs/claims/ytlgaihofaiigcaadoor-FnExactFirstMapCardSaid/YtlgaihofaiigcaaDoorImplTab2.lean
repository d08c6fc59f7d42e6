/- The program's IndexPeriod, IsCommutative, IdempotentsOf, UnitsOf, ZeroOf, IsGroup. -/
import Derived.Test.YtlgaihofaiigcaaDoorImplTab
namespace Go.Proofs.YtlgaihofaiigcaaDoor
open Go.RowKit

theorem row_one (w : World) (x : Int) (e : TypeId) : (w.alloc (.cells #[.int .i64 x] e)).ownsRow w.heap.size e 1 (.slice (some ⟨w.heap.size, 0, none⟩) 1 1) 1 (ints [x]) :=
  ⟨rfl, Or.inr ⟨w.heap.size, 1, #[.int .i64 x], rfl, Nat.le_refl _, heap_alloc_new w _, Nat.le_refl _, by unfold maxLen; omega, rfl, rfl⟩⟩
end Go.Proofs.YtlgaihofaiigcaaDoor
