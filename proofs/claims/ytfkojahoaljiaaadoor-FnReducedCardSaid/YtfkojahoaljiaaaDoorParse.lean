/- impl.ParseInt. -/
import Derived.Test.YtfkojahoaljiaaaDoorDoor
import Derived.Stop.LaidErr
namespace Go.Proofs.YtfkojahoaljiaaaDoor
open Go.RowKit Go.Joins

theorem star : "*" ++ "errors.errorString" = "*errors.errorString" := by decide
theorem below_bytes {w w' : World} {e : TypeId} (h : w' = w ∨ ∃ t, w' = Lib.bytesWorld w e t) : Below w.heap.size w w' := by
  rcases h with rfl | ⟨t, rfl⟩
  · exact Below.refl _ _
  · exact below_bytesWorld _ w e t (Nat.le_refl _)

end Go.Proofs.YtfkojahoaljiaaaDoor
