/- The program's functions of tables. -/
import Derived.Test.YtlgaihofaiigcaaDoorTabFns
import Derived.Deep.RegionHeld3
namespace Go.Proofs.YtlgaihofaiigcaaDoor
open Go.RowKit

theorem allOk_two (q : Int) (xs : List Int) (i k : Int) : allOk q xs [i, k] = (elemOk q xs i && elemOk q xs k) := by
  unfold allOk elemOk
  cases tableOk q xs <;> simp
theorem allOk_one (q : Int) (xs : List Int) (i : Int) : allOk q xs [i] = elemOk q xs i := by
  unfold allOk elemOk
  cases tableOk q xs <;> simp
theorem lit_two (w : World) (o : Obj) (i k : Int) (e : TypeId) : Own (w.heap.size + 1) ((w.alloc o).alloc (.cells #[.int .i64 i, .int .i64 k] e)) (.slice (some ⟨w.heap.size + 1, 0, none⟩) 2 2) 1 2 (ints [i, k]) := by
  have h := Own.new (w.alloc o) #[.int .i64 i, .int .i64 k] 2 e rfl (by unfold maxLen; omega)
  rw [World.size_alloc] at h
  exact h
theorem lit_one (w : World) (o : Obj) (i : Int) (e : TypeId) : Own (w.heap.size + 1) ((w.alloc o).alloc (.cells #[.int .i64 i] e)) (.slice (some ⟨w.heap.size + 1, 0, none⟩) 1 1) 1 1 (ints [i]) := by
  have h := Own.new (w.alloc o) #[.int .i64 i] 1 e rfl (by unfold maxLen; omega)
  rw [World.size_alloc] at h
  exact h
end Go.Proofs.YtlgaihofaiigcaaDoor
