/- The program's SubgroupOf. -/
import Derived.Test.YtlgaihofaiigcaaDoorImplSub3
namespace Go.Proofs.YtlgaihofaiigcaaDoor
open Go.RowKit

theorem held1_keep {W W1 : World} {g : Nat} {a : Value} {B : Nat} {w : World} (h : W.cell? ⟨g, 0, none⟩ = some a ∧ Below B w W) (hb : Below W.heap.size W W1) (hB : B ≤ w.heap.size) (hg : g < w.heap.size) :
    W1.cell? ⟨g, 0, none⟩ = some a ∧ Below B w W1 := by
  obtain ⟨h1, h5⟩ := h
  have hs := h5.size
  exact ⟨(hb.cell (by show g < _; omega)).trans h1, h5.trans (hb.mono (by omega))⟩
end Go.Proofs.YtlgaihofaiigcaaDoor
