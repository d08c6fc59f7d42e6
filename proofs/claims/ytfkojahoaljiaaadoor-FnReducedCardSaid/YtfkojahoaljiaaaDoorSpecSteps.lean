/- The model's StepsOf. -/
import Derived.Test.YtfkojahoaljiaaaDoorStepsPlain
namespace Go.Proofs.YtfkojahoaljiaaaDoor
open Go.RowKit

theorem row_mono {w : World} {b b' : Nat} {e : TypeId} {size : Nat} {v : Value} {n : Nat} {xs : List Value} (h : w.ownsRow b e size v n xs) (hb : b' ≤ b) : w.ownsRow b' e size v n xs := by
  obtain ⟨h1, h2⟩ := h
  refine ⟨h1, ?_⟩
  rcases h2 with h2 | ⟨g, cap, cur, rfl, hg, r⟩
  · exact .inl h2
  · exact .inr ⟨g, cap, cur, rfl, by omega, r⟩
end Go.Proofs.YtfkojahoaljiaaaDoor
