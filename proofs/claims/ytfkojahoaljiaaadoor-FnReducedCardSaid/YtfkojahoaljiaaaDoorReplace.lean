/- Replacing a part of a word: both ReplaceAt. -/
import Derived.Test.YtfkojahoaljiaaaDoorBase
import Derived.Deep.QuietTactic
import Derived.BigQuiet
import Derived.IntWalk
namespace Go.Proofs.YtfkojahoaljiaaaDoor
open Go.RowKit

/-- May the bytes from p up to p + l be replaced by b? -/
def repOk (s b : ByteArray) (p l : Int) : Prop := 0 ≤ p ∧ 0 ≤ l ∧ p ≤ s.size ∧ l ≤ s.size - p ∧ s.size - l + b.size ≤ 16
/-- What ReplaceAt answers. -/
def RepRet (s b : ByteArray) (p l : Int) (W : World) (e : Ending) (w' : World) : Prop :=
  ∃ (r : ByteArray) (ok : Bool), e = .returned (.tuple #[.string r, .bool ok]) ∧
    ((ok = false ∧ r = ⟨#[]⟩ ∧ ¬ repOk s b p l) ∨ (ok = true ∧ repOk s b p l ∧ r = s.extract 0 p.toNat ++ b ++ s.extract (p.toNat + l.toNat) s.size)) ∧ ∃ m, w' = W.drewN m

def hasB (s : ByteArray) (p l : Int) : Bool := decide (0 ≤ p ∧ 0 ≤ l ∧ p ≤ (s.size : Int) ∧ l ≤ (s.size : Int) - p)
theorem RepRet.one {s b r r' : ByteArray} {p l : Int} {ok ok' : Bool} (h : (ok = false ∧ r = ⟨#[]⟩ ∧ ¬ repOk s b p l) ∨ (ok = true ∧ repOk s b p l ∧ r = s.extract 0 p.toNat ++ b ++ s.extract (p.toNat + l.toNat) s.size))
    (h' : (ok' = false ∧ r' = ⟨#[]⟩ ∧ ¬ repOk s b p l) ∨ (ok' = true ∧ repOk s b p l ∧ r' = s.extract 0 p.toNat ++ b ++ s.extract (p.toNat + l.toNat) s.size)) : r = r' ∧ ok = ok' := by
  rcases h with ⟨h1, h2, h3⟩ | ⟨h1, h2, h3⟩ <;> rcases h' with ⟨k1, k2, k3⟩ | ⟨k1, k2, k3⟩
  · exact ⟨h2.trans k2.symm, h1.trans k1.symm⟩
  · exact absurd k2 h3
  · exact absurd h2 k3
  · exact ⟨h3.trans k3.symm, h1.trans k1.symm⟩
end Go.Proofs.YtfkojahoaljiaaaDoor
