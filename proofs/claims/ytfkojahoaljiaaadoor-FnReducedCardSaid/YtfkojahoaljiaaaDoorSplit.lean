/- bytesIn and impl.SplitAny. -/
import Derived.Test.YtfkojahoaljiaaaDoorSplitPlain
import Derived.Laws.Rows
import Derived.Laws.Tables
import Derived.Laws.CopyOwn
import Derived.Lib.Strings
namespace Go.Proofs.YtfkojahoaljiaaaDoor
open Go.RowKit

/-- 256 bools in memory. -/
def boolCells (p : Nat → Bool) : Array Value := (Array.range 256).map fun i => .bool (p i)
theorem boolCells_size (p : Nat → Bool) : (boolCells p).size = 256 := by simp [boolCells]
theorem boolCells_get (p : Nat → Bool) (c : Nat) (h : c < 256) : (boolCells p)[c]? = some (.bool (p c)) := by simp [boolCells, h]
theorem boolCells_one (p : Nat → Bool) : (boolCells p).all (·.oneCell') = true := by
  rw [Array.all_eq_true_iff_forall_mem]
  intro v hv
  simp only [boolCells, Array.mem_map] at hv
  obtain ⟨i, -, rfl⟩ := hv
  rfl
theorem boolCells_set (p : Nat → Bool) (c : Nat) : (boolCells p).setIfInBounds c (.bool true) = boolCells (fun i => p i || i == c) := by
  apply Array.ext
  · simp [boolCells]
  · intro i h1 h2
    have h3 : i < (boolCells p).size := by simpa using h1
    rw [Array.getElem_setIfInBounds h3]
    by_cases e : c = i
    · subst e; simp [boolCells]
    · have e' : (i == c) = false := by simp; omega
      rw [if_neg e]; simp [boolCells, e']
end Go.Proofs.YtfkojahoaljiaaaDoor
