/- Steps in order: both RunSteps. -/
import Derived.Test.YtddifhbjjiphiaaDoorApply
namespace Go.Proofs.YtddifhbjjiphiaaDoor
open Go.RowKit

def runS (k : Int) (l : List R) : ByteArray → List ST → ByteArray × Bool
  | s, [] => (s, true)
  | s, x :: xs => if (applyS k l s x).2 then runS k l (applyS k l s x).1 xs else (⟨#[]⟩, false)
def runsS (k : Int) (l : List R) (s : ByteArray) (xs : List ST) : ByteArray × Bool := if xs.length ≤ 1000 then runS k l s xs else (⟨#[]⟩, false)
theorem repS_size (s b : ByteArray) (p l : Int) : (repS s b p l).1.size ≤ 16 := by
  unfold repS
  split
  · rename_i h
    have h := of_decide_eq_true h
    simp only [ByteArray.size_append, ByteArray.size_extract]
    omega
  · show 0 ≤ 16; omega
theorem applyS_size (k : Int) (l : List R) (s : ByteArray) (x : ST) : (applyS k l s x).1.size ≤ 16 := by
  unfold applyS
  split
  · unfold afterS
    split
    · exact repS_size _ _ _ _
    · show 0 ≤ 16; omega
  · show 0 ≤ 16; omega
theorem drop_step {α : Type} (l : List α) (k : Nat) (r : α) (h : l[k]? = some r) : l.drop k = r :: l.drop (k + 1) := by
  have hk := (List.getElem?_eq_some_iff.1 h).1
  have he := (List.getElem?_eq_some_iff.1 h).2
  rw [List.drop_eq_getElem_cons hk, he]

end Go.Proofs.YtddifhbjjiphiaaDoor
