/- TraceOf: the program's. -/
import Derived.Test.YtddifhbjjiphiaaDoorReduce
import Derived.Test.YtddifhbjjiphiaaDoorCollect
namespace Go.Proofs.YtddifhbjjiphiaaDoor
open Go.RowKit Go.Shelf
attribute [local go_sem] Oper.semAt_some

def firsts (pre : List (ST × ByteArray)) : List ST := pre.map (·.1)
theorem firsts_snoc (pre : List (ST × ByteArray)) (x : ST × ByteArray) : firsts (pre ++ [x]) = firsts pre ++ [x.1] := by simp [firsts]
theorem traceS_bound (k : Int) (l : List R) (s : ByteArray) : (traceS k l s).length ≤ 5726623060 := by
  unfold traceS
  split
  · rename_i hk
    exact traceOf_len hk
  · simp
end Go.Proofs.YtddifhbjjiphiaaDoor
