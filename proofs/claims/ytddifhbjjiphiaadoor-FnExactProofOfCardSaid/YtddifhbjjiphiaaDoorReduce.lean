/- NormalForm, FarForm, TraceOf: the program's. -/
import Derived.Test.YtddifhbjjiphiaaDoorReduction
import Derived.Test.YtddifhbjjiphiaaDoorSpecReduce
namespace Go.Proofs.YtddifhbjjiphiaaDoor
open Go.RowKit Go.Shelf
attribute [local go_sem] Oper.semAt_some

theorem lastOf_snoc (s : ByteArray) (pre : List (ST × ByteArray)) (x : ST × ByteArray) : lastOf s (pre ++ [x]) = x.2 := by rw [lastOf]; simp
end Go.Proofs.YtddifhbjjiphiaaDoor
