/- Lines, in plain terms. -/
import Derived.Test.YtcdndnnmcjpdnaaSplitPlain
namespace Go.Proofs.Ytcdndnnmcjpdnaa
open Go.RowKit

def nl : ByteArray := ⟨#[10]⟩
def cutL (s : ByteArray) : List ByteArray := splitL (sepOf nl.data.toList) s.data.toList
def linesL (s : ByteArray) : List ByteArray := if (splitSt (sepOf nl.data.toList) s.data.toList).2 = [] then (cutL s).dropLast else cutL s
theorem cutL_last (s : ByteArray) : ∃ m : Nat, (cutL s).length = m + 1 ∧ (cutL s)[m]? = some (mkS (splitSt (sepOf nl.data.toList) s.data.toList).2) := by
  refine ⟨(splitSt (sepOf nl.data.toList) s.data.toList).1.length, by simp [cutL, splitL], ?_⟩
  simp [cutL, splitL]
theorem linesL_len (s : ByteArray) : (linesL s).length ≤ s.size + 1 := by
  have h := splitL_len (sepOf nl.data.toList) s.data.toList
  have h2 : s.data.toList.length = s.size := by simp
  unfold linesL
  split
  · rw [List.length_dropLast]; unfold cutL; omega
  · unfold cutL; omega
theorem mkS_empty (x : List UInt8) : (mkS x).toList.isEmpty = x.isEmpty := by rw [toList_data]; simp [mkS]

end Go.Proofs.Ytcdndnnmcjpdnaa
