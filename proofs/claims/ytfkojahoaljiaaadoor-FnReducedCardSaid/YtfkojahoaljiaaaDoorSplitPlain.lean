/- Splitting, in plain terms. -/
import Derived.Test.YtfkojahoaljiaaaDoorStrs
import Derived.Laws.Rows
import Derived.Laws.Tables
import Derived.Laws.CopyOwn
import Derived.Lib.Strings
namespace Go.Proofs.YtfkojahoaljiaaaDoor
open Go.RowKit

/-- Is the byte c one of the separators? -/
def sepOf (b : List UInt8) (c : Nat) : Bool := b.any fun x => x.toNat == c
theorem sepOf_snoc (b : List UInt8) (x : UInt8) : (fun i => sepOf b i || i == x.toNat) = sepOf (b ++ [x]) := by
  funext i
  simp only [sepOf, List.any_append, List.any_cons, List.any_nil, Bool.or_false]
  congr 1
  rw [Bool.eq_iff_iff, beq_iff_eq, beq_iff_eq]
  exact ⟨fun h => h.symm, fun h => h.symm⟩
def mkS (x : List UInt8) : ByteArray := ⟨x.toArray⟩
/-- Splitting, byte by byte: the parts that are done, and the one that is under way. -/
def splitSt (p : Nat → Bool) (l : List UInt8) : List (List UInt8) × List UInt8 :=
  l.foldl (fun st c => if p c.toNat then (st.1 ++ [st.2], []) else (st.1, st.2 ++ [c])) ([], [])
def splitL (p : Nat → Bool) (l : List UInt8) : List ByteArray := ((splitSt p l).1 ++ [(splitSt p l).2]).map mkS
theorem splitSt_snoc (p : Nat → Bool) (l : List UInt8) (c : UInt8) : splitSt p (l ++ [c]) = if p c.toNat then ((splitSt p l).1 ++ [(splitSt p l).2], []) else ((splitSt p l).1, (splitSt p l).2 ++ [c]) := by
  unfold splitSt; rw [List.foldl_append]; rfl
theorem splitSt_len (p : Nat → Bool) : ∀ (l : List UInt8) (st : List (List UInt8) × List UInt8), (l.foldl (fun st c => if p c.toNat then (st.1 ++ [st.2], []) else (st.1, st.2 ++ [c])) st).1.length ≤ st.1.length + l.length
  | [], st => by simp
  | c :: l, st => by
    rw [List.foldl_cons]
    refine Nat.le_trans (splitSt_len p l _) ?_
    split <;> simp <;> omega
theorem splitL_len (p : Nat → Bool) (l : List UInt8) : (splitL p l).length ≤ l.length + 1 := by
  have := splitSt_len p l ([], [])
  simp only [splitL, List.length_map, List.length_append, List.length_cons, List.length_nil] at this ⊢
  unfold splitSt
  omega
theorem extract_mkS (s : ByteArray) (a b : Nat) (_h : b ≤ s.size) : s.extract a b = mkS ((s.data.toList.take b).drop a) := by
  have h1 : (s.extract a b).data.toList = (mkS ((s.data.toList.take b).drop a)).data.toList := by
    rw [Lib.extract_data, List.drop_take]; simp [mkS]
  have h2 := congrArg List.toArray h1
  rw [Array.toArray_toList, Array.toArray_toList] at h2
  exact ByteArray.ext h2

end Go.Proofs.YtfkojahoaljiaaaDoor
