/- Words of letters by their numbers; the rules of the known systems. Plain. -/
import Derived.Test.YtlehdmflnglipaaDoorRules
import Derived.Test.YtlehdmflnglipaaDoorInts
namespace Go.Proofs.YtlehdmflnglipaaDoor
open Go.RowKit

def letW (l : List Nat) : ByteArray := ⟨(l.map fun k => UInt8.ofNat (97 + k)).toArray⟩
theorem letW_snoc (l : List Nat) (k : Nat) : letW (l ++ [k]) = letW l ++ ⟨#[UInt8.ofNat (97 + k)]⟩ := by
  apply ByteArray.ext
  rw [ByteArray.data_append]
  simp [letW]
theorem letW_nil : letW [] = ⟨#[]⟩ := rfl
theorem letW_cons (a : Nat) (l : List Nat) : letW (a :: l) = ⟨#[UInt8.ofNat (97 + a)]⟩ ++ letW l := by
  apply ByteArray.ext
  rw [ByteArray.data_append]
  simp [letW]
theorem letW_two (a b : Nat) : (⟨#[UInt8.ofNat (97 + a)]⟩ : ByteArray) ++ ⟨#[UInt8.ofNat (97 + b)]⟩ = letW [a, b] := by
  rw [letW_cons]; rfl
theorem letW_one (a : Nat) : (⟨#[UInt8.ofNat (97 + a)]⟩ : ByteArray) = letW [a] := rfl
theorem letW_size (l : List Nat) : (letW l).size = l.length := by simp [letW, ByteArray.size]
def natI (l : List Nat) : List Int := l.map fun k : Nat => (k : Int)
theorem natI_get {l : List Nat} {j x : Nat} (h : l[j]? = some x) : (natI l)[j]? = some (x : Int) := by simp [natI, h]
/-- The rules of SortingSystem: those of y below x, row by row. -/
def sortRow (y x : Nat) : List R := (List.range x).map fun j => (letW [y, j], letW [j, y])
def sortTo (y : Nat) : List R := (List.range y).flatMap fun i => sortRow i i
theorem sortRow_succ (y x : Nat) : sortRow y (x + 1) = sortRow y x ++ [(letW [y, x], letW [x, y])] := by simp [sortRow, List.range_succ]
theorem sortTo_succ (y : Nat) : sortTo (y + 1) = sortTo y ++ sortRow y y := by simp [sortTo, List.range_succ]
theorem sortRow_len (y x : Nat) : (sortRow y x).length = x := by simp [sortRow]
theorem sortTo_len : ∀ y, y ≤ 4 → (sortTo y).length ≤ 6
  | 0, _ => by decide
  | 1, _ => by decide
  | 2, _ => by decide
  | 3, _ => by decide
  | 4, _ => by decide
  | n + 5, h => by omega
theorem sortTo_row (y x : Nat) (hy : y < 4) (hx : x ≤ y) : (sortTo y ++ sortRow y x).length ≤ 6 := by
  rw [List.length_append, sortRow_len]
  match y, hy with
  | 0, _ => (show 0 + x ≤ 6); omega
  | 1, _ => (show 0 + x ≤ 6); omega
  | 2, _ => (show 1 + x ≤ 6); omega
  | 3, _ => (show 3 + x ≤ 6); omega
def projTo (k : Nat) : List R := (List.range k).map fun x => (letW [x, x], letW [x])
theorem projTo_succ (k : Nat) : projTo (k + 1) = projTo k ++ [(letW [k, k], letW [k])] := by simp [projTo, List.range_succ]
theorem projTo_len (k : Nat) : (projTo k).length = k := by simp [projTo]
def brackTo (k : Nat) : List R := (List.range k).map fun i => (letW [2 * i, 2 * i + 1], ⟨#[]⟩)
theorem brackTo_succ (k : Nat) : brackTo (k + 1) = brackTo k ++ [(letW [2 * k, 2 * k + 1], ⟨#[]⟩)] := by simp [brackTo, List.range_succ]
theorem brackTo_len (k : Nat) : (brackTo k).length = k := by simp [brackTo]
theorem rulesC_snoc (l : List R) (r : R) : rulesC (l ++ [r]) = rulesC l ++ [.string r.1, .string r.2] := by simp [rulesC, ruleC]
/-- What a known system is: its number of letters, its rules, and true. -/
def SysAns (w : World) (a : Int × List R × Bool) (e : Ending) (w' : World) : Prop := ∃ A c, e = .returned (.tuple #[.agg #[.int .i64 a.1, .slice A a.2.1.length c], .bool a.2.2]) ∧ Own w.heap.size w' (.slice A a.2.1.length c) 2 a.2.1.length (rulesC a.2.1) ∧ Below w.heap.size w w'
def cycOf (n : Int) : Int × List R × Bool := if 1 ≤ n ∧ n ≤ 8 then (1, [(letW (List.replicate n.toNat 0), ⟨#[]⟩)], true) else (0, [], false)
def sortOf (k : Int) : Int × List R × Bool := if 1 ≤ k ∧ k ≤ 4 then (k, sortTo k.toNat, true) else (0, [], false)
def projOf (k : Int) : Int × List R × Bool := if 1 ≤ k ∧ k ≤ 4 then (k, projTo k.toNat, true) else (0, [], false)
def brackOf (k : Int) : Int × List R × Bool := if 1 ≤ k ∧ k ≤ 2 then (2 * k, brackTo k.toNat, true) else (0, [], false)
end Go.Proofs.YtlehdmflnglipaaDoor
