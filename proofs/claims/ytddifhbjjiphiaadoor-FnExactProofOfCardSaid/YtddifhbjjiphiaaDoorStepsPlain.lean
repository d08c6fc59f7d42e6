/- All steps of a list of rules at a word, in order: plain lemmas. -/
import Derived.Test.YtddifhbjjiphiaaDoorSteps
import Derived.Test.YtddifhbjjiphiaaDoorRulesOk
import Derived.Test.YtddifhbjjiphiaaDoorPlaces
namespace Go.Proofs.YtddifhbjjiphiaaDoor
open Go.RowKit

def stepAt (l : List R) (s : ByteArray) (i j : Nat) : List ST := match l[j]? with | some r => if atP s r.1 i then [((j : Int), (i : Int))] else [] | none => []
theorem stepAt_len (l : List R) (s : ByteArray) (i j : Nat) : (stepAt l s i j).length ≤ 1 := by
  unfold stepAt
  cases l[j]? with
  | none => simp
  | some r => dsimp only; split <;> simp
/-- The steps at the place i with the first j rules. -/
def rowTo (l : List R) (s : ByteArray) (i : Nat) : Nat → List ST
  | 0 => []
  | j + 1 => rowTo l s i j ++ stepAt l s i j
theorem rowTo_step (l : List R) (s : ByteArray) (i j : Nat) (r : R) (h : l[j]? = some r) : rowTo l s i (j + 1) = rowTo l s i j ++ (if atP s r.1 i then [((j : Int), (i : Int))] else []) := by
  rw [rowTo, stepAt, h]
theorem rowTo_len (l : List R) (s : ByteArray) (i : Nat) : ∀ j, (rowTo l s i j).length ≤ j
  | 0 => Nat.le_refl _
  | j + 1 => by
    have := rowTo_len l s i j
    have := stepAt_len l s i j
    rw [rowTo, List.length_append]
    omega
/-- The place of round i, from the left (d = 0) or from the right. -/
def placeD (d : Int) (n i : Nat) : Nat := if d = 1 then n - 1 - i else i
def rowsTo (l : List R) (s : ByteArray) (d : Int) : Nat → List ST
  | 0 => []
  | i + 1 => rowsTo l s d i ++ rowTo l s (placeD d s.size i) l.length
theorem rowsTo_len (l : List R) (s : ByteArray) (d : Int) : ∀ i, (rowsTo l s d i).length ≤ i * l.length
  | 0 => Nat.zero_le _
  | i + 1 => by
    have h1 := rowsTo_len l s d i
    have h2 := rowTo_len l s (placeD d s.size i) l.length
    rw [rowsTo, List.length_append, Nat.succ_mul]; omega
def stepsD (l : List R) (s : ByteArray) (d : Int) : List ST := rowsTo l s d s.size
def stepsOf (k : Int) (l : List R) (s : ByteArray) : List ST := if rulesOk k l then stepsD l s 0 else []
theorem stepsOf_yes {k : Int} {l : List R} (s : ByteArray) (h : rulesOk k l = true) : stepsOf k l s = stepsD l s 0 := by rw [stepsOf, if_pos h]
theorem stepsOf_no {k : Int} {l : List R} (s : ByteArray) (h : rulesOk k l = false) : stepsOf k l s = [] := by rw [stepsOf, h]; rfl
theorem rulesOk_len {k : Int} {l : List R} (h : rulesOk k l = true) : l.length ≤ 12 := by
  simp only [rulesOk, Bool.and_eq_true, decide_eq_true_eq] at h; exact h.1.2
theorem rulesOk_mem {k : Int} {l : List R} (h : rulesOk k l = true) {r : R} (hr : r ∈ l) : r.1.size ≤ 8 ∧ r.2.size ≤ 8 ∧ 0 < r.1.size := by
  simp only [rulesOk, Bool.and_eq_true, List.all_eq_true] at h
  have := h.2 r hr
  simp only [ruleOk, sidesOk, Bool.and_eq_true, decide_eq_true_eq] at this
  omega
end Go.Proofs.YtddifhbjjiphiaaDoor
