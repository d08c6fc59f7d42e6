/- The places of a part in a word: both PlacesOf. -/
import Derived.Test.YtddifhbjjiphiaaDoorInts
import Derived.Lib.Strings
namespace Go.Proofs.YtddifhbjjiphiaaDoor
open Go.RowKit

/-- Does p begin at the place i of s? -/
def atP (s p : ByteArray) (i : Nat) : Bool := decide (i + p.size ≤ s.size) && ((s.extract i (i + p.size)).toList == p.toList)
def placesL (s p : ByteArray) (k : Nat) : List Int := ((List.range k).filter (atP s p)).map fun i : Nat => (i : Int)
theorem placesL_step (s p : ByteArray) (k : Nat) : placesL s p (k + 1) = placesL s p k ++ (if atP s p k then [(k : Int)] else []) := by
  unfold placesL
  rw [List.range_succ, List.filter_append, List.map_append]
  congr 1
  by_cases h : atP s p k <;> simp [h]
theorem placesL_len (s p : ByteArray) (k : Nat) : (placesL s p k).length ≤ k := by
  unfold placesL
  rw [List.length_map]
  exact Nat.le_trans (List.length_filter_le _ _) (by simp)
theorem placesL_end (s p : ByteArray) (k : Nat) (h : s.size < k + p.size) : ∀ d, placesL s p (k + d) = placesL s p k
  | 0 => rfl
  | d + 1 => by
    rw [← Nat.add_assoc, placesL_step, placesL_end s p k h d]
    have : atP s p (k + d) = false := by unfold atP; rw [decide_eq_false (by omega), Bool.false_and]
    simp [this]

/-- Does s begin with p? -/
def begS (s p : ByteArray) : Bool := decide (p.size ≤ s.size) && ((s.extract 0 p.size).toList == p.toList)
theorem begS_at (s p : ByteArray) (i : Nat) (h : i ≤ s.size) : begS (s.extract i s.size) p = atP s p i := by
  unfold begS atP
  have hsz : (s.extract i s.size).size = s.size - i := by simp
  rw [hsz]
  by_cases hle : i + p.size ≤ s.size
  · rw [decide_eq_true hle, decide_eq_true (by omega), Bool.true_and, Bool.true_and]
    have : (s.extract i s.size).extract 0 p.size = s.extract i (i + p.size) := by
      rw [ByteArray.extract_extract]; congr 1; omega
    rw [this]
  · rw [decide_eq_false hle, decide_eq_false (by omega), Bool.false_and, Bool.false_and]

set_option maxHeartbeats 400000 in
theorem beginsWith_any (s p : ByteArray) (w : World) :
    Calls Tryd.prog 67 #[.string s, .string p] w fun e w' => e = .returned (.bool (begS s p)) ∧ w = w' := by
  by_cases h : p.size ≤ s.size
  · have He := Lib.hid (show ((s.extract 0 p.size).toList == p.toList) = begS s p by unfold begS; rw [decide_eq_true h, Bool.true_and])
    go_enter Tryd.func67, Tryd.ntmps67
    go_wp2_with fail
    go_ret
    exact ⟨ret_bool He.out, rfl⟩
  · have He := Lib.hid (show false = begS s p by unfold begS; rw [decide_eq_false h, Bool.false_and])
    go_enter Tryd.func67, Tryd.ntmps67
    go_wp2_with fail
    go_ret
    exact ⟨ret_bool He.out, rfl⟩

/-- All places of p in s; none if p is empty. -/
def placesOf (s p : ByteArray) : List Int := if p.size = 0 then [] else placesL s p s.size
theorem placesOf_len (s p : ByteArray) : (placesOf s p).length ≤ s.size := by
  unfold placesOf
  split
  · simp
  · exact placesL_len _ _ _
end Go.Proofs.YtddifhbjjiphiaaDoor
