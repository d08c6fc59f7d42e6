/- How many rules the known systems have. -/
import Derived.Test.YtlehdmflnglipaaDoorKnownPlain
namespace Go.Proofs.YtlehdmflnglipaaDoor
open Go.RowKit
theorem sortOf_len (k : Int) : (sortOf k).2.1.length ≤ 16 := by
  unfold sortOf
  by_cases h : 1 ≤ k ∧ k ≤ 4
  · rw [if_pos h]; exact Nat.le_trans (sortTo_len k.toNat (by omega)) (by omega)
  · rw [if_neg h]; exact Nat.zero_le _
theorem projOf_len (k : Int) : (projOf k).2.1.length ≤ 16 := by
  unfold projOf
  by_cases h : 1 ≤ k ∧ k ≤ 4
  · rw [if_pos h]; show (projTo _).length ≤ 16; rw [projTo_len]; omega
  · rw [if_neg h]; exact Nat.zero_le _
theorem brackOf_len (k : Int) : (brackOf k).2.1.length ≤ 16 := by
  unfold brackOf
  by_cases h : 1 ≤ k ∧ k ≤ 2
  · rw [if_pos h]; show (brackTo _).length ≤ 16; rw [brackTo_len]; omega
  · rw [if_neg h]; exact Nat.zero_le _
theorem cycOf_len (k : Int) : (cycOf k).2.1.length ≤ 16 := by
  unfold cycOf
  by_cases h : 1 ≤ k ∧ k ≤ 8
  · rw [if_pos h]; show 1 ≤ 16; omega
  · rw [if_neg h]; exact Nat.zero_le _
end Go.Proofs.YtlehdmflnglipaaDoor
