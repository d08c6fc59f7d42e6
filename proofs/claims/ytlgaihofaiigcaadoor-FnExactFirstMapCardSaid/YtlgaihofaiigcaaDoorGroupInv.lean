/- InverseOf and OrderOf, both sides; the powers of an element. -/
import Derived.Test.YtlgaihofaiigcaaDoorGroupAt
namespace Go.Proofs.YtlgaihofaiigcaaDoor
open Go.RowKit

noncomputable def inverseOf (q : Int) (xs : List Int) (i : Int) : Int × Bool := if isGroupB q xs && elemOk q xs i then (((tinv q.toNat xs i.toNat : Nat) : Int), true) else (0, false)
noncomputable def orderOf (q : Int) (xs : List Int) (i : Int) : Int := if isGroupB q xs then (indexPeriod q xs i).2 else 0
theorem inverseOf_yes {N i : Nat} {xs : List Int} (hG : Grp N xs) (hi : i < N) : inverseOf N xs i = (((tinv N xs i : Nat) : Int), true) := by
  unfold inverseOf; rw [isGroup_yes hG, elemOk_yes hG.tab hi]; rfl
theorem inverseOf_no {q : Int} {xs : List Int} {i : Int} (h : ¬ gallOk q xs [i]) : inverseOf q xs i = (0, false) := by
  unfold inverseOf
  rw [if_neg]
  intro h2
  rw [Bool.and_eq_true] at h2
  exact h ⟨h2.1, by rw [allOk_one]; exact h2.2⟩
theorem orderOf_yes {N i k : Nat} {xs : List Int} (hG : Grp N xs) (hi : i < N) (h : IP N xs i 0 k) : orderOf N xs i = k := by
  unfold orderOf; rw [isGroup_yes hG, if_pos rfl, indexPeriod_yes hG.tab hi h]
theorem orderOf_no {q : Int} {xs : List Int} {i : Int} (h : ¬ gallOk q xs [i]) : orderOf q xs i = 0 := by
  unfold orderOf
  cases hg : isGroupB q xs
  · rfl
  · rw [if_pos rfl, indexPeriod_no]
    cases he : elemOk q xs i
    · rfl
    · exact absurd ⟨hg, by rw [allOk_one]; exact he⟩ h
theorem orderOf_le (q : Int) (xs : List Int) (i : Int) : 0 ≤ orderOf q xs i := by
  unfold orderOf
  split
  · unfold indexPeriod
    split
    · exact Int.natCast_nonneg _
    · exact Int.le_refl _
  · exact Int.le_refl _
/-- The powers 1 to k of i. -/
def pow1 (n : Nat) (xs : List Int) (i k : Nat) : List Nat := (List.range k).map fun t => tpow n xs i (t + 1)
theorem pow1_length (n : Nat) (xs : List Int) (i k : Nat) : (pow1 n xs i k).length = k := by simp [pow1]
theorem pow1_succ (n : Nat) (xs : List Int) (i k : Nat) : pow1 n xs i (k + 1) = pow1 n xs i k ++ [tpow n xs i (k + 1)] := by simp [pow1, List.range_succ]
theorem row_new (w : World) (C : Array Value) (m : Nat) (e : TypeId) (hm : C.size = m) (hx : m ≤ maxLen) : (w.alloc (.cells C e)).ownsRow w.heap.size e 1 (.slice (some ⟨w.heap.size, 0, none⟩) m m) m C.toList :=
  ⟨by rw [Array.length_toList]; omega, Or.inr ⟨w.heap.size, m, C, rfl, Nat.le_refl _, heap_alloc_new w _, Nat.le_refl _, hx, by omega, by rw [Nat.mul_one, ← hm]; exact List.take_of_length_le (by rw [Array.length_toList]; exact Nat.le_refl _)⟩⟩
def PowPost (n : Nat) (xs : List Int) (i B : Nat) (e : Ending) (w' : World) : Prop :=
  ∃ v k, e = .returned v ∧ 0 < k ∧ Away n xs i k ∧ tpow n xs i k = 0 ∧ Own B w' v 1 k (ints (nints (pow1 n xs i k)))
end Go.Proofs.YtlgaihofaiigcaaDoor
