/- Tables of products: what a valid one is. Plain. -/
import Derived.Test.YtlehdmflnglipaaDoorKit
namespace Go.Proofs.YtlehdmflnglipaaDoor

/-- The entry at place j of a table's list. -/
def tat (xs : List Int) (j : Nat) : Int := xs.getD j 0
structure TabOk (n : Nat) (xs : List Int) : Prop where
  lo : 1 ≤ n
  hi : n ≤ 40
  len : xs.length = n * n
  rng : ∀ j, j < n * n → 0 ≤ tat xs j ∧ tat xs j < n
  idl : ∀ i, i < n → tat xs i = i
  idr : ∀ i, i < n → tat xs (i * n) = i
  asc : ∀ i j k, i < n → j < n → k < n → tat xs ((tat xs (i * n + j)).toNat * n + k) = tat xs (i * n + (tat xs (j * n + k)).toNat)
noncomputable def tableOk (n : Int) (xs : List Int) : Bool := @decide (∃ m : Nat, n = m ∧ TabOk m xs) (Classical.propDecidable _)
theorem tableOk_yes {n : Nat} {xs : List Int} (h : TabOk n xs) : tableOk n xs = true := by
  unfold tableOk; simp only [decide_eq_true_eq]; exact ⟨n, rfl, h⟩
theorem tableOk_iff {n : Int} {xs : List Int} (h : tableOk n xs = true) : ∃ m : Nat, n = m ∧ TabOk m xs := by
  unfold tableOk at h; simpa only [decide_eq_true_eq] using h
theorem tableOk_nat {n : Nat} {xs : List Int} (h : tableOk n xs = true) : TabOk n xs := by
  obtain ⟨m, e, h⟩ := tableOk_iff h
  obtain rfl : n = m := by omega
  exact h
theorem tableOk_no {n : Int} {xs : List Int} (h : ∀ m : Nat, n = m → ¬ TabOk m xs) : tableOk n xs = false := by
  unfold tableOk; simp only [decide_eq_false_iff_not]; rintro ⟨m, e, h'⟩; exact h m e h'
theorem tableOk_not {n : Nat} {xs : List Int} (h : ¬ TabOk n xs) : tableOk n xs = false :=
  tableOk_no fun m e => by obtain rfl : n = m := by omega
                           exact h
theorem tat_get {xs : List Int} {j : Nat} (h : j < xs.length) : xs[j]? = some (tat xs j) := by
  unfold tat; rw [List.getD_eq_getElem?_getD, List.getElem?_eq_getElem h, Option.getD_some]
theorem row_lt {n i k : Nat} (hi : i < n) (hk : k < n) : i * n + k < n * n := by
  have : (i + 1) * n ≤ n * n := Nat.mul_le_mul_right n hi
  rw [Nat.add_mul] at this; omega
theorem sq_le {n : Nat} (h : n ≤ 40) : n * n ≤ 1600 := Nat.mul_le_mul h h
theorem row_le {n i : Nat} (hi : i < n) (h : n ≤ 40) : i * n ≤ 1600 := Nat.mul_le_mul (by omega : i ≤ 40) h
/-- The product of two elements. -/
def tmul (n : Nat) (xs : List Int) (i k : Nat) : Nat := (tat xs (i * n + k)).toNat
section
variable {n : Nat} {xs : List Int}
theorem TabOk.cast (h : TabOk n xs) {i k : Nat} (hi : i < n) (hk : k < n) : tat xs (i * n + k) = (tmul n xs i k : Nat) := by
  have := (h.rng _ (row_lt hi hk)).1
  unfold tmul; omega
theorem TabOk.lt (h : TabOk n xs) {i k : Nat} (hi : i < n) (hk : k < n) : tmul n xs i k < n := by
  have := h.rng _ (row_lt hi hk)
  unfold tmul; omega
theorem TabOk.one (h : TabOk n xs) {i : Nat} (hi : i < n) : tmul n xs 0 i = i ∧ tmul n xs i 0 = i := by
  have h1 := h.idl i hi
  have h2 := h.idr i hi
  unfold tmul
  rw [Nat.zero_mul, Nat.zero_add, Nat.add_zero, h1, h2]; simp
theorem TabOk.assoc (h : TabOk n xs) {i j k : Nat} (hi : i < n) (hj : j < n) (hk : k < n) : tmul n xs (tmul n xs i j) k = tmul n xs i (tmul n xs j k) := by
  have := h.asc i j k hi hj hk
  unfold tmul; rw [this]
end
end Go.Proofs.YtlehdmflnglipaaDoor
