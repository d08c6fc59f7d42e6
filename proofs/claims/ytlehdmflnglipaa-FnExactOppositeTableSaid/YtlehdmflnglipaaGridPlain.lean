/- Square tables by a function: plain. -/
import Derived.Test.YtlehdmflnglipaaTabPlain
namespace Go.Proofs.Ytlehdmflnglipaa

/-- Row i up to k of the table of f. -/
def gridRow (f : Nat → Nat → Nat) (i k : Nat) : List Int := (List.range k).map fun j => ((f i j : Nat) : Int)
/-- The first i rows of size S. -/
def gridTo (S : Nat) (f : Nat → Nat → Nat) (i : Nat) : List Int := (List.range i).flatMap fun a => gridRow f a S
def grid (S : Nat) (f : Nat → Nat → Nat) : List Int := gridTo S f S
theorem gridRow_len (f : Nat → Nat → Nat) (i k : Nat) : (gridRow f i k).length = k := by simp [gridRow]
theorem gridRow_succ (f : Nat → Nat → Nat) (i k : Nat) : gridRow f i (k + 1) = gridRow f i k ++ [((f i k : Nat) : Int)] := by simp [gridRow, List.range_succ]
theorem gridTo_succ (S : Nat) (f : Nat → Nat → Nat) (i : Nat) : gridTo S f (i + 1) = gridTo S f i ++ gridRow f i S := by simp [gridTo, List.range_succ]
theorem gridTo_len (S : Nat) (f : Nat → Nat → Nat) : ∀ i, (gridTo S f i).length = i * S
  | 0 => by simp [gridTo]
  | i + 1 => by rw [gridTo_succ, List.length_append, gridTo_len S f i, gridRow_len, Nat.succ_mul]
theorem grid_len (S : Nat) (f : Nat → Nat → Nat) : (grid S f).length = S * S := gridTo_len S f S
theorem gridTo_get (S : Nat) (f : Nat → Nat → Nat) : ∀ (n i k : Nat), i < n → k < S → (gridTo S f n)[i * S + k]? = some ((f i k : Nat) : Int)
  | 0, _, _, h, _ => by omega
  | n + 1, i, k, h, hk => by
    rw [gridTo_succ]
    by_cases e : i = n
    · subst e
      rw [List.getElem?_append_right (by rw [gridTo_len]; omega), gridTo_len, Nat.add_sub_cancel_left]
      simp [gridRow, hk]
    · have h1 : i * S + k < n * S := by
        have : (i + 1) * S ≤ n * S := Nat.mul_le_mul_right S (by omega)
        rw [Nat.succ_mul] at this; omega
      rw [List.getElem?_append_left (by rw [gridTo_len]; exact h1)]
      exact gridTo_get S f n i k (by omega) hk
theorem grid_tat {S : Nat} {f : Nat → Nat → Nat} {i k : Nat} (hi : i < S) (hk : k < S) : tat (grid S f) (i * S + k) = ((f i k : Nat) : Int) := by
  unfold tat
  rw [List.getD_eq_getElem?_getD, show grid S f = gridTo S f S from rfl, gridTo_get S f S i k hi hk]; rfl
theorem gridRow_eq {f : Nat → Nat → Nat} {xs : List Int} {N i : Nat} (h : ∀ j, j < N → tat xs (i * N + j) = ((f i j : Nat) : Int)) : ∀ k, k ≤ N → gridRow f i k = (List.range k).map fun j => tat xs (i * N + j) := by
  intro k hk
  unfold gridRow
  refine List.map_congr_left fun j hj => ?_
  rw [List.mem_range] at hj
  exact (h j (by omega)).symm
/-- The opposite table, and the product of two. -/
def oppF (N : Nat) (xs : List Int) (i k : Nat) : Nat := tmul N xs k i
def prodF (N M : Nat) (xs ys : List Int) (i k : Nat) : Nat := tmul N xs (i / M) (k / M) * M + tmul M ys (i % M) (k % M)
theorem prodF_lt {N M : Nat} {xs ys : List Int} (h : TabOk N xs) (h' : TabOk M ys) {i k : Nat} (hi : i < N * M) (hk : k < N * M) : prodF N M xs ys i k < N * M := by
  have hM : 0 < M := by have := h'.lo; omega
  have h1 := h.lt (Nat.div_lt_of_lt_mul (by rw [Nat.mul_comm]; exact hi) : i / M < N) (Nat.div_lt_of_lt_mul (by rw [Nat.mul_comm]; exact hk) : k / M < N)
  have h2 := h'.lt (Nat.mod_lt i hM) (Nat.mod_lt k hM)
  unfold prodF
  have h3 : (tmul N xs (i / M) (k / M) + 1) * M ≤ N * M := Nat.mul_le_mul_right M h1
  rw [Nat.succ_mul] at h3; omega
end Go.Proofs.Ytlehdmflnglipaa
