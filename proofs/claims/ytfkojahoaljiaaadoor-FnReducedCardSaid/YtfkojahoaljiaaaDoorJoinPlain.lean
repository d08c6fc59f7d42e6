/- Joining, in plain terms. -/
import Derived.Test.YtfkojahoaljiaaaDoorStrs
import Derived.Lib.Join
namespace Go.Proofs.YtfkojahoaljiaaaDoor
open Go.RowKit

def joinS (xs : List ByteArray) (sep : ByteArray) : ByteArray := ⟨(Lib.join (xs.map (·.data.toList)) sep.data.toList).toArray⟩

def total (xs : List ByteArray) : Nat := (xs.map (·.size)).sum
theorem total_step (xs : List ByteArray) (k : Nat) (s : ByteArray) (h : xs[k]? = some s) : total (xs.take (k + 1)) = total (xs.take k) + s.size := by
  unfold total
  have hk := (List.getElem?_eq_some_iff.1 h).1
  have he := (List.getElem?_eq_some_iff.1 h).2
  rw [List.take_succ_eq_append_getElem hk, he]; simp

/-- spec.Join's text behind k rounds. -/
def joinTo (xs : List ByteArray) (sep : ByteArray) (k : Nat) : ByteArray := joinS (xs.take k) sep
theorem join_step (xs : List ByteArray) (sep s : ByteArray) (k : Nat) (h : xs[k]? = some s) :
    joinTo xs sep (k + 1) = (if k = 0 then joinTo xs sep k else joinTo xs sep k ++ sep) ++ s := by
  have hk := (List.getElem?_eq_some_iff.1 h).1
  have he := (List.getElem?_eq_some_iff.1 h).2
  unfold joinTo joinS
  rw [List.take_succ_eq_append_getElem hk, he]
  cases k with
  | zero => apply ByteArray.ext; simp [Lib.join_one, Lib.join_nil]
  | succ k =>
    rw [if_neg (by omega)]
    cases xs with
    | nil => simp at hk
    | cons x xs =>
      simp only [List.take_succ_cons, List.cons_append, List.map_cons, List.map_append, Lib.join_cons, Lib.joinTail]
      apply ByteArray.ext; simp
theorem joinS_size (xs : List ByteArray) (sep : ByteArray) : (joinS xs sep).size ≤ sep.size * xs.length + total xs := by
  show (Lib.join (xs.map (·.data.toList)) sep.data.toList).toArray.size ≤ _
  cases xs with
  | nil => simp [Lib.join_nil]
  | cons x r =>
    simp only [List.size_toArray, List.map_cons]
    rw [Lib.join_length]
    have h1 : ∀ l : List ByteArray, Lib.lens (l.map (·.data.toList)) = total l := by
      intro l; unfold Lib.lens total
      rw [List.map_map]; exact congrArg List.sum (List.map_congr_left (fun a _ => Array.length_toList ..))
    have h2 := h1 (x :: r)
    rw [List.map_cons] at h2
    rw [h2]
    simp only [List.length_map, List.length_cons]
    have e1 : sep.data.toList.length = sep.size := by simp
    rw [e1]
    have e2 : sep.size * r.length ≤ sep.size * (r.length + 1) := Nat.mul_le_mul (Nat.le_refl _) (by omega)
    omega
theorem total_take (xs : List ByteArray) (k : Nat) : total (xs.take k) ≤ total xs := by
  unfold total
  conv => rhs; rw [← List.take_append_drop k xs]
  rw [List.map_append, List.sum_append]; omega
theorem joinTo_size (xs : List ByteArray) (sep : ByteArray) (k n : Nat) (hn : xs.length = n) (h1 : sep.size ≤ 1048576) (h2 : n ≤ 1048576) (h3 : total xs ≤ 1048576) : (joinTo xs sep k).size ≤ 1099512676352 := by
  have h := joinS_size (xs.take k) sep
  have ht := total_take xs k
  have hl : (xs.take k).length ≤ 1048576 := by rw [List.length_take]; omega
  have hm : sep.size * (xs.take k).length ≤ 1048576 * 1048576 := Nat.mul_le_mul h1 hl
  unfold joinTo
  omega

end Go.Proofs.YtfkojahoaljiaaaDoor
