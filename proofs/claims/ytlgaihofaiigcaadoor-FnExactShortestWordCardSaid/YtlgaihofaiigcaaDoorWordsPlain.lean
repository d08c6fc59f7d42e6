/- All words of a length, in plain terms. -/
import Derived.Test.YtlgaihofaiigcaaDoorKit
namespace Go.Proofs.YtlgaihofaiigcaaDoor

/-- s with the letter number x behind it. -/
def ext1 (s : ByteArray) (x : Nat) : ByteArray := s ++ ⟨#[UInt8.ofNat (97 + x)]⟩
def extK (s : ByteArray) (k : Nat) : List ByteArray := (List.range k).map (ext1 s)
def nextL (l : List ByteArray) (k : Nat) : List ByteArray := l.flatMap fun s => extK s k
def wordsL (k : Nat) : Nat → List ByteArray
  | 0 => [⟨#[]⟩]
  | n + 1 => nextL (wordsL k n) k
theorem ext1_size (s : ByteArray) (x : Nat) : (ext1 s x).size = s.size + 1 := by unfold ext1; rw [ByteArray.size_append]; rfl
theorem extK_zero (s : ByteArray) : extK s 0 = [] := rfl
theorem extK_step (s : ByteArray) (x : Nat) : extK s (x + 1) = extK s x ++ [ext1 s x] := by simp [extK, List.range_succ]
theorem extK_length (s : ByteArray) (x : Nat) : (extK s x).length = x := by simp [extK]
theorem nextL_nil (k : Nat) : nextL [] k = [] := rfl
theorem nextL_length (l : List ByteArray) (k : Nat) : (nextL l k).length = l.length * k := by
  unfold nextL
  induction l with
  | nil => simp
  | cons a l ih => rw [List.flatMap_cons, List.length_append, ih, extK_length, List.length_cons, Nat.succ_mul]; omega
theorem nextL_take (l : List ByteArray) (k j : Nat) (s : ByteArray) (h : l[j]? = some s) : nextL (l.take (j + 1)) k = nextL (l.take j) k ++ extK s k := by
  have hj := (List.getElem?_eq_some_iff.1 h).1
  have he := (List.getElem?_eq_some_iff.1 h).2
  rw [List.take_succ_eq_append_getElem hj, he]
  simp [nextL, List.flatMap_append]
theorem wordsL_size (k : Nat) : ∀ n, ∀ s ∈ wordsL k n, s.size = n
  | 0, s, h => by
    simp only [wordsL, List.mem_singleton] at h
    subst h; rfl
  | n + 1, s, h => by
    simp only [wordsL, nextL, List.mem_flatMap, extK, List.mem_map] at h
    obtain ⟨a, ha, x, _, rfl⟩ := h
    rw [ext1_size, wordsL_size k n a ha]
theorem wordsL_step_length (k n : Nat) : (wordsL k (n + 1)).length = (wordsL k n).length * k := nextL_length _ _
end Go.Proofs.YtlgaihofaiigcaaDoor
