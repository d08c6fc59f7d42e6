/- Slices of ints of the call's own; the laws' helpers eqIntS, markIntS, heldIntS. -/
import Derived.Test.YtddifhbjjiphiaaDoorBase
import Derived.Test.YtddifhbjjiphiaaDoorOwn
import Derived.IntWalk
import Derived.Deep.QuietTactic
import Derived.BigQuiet
namespace Go.Proofs.YtddifhbjjiphiaaDoor
open Go.RowKit

theorem infoInt : (Tryd.prog.info? 3).map (fun i => (i.zero, i.size, i.bytes)) = some (some (.int .i64 0), 1, 8) := by kernel_rfl
def ints (l : List Int) : List Value := l.map (Value.int .i64)
theorem ints_length (l : List Int) : (ints l).length = l.length := List.length_map ..
/-- What the walk asks of a slice that holds ints: the cell and its mark. -/
theorem Own.int {B n : Nat} {w : World} {A : Option Addr} {c : Nat} {l : List Int} (h : Own B w (.slice A n c) 1 n (ints l)) (hn : 0 < n) :
    ∃ g off, A = some ⟨g, off, none⟩ ∧ B ≤ g ∧ g < w.heap.size ∧ ∀ j, j < n → ∃ s, l[j]? = some s ∧ w.cell? ⟨g, off + j, none⟩ = some (.int .i64 s) ∧ w.frozen? ⟨g, off + j, none⟩ = false := by
  obtain ⟨h1, A', c', hv, hc, hm, h2⟩ := h
  obtain ⟨rfl, rfl⟩ : A = A' ∧ c = c' := by injection hv; exact ⟨by assumption, by assumption⟩
  obtain ⟨g, off, e, hg, hlt, r⟩ := h2 hn
  refine ⟨g, off, e, hg, hlt, fun j hj => ?_⟩
  have hl : l.length = n := by simpa [ints] using h1
  have hj' : j < (ints l).length := by rw [ints_length]; omega
  obtain ⟨r1, r2⟩ := r j hj'
  refine ⟨l[j]'(by omega), by simp [hl, hj], ?_, r2⟩
  rw [r1]; simp [ints, hl, hj]

/-- k, k + 1, .. -/
def imarks (k : Int) (n : Nat) : List Int := (List.range n).map fun j : Nat => k + j
theorem imarks_length (k : Int) (n : Nat) : (imarks k n).length = n := by simp [imarks]
theorem imarks_get (k : Int) (n j : Nat) (h : j < n) : (imarks k n)[j]? = some (k + j) := by simp [imarks, h]

theorem imarks_step (k : Int) (i : Nat) (l : List Int) (hi : i < l.length) : (ints (imarks k i ++ l.drop i)).set i (.int .i64 (k + i)) = ints (imarks k (i + 1) ++ l.drop (i + 1)) := by
  have h1 : l.drop i = l[i] :: l.drop (i + 1) := by rw [List.drop_eq_getElem_cons hi]
  rw [h1]
  have hm : imarks k (i + 1) = imarks k i ++ [k + i] := by simp [imarks, List.range_succ]
  rw [hm]
  simp only [ints, List.map_append, List.map_cons]
  rw [List.set_append_right _ _ (by simp [imarks_length])]
  simp [imarks_length]

end Go.Proofs.YtddifhbjjiphiaaDoor
