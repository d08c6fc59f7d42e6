/- The laws' own helpers on slices of strings: markText, markStringS, heldStringS, eqStringS. -/
import Derived.Test.YtlehdmflnglipaaStrs
import Derived.Test.YtlehdmflnglipaaOneByte
import Derived.Deep.QuietTactic
import Derived.BigQuiet
import Derived.IntWalk
import Derived.Deep.RegionHeld3
import Derived.Lib.ItoaLen
namespace Go.Proofs.Ytlehdmflnglipaa
open Go.RowKit

/-- The digits of n, none for 0. -/
def dec0 (n : Nat) : List UInt8 := if n = 0 then [] else Lib.decDigits n
theorem dec0_step {n : Nat} (h : n ≠ 0) : dec0 n = dec0 (n / 10) ++ [UInt8.ofNat (48 + n % 10)] := by
  unfold dec0
  rw [if_neg h]
  by_cases h10 : n < 10
  · rw [if_pos (by omega), Lib.decDigits_one h10, show n % 10 = n from by omega]; rfl
  · rw [if_neg (by omega), Lib.decDigits, dif_neg h10]
def markT (k : Int) : ByteArray := if k ≤ 0 then ⟨#[109, 48]⟩ else ⟨(109 :: dec0 k.toNat).toArray⟩

theorem dec0_le (n : Nat) (h : n ≤ 4611686018427387904) : (dec0 n).length ≤ 20 := by
  unfold dec0
  split
  · simp
  · rw [Lib.decDigits_length]; exact Lib.nDigits_le20 n (by omega)

/-- markText k, markText (k + 1), .. -/
def marks (k : Int) (n : Nat) : List ByteArray := (List.range n).map fun j : Nat => markT (k + j)
theorem marks_length (k : Int) (n : Nat) : (marks k n).length = n := by simp [marks]
theorem marks_get (k : Int) (n j : Nat) (h : j < n) : (strs (marks k n))[j]? = some (.string (markT (k + j))) := by simp [strs, marks, h]

theorem marks_step (k : Int) (i : Nat) (l : List ByteArray) (hi : i < l.length) : (strs (marks k i ++ l.drop i)).set i (.string (markT (k + i))) = strs (marks k (i + 1) ++ l.drop (i + 1)) := by
  have h1 : l.drop i = l[i] :: l.drop (i + 1) := by rw [List.drop_eq_getElem_cons hi]
  rw [h1]
  have hm : marks k (i + 1) = marks k i ++ [markT (k + i)] := by simp [marks, List.range_succ]
  rw [hm]
  simp only [strs, List.map_append, List.map_cons]
  rw [List.set_append_right _ _ (by simp [marks_length])]
  simp [marks_length]

theorem held_keep {B : Nat} {w W W1 : World} {a : Addr} {v : Value} (h : W.cell? a = some v ∧ Below B w W) (hb : Below W.heap.size W W1) (hB : B ≤ w.heap.size) (ha : a.block < w.heap.size) : W1.cell? a = some v ∧ Below B w W1 :=
  have hs := h.2.size
  ⟨(hb.cell (by omega)).trans h.1, h.2.trans (hb.mono (by omega))⟩

end Go.Proofs.Ytlehdmflnglipaa
