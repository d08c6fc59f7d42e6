/- SidesOk, RulesOk, SystemOk: the program's and the model's. -/
import Derived.Test.YtlgaihofaiigcaaRules
import Derived.Test.YtlgaihofaiigcaaLetters
import Derived.Test.YtlgaihofaiigcaaLess
namespace Go.Proofs.Ytlgaihofaiigcaa
open Go.RowKit

/-- Are both sides words with k letters, of at most 8? -/
def sidesOk (k : Int) (r : R) : Bool := wordOk k r.1 && wordOk k r.2 && decide (r.1.size ≤ 8) && decide (r.2.size ≤ 8)
theorem sidesOk_1 {k : Int} {u v : ByteArray} (h : wordOk k u = false) : sidesOk k (u, v) = false := by simp [sidesOk, h]
theorem sidesOk_2 {k : Int} {u v : ByteArray} (h : wordOk k v = false) : sidesOk k (u, v) = false := by simp [sidesOk, h]
theorem sidesOk_3 {k : Int} {u v : ByteArray} (h : ¬ u.size ≤ 8) : sidesOk k (u, v) = false := by simp [sidesOk, h]
theorem sidesOk_4 {k : Int} {u v : ByteArray} (h : ¬ v.size ≤ 8) : sidesOk k (u, v) = false := by simp [sidesOk, h]
theorem sidesOk_5 {k : Int} {u v : ByteArray} (h1 : wordOk k u = true) (h2 : wordOk k v = true) (h3 : u.size ≤ 8) (h4 : v.size ≤ 8) : sidesOk k (u, v) = true := by simp [sidesOk, h1, h2, h3, h4]

def sideOk (k : Int) (u : ByteArray) : Bool := decide (u.size ≤ 8) && wordOk k u
theorem sidesOk_eq (k : Int) (u v : ByteArray) : sidesOk k (u, v) = (sideOk k u && sideOk k v) := by
  unfold sidesOk sideOk
  cases wordOk k u <;> cases wordOk k v <;> simp
/-- Are these valid rules over k letters? -/
def ruleOk (k : Int) (r : R) : Bool := sidesOk k r && decide (0 < r.1.size)
def rulesOk (k : Int) (l : List R) : Bool := inK k && decide (l.length ≤ 12) && l.all (ruleOk k)
theorem take_step {α : Type} (l : List α) (k : Nat) (r : α) (h : l[k]? = some r) : l.take (k + 1) = l.take k ++ [r] := by
  have hk := (List.getElem?_eq_some_iff.1 h).1
  have he := (List.getElem?_eq_some_iff.1 h).2
  rw [List.take_succ_eq_append_getElem hk, he]
theorem all_bad {α : Type} (l : List α) (k : Nat) (r : α) (p : α → Bool) (h : l[k]? = some r) (hp : p r = false) : l.all p = false := by
  rw [List.all_eq_false]; exact ⟨r, List.mem_of_getElem? h, by simp [hp]⟩
theorem isEmptyL (u : ByteArray) : (u.toList == ([] : List UInt8)) = decide (u.size = 0) := by
  rw [toList_data]
  have : u.data.toList.length = u.size := by simp
  generalize u.data.toList = l at this
  rw [← this]
  cases l <;> simp

/-- Is the right side less than the left one? -/
def ordered (r : R) : Bool := lessS r.2 r.1
def systemOk (k : Int) (l : List R) : Bool := rulesOk k l && l.all ordered

/-- What OrientRule answers. -/
def orient (k : Int) (r : R) : R × Bool :=
  if sidesOk k r && decide (r.1 ≠ r.2) then (if lessS r.1 r.2 then (r.2, r.1) else r, true) else ((⟨#[]⟩, ⟨#[]⟩), false)
end Go.Proofs.Ytlgaihofaiigcaa
