/- The letters: what the listed table holds; impl.isAmongFirst, isWritten, count, lettersOk; both WordOk, both CountLetter. -/
import Derived.Test.YtlehdmflnglipaaDoorBase
import Derived.Test.YtlehdmflnglipaaDoorL01In
import Derived.Deep.QuietTactic
import Derived.BigQuiet
import Derived.IntWalk
import Derived.Lib.SmallJoins
import Derived.Lib.LaidTab
namespace Go.Proofs.YtlehdmflnglipaaDoor
open Go.RowKit Go.Joins

theorem gLet : Tryd.prog.globalNamed "loop.example/g03201/impl.letters" = some 0 := by kernel_rfl
theorem gLetType : (Tryd.prog.globals[0]?).map (·.type) = some 82 := by kernel_rfl
theorem cellsLet : Tryd.prog.cellsOf 82 = 4 := by kernel_rfl
theorem cellsLetter : Tryd.prog.cellsOf 81 = 1 := by kernel_rfl
def abcd : List Int := [97, 98, 99, 100]
/-- The table of letters holds a, b, c, d. -/
def Let (W : World) : Prop := Lib.TabIs Tryd.prog W "loop.example/g03201/impl.letters" .u8 abcd
theorem let_of {W : World} {rest : List (String × DataW Unit)} (h : laidMet Tryd.prog (("loop.example/g03201/impl.letters", Rows.laid_loop_example_g03201_impl_letters) :: rest) W) : Let W :=
  Lib.tabIs_of_head (rest := rest) gLet gLetType Tryd.underlying82 Tryd.underlying81 cellsLetter cellsLet h
theorem Let.keep {w w' : World} {B : Nat} (h : Let w) (hb : Below B w w') (hB : w.heap.size ≤ B) : Let w' := tab_stays gLet h hb hB
theorem Let.drewN {w : World} (h : Let w) (m : Nat) : Let (w.drewN m) := h
theorem Let.cell {w : World} (h : Let w) (i : Nat) (hi : i < 4) : w.cell? ⟨0, i, none⟩ = some (.int .u8 (97 + i)) := by
  have h1 := Lib.TabIs.cell h gLet i hi
  rw [h1]
  match i, hi with
  | 0, _ => rfl
  | 1, _ => rfl
  | 2, _ => rfl
  | 3, _ => rfl

/-- Is c one of the first k letters? -/
def among (k : Nat) (c : Int) : Bool := decide (97 ≤ c) && decide (c < 97 + k)

/-- Are all bytes among the first k letters? -/
def written (k : Nat) (s : ByteArray) : Bool := s.data.toList.all fun c => among k c.toNat

/-- Is s a word with k letters? -/
def wordOk (k : Int) (s : ByteArray) : Bool := decide (1 ≤ k ∧ k ≤ 4 ∧ s.size ≤ 16) && written k.toNat s
theorem wordOk_no (k : Int) (s : ByteArray) (h : ¬ (1 ≤ k ∧ k ≤ 4 ∧ s.size ≤ 16)) : wordOk k s = false := by unfold wordOk; rw [decide_eq_false h, Bool.false_and]
theorem wordOk_yes (k : Nat) (s : ByteArray) (h : 1 ≤ k ∧ k ≤ 4 ∧ s.size ≤ 16) : wordOk k s = written k s := by
  unfold wordOk; rw [decide_eq_true (by omega), Bool.true_and]; rfl

def inK (k : Int) : Bool := decide (1 ≤ k) && decide (k ≤ 4)
set_option maxHeartbeats 400000 in
theorem lettersOk_any (k : Int) (w : World) :
    Calls Tryd.prog 35 #[.int .i64 k] w fun e w' => e = .returned (.bool (inK k)) ∧ w = w' := by
  by_cases h1 : 1 ≤ k
  · go_enter Tryd.func35, Tryd.ntmps35
    go_wp2_with fail
    go_ret
    exact ⟨ret_bool (by simp [inK, h1]), rfl⟩
  · have Hf := Lib.hid (show false = inK k by simp [inK]; omega)
    go_enter Tryd.func35, Tryd.ntmps35
    go_wp2_with fail
    go_ret
    exact ⟨ret_bool Hf.out, rfl⟩

/-- How often the byte c occurs. -/
def countB (s : ByteArray) (c : Int) (k : Nat) : Nat := ((s.data.toList.take k).filter fun x => decide ((x.toNat : Int) = c)).length
theorem countB_step (s : ByteArray) (c : Int) (k : Nat) (h : k < s.size) : countB s c (k + 1) = countB s c k + (if (s[k].toNat : Int) = c then 1 else 0) := by
  unfold countB
  rw [take_snoc s k h, List.filter_append, List.length_append]
  congr 1
  by_cases e : (s[k].toNat : Int) = c <;> simp [e]
theorem countB_le (s : ByteArray) (c : Int) (k : Nat) : countB s c k ≤ k := by
  unfold countB
  exact Nat.le_trans (List.length_filter_le _ _) (by simp; omega)
/-- What CountLetter answers. -/
def countOf (s : ByteArray) (l : Int) : Nat := if 0 ≤ l ∧ l ≤ 3 then countB s (97 + l) s.size else 0

end Go.Proofs.YtlehdmflnglipaaDoor
