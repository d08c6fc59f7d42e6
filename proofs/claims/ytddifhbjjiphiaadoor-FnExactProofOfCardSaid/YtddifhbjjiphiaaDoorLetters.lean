/- The letters: what the listed table holds; impl.isAmongFirst, isWritten, count, lettersOk; both WordOk, both CountLetter. -/
import Derived.Test.YtddifhbjjiphiaaDoorBase
import Derived.Test.YtddifhbjjiphiaaDoorL01In
import Derived.Deep.QuietTactic
import Derived.BigQuiet
import Derived.IntWalk
import Derived.Lib.SmallJoins
import Derived.Lib.LaidTab
namespace Go.Proofs.YtddifhbjjiphiaaDoor
open Go.RowKit Go.Joins

theorem gLet : Tryd.prog.globalNamed "loop.example/g03201/impl.letters" = some 0 := by kernel_rfl
theorem gLetType : (Tryd.prog.globals[0]?).map (·.type) = some 122 := by kernel_rfl
theorem cellsLet : Tryd.prog.cellsOf 122 = 4 := by kernel_rfl
theorem cellsLetter : Tryd.prog.cellsOf 119 = 1 := by kernel_rfl
def abcd : List Int := [97, 98, 99, 100]
/-- The table of letters holds a, b, c, d. -/
def Let (W : World) : Prop := Lib.TabIs Tryd.prog W "loop.example/g03201/impl.letters" .u8 abcd
theorem let_of {W : World} {rest : List (String × DataW Unit)} (h : laidMet Tryd.prog (("loop.example/g03201/impl.letters", Rows.laid_loop_example_g03201_impl_letters) :: rest) W) : Let W :=
  Lib.tabIs_of_head (rest := rest) gLet gLetType Tryd.underlying122 Tryd.underlying119 cellsLetter cellsLet h
theorem Let.keep {w w' : World} {B : Nat} (h : Let w) (hb : Below B w w') (hB : w.heap.size ≤ B) : Let w' := tab_stays gLet h hb hB
theorem Let.drewN {w : World} (h : Let w) (m : Nat) : Let (w.drewN m) := h
theorem Let.cell {w : World} (h : Let w) (i : Nat) (hi : i < 4) : w.cell? ⟨0, i, none⟩ = some (.int .u8 (97 + i)) := by
  have h1 := Lib.TabIs.cell h gLet i hi
  rw [h1]
  match i, hi with
  | 0, _ => rfl
  | 1, _ => rfl
  | 2, _ => rfl
  | 3, _ => rfl

/-- Is c one of the first k letters? -/
def among (k : Nat) (c : Int) : Bool := decide (97 ≤ c) && decide (c < 97 + k)

set_option maxHeartbeats 400000 in
theorem isAmongFirst_any (x : Int) (k : Nat) (w : World) (hk : k ≤ 4) (h : Let w) :
    Calls Tryd.prog 89 #[.int .u8 x, .int .i64 k] w fun e w' => e = .returned (.bool (among k x)) ∧ ∃ m, w' = w.drewN m := by
  have H := Lib.hid h
  clear h
  go_enter Tryd.func89, Tryd.ntmps89
  go_wp2_with fail
  go_loop [5, 7] (fun _ i => ∃ j : Nat, j ≤ k ∧ i = .int .i64 j ∧ Hid (x < 97 ∨ 97 + (j : Int) ≤ x)) (fun _ i => k - (intOf i).toNat)
  case atStart => exact ⟨0, Nat.zero_le _, rfl, by show _ ∨ _; omega⟩
  case round =>
    obtain ⟨j, hj, rfl, HX⟩ := hrel
    by_cases hlt : j < k
    · have hc := H.out.cell j (by omega)
      by_cases he : x = 97 + (j : Int)
      · have Hf := Lib.hid (show true = among k x by unfold among; simp; omega)
        have hq : ((97 + (j : Int)) == x) = true := by rw [he]; simp
        clear he
        go_wp2_with fail
        go_ret
        exact ⟨ret_bool Hf.out, 0, rfl⟩
      · have hq : ((97 + (j : Int)) == x) = false := by rw [beq_eq_false_iff_ne]; exact fun h => he h.symm
        have HX2 : Hid (x < 97 ∨ 97 + ((j + 1 : Nat) : Int) ≤ x) := by have := HX.out; show _ ∨ _; omega
        clear he
        go_wp2_with fail
        go_round
        case rel => exact ⟨j + 1, by omega, by go_num, HX2⟩
        case measure => simp [intOf]; omega
    · have Hf := Lib.hid (show false = among k x by have := HX.out; unfold among; rcases this with h | h <;> simp <;> omega)
      go_wp2_with fail
      go_ret
      exact ⟨ret_bool Hf.out, 0, rfl⟩

/-- Are all bytes among the first k letters? -/
def written (k : Nat) (s : ByteArray) : Bool := s.data.toList.all fun c => among k c.toNat

set_option maxHeartbeats 400000 in
theorem isWritten_any (s : ByteArray) (k : Nat) (w : World) (hs : s.size ≤ 1048576) (hk : k ≤ 4) (h : Let w) :
    Calls Tryd.prog 87 #[.string s, .int .i64 k] w fun e w' => e = .returned (.bool (written k s)) ∧ ∃ m, w' = w.drewN m := by
  have HM := Lib.hid (fun m => h.drewN m)
  clear h
  go_enter Tryd.func87, Tryd.ntmps87
  go_wp2_with fail
  go_loopw [5, 8] (fun _ i wr => ∃ j m : Nat, j ≤ s.size ∧ i = .int .i64 j ∧ Hid ((s.data.toList.take j).all (fun c => among k c.toNat) = true) ∧ wr = w.drewN m) (fun _ i _ => s.size - (intOf i).toNat)
  case atStart => exact ⟨0, 0, Nat.zero_le _, rfl, rfl, rfl⟩
  case round =>
    obtain ⟨j, m, hj, rfl, HX, rfl⟩ := hrel
    by_cases hlt : j < s.size
    · have Hst := Lib.hid (take_snoc s j hlt)
      cases ha : among k s[j].toNat
      · have Hf := Lib.hid (show false = written k s by unfold written; exact (all_no s j hlt (fun c => among k c.toNat) ha).symm)
        go_wp2_with (go_at_call 89; refine (isAmongFirst_any _ k _ hk (HM.out _)).mono ?_; rw [ha]; rintro e w' ⟨rfl, m', rfl⟩)
        go_ret
        exact ⟨ret_bool Hf.out, _, rfl⟩
      · have HX2 : Hid ((s.data.toList.take (j + 1)).all (fun c => among k c.toNat) = true) := by
          show _ = true
          rw [Hst.out, List.all_append, HX.out, Bool.true_and]; simp [ha]
        go_wp2_with (go_at_call 89; refine (isAmongFirst_any _ k _ hk (HM.out _)).mono ?_; rw [ha]; rintro e w' ⟨rfl, m', rfl⟩)
        go_roundw
        case rel => exact ⟨j + 1, _, by omega, by go_num, HX2, rfl⟩
        case measure => simp [intOf]; omega
    · have Hf := Lib.hid (show true = written k s by unfold written; rw [← HX.out, take_all s j hlt])
      go_wp2_with fail
      go_ret
      exact ⟨ret_bool Hf.out, _, rfl⟩

/-- Is s a word with k letters? -/
def wordOk (k : Int) (s : ByteArray) : Bool := decide (1 ≤ k ∧ k ≤ 4 ∧ s.size ≤ 16) && written k.toNat s
theorem wordOk_no (k : Int) (s : ByteArray) (h : ¬ (1 ≤ k ∧ k ≤ 4 ∧ s.size ≤ 16)) : wordOk k s = false := by unfold wordOk; rw [decide_eq_false h, Bool.false_and]
theorem wordOk_yes (k : Nat) (s : ByteArray) (h : 1 ≤ k ∧ k ≤ 4 ∧ s.size ≤ 16) : wordOk k s = written k s := by
  unfold wordOk; rw [decide_eq_true (by omega), Bool.true_and]; rfl

def inK (k : Int) : Bool := decide (1 ≤ k) && decide (k ≤ 4)
set_option maxHeartbeats 400000 in
theorem lettersOk_any (k : Int) (w : World) :
    Calls Tryd.prog 65 #[.int .i64 k] w fun e w' => e = .returned (.bool (inK k)) ∧ w = w' := by
  by_cases h1 : 1 ≤ k
  · go_enter Tryd.func65, Tryd.ntmps65
    go_wp2_with fail
    go_ret
    exact ⟨ret_bool (by simp [inK, h1]), rfl⟩
  · have Hf := Lib.hid (show false = inK k by simp [inK]; omega)
    go_enter Tryd.func65, Tryd.ntmps65
    go_wp2_with fail
    go_ret
    exact ⟨ret_bool Hf.out, rfl⟩

set_option maxHeartbeats 800000 in
theorem implWordOk (k : Int) (s : ByteArray) (w : World) (hs : s.size ≤ 1048576) (h : Let w) :
    Calls Tryd.prog 81 #[.int .i64 k, .string s] w fun e w' => e = .returned (.bool (wordOk k s)) ∧ ∃ m, w' = w.drewN m := by
  have H := Lib.hid h
  clear h
  by_cases hk : 1 ≤ k ∧ k ≤ 4
  · obtain ⟨hk0, hk1⟩ := hk
    obtain ⟨k, rfl⟩ : ∃ n : Nat, k = n := ⟨k.toNat, by omega⟩
    by_cases h16 : s.size ≤ 16
    · have He := Lib.hid (wordOk_yes k s (by omega))
      have Hd := Lib.hid (show inK k = true by simp [inK]; omega)
      go_enter Tryd.func81, Tryd.ntmps81
      go_wp2_with (first | (go_at_call 65; refine (lettersOk_any _ _).mono ?_; rw [Hd.out]; rintro e w' ⟨rfl, rfl⟩) | (go_at_call 87; refine (isWritten_any _ k _ hs (by omega) H.out).mono ?_; rintro e w' ⟨rfl, m, rfl⟩))
      go_ret
      exact ⟨ret_bool He.out.symm, _, rfl⟩
    · have He := Lib.hid (wordOk_no (k : Int) s (by omega))
      have Hd := Lib.hid (show inK k = true by simp [inK]; omega)
      go_enter Tryd.func81, Tryd.ntmps81
      go_wp2_with (go_at_call 65; refine (lettersOk_any _ _).mono ?_; rw [Hd.out]; rintro e w' ⟨rfl, rfl⟩)
      go_ret
      exact ⟨ret_bool He.out.symm, 0, rfl⟩
  · have hd : inK k = false := by simp [inK]; omega
    have He := Lib.hid (wordOk_no k s (by omega))
    have Hd := Lib.hid hd
    clear hd hk
    go_enter Tryd.func81, Tryd.ntmps81
    go_wp2_with (go_at_call 65; refine (lettersOk_any _ _).mono ?_; rw [Hd.out]; rintro e w' ⟨rfl, rfl⟩)
    go_ret
    exact ⟨ret_bool He.out.symm, 0, rfl⟩

set_option maxHeartbeats 800000 in
theorem specWordOk (k : Int) (s : ByteArray) (w : World) (hs : s.size ≤ 1048576) :
    Calls Tryd.prog 75 #[.int .i64 k, .string s] w fun e w' => e = .returned (.bool (wordOk k s)) ∧ w = w' := by
  by_cases hk : 1 ≤ k ∧ k ≤ 4
  · obtain ⟨hk0, hk1⟩ := hk
    by_cases h16 : s.size ≤ 16
    · obtain ⟨k, rfl⟩ : ∃ n : Nat, k = n := ⟨k.toNat, by omega⟩
      have He := Lib.hid (wordOk_yes k s (by omega))
      go_enter Tryd.func75, Tryd.ntmps75
      go_wp2_with (go_at_call 36; refine (l01In_yes _ _ _ _ hk0 hk1).mono ?_; rintro e w' ⟨rfl, rfl⟩)
      go_loop [5] (fun i => ∃ j : Nat, j ≤ s.size ∧ i = .int .i64 j ∧ Hid ((s.data.toList.take j).all (fun c => among k c.toNat) = true)) (fun i => s.size - (intOf i).toNat)
      case atStart => exact ⟨0, Nat.zero_le _, rfl, rfl⟩
      case round =>
        obtain ⟨j, hj, rfl, HX⟩ := hrel
        by_cases hlt : j < s.size
        · have Hst := Lib.hid (take_snoc s j hlt)
          have Hno := Lib.hid (all_no s j hlt (fun c => among k c.toNat))
          by_cases h97 : (s[j].toNat : Int) < 97
          · have Hf := Lib.hid (show false = written k s by unfold written; exact (Hno.out (by simp [among]; omega)).symm)
            go_wp2_with fail
            go_ret
            exact ⟨ret_bool (by rw [He.out]; exact Hf.out), rfl⟩
          · have hm : ((s[j].toNat : Int) - 97) % 256 = (s[j].toNat : Int) - 97 := by have := s[j].toNat_lt; omega
            by_cases hk2 : (k : Int) ≤ (s[j].toNat : Int) - 97
            · have Hf := Lib.hid (show false = written k s by unfold written; exact (Hno.out (by simp [among]; omega)).symm)
              go_wp2_with fail
              go_ret
              exact ⟨ret_bool (by rw [He.out]; exact Hf.out), rfl⟩
            · have HX2 : Hid ((s.data.toList.take (j + 1)).all (fun c => among k c.toNat) = true) := by
                show _ = true
                rw [Hst.out, List.all_append, HX.out, Bool.true_and]; simp [among]; omega
              go_wp2_with fail
              go_round
              case rel => exact ⟨j + 1, by omega, by go_num, HX2⟩
              case measure => simp [intOf]; omega
        · have Hf := Lib.hid (show true = written k s by unfold written; rw [← HX.out, take_all s j hlt])
          go_wp2_with fail
          go_ret
          exact ⟨ret_bool (by rw [He.out]; exact Hf.out), rfl⟩
    · have He := Lib.hid (wordOk_no k s (by omega))
      go_enter Tryd.func75, Tryd.ntmps75
      go_wp2_with (go_at_call 36; refine (l01In_yes _ _ _ _ hk0 hk1).mono ?_; rintro e w' ⟨rfl, rfl⟩)
      go_ret
      exact ⟨ret_bool He.out.symm, rfl⟩
  · have He := Lib.hid (wordOk_no k s (by omega))
    have Hk := Lib.hid (show k < 1 ∨ 4 < k by omega)
    clear hk
    go_enter Tryd.func75, Tryd.ntmps75
    go_wp2_with (go_at_call 36; refine (l01In_no _ _ _ _ Hk.out).mono ?_; rintro e w' ⟨rfl, rfl⟩)
    go_ret
    exact ⟨ret_bool He.out.symm, rfl⟩

/-- How often the byte c occurs. -/
def countB (s : ByteArray) (c : Int) (k : Nat) : Nat := ((s.data.toList.take k).filter fun x => decide ((x.toNat : Int) = c)).length
theorem countB_step (s : ByteArray) (c : Int) (k : Nat) (h : k < s.size) : countB s c (k + 1) = countB s c k + (if (s[k].toNat : Int) = c then 1 else 0) := by
  unfold countB
  rw [take_snoc s k h, List.filter_append, List.length_append]
  congr 1
  by_cases e : (s[k].toNat : Int) = c <;> simp [e]
theorem countB_le (s : ByteArray) (c : Int) (k : Nat) : countB s c k ≤ k := by
  unfold countB
  exact Nat.le_trans (List.length_filter_le _ _) (by simp; omega)
/-- What CountLetter answers. -/
def countOf (s : ByteArray) (l : Int) : Nat := if 0 ≤ l ∧ l ≤ 3 then countB s (97 + l) s.size else 0

end Go.Proofs.YtddifhbjjiphiaaDoor
