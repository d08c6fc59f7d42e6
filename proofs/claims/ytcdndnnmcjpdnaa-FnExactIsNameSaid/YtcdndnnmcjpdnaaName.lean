/- impl.IsName answers isName. -/
import Derived.Test.YtcdndnnmcjpdnaaIsDigit
import Derived.Test.YtcdndnnmcjpdnaaBase
import Derived.Deep.QuietTactic
import Derived.BigQuiet
namespace Go.Proofs.Ytcdndnnmcjpdnaa
open Go.RowKit

set_option maxHeartbeats 400000 in
theorem isSmallLetter_yes (r : Int) (w : World) (h1 : 97 ≤ r) (h2 : r ≤ 122) :
    Calls Try.prog 28 #[.int .i32 r] w fun e w' => e = .returned (.bool true) ∧ w = w' := by
  go_enter Try.func28, Try.ntmps28
  go_wp2
  all_goals (go_ret; exact ⟨rfl, rfl⟩)
set_option maxHeartbeats 400000 in
theorem isSmallLetter_no (r : Int) (w : World) (h : r < 97 ∨ 122 < r) :
    Calls Try.prog 28 #[.int .i32 r] w fun e w' => e = .returned (.bool false) ∧ w = w' := by
  by_cases h1 : 97 ≤ r
  · have h2 : ¬ r ≤ 122 := by omega
    clear h
    go_enter Try.func28, Try.ntmps28
    go_wp2
    all_goals (go_ret; exact ⟨rfl, rfl⟩)
  · clear h
    go_enter Try.func28, Try.ntmps28
    go_wp2
    all_goals (go_ret; exact ⟨rfl, rfl⟩)

set_option maxHeartbeats 400000 in
theorem implIsName (s : ByteArray) (w : World) :
    Calls Try.prog 12 #[.string s] w fun e w' => e = .returned (.bool (isName s)) ∧ Below w.heap.size w w' := by
  by_cases h0 : s.size = 0
  · have hf := isName_len s (by omega)
    have Hf := Lib.hid hf
    obtain rfl : s = ⟨#[]⟩ := by rcases s with ⟨⟨l⟩⟩; simp [ByteArray.size] at h0; subst h0; rfl
    clear hf h0
    go_enter Try.func12, Try.ntmps12
    go_wp2_with fail
    go_ret
    exact ⟨ret_bool Hf.out.symm, Below.refl _ _⟩
  have hne : s.toList.isEmpty = false := by
    rw [toList_data]
    have : s.data.toList.length = s.size := by simp
    generalize s.data.toList = l at this
    cases l with
    | nil => simp at this; omega
    | cons a l => rfl
  by_cases h8 : 8 < s.size
  · have Hf := Lib.hid (isName_len s (by omega))
    clear h0
    go_enter Try.func12, Try.ntmps12
    go_wp2_with fail
    go_ret
    exact ⟨ret_bool Hf.out.symm, Below.refl _ _⟩
  go_enter Try.func12, Try.ntmps12
  go_wp2_with fail
  go_loopw [3, 4] (fun _ _ wr => ∃ k : Nat, k ≤ s.size ∧ wr = w.iter s k ∧ ∀ j, (h : j < s.size) → j < k → nameAt j s[j] = true) (fun _ _ wr => s.size - wr.iterPos w.heap.size)
  case atStart => exact ⟨0, Nat.zero_le _, rfl, fun j h hj => by omega⟩
  case round =>
    obtain ⟨k, hk, rfl, hall⟩ := hrel
    have Hall := Lib.hid hall
    clear hall
    by_cases hlt : k < s.size
    · rcases nameAt_cases k s[k] with ⟨hl, hn⟩ | ⟨hl, hk0, hn⟩ | ⟨hl, hk0, hd, hn⟩ | ⟨hl, hk0, hd, hn⟩
      · obtain ⟨h1, h2⟩ := isLow_yes hl
        have hnx := fun ty => run_next_ascii (P := Try.prog) w s k ty hlt (by omega)
        have Hn := Lib.hid hn
        clear hl hn
        go_wp2_with (go_at_call 28; refine (isSmallLetter_yes _ _ h1 h2).mono ?_; rintro e w' ⟨rfl, rfl⟩)
        go_roundw
        case rel => exact ⟨k + 1, by omega, rfl, fun j h hj => by
          by_cases e : j = k
          · subst e; exact Hn.out
          · exact Hall.out j h (by omega)⟩
        case measure => simp; omega
      · have Hf := Lib.hid (isName_bad s k hlt hn)
        subst hk0
        have Hl := Lib.hid (decode_low_no s 0 hlt hl)
        have hnx := fun ty => run_next_any (P := Try.prog) w s 0 ty hlt
        clear hl hn
        go_wp2_with (go_at_call 28; refine (isSmallLetter_no _ _ Hl.out).mono ?_; rintro e w' ⟨rfl, rfl⟩)
        go_ret
        exact ⟨ret_bool Hf.out.symm, iter_below _ _ _⟩
      · obtain ⟨h1, h2⟩ := isDig_yes hd
        have hl' : (s[k].toNat : Int) < 97 ∨ 122 < (s[k].toNat : Int) := isLow_no hl
        have Hl := Lib.hid hl'
        have hnx := fun ty => run_next_ascii (P := Try.prog) w s k ty hlt (by omega)
        have Hn := Lib.hid hn
        have hkz : ((k : Int) == 0) = false := by rw [beq_eq_false_iff_ne]; omega
        clear hl hn hl' hd
        go_wp2_with (first | (go_at_call 28; refine (isSmallLetter_no _ _ Hl.out).mono ?_; rintro e w' ⟨rfl, rfl⟩) | (go_at_call 26; refine (isDigit_yes _ _ h1 h2).mono ?_; rintro e w' ⟨rfl, rfl⟩))
        go_roundw
        case rel => exact ⟨k + 1, by omega, rfl, fun j h hj => by
          by_cases e : j = k
          · subst e; exact Hn.out
          · exact Hall.out j h (by omega)⟩
        case measure => simp; omega
      · have Hf := Lib.hid (isName_bad s k hlt hn)
        have Hl := Lib.hid (decode_low_no s k hlt hl)
        have Hd := Lib.hid (decode_no s k hlt hd)
        have hnx := fun ty => run_next_any (P := Try.prog) w s k ty hlt
        have hkz : ((k : Int) == 0) = false := by rw [beq_eq_false_iff_ne]; omega
        clear hl hn hd
        go_wp2_with (first | (go_at_call 28; refine (isSmallLetter_no _ _ Hl.out).mono ?_; rintro e w' ⟨rfl, rfl⟩) | (go_at_call 26; refine (isDigit_no _ _ Hd.out).mono ?_; rintro e w' ⟨rfl, rfl⟩))
        go_ret
        exact ⟨ret_bool Hf.out.symm, iter_below _ _ _⟩
    · have hall' : ∀ j, (h : j < s.size) → nameAt j s[j] = true := fun j h => Hall.out j h (by omega)
      have he : true = isName s := by rw [isName_end s hall']; simp; omega
      have He := Lib.hid he
      have hnx := fun ty => run_next_end (P := Try.prog) w s k ty hlt
      clear hall' he
      go_wp2_with fail
      go_ret
      exact ⟨ret_bool He.out, iter_below _ _ _⟩
end Go.Proofs.Ytcdndnnmcjpdnaa
