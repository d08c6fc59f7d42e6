import Derived.Test.YtcdndnnmcjpdnaaBase
import Derived.Deep.QuietTactic
import Derived.BigQuiet
namespace Go.Proofs.Ytcdndnnmcjpdnaa
open Go.RowKit

def isDig (c : UInt8) : Bool := decide (48 ≤ c.toNat) && decide (c.toNat ≤ 57)
def digits (l : List UInt8) : Bool := l.all isDig && !l.isEmpty

theorem ret_bool {a b : Bool} (h : a = b) : Ending.returned (.bool a) = .returned (.bool b) := by rw [h]

theorem take_snoc (s : ByteArray) (k : Nat) (h : k < s.size) : s.data.toList.take (k + 1) = s.data.toList.take k ++ [s[k]] := by
  rw [List.take_succ_eq_append_getElem (by simpa using h)]; rfl
theorem get_mem (s : ByteArray) (k : Nat) (h : k < s.size) : s[k] ∈ s.data.toList := by
  have : s.data.toList[k]'(by simpa using h) = s[k] := rfl
  rw [← this]; exact List.getElem_mem _
theorem all_no (s : ByteArray) (k : Nat) (h : k < s.size) (p : UInt8 → Bool) (hp : p s[k] = false) : s.data.toList.all p = false := by
  rw [List.all_eq_false]; exact ⟨_, get_mem s k h, by simp [hp]⟩
theorem take_all (s : ByteArray) (k : Nat) (h : ¬ k < s.size) : s.data.toList.take k = s.data.toList := List.take_of_length_le (by simp; omega)
theorem isDig_yes {c : UInt8} (h : isDig c = true) : 48 ≤ (c.toNat : Int) ∧ (c.toNat : Int) ≤ 57 := by
  simp only [isDig, Bool.and_eq_true, decide_eq_true_eq] at h; omega
theorem isDig_no {c : UInt8} (h : isDig c = false) : (c.toNat : Int) < 48 ∨ 57 < (c.toNat : Int) := by
  simp only [isDig, Bool.and_eq_false_iff, decide_eq_false_iff_not] at h; omega
theorem digits_end (s : ByteArray) (h : s.data.toList.all isDig = true) : decide (0 < s.size) = digits s.data.toList := by
  unfold digits; rw [h, Bool.true_and]
  have : s.data.toList.length = s.size := by simp
  generalize s.data.toList = l at this
  rw [← this]
  cases l <;> simp

set_option maxHeartbeats 400000 in
theorem specIsDigits (s : ByteArray) (w : World) (hs : s.size ≤ maxLen) :
    Calls Try.prog 9 #[.string s] w fun e w' => e = .returned (.bool (digits s.data.toList)) ∧ w = w' := by
  unfold maxLen at hs
  go_enter Try.func9, Try.ntmps9
  go_wp2
  go_loop [3] (fun i => ∃ k : Nat, k ≤ s.size ∧ i = .int .i64 k ∧ (s.data.toList.take k).all isDig = true) (fun i => s.size - (intOf i).toNat)
  case atStart => exact ⟨0, Nat.zero_le _, rfl, rfl⟩
  case round =>
    obtain ⟨k, hk, rfl, hall⟩ := hrel
    have Hall := Lib.hid hall
    clear hall
    by_cases hlt : k < s.size
    · cases hd : isDig s[k] with
      | true =>
        obtain ⟨h1, h2⟩ := isDig_yes hd
        have Hd := Lib.hid hd
        clear hd
        go_wp2
        go_round
        case rel => exact ⟨k + 1, by omega, by go_num, by rw [take_snoc s k hlt, List.all_append, Hall.out]; simp [Hd.out]⟩
        case measure => simp [intOf]; omega
      | false =>
        have hf : digits s.data.toList = false := by unfold digits; rw [all_no s k hlt _ hd, Bool.false_and]
        have Hf := Lib.hid hf
        rcases isDig_no hd with h | h
        all_goals
          clear hd hf
          go_wp2
          all_goals (go_ret; exact ⟨ret_bool Hf.out.symm, rfl⟩)
    · go_wp2
      go_ret
      exact ⟨ret_bool (digits_end s (by have := Hall.out; rwa [take_all s k hlt] at this)), rfl⟩

theorem toList_data (s : ByteArray) : s.toList = s.data.toList := ByteArray.toList_eq s
theorem decode_no (s : ByteArray) (k : Nat) (h : k < s.size) (hd : isDig s[k] = false) : ((Utf8.decode s k).1 : Int) < 48 ∨ 57 < ((Utf8.decode s k).1 : Int) := by
  by_cases ha : s[k].toNat < 128
  · rw [decode_ascii s k h ha]; exact isDig_no hd
  · have := (decode_high s k h (by omega)).1; omega
theorem digits_end2 (s : ByteArray) (h : s.data.toList.all isDig = true) : (!s.toList.isEmpty) = digits s.data.toList := by
  unfold digits; rw [h, Bool.true_and, toList_data]

set_option maxHeartbeats 400000 in
theorem isDigit_yes (r : Int) (w : World) (h1 : 48 ≤ r) (h2 : r ≤ 57) :
    Calls Try.prog 26 #[.int .i32 r] w fun e w' => e = .returned (.bool true) ∧ w = w' := by
  go_enter Try.func26, Try.ntmps26
  go_wp2
  all_goals (go_ret; exact ⟨rfl, rfl⟩)
set_option maxHeartbeats 400000 in
theorem isDigit_no (r : Int) (w : World) (h : r < 48 ∨ 57 < r) :
    Calls Try.prog 26 #[.int .i32 r] w fun e w' => e = .returned (.bool false) ∧ w = w' := by
  by_cases h1 : 48 ≤ r
  · have h2 : ¬ r ≤ 57 := by omega
    clear h
    go_enter Try.func26, Try.ntmps26
    go_wp2
    all_goals (go_ret; exact ⟨rfl, rfl⟩)
  · clear h
    go_enter Try.func26, Try.ntmps26
    go_wp2
    all_goals (go_ret; exact ⟨rfl, rfl⟩)

theorem iter_below (w : World) (s : ByteArray) (k : Nat) : Below w.heap.size w (w.iter s k) := (Below.refl _ w).alloc (Nat.le_refl _) _

set_option maxHeartbeats 400000 in
theorem implIsDigits (s : ByteArray) (w : World) :
    Calls Try.prog 10 #[.string s] w fun e w' => e = .returned (.bool (digits s.data.toList)) ∧ Below w.heap.size w w' := by
  go_enter Try.func10, Try.ntmps10
  go_wp2
  go_loopw [] (fun wr => ∃ k : Nat, k ≤ s.size ∧ wr = w.iter s k ∧ (s.data.toList.take k).all isDig = true) (fun wr => s.size - wr.iterPos w.heap.size)
  case atStart => exact ⟨0, Nat.zero_le _, rfl, rfl⟩
  case round =>
    obtain ⟨k, hk, rfl, hall⟩ := hrel
    have Hall := Lib.hid hall
    clear hall
    by_cases hlt : k < s.size
    · cases hd : isDig s[k] with
      | true =>
        obtain ⟨h1, h2⟩ := isDig_yes hd
        have hnx := fun ty => run_next_ascii (P := Try.prog) w s k ty hlt (by omega)
        have Hd := Lib.hid hd
        clear hd
        go_wp2_with (go_at_call 26; refine (isDigit_yes _ _ h1 h2).mono ?_; rintro e w' ⟨rfl, rfl⟩)
        go_roundw
        case rel => exact ⟨k + 1, by omega, rfl, by rw [take_snoc s k hlt, List.all_append, Hall.out]; simp [Hd.out]⟩
        case measure => simp; omega
      | false =>
        have hn := decode_no s k hlt hd
        have hnx := fun ty => run_next_any (P := Try.prog) w s k ty hlt
        have hf : digits s.data.toList = false := by unfold digits; rw [all_no s k hlt _ hd, Bool.false_and]
        have Hf := Lib.hid hf
        have Hn := Lib.hid hn
        clear hd hf hn
        go_wp2_with (go_at_call 26; refine (isDigit_no _ _ Hn.out).mono ?_; rintro e w' ⟨rfl, rfl⟩)
        go_ret
        exact ⟨ret_bool Hf.out.symm, iter_below _ _ _⟩
    · have hnx := fun ty => run_next_end (P := Try.prog) w s k ty hlt
      go_wp2_with fail
      go_ret
      exact ⟨ret_bool (digits_end2 s (by have := Hall.out; rwa [take_all s k hlt] at this)), iter_below _ _ _⟩
end Go.Proofs.Ytcdndnnmcjpdnaa
