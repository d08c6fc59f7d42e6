/- spec.IsDigits answers digits of the bytes. -/
import Derived.Test.YtfkojahoaljiaaaDoorBase
import Derived.Deep.QuietTactic
import Derived.BigQuiet
namespace Go.Proofs.YtfkojahoaljiaaaDoor
open Go.RowKit

set_option maxHeartbeats 400000 in
theorem specIsDigits (s : ByteArray) (w : World) (hs : s.size ≤ maxLen) :
    Calls Tryd.prog 70 #[.string s] w fun e w' => e = .returned (.bool (digits s.data.toList)) ∧ w = w' := by
  unfold maxLen at hs
  go_enter Tryd.func70, Tryd.ntmps70
  go_wp2
  go_loop [3] (fun i => ∃ k : Nat, k ≤ s.size ∧ i = .int .i64 k ∧ (s.data.toList.take k).all isDig = true) (fun i => s.size - (intOf i).toNat)
  case atStart => exact ⟨0, Nat.zero_le _, rfl, rfl⟩
  case round =>
    obtain ⟨k, hk, rfl, hall⟩ := hrel
    have Hall := Lib.hid hall
    clear hall
    by_cases hlt : k < s.size
    · cases hd : isDig s[k] with
      | true =>
        obtain ⟨h1, h2⟩ := isDig_yes hd
        have Hd := Lib.hid hd
        clear hd
        go_wp2
        go_round
        case rel => exact ⟨k + 1, by omega, by go_num, by rw [take_snoc s k hlt, List.all_append, Hall.out]; simp [Hd.out]⟩
        case measure => simp [intOf]; omega
      | false =>
        have hf : digits s.data.toList = false := by unfold digits; rw [all_no s k hlt _ hd, Bool.false_and]
        have Hf := Lib.hid hf
        rcases isDig_no hd with h | h
        all_goals
          clear hd hf
          go_wp2
          all_goals (go_ret; exact ⟨ret_bool Hf.out.symm, rfl⟩)
    · go_wp2
      go_ret
      exact ⟨ret_bool (digits_end s (by have := Hall.out; rwa [take_all s k hlt] at this)), rfl⟩

end Go.Proofs.YtfkojahoaljiaaaDoor
