/- impl.IsDigits answers digits of the bytes. -/
import Derived.Test.YtcdndnnmcjpdnaaSpecDigits
import Derived.Test.YtcdndnnmcjpdnaaIsDigit
import Derived.Test.YtcdndnnmcjpdnaaBase
import Derived.Deep.QuietTactic
import Derived.BigQuiet
namespace Go.Proofs.Ytcdndnnmcjpdnaa
open Go.RowKit

set_option maxHeartbeats 400000 in
theorem implIsDigits (s : ByteArray) (w : World) :
    Calls Try.prog 10 #[.string s] w fun e w' => e = .returned (.bool (digits s.data.toList)) ∧ Below w.heap.size w w' := by
  go_enter Try.func10, Try.ntmps10
  go_wp2
  go_loopw [] (fun wr => ∃ k : Nat, k ≤ s.size ∧ wr = w.iter s k ∧ (s.data.toList.take k).all isDig = true) (fun wr => s.size - wr.iterPos w.heap.size)
  case atStart => exact ⟨0, Nat.zero_le _, rfl, rfl⟩
  case round =>
    obtain ⟨k, hk, rfl, hall⟩ := hrel
    have Hall := Lib.hid hall
    clear hall
    by_cases hlt : k < s.size
    · cases hd : isDig s[k] with
      | true =>
        obtain ⟨h1, h2⟩ := isDig_yes hd
        have hnx := fun ty => run_next_ascii (P := Try.prog) w s k ty hlt (by omega)
        have Hd := Lib.hid hd
        clear hd
        go_wp2_with (go_at_call 26; refine (isDigit_yes _ _ h1 h2).mono ?_; rintro e w' ⟨rfl, rfl⟩)
        go_roundw
        case rel => exact ⟨k + 1, by omega, rfl, by rw [take_snoc s k hlt, List.all_append, Hall.out]; simp [Hd.out]⟩
        case measure => simp; omega
      | false =>
        have hn := decode_no s k hlt hd
        have hnx := fun ty => run_next_any (P := Try.prog) w s k ty hlt
        have hf : digits s.data.toList = false := by unfold digits; rw [all_no s k hlt _ hd, Bool.false_and]
        have Hf := Lib.hid hf
        have Hn := Lib.hid hn
        clear hd hf hn
        go_wp2_with (go_at_call 26; refine (isDigit_no _ _ Hn.out).mono ?_; rintro e w' ⟨rfl, rfl⟩)
        go_ret
        exact ⟨ret_bool Hf.out.symm, iter_below _ _ _⟩
    · have hnx := fun ty => run_next_end (P := Try.prog) w s k ty hlt
      go_wp2_with fail
      go_ret
      exact ⟨ret_bool (digits_end2 s (by have := Hall.out; rwa [take_all s k hlt] at this)), iter_below _ _ _⟩
end Go.Proofs.Ytcdndnnmcjpdnaa
