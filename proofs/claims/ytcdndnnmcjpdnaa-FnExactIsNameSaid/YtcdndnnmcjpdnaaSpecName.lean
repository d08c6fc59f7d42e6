/- spec.IsName answers isName. -/
import Derived.Test.YtcdndnnmcjpdnaaL01In
import Derived.Test.YtcdndnnmcjpdnaaBase
import Derived.Deep.QuietTactic
import Derived.BigQuiet
namespace Go.Proofs.Ytcdndnnmcjpdnaa
open Go.RowKit

set_option maxHeartbeats 400000 in
theorem specIsName (s : ByteArray) (w : World) (hs : s.size ≤ maxLen) :
    Calls Try.prog 11 #[.string s] w fun e w' => e = .returned (.bool (isName s)) ∧ w = w' := by
  unfold maxLen at hs
  go_enter Try.func11, Try.ntmps11
  go_wp2
  go_loop [3, 4] (fun i _ => ∃ k : Nat, k ≤ s.size ∧ i = .int .i64 k ∧ ∀ j, (h : j < s.size) → j < k → nameAt j s[j] = true) (fun i _ => s.size - (intOf i).toNat)
  case atStart => exact ⟨0, Nat.zero_le _, rfl, fun j h hj => by omega⟩
  case round =>
    obtain ⟨k, hk, rfl, hall⟩ := hrel
    have Hall := Lib.hid hall
    clear hall
    by_cases hlt : k < s.size
    · rcases nameAt_cases k s[k] with ⟨hl, hn⟩ | ⟨hl, h0, hn⟩ | ⟨hl, h0, hd, hn⟩ | ⟨hl, h0, hd, hn⟩
      · obtain ⟨h1, h2⟩ := isLow_yes hl
        have Hn := Lib.hid hn
        clear hl hn
        go_wp2
        go_round
        case rel => exact ⟨k + 1, by omega, by go_num, fun j h hj => by
          by_cases e : j = k
          · subst e; exact Hn.out
          · exact Hall.out j h (by omega)⟩
        case measure => simp [intOf]; omega
      · have Hf := Lib.hid (isName_bad s k hlt hn)
        subst h0
        rcases isLow_no hl with h | h
        · clear hl hn
          go_wp2
          go_ret
          exact ⟨ret_bool Hf.out.symm, rfl⟩
        · have h97 : 97 ≤ (s[0].toNat : Int) := by omega
          have hle : decide ((s[0].toNat : Int) ≤ 122) = false := decide_eq_false (by omega)
          clear hl hn h
          go_wp2
          go_ret
          exact ⟨ret_bool Hf.out.symm, rfl⟩
      · obtain ⟨h1, h2⟩ := isDig_yes hd
        have Hn := Lib.hid hn
        have hk0 : ((k : Int) == 0) = false := by rw [beq_eq_false_iff_ne]; omega
        clear hl hn hd
        go_wp2
        go_round
        case rel => exact ⟨k + 1, by omega, by go_num, fun j h hj => by
          by_cases e : j = k
          · subst e; exact Hn.out
          · exact Hall.out j h (by omega)⟩
        case measure => simp [intOf]; omega
      · have Hf := Lib.hid (isName_bad s k hlt hn)
        have hk0 : ((k : Int) == 0) = false := by rw [beq_eq_false_iff_ne]; omega
        rcases isLow_no hl with h | h
        · rcases isDig_no hd with h' | h'
          all_goals
            clear hl hn hd
            go_wp2
            all_goals (go_ret; exact ⟨ret_bool Hf.out.symm, rfl⟩)
        · have h97 : 97 ≤ (s[k].toNat : Int) := by omega
          have hle : decide ((s[k].toNat : Int) ≤ 122) = false := decide_eq_false (by omega)
          have h48 : 48 ≤ (s[k].toNat : Int) := by omega
          have h57 : 57 < (s[k].toNat : Int) := by omega
          clear hl hn hd h
          go_wp2
          go_ret
          exact ⟨ret_bool Hf.out.symm, rfl⟩
    · have hall' : ∀ j, (h : j < s.size) → nameAt j s[j] = true := fun j h => Hall.out j h (by omega)
      have He := Lib.hid (isName_end s hall')
      clear hall'
      go_wp2_with (go_at_call 27; refine (l01In_any _ _ _ _).mono ?_; rintro e w' ⟨rfl, rfl⟩)
      go_ret
      exact ⟨ret_bool (by rw [He.out]; congr 1 <;> (rw [decide_eq_decide]; omega)), rfl⟩

end Go.Proofs.Ytcdndnnmcjpdnaa
