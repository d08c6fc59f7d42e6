/- spec.Join. -/
import Derived.Test.YtcdndnnmcjpdnaaJoinPlain
namespace Go.Proofs.Ytcdndnnmcjpdnaa
open Go.RowKit

set_option maxHeartbeats 400000 in
theorem specJoin (A : Option Addr) (n c B : Nat) (xs : List ByteArray) (sep : ByteArray) (w : World) (h : Own B w (.slice A n c) 1 n (strs xs)) (hsep : sep.size ≤ 1048576) (hn : n ≤ 1048576) (ht : total xs ≤ 1048576) :
    Calls Try.prog 21 #[.slice A n c, .string sep] w fun e w' => e = .returned (.string (joinS xs sep)) ∧ w = w' := by
  have hl : xs.length = n := by have := h.1; simpa [strs] using this
  have Hl := Lib.hid hl
  clear hl
  by_cases h0 : 0 < n
  · obtain ⟨g, off, rfl, -, -, hc⟩ := h.str h0
    have HC := Lib.hid hc
    clear hc
    have HS := Lib.hid (fun k => joinTo_size xs sep k n Hl.out hsep hn ht)
    have Hend := Lib.hid (show joinTo xs sep n = joinS xs sep by unfold joinTo; rw [List.take_of_length_le (by rw [Hl.out]; exact Nat.le_refl _)])
    go_enter Try.func21, Try.ntmps21
    go_wp2
    go_loop [5, 6, 7, 10] (fun q _ _ i => ∃ k : Nat, k ≤ n ∧ i = .int .i64 k ∧ q = .string (joinTo xs sep k)) (fun _ _ _ i => n - (intOf i).toNat)
    case atStart => exact ⟨0, Nat.zero_le _, rfl, by simp [joinTo, joinS, Lib.join_nil]⟩
    case round =>
      obtain ⟨k, hk, rfl, rfl⟩ := hrel
      by_cases hlt : k < n
      · obtain ⟨s, hs, hx, -⟩ := HC.out k hlt
        have hst := join_step xs sep s k hs
        have hss : s.size ≤ 1048576 := by
          have h1 := total_step xs k s hs
          have h2 := total_take xs (k + 1)
          omega
        have hjs := HS.out k
        have Hst := Lib.hid hst
        clear hst hs
        by_cases hk0 : k = 0
        · subst hk0
          rw [Nat.add_zero] at hx
          go_wp2
          go_round
          case rel => exact ⟨1, by omega, rfl, by rw [Hst.out]; simp⟩
          case measure => simp [intOf]; omega
        · have hkp : 0 < (k : Int) := by omega
          have Hk0 := Lib.hid hk0
          clear hk0
          generalize hJ : joinTo xs sep k = J at *
          have HJ := Lib.hid hJ
          clear hJ
          go_wp2
          go_round
          case rel => exact ⟨k + 1, by omega, by go_num, by rw [Hst.out, if_neg Hk0.out]⟩
          case measure => simp [intOf]; omega
      · have hkn := Lib.hid (show k = n by omega)
        go_wp2
        go_ret
        exact ⟨ret_str (by rw [hkn.out, Hend.out]), rfl⟩
  · obtain rfl : n = 0 := by omega
    have hx : xs = [] := List.eq_nil_of_length_eq_zero Hl.out
    have Hend := Lib.hid (show (⟨#[]⟩ : ByteArray) = joinS xs sep by rw [hx]; rfl)
    clear hx
    go_enter Try.func21, Try.ntmps21
    go_wp2
    refine wp_loop_rounds 1 ?_
    rw [rounds_succ]
    go_wp2
    go_ret
    exact ⟨ret_str Hend.out, rfl⟩

end Go.Proofs.Ytcdndnnmcjpdnaa
