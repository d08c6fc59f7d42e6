/- A word n times: both PowerWord. -/
import Derived.Test.YtlehdmflnglipaaDoorBase
import Derived.Test.YtlehdmflnglipaaDoorShelf
import Derived.Deep.QuietTactic
import Derived.BigQuiet
import Derived.IntWalk
namespace Go.Proofs.YtlehdmflnglipaaDoor
open Go.RowKit

/-- s, n times. -/
def powS (s : ByteArray) (n : Nat) : ByteArray := ⟨(Lib.repeatL s.data.toList n).toArray⟩
theorem powS_zero (s : ByteArray) : powS s 0 = ⟨#[]⟩ := rfl
theorem repeatL_snoc (l : List UInt8) : ∀ n, Lib.repeatL l n ++ l = Lib.repeatL l (n + 1)
  | 0 => by simp [Lib.repeatL]
  | n + 1 => by
    have h := repeatL_snoc l n
    rw [show Lib.repeatL l (n + 1 + 1) = l ++ Lib.repeatL l (n + 1) from rfl, ← h, ← List.append_assoc]
    rw [show l ++ Lib.repeatL l n = Lib.repeatL l (n + 1) from rfl, h]
theorem powS_step (s : ByteArray) (n : Nat) : powS s n ++ s = powS s (n + 1) := by
  apply ByteArray.ext
  apply Array.ext'
  simp only [ByteArray.data_append, Array.toList_append]
  exact repeatL_snoc _ n
theorem powS_size (s : ByteArray) : ∀ n, (powS s n).size = s.size * n
  | 0 => by simp [powS_zero]; rfl
  | n + 1 => by rw [← powS_step, ByteArray.size_append, powS_size s n, Nat.mul_succ]
theorem powS_empty (n : Nat) : powS ⟨#[]⟩ n = ⟨#[]⟩ := by
  have h := powS_size ⟨#[]⟩ n
  exact size_zero (by rw [h]; simp [show (⟨#[]⟩ : ByteArray).size = 0 from rfl])
/-- May a word be taken n times? -/
def powOk (s : ByteArray) (n : Int) : Prop := 0 ≤ n ∧ s.size * n ≤ 16
/-- What PowerWord answers. -/
def PowRet (s : ByteArray) (n : Int) (r : ByteArray) (ok : Bool) : Prop := (ok = false ∧ r = ⟨#[]⟩ ∧ ¬ powOk s n) ∨ (ok = true ∧ powOk s n ∧ r = powS s n.toNat)
def PowPost (s : ByteArray) (n : Int) (W : World) (e : Ending) (w' : World) : Prop := ∃ r ok, e = .returned (.tuple #[.string r, .bool ok]) ∧ PowRet s n r ok ∧ Below W.heap.size W w'
theorem PowRet.one {s r r' : ByteArray} {n : Int} {ok ok' : Bool} (h : PowRet s n r ok) (h' : PowRet s n r' ok') : r = r' ∧ ok = ok' := by
  rcases h with ⟨h1, h2, h3⟩ | ⟨h1, h2, h3⟩ <;> rcases h' with ⟨k1, k2, k3⟩ | ⟨k1, k2, k3⟩
  · exact ⟨h2.trans k2.symm, h1.trans k1.symm⟩
  · exact absurd k2 h3
  · exact absurd h2 k3
  · exact ⟨h3.trans k3.symm, h1.trans k1.symm⟩
theorem le_div16 (a b : Nat) (h : 0 < b) : (a : Int) ≤ 16 / (b : Int) ↔ (b : Int) * (a : Int) ≤ 16 := by
  rw [Int.le_ediv_iff_mul_le (by omega), Int.mul_comm]

set_option maxHeartbeats 800000 in
theorem specPower_ok (s : ByteArray) (n : Nat) (w : World) (hs : s.size ≤ 1048576) (h0 : 0 < s.size) (h16 : s.size * n ≤ 16) (hn1 : n ≤ 9223372036854775807) :
    Calls Tryd.prog 26 #[.string s, .int .i64 n] w fun e w' => e = .returned (.tuple #[.string (powS s n), .bool true]) ∧ w' = w := by
  have hne := isEmpty_no (p := s) (by omega)
  have hpos : (0 : Int) < s.size := by omega
  have hle : (n : Int) ≤ 16 / (s.size : Int) := (le_div16 n s.size h0).2 (by exact_mod_cast h16)
  have H0 := Lib.hid (powS_zero s)
  have Hn16 := Lib.hid h16
  clear h16
  go_enter Tryd.func26, Tryd.ntmps26
  go_wp2_with fail
  go_loop [6, 7] (fun q i => ∃ k : Nat, k ≤ n ∧ q = .string (powS s k) ∧ i = .int .i64 k) (fun _ i => n - (intOf i).toNat)
  case atStart => exact ⟨0, Nat.zero_le _, by rw [H0.out], rfl⟩
  case round =>
    obtain ⟨k, hk, rfl, rfl⟩ := hrel
    have Hst := Lib.hid (powS_step s k)
    have hz : (powS s k).size ≤ 16 := by rw [powS_size]; exact Nat.le_trans (Nat.mul_le_mul_left _ hk) Hn16.out
    by_cases hlt : k < n
    · generalize powS s k = q at *
      go_wp2_with fail
      go_round
      case rel => exact ⟨k + 1, by omega, by rw [Hst.out], by go_num⟩
      case measure => simp [intOf]; omega
    · obtain rfl : k = n := by omega
      generalize hq : powS s k = q at *
      have Hq := Lib.hid hq
      clear hq
      go_wp2_with fail
      go_ret2
      exact ⟨by rw [Hq.out]; rfl, rfl⟩

set_option maxHeartbeats 800000 in
theorem specPowerWord (s : ByteArray) (n : Int) (w : World) (hs : s.size ≤ 1048576) (hn0 : -9223372036854775808 ≤ n) (hn1 : n ≤ 9223372036854775807) :
    Calls Tryd.prog 26 #[.string s, .int .i64 n] w (PowPost s n w) := by
  by_cases h1 : n < 0
  · have Hno := Lib.hid (show PowRet s n ⟨#[]⟩ false from Or.inl ⟨rfl, rfl, fun h => by unfold powOk at h; omega⟩)
    go_enter Tryd.func26, Tryd.ntmps26
    go_wp2_with fail
    go_ret2
    exact ⟨_, _, rfl, Hno.out, Below.refl _ _⟩
  obtain ⟨n, rfl⟩ : ∃ m : Nat, n = m := ⟨n.toNat, by omega⟩
  by_cases h0 : s.size = 0
  · obtain rfl := size_zero h0
    have Hy := Lib.hid (show PowRet ⟨#[]⟩ (n : Int) ⟨#[]⟩ true from Or.inr ⟨rfl, ⟨by omega, by rw [show (⟨#[]⟩ : ByteArray).size = 0 from rfl]; simp⟩, (powS_empty _).symm⟩)
    clear h0
    go_enter Tryd.func26, Tryd.ntmps26
    go_wp2_with fail
    by_cases hn : 0 < n
    · refine wp_loop_rounds 1 ?_
      rw [rounds_succ]
      go_wp2_with fail
      go_ret2
      exact ⟨_, _, rfl, Hy.out, Below.refl _ _⟩
    · refine wp_loop_rounds 1 ?_
      rw [rounds_succ]
      go_wp2_with fail
      go_ret2
      exact ⟨_, _, rfl, Hy.out, Below.refl _ _⟩
  have hne := isEmpty_no (p := s) (by omega)
  have hpos : (0 : Int) < s.size := by omega
  have Hle := Lib.hid (le_div16 n s.size (by omega))
  by_cases hle : (n : Int) ≤ 16 / (s.size : Int)
  · have Hok := Lib.hid (show PowRet s (n : Int) (powS s n) true from Or.inr ⟨rfl, ⟨by omega, Hle.out.1 hle⟩, rfl⟩)
    refine (specPower_ok s n w hs (by omega) (by have := Hle.out.1 hle; exact_mod_cast this) (by omega)).mono ?_
    rintro e w' ⟨rfl, rfl⟩
    exact ⟨_, _, rfl, Hok.out, Below.refl _ _⟩
  · have Hno := Lib.hid (show PowRet s (n : Int) ⟨#[]⟩ false from Or.inl ⟨rfl, rfl, fun h => hle (Hle.out.2 h.2)⟩)
    go_enter Tryd.func26, Tryd.ntmps26
    go_wp2_with fail
    go_ret2
    exact ⟨_, _, rfl, Hno.out, Below.refl _ _⟩

end Go.Proofs.YtlehdmflnglipaaDoor
