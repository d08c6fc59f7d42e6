/- The root of a word: both RootOf. -/
import Derived.Test.YtpgfjcnbgomagaaPower
import Derived.Test.YtpgfjcnbgomagaaL01In
namespace Go.Proofs.Ytpgfjcnbgomagaa
open Go.RowKit

/-- Is s a power of its first n bytes? -/
def rootAt (s : ByteArray) (n : Nat) : Bool := (powS (s.extract 0 n) (s.size / n)).toList == s.toList
theorem rootAt_all (s : ByteArray) (h : 0 < s.size) : rootAt s s.size = true := by
  unfold rootAt
  have : powS (s.extract 0 s.size) (s.size / s.size) = s := by
    rw [Nat.div_self h, ← powS_step, powS_zero]
    apply ByteArray.ext; simp
  rw [this]; simp
/-- What RootOf answers. -/
def RootRet (s r : ByteArray) (k : Int) : Prop :=
  ((s.size = 0 ∨ 16 < s.size) ∧ r = ⟨#[]⟩ ∧ k = 0) ∨ (0 < s.size ∧ s.size ≤ 16 ∧ ∃ n : Nat, 1 ≤ n ∧ n ≤ s.size ∧ rootAt s n = true ∧ (∀ m, 1 ≤ m → m < n → rootAt s m = false) ∧ r = s.extract 0 n ∧ k = ((s.size / n : Nat) : Int))
theorem RootRet.one {s r r' : ByteArray} {k k' : Int} (h : RootRet s r k) (h' : RootRet s r' k') : r = r' ∧ k = k' := by
  rcases h with ⟨h1, h2, h3⟩ | ⟨h1, h2, n, n1, n2, n3, n4, n5, n6⟩ <;> rcases h' with ⟨k1, k2, k3⟩ | ⟨k1, k2, m, m1, m2, m3, m4, m5, m6⟩
  · exact ⟨h2.trans k2.symm, h3.trans k3.symm⟩
  · omega
  · omega
  · have : n = m := by
      rcases Nat.lt_trichotomy n m with h | h | h
      · have := m4 n n1 h; rw [n3] at this; cases this
      · exact h
      · have := n4 m m1 h; rw [m3] at this; cases this
    subst this
    exact ⟨n5.trans m5.symm, n6.trans m6.symm⟩
def RootPost (s : ByteArray) (W : World) (e : Ending) (w' : World) : Prop := ∃ r k, e = .returned (.tuple #[.string r, .int .i64 k]) ∧ RootRet s r k ∧ Below W.heap.size W w'

set_option maxHeartbeats 800000 in
theorem specRootOf (s : ByteArray) (w : World) (hs : s.size ≤ 1048576) : Calls Try.prog 25 #[.string s] w (RootPost s w) := by
  by_cases hout : s.size = 0 ∨ 16 < s.size
  · have Hno := Lib.hid (show RootRet s ⟨#[]⟩ 0 from Or.inl ⟨hout, rfl, rfl⟩)
    have hin : (s.size : Int) < 1 ∨ 16 < (s.size : Int) := by omega
    have Hin := Lib.hid hin
    clear hin hout
    go_enter Try.func25, Try.ntmps25
    go_wp2_with (go_at_call 33; refine (l01In_no _ _ _ _ Hin.out).mono ?_; rintro e w' ⟨rfl, rfl⟩)
    go_ret2
    exact ⟨_, _, rfl, Hno.out, Below.refl _ _⟩
  have h0 : 1 ≤ s.size := by omega
  have h16 : s.size ≤ 16 := by omega
  have hi0 : (1 : Int) ≤ s.size := by omega
  have hi1 : (s.size : Int) ≤ 16 := by omega
  have Hall := Lib.hid (rootAt_all s h0)
  clear hout
  go_enter Try.func25, Try.ntmps25
  go_wp2_with (go_at_call 33; refine (l01In_yes _ _ _ _ hi0 hi1).mono ?_; rintro e w' ⟨rfl, rfl⟩)
  go_loopw [4, 5] (fun i _ wr => ∃ n : Nat, 1 ≤ n ∧ n ≤ s.size ∧ i = .int .i64 n ∧ Hid (∀ m, 1 ≤ m → m < n → rootAt s m = false) ∧ Below w.heap.size w wr) (fun i _ _ => s.size - (intOf i).toNat)
  case atStart => exact ⟨1, Nat.le_refl _, h0, rfl, fun m h1 h2 => by omega, Below.refl _ _⟩
  case round =>
    obtain ⟨n, hn1, hn2, rfl, HN, hb⟩ := hrel
    have hs2 := hb.size
    have hq : n * (s.size / n) ≤ s.size := Nat.mul_div_le _ _
    have hq2 : s.size / n ≤ s.size := Nat.div_le_self _ _
    obtain ⟨q, hqq, hcast⟩ : ∃ q : Nat, s.size / n = q ∧ (s.size : Int) / (n : Int) = (q : Int) := ⟨s.size / n, rfl, rfl⟩
    rw [hqq] at hq hq2
    have Hqq := Lib.hid hqq
    have hxs : (s.extract 0 n).size = n := by simp; omega
    have Hxs := Lib.hid hxs
    have Hq := Lib.hid hq
    have Hx : Hid (rootAt s n = ((powS (s.extract 0 n) q).toList == s.toList)) := by show _ = _; unfold rootAt; rw [hqq]
    clear hxs hq hqq
    have hp : ∀ wx, Calls Try.prog 23 #[.string (s.extract 0 n), .int .i64 q] wx fun e w' => e = .returned (.tuple #[.string (powS (s.extract 0 n) q), .bool true]) ∧ w' = wx := fun wx =>
      specPower_ok (s.extract 0 n) q wx (by have := Hxs.out; omega) (by have := Hxs.out; omega) (by rw [Hxs.out]; have := Hq.out; omega) (by omega)
    have Hp := Lib.hid hp
    clear hp
    generalize hpw : powS (s.extract 0 n) q = pw at *
    have Hpw := Lib.hid hpw
    clear hpw
    cases ht : (pw.toList == s.toList)
    · have hno : rootAt s n = false := by rw [Hx.out]; exact ht
      have hne : n ≠ s.size := fun e => by rw [e, Hall.out] at hno; cases hno
      have Hno := Lib.hid hno
      clear hno
      go_wp2_with fail
      go_quiet ((go_at_call 23; exact Calls.quiet_of_same (Hp.out _)))
      go_wp2_with fail
      go_roundw
      case rel => exact ⟨n + 1, by omega, by omega, by go_num, fun m h1 h2 => by
        by_cases e : m = n
        · subst e; exact Hno.out
        · exact HN.out m h1 (by omega), below_drewN hb _⟩
      case measure => simp [intOf]; omega
    · have Hr := Lib.hid (show RootRet s (s.extract 0 n) q from Or.inr ⟨h0, h16, n, hn1, hn2, by rw [Hx.out]; exact ht, HN.out, rfl, by rw [Hqq.out]⟩)
      go_wp2_with fail
      go_quiet ((go_at_call 23; exact Calls.quiet_of_same (Hp.out _)))
      go_wp2_with fail
      go_quiet (fail)
      go_wp2_with fail
      go_ret2
      exact ⟨_, _, rfl, Hr.out, below_drewN (below_drewN hb _) _⟩

set_option maxHeartbeats 800000 in
theorem wordRoot (s : ByteArray) (w : World) (h16 : s.size ≤ 16) : Calls Try.prog 34 #[.string s] w (RootPost s w) := by
  have Hall := Lib.hid (rootAt_all s)
  go_enter Try.func34, Try.ntmps34
  go_wp2_with fail
  go_loopw [4, 5] (fun i _ wr => ∃ n : Nat, 1 ≤ n ∧ n ≤ s.size + 1 ∧ i = .int .i64 n ∧ Hid (∀ m, 1 ≤ m → m < n → rootAt s m = false) ∧ Below w.heap.size w wr) (fun i _ _ => s.size + 1 - (intOf i).toNat)
  case atStart => exact ⟨1, Nat.le_refl _, by omega, rfl, fun m h1 h2 => by omega, Below.refl _ _⟩
  case round =>
    obtain ⟨n, hn1, hn2, rfl, HN, hb⟩ := hrel
    have hs2 := hb.size
    by_cases hlt : n ≤ s.size
    · have hq : n * (s.size / n) ≤ s.size := Nat.mul_div_le _ _
      have hq2 : s.size / n ≤ s.size := Nat.div_le_self _ _
      obtain ⟨q, hqq, hcast⟩ : ∃ q : Nat, s.size / n = q ∧ (s.size : Int) / (n : Int) = (q : Int) := ⟨s.size / n, rfl, rfl⟩
      rw [hqq] at hq hq2
      have Hqq := Lib.hid hqq
      have hxs : (s.extract 0 n).size = n := by simp; omega
      have Hxs := Lib.hid hxs
      have Hq := Lib.hid hq
      have Hx : Hid (rootAt s n = ((powS (s.extract 0 n) q).toList == s.toList)) := by show _ = _; unfold rootAt; rw [hqq]
      clear hxs hq hqq
      have hp : ∀ wx, Calls Try.prog 32 #[.string (s.extract 0 n), .int .i64 q] wx fun e w' => e = .returned (.string (powS (s.extract 0 n) q)) ∧ Below wx.heap.size wx w' := fun wx =>
        wordPower (s.extract 0 n) q wx (by omega) (by rw [Hxs.out]; have := Hq.out; omega)
      have Hp := Lib.hid hp
      clear hp
      generalize hpw : powS (s.extract 0 n) q = pw at *
      have Hpw := Lib.hid hpw
      clear hpw
      cases ht : (pw.toList == s.toList)
      · have Hno := Lib.hid (show rootAt s n = false by rw [Hx.out]; exact ht)
        go_wp2_with (go_at_call 32; refine (Hp.out _).mono ?_; rintro e w' ⟨rfl, hb1⟩)
        go_roundw
        case rel => exact ⟨n + 1, by omega, by omega, by go_num, fun m h1 h2 => by
          by_cases e : m = n
          · subst e; exact Hno.out
          · exact HN.out m h1 (by omega), hb.trans (hb1.mono hs2)⟩
        case measure => simp [intOf]; omega
      · have Hr := Lib.hid (show RootRet s (s.extract 0 n) q from Or.inr ⟨by omega, h16, n, hn1, hlt, by rw [Hx.out]; exact ht, HN.out, rfl, by rw [Hqq.out]⟩)
        go_wp2_with (go_at_call 32; refine (Hp.out _).mono ?_; rintro e w' ⟨rfl, hb1⟩)
        go_ret2
        exact ⟨_, _, rfl, Hr.out, hb.trans (hb1.mono hs2)⟩
    · have h0 : s.size = 0 := by
        refine Nat.eq_zero_of_not_pos fun h => ?_
        have := HN.out s.size h (by omega)
        rw [Hall.out h] at this; cases this
      have Hno := Lib.hid (show RootRet s ⟨#[]⟩ 0 from Or.inl ⟨Or.inl h0, rfl, rfl⟩)
      clear h0
      go_wp2_with fail
      go_ret2
      exact ⟨_, _, rfl, Hno.out, hb⟩

theorem implRootOf (s : ByteArray) (w : World) (hs : s.size ≤ 1048576) : Calls Try.prog 26 #[.string s] w (RootPost s w) := by
  by_cases h16 : 16 < s.size
  · have Hno := Lib.hid (show RootRet s ⟨#[]⟩ 0 from Or.inl ⟨Or.inr h16, rfl, rfl⟩)
    go_enter Try.func26, Try.ntmps26
    go_wp2_with fail
    go_ret2
    exact ⟨_, _, rfl, Hno.out, Below.refl _ _⟩
  · go_enter Try.func26, Try.ntmps26
    go_wp2_with (go_at_call 34; refine (wordRoot _ _ (Nat.le_of_not_lt h16)).mono ?_)
    rintro e w1 ⟨r, k, rfl, hr, hb⟩
    have Hr := Lib.hid hr
    clear hr
    go_wp2_with fail
    first | go_ret2 | (go_quiet (fail); go_wp2_with fail; go_ret2)
    exact ⟨_, _, rfl, Hr.out, hb⟩
end Go.Proofs.Ytpgfjcnbgomagaa
