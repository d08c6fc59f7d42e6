/- Replacing a part of a word: both ReplaceAt. -/
import Derived.Test.YtddifhbjjiphiaaDoorBase
import Derived.Deep.QuietTactic
import Derived.BigQuiet
import Derived.IntWalk
namespace Go.Proofs.YtddifhbjjiphiaaDoor
open Go.RowKit

/-- May the bytes from p up to p + l be replaced by b? -/
def repOk (s b : ByteArray) (p l : Int) : Prop := 0 ≤ p ∧ 0 ≤ l ∧ p ≤ s.size ∧ l ≤ s.size - p ∧ s.size - l + b.size ≤ 16
/-- What ReplaceAt answers. -/
def RepRet (s b : ByteArray) (p l : Int) (W : World) (e : Ending) (w' : World) : Prop :=
  ∃ (r : ByteArray) (ok : Bool), e = .returned (.tuple #[.string r, .bool ok]) ∧
    ((ok = false ∧ r = ⟨#[]⟩ ∧ ¬ repOk s b p l) ∨ (ok = true ∧ repOk s b p l ∧ r = s.extract 0 p.toNat ++ b ++ s.extract (p.toNat + l.toNat) s.size)) ∧ ∃ m, w' = W.drewN m

set_option maxHeartbeats 800000 in
theorem specReplaceAt (s b : ByteArray) (p l : Int) (w : World) (hs : s.size ≤ 1048576) (hb : b.size ≤ 1048576) (hp0 : -9223372036854775808 ≤ p) (hp1 : p ≤ 9223372036854775807) (hl0 : -9223372036854775808 ≤ l) (hl1 : l ≤ 9223372036854775807) :
    Calls Tryd.prog 38 #[.string s, .int .i64 p, .int .i64 l, .string b] w (RepRet s b p l w) := by
  have HN : ∀ (r : ByteArray), ¬ repOk s b p l → RepRet s b p l w (.returned (.tuple #[.string ⟨#[]⟩, .bool false])) w := fun _ h => ⟨_, _, rfl, Or.inl ⟨rfl, rfl, h⟩, 0, rfl⟩
  by_cases h1 : p < 0
  · have Hno := Lib.hid (HN s (show ¬ repOk s b p l from fun h => by unfold repOk at h; omega))
    clear HN
    go_enter Tryd.func38, Tryd.ntmps38
    go_wp2_with fail
    go_ret2
    exact Hno.out
  by_cases h2 : l < 0
  · have Hno := Lib.hid (HN s (show ¬ repOk s b p l from fun h => by unfold repOk at h; omega))
    clear HN
    go_enter Tryd.func38, Tryd.ntmps38
    go_wp2_with fail
    go_ret2
    exact Hno.out
  by_cases h3 : (s.size : Int) < p
  · have Hno := Lib.hid (HN s (show ¬ repOk s b p l from fun h => by unfold repOk at h; omega))
    clear HN
    go_enter Tryd.func38, Tryd.ntmps38
    go_wp2_with fail
    go_ret2
    exact Hno.out
  by_cases h4 : (s.size : Int) - p < l
  · have Hno := Lib.hid (HN s (show ¬ repOk s b p l from fun h => by unfold repOk at h; omega))
    clear HN
    go_enter Tryd.func38, Tryd.ntmps38
    go_wp2_with fail
    go_ret2
    exact Hno.out
  by_cases h5 : 16 < (s.size : Int) - l + b.size
  · have Hno := Lib.hid (HN s (show ¬ repOk s b p l from fun h => by unfold repOk at h; omega))
    clear HN
    go_enter Tryd.func38, Tryd.ntmps38
    go_wp2_with fail
    go_ret2
    exact Hno.out
  have Hok := Lib.hid (show repOk s b p l by unfold repOk; omega)
  clear HN
  obtain ⟨p, rfl⟩ : ∃ n : Nat, p = n := ⟨p.toNat, by omega⟩
  obtain ⟨l, rfl⟩ : ∃ n : Nat, l = n := ⟨l.toNat, by omega⟩
  go_enter Tryd.func38, Tryd.ntmps38
  go_wp2_with fail
  go_quiet (fail)
  go_wp2_with fail
  go_ret2
  exact ⟨_, _, rfl, Or.inr ⟨rfl, Hok.out, by simp⟩, _, rfl⟩

def hasB (s : ByteArray) (p l : Int) : Bool := decide (0 ≤ p ∧ 0 ≤ l ∧ p ≤ (s.size : Int) ∧ l ≤ (s.size : Int) - p)
set_option maxHeartbeats 400000 in
theorem hasBytes_any (s : ByteArray) (p l : Int) (w : World) (hs : s.size ≤ 1048576) (hp0 : -9223372036854775808 ≤ p) (hp1 : p ≤ 9223372036854775807) :
    Calls Tryd.prog 42 #[.string s, .int .i64 p, .int .i64 l] w fun e w' => e = .returned (.bool (hasB s p l)) ∧ w = w' := by
  by_cases h1 : 0 ≤ p
  · by_cases h3 : p ≤ (s.size : Int)
    · by_cases h2 : 0 ≤ l
      · by_cases h4 : l ≤ (s.size : Int) - p
        · have He := Lib.hid (show true = hasB s p l by unfold hasB; simp [h1, h2, h3, h4])
          go_enter Tryd.func42, Tryd.ntmps42
          go_wp2_with fail
          go_ret
          exact ⟨ret_bool He.out, rfl⟩
        · have He := Lib.hid (show false = hasB s p l by unfold hasB; simp [h4])
          go_enter Tryd.func42, Tryd.ntmps42
          go_wp2_with fail
          go_ret
          exact ⟨ret_bool He.out, rfl⟩
      · have He := Lib.hid (show false = hasB s p l by unfold hasB; simp [h2])
        go_enter Tryd.func42, Tryd.ntmps42
        go_wp2_with fail
        go_ret
        exact ⟨ret_bool He.out, rfl⟩
    · have He := Lib.hid (show false = hasB s p l by unfold hasB; simp [h3])
      go_enter Tryd.func42, Tryd.ntmps42
      go_wp2_with fail
      go_ret
      exact ⟨ret_bool He.out, rfl⟩
  · have He := Lib.hid (show false = hasB s p l by unfold hasB; simp [h1])
    go_enter Tryd.func42, Tryd.ntmps42
    go_wp2_with fail
    go_ret
    exact ⟨ret_bool He.out, rfl⟩

set_option maxHeartbeats 800000 in
theorem implReplaceAt (s b : ByteArray) (p l : Int) (w : World) (hs : s.size ≤ 1048576) (hb : b.size ≤ 1048576) (hp0 : -9223372036854775808 ≤ p) (hp1 : p ≤ 9223372036854775807) (hl0 : -9223372036854775808 ≤ l) (hl1 : l ≤ 9223372036854775807) :
    Calls Tryd.prog 44 #[.string s, .int .i64 p, .int .i64 l, .string b] w (RepRet s b p l w) := by
  have HN : ∀ (r : ByteArray), ¬ repOk s b p l → RepRet s b p l w (.returned (.tuple #[.string ⟨#[]⟩, .bool false])) w := fun _ h => ⟨_, _, rfl, Or.inl ⟨rfl, rfl, h⟩, 0, rfl⟩
  by_cases h : 0 ≤ p ∧ 0 ≤ l ∧ p ≤ (s.size : Int) ∧ l ≤ (s.size : Int) - p
  · have hd : hasB s p l = true := decide_eq_true h
    obtain ⟨h1, h2, h3, h4⟩ := h
    by_cases h5 : 16 < (s.size : Int) - l + b.size
    · have Hno := Lib.hid (HN s (show ¬ repOk s b p l from fun h => by unfold repOk at h; omega))
      clear HN
      go_enter Tryd.func44, Tryd.ntmps44
      go_wp2_with (go_at_call 42; refine (hasBytes_any _ _ _ _ hs hp0 hp1).mono ?_; rw [hd]; rintro e w' ⟨rfl, rfl⟩)
      go_ret2
      exact Hno.out
    have Hok := Lib.hid (show repOk s b p l by unfold repOk; omega)
    clear HN
    obtain ⟨p, rfl⟩ : ∃ n : Nat, p = n := ⟨p.toNat, by omega⟩
    obtain ⟨l, rfl⟩ : ∃ n : Nat, l = n := ⟨l.toNat, by omega⟩
    go_enter Tryd.func44, Tryd.ntmps44
    go_wp2_with (go_at_call 42; refine (hasBytes_any _ _ _ _ hs hp0 hp1).mono ?_; rw [hd]; rintro e w' ⟨rfl, rfl⟩)
    go_quiet (fail)
    go_wp2_with fail
    go_ret2
    exact ⟨_, _, rfl, Or.inr ⟨rfl, Hok.out, by simp⟩, _, rfl⟩
  · have hd : hasB s p l = false := decide_eq_false h
    have Hno := Lib.hid (HN s (show ¬ repOk s b p l from fun h' => h (by unfold repOk at h'; omega)))
    clear HN h
    go_enter Tryd.func44, Tryd.ntmps44
    go_wp2_with (go_at_call 42; refine (hasBytes_any _ _ _ _ hs hp0 hp1).mono ?_; rw [hd]; rintro e w' ⟨rfl, rfl⟩)
    go_ret2
    exact Hno.out
theorem RepRet.one {s b r r' : ByteArray} {p l : Int} {ok ok' : Bool} (h : (ok = false ∧ r = ⟨#[]⟩ ∧ ¬ repOk s b p l) ∨ (ok = true ∧ repOk s b p l ∧ r = s.extract 0 p.toNat ++ b ++ s.extract (p.toNat + l.toNat) s.size))
    (h' : (ok' = false ∧ r' = ⟨#[]⟩ ∧ ¬ repOk s b p l) ∨ (ok' = true ∧ repOk s b p l ∧ r' = s.extract 0 p.toNat ++ b ++ s.extract (p.toNat + l.toNat) s.size)) : r = r' ∧ ok = ok' := by
  rcases h with ⟨h1, h2, h3⟩ | ⟨h1, h2, h3⟩ <;> rcases h' with ⟨k1, k2, k3⟩ | ⟨k1, k2, k3⟩
  · exact ⟨h2.trans k2.symm, h1.trans k1.symm⟩
  · exact absurd k2 h3
  · exact absurd h2 k3
  · exact ⟨h3.trans k3.symm, h1.trans k1.symm⟩
end Go.Proofs.YtddifhbjjiphiaaDoor
