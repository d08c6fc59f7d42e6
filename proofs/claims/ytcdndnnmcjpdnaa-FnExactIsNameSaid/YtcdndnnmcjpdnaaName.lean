/- Contracts of spec.IsName and impl.IsName: both answer isName of the bytes. -/
import Derived.Test.YtcdndnnmcjpdnaaDigits
namespace Go.Proofs.Ytcdndnnmcjpdnaa
open Go.RowKit

def isLow (c : UInt8) : Bool := decide (97 ≤ c.toNat) && decide (c.toNat ≤ 122)
/-- May the byte c stand at place j of a name? -/
def nameAt (j : Nat) (c : UInt8) : Bool := isLow c || (j != 0 && isDig c)
def isName (s : ByteArray) : Bool := decide (1 ≤ s.size) && decide (s.size ≤ 8) && decide (∀ j, (h : j < s.size) → nameAt j s[j] = true)

theorem isLow_yes {c : UInt8} (h : isLow c = true) : 97 ≤ (c.toNat : Int) ∧ (c.toNat : Int) ≤ 122 := by
  simp only [isLow, Bool.and_eq_true, decide_eq_true_eq] at h; omega
theorem isLow_no {c : UInt8} (h : isLow c = false) : (c.toNat : Int) < 97 ∨ 122 < (c.toNat : Int) := by
  simp only [isLow, Bool.and_eq_false_iff, decide_eq_false_iff_not] at h; omega
theorem decode_low_no (s : ByteArray) (k : Nat) (h : k < s.size) (hd : isLow s[k] = false) : ((Utf8.decode s k).1 : Int) < 97 ∨ 122 < ((Utf8.decode s k).1 : Int) := by
  by_cases ha : s[k].toNat < 128
  · rw [decode_ascii s k h ha]; exact isLow_no hd
  · have := (decode_high s k h (by omega)).1; omega
theorem isName_bad (s : ByteArray) (k : Nat) (h : k < s.size) (hb : nameAt k s[k] = false) : isName s = false := by
  unfold isName
  rw [Bool.and_eq_false_iff]; right
  rw [decide_eq_false_iff_not]
  intro hall
  rw [hall k h] at hb
  cases hb
theorem isName_len (s : ByteArray) (h : s.size < 1 ∨ 8 < s.size) : isName s = false := by
  unfold isName
  rw [Bool.and_eq_false_iff]; left
  rw [Bool.and_eq_false_iff, decide_eq_false_iff_not, decide_eq_false_iff_not]; omega
theorem isName_end (s : ByteArray) (h : ∀ j, (h : j < s.size) → nameAt j s[j] = true) : isName s = (decide (1 ≤ s.size) && decide (s.size ≤ 8)) := by
  unfold isName
  rw [decide_eq_true h, Bool.and_true]
/-- The three ways of a place. -/
theorem nameAt_cases (k : Nat) (c : UInt8) : (isLow c = true ∧ nameAt k c = true) ∨ (isLow c = false ∧ k = 0 ∧ nameAt k c = false) ∨
    (isLow c = false ∧ 0 < k ∧ isDig c = true ∧ nameAt k c = true) ∨ (isLow c = false ∧ 0 < k ∧ isDig c = false ∧ nameAt k c = false) := by
  unfold nameAt
  cases isLow c <;> cases isDig c <;> by_cases h : k = 0 <;> simp [h] <;> omega

set_option maxHeartbeats 400000 in
theorem l01In_yes (n lo hi : Int) (w : World) (h1 : lo ≤ n) (h2 : n ≤ hi) :
    Calls Try.prog 27 #[.int .i64 n, .int .i64 lo, .int .i64 hi] w fun e w' => e = .returned (.bool true) ∧ w = w' := by
  go_enter Try.func27, Try.ntmps27
  go_wp2
  all_goals (go_ret; exact ⟨rfl, rfl⟩)
set_option maxHeartbeats 400000 in
theorem l01In_no (n lo hi : Int) (w : World) (h : n < lo ∨ hi < n) :
    Calls Try.prog 27 #[.int .i64 n, .int .i64 lo, .int .i64 hi] w fun e w' => e = .returned (.bool false) ∧ w = w' := by
  by_cases h1 : lo ≤ n
  · have h2 : ¬ n ≤ hi := by omega
    clear h
    go_enter Try.func27, Try.ntmps27
    go_wp2
    all_goals (go_ret; exact ⟨rfl, rfl⟩)
  · clear h
    go_enter Try.func27, Try.ntmps27
    go_wp2
    all_goals (go_ret; exact ⟨rfl, rfl⟩)
theorem l01In_any (n lo hi : Int) (w : World) :
    Calls Try.prog 27 #[.int .i64 n, .int .i64 lo, .int .i64 hi] w fun e w' => e = .returned (.bool (decide (lo ≤ n) && decide (n ≤ hi))) ∧ w = w' := by
  by_cases h : lo ≤ n ∧ n ≤ hi
  · refine (l01In_yes n lo hi w h.1 h.2).mono fun e w' ⟨he, hw⟩ => ⟨?_, hw⟩
    rw [he]; exact ret_bool (by simp [h.1, h.2])
  · refine (l01In_no n lo hi w (by omega)).mono fun e w' ⟨he, hw⟩ => ⟨?_, hw⟩
    rw [he]; exact ret_bool (by
      rcases Int.lt_or_le n lo with h1 | h1
      · simp [show ¬ lo ≤ n by omega]
      · simp [show ¬ n ≤ hi by omega])

set_option maxHeartbeats 400000 in
theorem specIsName (s : ByteArray) (w : World) (hs : s.size ≤ maxLen) :
    Calls Try.prog 11 #[.string s] w fun e w' => e = .returned (.bool (isName s)) ∧ w = w' := by
  unfold maxLen at hs
  go_enter Try.func11, Try.ntmps11
  go_wp2
  go_loop [3, 4] (fun i _ => ∃ k : Nat, k ≤ s.size ∧ i = .int .i64 k ∧ ∀ j, (h : j < s.size) → j < k → nameAt j s[j] = true) (fun i _ => s.size - (intOf i).toNat)
  case atStart => exact ⟨0, Nat.zero_le _, rfl, fun j h hj => by omega⟩
  case round =>
    obtain ⟨k, hk, rfl, hall⟩ := hrel
    have Hall := Lib.hid hall
    clear hall
    by_cases hlt : k < s.size
    · rcases nameAt_cases k s[k] with ⟨hl, hn⟩ | ⟨hl, h0, hn⟩ | ⟨hl, h0, hd, hn⟩ | ⟨hl, h0, hd, hn⟩
      · obtain ⟨h1, h2⟩ := isLow_yes hl
        have Hn := Lib.hid hn
        clear hl hn
        go_wp2
        go_round
        case rel => exact ⟨k + 1, by omega, by go_num, fun j h hj => by
          by_cases e : j = k
          · subst e; exact Hn.out
          · exact Hall.out j h (by omega)⟩
        case measure => simp [intOf]; omega
      · have Hf := Lib.hid (isName_bad s k hlt hn)
        subst h0
        rcases isLow_no hl with h | h
        · clear hl hn
          go_wp2
          go_ret
          exact ⟨ret_bool Hf.out.symm, rfl⟩
        · have h97 : 97 ≤ (s[0].toNat : Int) := by omega
          have hle : decide ((s[0].toNat : Int) ≤ 122) = false := decide_eq_false (by omega)
          clear hl hn h
          go_wp2
          go_ret
          exact ⟨ret_bool Hf.out.symm, rfl⟩
      · obtain ⟨h1, h2⟩ := isDig_yes hd
        have Hn := Lib.hid hn
        have hk0 : ((k : Int) == 0) = false := by rw [beq_eq_false_iff_ne]; omega
        clear hl hn hd
        go_wp2
        go_round
        case rel => exact ⟨k + 1, by omega, by go_num, fun j h hj => by
          by_cases e : j = k
          · subst e; exact Hn.out
          · exact Hall.out j h (by omega)⟩
        case measure => simp [intOf]; omega
      · have Hf := Lib.hid (isName_bad s k hlt hn)
        have hk0 : ((k : Int) == 0) = false := by rw [beq_eq_false_iff_ne]; omega
        rcases isLow_no hl with h | h
        · rcases isDig_no hd with h' | h'
          all_goals
            clear hl hn hd
            go_wp2
            all_goals (go_ret; exact ⟨ret_bool Hf.out.symm, rfl⟩)
        · have h97 : 97 ≤ (s[k].toNat : Int) := by omega
          have hle : decide ((s[k].toNat : Int) ≤ 122) = false := decide_eq_false (by omega)
          have h48 : 48 ≤ (s[k].toNat : Int) := by omega
          have h57 : 57 < (s[k].toNat : Int) := by omega
          clear hl hn hd h
          go_wp2
          go_ret
          exact ⟨ret_bool Hf.out.symm, rfl⟩
    · have hall' : ∀ j, (h : j < s.size) → nameAt j s[j] = true := fun j h => Hall.out j h (by omega)
      have He := Lib.hid (isName_end s hall')
      clear hall'
      go_wp2_with (go_at_call 27; refine (l01In_any _ _ _ _).mono ?_; rintro e w' ⟨rfl, rfl⟩)
      go_ret
      exact ⟨ret_bool (by rw [He.out]; congr 1 <;> (rw [decide_eq_decide]; omega)), rfl⟩

set_option maxHeartbeats 400000 in
theorem isSmallLetter_yes (r : Int) (w : World) (h1 : 97 ≤ r) (h2 : r ≤ 122) :
    Calls Try.prog 28 #[.int .i32 r] w fun e w' => e = .returned (.bool true) ∧ w = w' := by
  go_enter Try.func28, Try.ntmps28
  go_wp2
  all_goals (go_ret; exact ⟨rfl, rfl⟩)
set_option maxHeartbeats 400000 in
theorem isSmallLetter_no (r : Int) (w : World) (h : r < 97 ∨ 122 < r) :
    Calls Try.prog 28 #[.int .i32 r] w fun e w' => e = .returned (.bool false) ∧ w = w' := by
  by_cases h1 : 97 ≤ r
  · have h2 : ¬ r ≤ 122 := by omega
    clear h
    go_enter Try.func28, Try.ntmps28
    go_wp2
    all_goals (go_ret; exact ⟨rfl, rfl⟩)
  · clear h
    go_enter Try.func28, Try.ntmps28
    go_wp2
    all_goals (go_ret; exact ⟨rfl, rfl⟩)

set_option maxHeartbeats 400000 in
theorem implIsName (s : ByteArray) (w : World) :
    Calls Try.prog 12 #[.string s] w fun e w' => e = .returned (.bool (isName s)) ∧ Below w.heap.size w w' := by
  by_cases h0 : s.size = 0
  · have hf := isName_len s (by omega)
    have Hf := Lib.hid hf
    obtain rfl : s = ⟨#[]⟩ := by rcases s with ⟨⟨l⟩⟩; simp [ByteArray.size] at h0; subst h0; rfl
    clear hf h0
    go_enter Try.func12, Try.ntmps12
    go_wp2_with fail
    go_ret
    exact ⟨ret_bool Hf.out.symm, Below.refl _ _⟩
  have hne : s.toList.isEmpty = false := by
    rw [toList_data]
    have : s.data.toList.length = s.size := by simp
    generalize s.data.toList = l at this
    cases l with
    | nil => simp at this; omega
    | cons a l => rfl
  by_cases h8 : 8 < s.size
  · have Hf := Lib.hid (isName_len s (by omega))
    clear h0
    go_enter Try.func12, Try.ntmps12
    go_wp2_with fail
    go_ret
    exact ⟨ret_bool Hf.out.symm, Below.refl _ _⟩
  go_enter Try.func12, Try.ntmps12
  go_wp2_with fail
  go_loopw [3, 4] (fun _ _ wr => ∃ k : Nat, k ≤ s.size ∧ wr = w.iter s k ∧ ∀ j, (h : j < s.size) → j < k → nameAt j s[j] = true) (fun _ _ wr => s.size - wr.iterPos w.heap.size)
  case atStart => exact ⟨0, Nat.zero_le _, rfl, fun j h hj => by omega⟩
  case round =>
    obtain ⟨k, hk, rfl, hall⟩ := hrel
    have Hall := Lib.hid hall
    clear hall
    by_cases hlt : k < s.size
    · rcases nameAt_cases k s[k] with ⟨hl, hn⟩ | ⟨hl, hk0, hn⟩ | ⟨hl, hk0, hd, hn⟩ | ⟨hl, hk0, hd, hn⟩
      · obtain ⟨h1, h2⟩ := isLow_yes hl
        have hnx := fun ty => run_next_ascii (P := Try.prog) w s k ty hlt (by omega)
        have Hn := Lib.hid hn
        clear hl hn
        go_wp2_with (go_at_call 28; refine (isSmallLetter_yes _ _ h1 h2).mono ?_; rintro e w' ⟨rfl, rfl⟩)
        go_roundw
        case rel => exact ⟨k + 1, by omega, rfl, fun j h hj => by
          by_cases e : j = k
          · subst e; exact Hn.out
          · exact Hall.out j h (by omega)⟩
        case measure => simp; omega
      · have Hf := Lib.hid (isName_bad s k hlt hn)
        subst hk0
        have Hl := Lib.hid (decode_low_no s 0 hlt hl)
        have hnx := fun ty => run_next_any (P := Try.prog) w s 0 ty hlt
        clear hl hn
        go_wp2_with (go_at_call 28; refine (isSmallLetter_no _ _ Hl.out).mono ?_; rintro e w' ⟨rfl, rfl⟩)
        go_ret
        exact ⟨ret_bool Hf.out.symm, iter_below _ _ _⟩
      · obtain ⟨h1, h2⟩ := isDig_yes hd
        have hl' : (s[k].toNat : Int) < 97 ∨ 122 < (s[k].toNat : Int) := isLow_no hl
        have Hl := Lib.hid hl'
        have hnx := fun ty => run_next_ascii (P := Try.prog) w s k ty hlt (by omega)
        have Hn := Lib.hid hn
        have hkz : ((k : Int) == 0) = false := by rw [beq_eq_false_iff_ne]; omega
        clear hl hn hl' hd
        go_wp2_with (first | (go_at_call 28; refine (isSmallLetter_no _ _ Hl.out).mono ?_; rintro e w' ⟨rfl, rfl⟩) | (go_at_call 26; refine (isDigit_yes _ _ h1 h2).mono ?_; rintro e w' ⟨rfl, rfl⟩))
        go_roundw
        case rel => exact ⟨k + 1, by omega, rfl, fun j h hj => by
          by_cases e : j = k
          · subst e; exact Hn.out
          · exact Hall.out j h (by omega)⟩
        case measure => simp; omega
      · have Hf := Lib.hid (isName_bad s k hlt hn)
        have Hl := Lib.hid (decode_low_no s k hlt hl)
        have Hd := Lib.hid (decode_no s k hlt hd)
        have hnx := fun ty => run_next_any (P := Try.prog) w s k ty hlt
        have hkz : ((k : Int) == 0) = false := by rw [beq_eq_false_iff_ne]; omega
        clear hl hn hd
        go_wp2_with (first | (go_at_call 28; refine (isSmallLetter_no _ _ Hl.out).mono ?_; rintro e w' ⟨rfl, rfl⟩) | (go_at_call 26; refine (isDigit_no _ _ Hd.out).mono ?_; rintro e w' ⟨rfl, rfl⟩))
        go_ret
        exact ⟨ret_bool Hf.out.symm, iter_below _ _ _⟩
    · have hall' : ∀ j, (h : j < s.size) → nameAt j s[j] = true := fun j h => Hall.out j h (by omega)
      have he : true = isName s := by rw [isName_end s hall']; simp; omega
      have He := Lib.hid he
      have hnx := fun ty => run_next_end (P := Try.prog) w s k ty hlt
      clear hall' he
      go_wp2_with fail
      go_ret
      exact ⟨ret_bool He.out, iter_below _ _ _⟩
end Go.Proofs.Ytcdndnnmcjpdnaa
