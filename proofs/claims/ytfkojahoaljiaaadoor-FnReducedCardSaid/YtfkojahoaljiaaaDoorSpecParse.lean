/- spec.ParseInt. -/
import Derived.Test.YtfkojahoaljiaaaDoorFmt
import Derived.Test.YtfkojahoaljiaaaDoorSpecDigits
namespace Go.Proofs.YtfkojahoaljiaaaDoor
open Go.RowKit

theorem over_iff (v c : Nat) (h1 : 48 ≤ c) (h2 : c ≤ 57) : ((-9223372036854775808 : Int) + ((c : Int) - 48)).tdiv 10 ≤ -(v : Int) ↔ v * 10 + (c - 48) ≤ 9223372036854775808 := by
  have e : ((-9223372036854775808 : Int) + ((c : Int) - 48)) = -((9223372036854775808 - (c - 48) : Nat) : Int) := by omega
  rw [e, Int.neg_tdiv, Int.tdiv_eq_ediv_of_nonneg (by omega)]
  omega
theorem eq_of_toList {a b : ByteArray} (h : (a.toList == b.toList) = true) : a = b := by
  have h1 : a.toList = b.toList := by simpa using h
  rw [toList_data, toList_data] at h1
  exact ByteArray.ext (by simpa using congrArg List.toArray h1)
theorem ne_of_toList {a b : ByteArray} (h : (a.toList == b.toList) = false) : a ≠ b := by
  intro e; rw [e] at h; simp at h

theorem specParse_empty (s : ByteArray) (w : World) (h0 : s.size = 0) : Calls Tryd.prog 50 #[.string s] w (ParseRet s w) := by
  have Hno := Lib.hid (show ∀ m, In64 m → itoaS m ≠ s from fun m _ => no_empty s h0 m)
  obtain rfl : s = ⟨#[]⟩ := by rcases s with ⟨⟨l⟩⟩; simp [ByteArray.size] at h0; subst h0; rfl
  clear h0
  have hd : digits (⟨#[]⟩ : ByteArray).data.toList = false := rfl
  go_enter Tryd.func50, Tryd.ntmps50
  go_wp2_with fail
  refine (specIsDigits _ _ (by unfold maxLen; decide)).mono ?_
  rw [hd]
  rintro e w' ⟨rfl, rfl⟩
  go_wp2_with fail
  go_ret2
  exact ⟨0, false, rfl, Or.inr ⟨rfl, rfl, Hno.out⟩, Below.refl _ _⟩

set_option maxHeartbeats 1000000 in
theorem specParse_neg (s : ByteArray) (w : World) (hs : s.size ≤ 1048576) (h0 : 0 < s.size) (h45 : s[0].toNat = 45) :
    Calls Tryd.prog 50 #[.string s] w (ParseRet s w) := by
  have hb : ((s[0].toNat : Int) == 45) = true := by rw [h45]; rfl
  have hpos : 0 < (s.size : Int) := by omega
  have HF := Lib.hid (fun m (_ : In64 m) (h : itoaS m = s) => tail_neg h0 h45 h)
  have hxs : (s.extract 1 s.size).size ≤ 1048576 := by simp; omega
  clear h45
  go_enter Tryd.func50, Tryd.ntmps50
  go_wp2_with fail
  generalize s.extract 1 s.size = t at *
  refine (specIsDigits t _ (by unfold maxLen; omega)).mono ?_
  rintro e w' ⟨rfl, rfl⟩
  cases hdg : digits t.data.toList
  · have Hno := Lib.hid (show ∀ m, In64 m → itoaS m ≠ s from fun m hm h => by
      have := (HF.out m hm h).2
      rw [this, digits_dec] at hdg
      cases hdg)
    clear hdg
    go_wp2_with fail
    go_ret2
    exact ⟨0, false, rfl, Or.inr ⟨rfl, rfl, Hno.out⟩, Below.refl _ _⟩
  have Hdg := Lib.hid hdg
  clear hdg
  have hts : t.data.toList.length = t.size := by simp
  by_cases h19 : 19 < t.size
  · have Hno := Lib.hid (show ∀ m, In64 m → itoaS m ≠ s from fun m hm h => by
      have h1 := (HF.out m hm h).2
      have h2 := decDigits_len m.natAbs (by unfold In64 at hm; omega)
      rw [← h1, hts] at h2
      omega)
    clear hts
    go_wp2_with fail
    go_ret2
    exact ⟨0, false, rfl, Or.inr ⟨rfl, rfl, Hno.out⟩, Below.refl _ _⟩
  clear hts
  have HM := Lib.hid (show ∀ m, In64 m → itoaS m = s → m.natAbs = valF 0 t.data.toList from fun m hm h => by rw [(HF.out m hm h).2, (decDigits_all m.natAbs).2.1])
  go_wp2_with fail
  go_loop [6, 7, 8] (fun n i _ => ∃ k v : Nat, k ≤ t.size ∧ i = .int .i64 k ∧ n = .int .i64 (-(v : Int)) ∧ Hid (v = valF 0 (t.data.toList.take k)) ∧ v ≤ 9223372036854775808) (fun _ i _ => t.size - (intOf i).toNat)
  case atStart => exact ⟨0, 0, Nat.zero_le _, rfl, rfl, rfl, by omega⟩
  case round =>
    obtain ⟨k, v, hk, rfl, rfl, HV, hv⟩ := hrel
    by_cases hlt : k < t.size
    · obtain ⟨d0, d1⟩ := digits_at Hdg.out k hlt
      have d2 : 48 ≤ (t[k].toNat : Int) := by omega
      have d3 : (t[k].toNat : Int) ≤ 57 := by omega
      have Hst := Lib.hid (valF_snoc t k hlt)
      by_cases hov : v * 10 + (t[k].toNat - 48) ≤ 9223372036854775808
      · have hck := (over_iff v t[k].toNat d0 d1).2 hov
        go_wp2_with fail
        go_round
        case rel => exact ⟨k + 1, v * 10 + (t[k].toNat - 48), by omega, by go_num, by congr 1; omega, by show _ = valF 0 _; rw [Hst.out, ← HV.out], hov⟩
        case measure => simp [intOf]; omega
      · have hck : -(v : Int) < ((-9223372036854775808 : Int) + ((t[k].toNat : Int) - 48)).tdiv 10 := by
          have := mt (over_iff v t[k].toNat d0 d1).1 hov
          omega
        have Hno := Lib.hid (show ∀ m, In64 m → itoaS m ≠ s from fun m hm h => by
          have h1 := HM.out m hm h
          have h2 := valF_take t.data.toList (k + 1)
          rw [Hst.out, ← HV.out] at h2
          unfold In64 at hm
          omega)
        go_wp2_with fail
        go_ret2
        exact ⟨0, false, rfl, Or.inr ⟨rfl, rfl, Hno.out⟩, Below.refl _ _⟩
    · have hvt : v = valF 0 t.data.toList := by have := HV.out; rwa [take_all t k hlt] at this
      have Hvt := Lib.hid hvt
      clear hvt
      have hin : In64 (-(v : Int)) := ⟨by omega, by omega⟩
      have HU := Lib.hid (show ∀ m, In64 m → itoaS m = s → m = -(v : Int) from fun m hm h => by
        have h1 := HM.out m hm h
        have h2 := (HF.out m hm h).1
        have := Hvt.out
        omega)
      go_wp2_with (go_at_call 71; refine (specFormatInt _ _ hin.1 hin.2).mono ?_)
      rintro e w1 rfl b1
      cases hq2 : ((itoaS (-(v : Int))).toList == s.toList)
      · have Hno := Lib.hid (show ∀ m, In64 m → itoaS m ≠ s from fun m hm h => ne_of_toList hq2 (by rw [← HU.out m hm h]; exact h))
        go_wp2_with fail
        go_ret2
        exact ⟨0, false, rfl, Or.inr ⟨rfl, rfl, Hno.out⟩, b1⟩
      · have Hy := Lib.hid (eq_of_toList hq2)
        go_wp2_with fail
        go_ret2
        exact ⟨_, true, rfl, Or.inl ⟨rfl, Hy.out, hin⟩, b1⟩

set_option maxHeartbeats 1000000 in
theorem specParse_pos (s : ByteArray) (w : World) (hs : s.size ≤ 1048576) (h0 : 0 < s.size) (h45 : ¬ s[0].toNat = 45) :
    Calls Tryd.prog 50 #[.string s] w (ParseRet s w) := by
  have hb : ((s[0].toNat : Int) == 45) = false := by rw [beq_eq_false_iff_ne]; omega
  have hpos : 0 < (s.size : Int) := by omega
  have HF := Lib.hid (fun m (_ : In64 m) (h : itoaS m = s) => tail_pos h0 h45 h)
  have hxs : s.size ≤ 1048576 := hs
  clear h45
  go_enter Tryd.func50, Tryd.ntmps50
  go_wp2_with fail
  refine (specIsDigits s _ (by unfold maxLen; omega)).mono ?_
  rintro e w' ⟨rfl, rfl⟩
  cases hdg : digits s.data.toList
  · have Hno := Lib.hid (show ∀ m, In64 m → itoaS m ≠ s from fun m hm h => by
      have := (HF.out m hm h).2
      rw [this, digits_dec] at hdg
      cases hdg)
    clear hdg
    go_wp2_with fail
    go_ret2
    exact ⟨0, false, rfl, Or.inr ⟨rfl, rfl, Hno.out⟩, Below.refl _ _⟩
  have Hdg := Lib.hid hdg
  clear hdg
  have hts : s.data.toList.length = s.size := by simp
  by_cases h19 : 19 < s.size
  · have Hno := Lib.hid (show ∀ m, In64 m → itoaS m ≠ s from fun m hm h => by
      have h1 := (HF.out m hm h).2
      have h2 := decDigits_len m.natAbs (by unfold In64 at hm; omega)
      rw [← h1, hts] at h2
      omega)
    clear hts
    go_wp2_with fail
    go_ret2
    exact ⟨0, false, rfl, Or.inr ⟨rfl, rfl, Hno.out⟩, Below.refl _ _⟩
  clear hts
  have HM := Lib.hid (show ∀ m, In64 m → itoaS m = s → m.natAbs = valF 0 s.data.toList from fun m hm h => by rw [(HF.out m hm h).2, (decDigits_all m.natAbs).2.1])
  go_wp2_with fail
  go_loop [6, 7, 8] (fun n i _ => ∃ k v : Nat, k ≤ s.size ∧ i = .int .i64 k ∧ n = .int .i64 (-(v : Int)) ∧ Hid (v = valF 0 (s.data.toList.take k)) ∧ v ≤ 9223372036854775808) (fun _ i _ => s.size - (intOf i).toNat)
  case atStart => exact ⟨0, 0, Nat.zero_le _, rfl, rfl, rfl, by omega⟩
  case round =>
    obtain ⟨k, v, hk, rfl, rfl, HV, hv⟩ := hrel
    by_cases hlt : k < s.size
    · obtain ⟨d0, d1⟩ := digits_at Hdg.out k hlt
      have d2 : 48 ≤ (s[k].toNat : Int) := by omega
      have d3 : (s[k].toNat : Int) ≤ 57 := by omega
      have Hst := Lib.hid (valF_snoc s k hlt)
      by_cases hov : v * 10 + (s[k].toNat - 48) ≤ 9223372036854775808
      · have hck := (over_iff v s[k].toNat d0 d1).2 hov
        go_wp2_with fail
        go_round
        case rel => exact ⟨k + 1, v * 10 + (s[k].toNat - 48), by omega, by go_num, by congr 1; omega, by show _ = valF 0 _; rw [Hst.out, ← HV.out], hov⟩
        case measure => simp [intOf]; omega
      · have hck : -(v : Int) < ((-9223372036854775808 : Int) + ((s[k].toNat : Int) - 48)).tdiv 10 := by
          have := mt (over_iff v s[k].toNat d0 d1).1 hov
          omega
        have Hno := Lib.hid (show ∀ m, In64 m → itoaS m ≠ s from fun m hm h => by
          have h1 := HM.out m hm h
          have h2 := valF_take s.data.toList (k + 1)
          rw [Hst.out, ← HV.out] at h2
          unfold In64 at hm
          omega)
        go_wp2_with fail
        go_ret2
        exact ⟨0, false, rfl, Or.inr ⟨rfl, rfl, Hno.out⟩, Below.refl _ _⟩
    · have hvt : v = valF 0 s.data.toList := by have := HV.out; rwa [take_all s k hlt] at this
      have Hvt := Lib.hid hvt
      clear hvt
      by_cases hmax : v = 9223372036854775808
      · have Hno := Lib.hid (show ∀ m, In64 m → itoaS m ≠ s from fun m hm h => by
          have h1 := HM.out m hm h
          have h2 := (HF.out m hm h).1
          have := Hvt.out
          unfold In64 at hm
          omega)
        have hq : ((-(v : Int)) == -9223372036854775808) = true := by rw [hmax]; rfl
        have Hmax := Lib.hid hmax
        clear hmax
        go_wp2_with fail
        go_ret2
        exact ⟨0, false, rfl, Or.inr ⟨rfl, rfl, Hno.out⟩, Below.refl _ _⟩
      have hq : ((-(v : Int)) == -9223372036854775808) = false := by rw [beq_eq_false_iff_ne]; omega
      have hv2 : v ≤ 9223372036854775807 := by omega
      clear hmax
      have hin : In64 (v : Int) := ⟨by omega, by omega⟩
      have HU := Lib.hid (show ∀ m, In64 m → itoaS m = s → m = (v : Int) from fun m hm h => by
        have h1 := HM.out m hm h
        have h2 := (HF.out m hm h).1
        have := Hvt.out
        omega)
      go_wp2_with (go_at_call 71; refine (specFormatInt _ _ hin.1 hin.2).mono ?_)
      rintro e w1 rfl b1
      cases hq2 : ((itoaS ((v : Int))).toList == s.toList)
      · have Hno := Lib.hid (show ∀ m, In64 m → itoaS m ≠ s from fun m hm h => ne_of_toList hq2 (by rw [← HU.out m hm h]; exact h))
        go_wp2_with fail
        go_ret2
        exact ⟨0, false, rfl, Or.inr ⟨rfl, rfl, Hno.out⟩, b1⟩
      · have Hy := Lib.hid (eq_of_toList hq2)
        go_wp2_with fail
        go_ret2
        exact ⟨_, true, rfl, Or.inl ⟨rfl, Hy.out, hin⟩, b1⟩

theorem specParseInt (s : ByteArray) (w : World) (hs : s.size ≤ 1048576) : Calls Tryd.prog 50 #[.string s] w (ParseRet s w) := by
  by_cases h0 : s.size = 0
  · exact specParse_empty s w h0
  · by_cases h45 : s[0].toNat = 45
    · exact specParse_neg s w hs (by omega) h45
    · exact specParse_pos s w hs (by omega) h45
end Go.Proofs.YtfkojahoaljiaaaDoor
