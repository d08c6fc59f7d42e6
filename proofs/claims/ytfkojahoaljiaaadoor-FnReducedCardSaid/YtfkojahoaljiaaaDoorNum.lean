/- Decimal numerals, in plain terms: which strings are the text of an int64. -/
import Derived.Test.YtfkojahoaljiaaaDoorKit
import Derived.Lib.ItoaNum
import Derived.Lib.ItoaLen
import Derived.Lib.AtoiAll
import Derived.Lib.AtoiAllCases
import Derived.Lib.Strings
namespace Go.Proofs.YtfkojahoaljiaaaDoor
open Go.RowKit

/-- What digits spell behind acc. -/
def valF (acc : Nat) (l : List UInt8) : Nat := l.foldl (fun a c => a * 10 + (c.toNat - 48)) acc
theorem valF_mono (l : List UInt8) : ∀ acc, acc ≤ valF acc l := by
  induction l with
  | nil => intro acc; exact Nat.le_refl _
  | cons c r ih => intro acc; refine Nat.le_trans ?_ (ih _); show acc ≤ acc * 10 + (c.toNat - 48); omega
theorem valF_append (acc : Nat) (l r : List UInt8) : valF acc (l ++ r) = valF (valF acc l) r := List.foldl_append ..
theorem isDig_ofNat (d : Nat) (h : d < 10) : isDig (UInt8.ofNat (48 + d)) = true ∧ (UInt8.ofNat (48 + d)).toNat - 48 = d := by
  have e : (UInt8.ofNat (48 + d)).toNat = 48 + d := by rw [UInt8.toNat_ofNat']; omega
  refine ⟨?_, by omega⟩
  simp only [isDig, e, Bool.and_eq_true, decide_eq_true_eq]; omega
theorem decDigits_all (u : Nat) : (Lib.decDigits u).all isDig = true ∧ valF 0 (Lib.decDigits u) = u ∧ Lib.decDigits u ≠ [] := by
  induction u using Nat.strongRecOn with
  | _ u ih =>
    by_cases h : u < 10
    · rw [Lib.decDigits_one h]
      obtain ⟨h1, h2⟩ := isDig_ofNat u h
      exact ⟨by rw [List.all_cons, h1]; rfl, by simp only [valF, List.foldl_cons, List.foldl_nil]; omega, by simp⟩
    · rw [Lib.decDigits, dif_neg h]
      obtain ⟨h1, h2, h3⟩ := ih (u / 10) (by omega)
      obtain ⟨h4, h5⟩ := isDig_ofNat (u % 10) (by omega)
      refine ⟨by rw [List.all_append, h1, List.all_cons, h4]; rfl, ?_, by simp⟩
      rw [valF_append, h2]
      simp only [valF, List.foldl_cons, List.foldl_nil]
      omega
theorem decDigits_len (u : Nat) (h : u ≤ 9223372036854775808) : (Lib.decDigits u).length ≤ 19 := by
  rw [Lib.decDigits_length]
  rcases Nat.lt_or_ge (Lib.nDigits u) 20 with h' | h'
  · omega
  · exfalso
    have key : ∀ (k u : Nat), k + 1 ≤ Lib.nDigits u → 10 ^ k ≤ u ∨ k = 0 := by
      intro k
      induction k with
      | zero => intro u _; exact Or.inr rfl
      | succ k ih =>
        intro u hu
        left
        by_cases h10 : u < 10
        · rw [Lib.nDigits_small h10] at hu; omega
        · rw [Lib.nDigits_big h10] at hu
          rcases ih (u / 10) (by omega) with h1 | h1
          · rw [Nat.pow_succ]; omega
          · subst h1; omega
    have h1 := key 19 u (by omega)
    omega
theorem parse_digits (l : List UInt8) : ∀ acc, l.all isDig = true → valF acc l < 18446744073709551616 → Lib.parseUint10 acc l = .ok (valF acc l) := by
  induction l with
  | nil => intro acc _ _; rfl
  | cons c r ih =>
    intro acc hd hv
    simp only [List.all_cons, Bool.and_eq_true] at hd
    obtain ⟨h1, h2⟩ := isDig_yes hd.1
    have hm := valF_mono r (acc * 10 + (c.toNat - 48))
    have hv' : valF (acc * 10 + (c.toNat - 48)) r < 18446744073709551616 := hv
    rw [Lib.parseUint10, if_pos (by omega), if_neg (by omega), if_neg (by omega), ih _ hd.2 hv']
    rfl
theorem atoi_itoa (n : Int) (h0 : -9223372036854775808 ≤ n) (h1 : n ≤ 9223372036854775807) : Lib.atoiAll (Lib.itoa n) = .ok n := by
  unfold Lib.itoa
  by_cases hn : n < 0
  · rw [if_pos hn]
    obtain ⟨a, b, c⟩ := decDigits_all n.natAbs
    have hp : Lib.parseMag (Lib.decDigits n.natAbs) = .ok n.natAbs := by
      unfold Lib.parseMag; rw [if_neg c, parse_digits _ 0 a (by rw [b]; omega), b]
    unfold Lib.atoiAll
    simp only [show ((45 : UInt8).toNat = 43 ∨ (45 : UInt8).toNat = 45) from Or.inr rfl, if_true, hp]
    rw [if_neg (by simp), if_neg (by simp; omega)]
    congr 1
    rw [if_pos (by rfl)]; omega
  · rw [if_neg hn]
    obtain ⟨a, b, c⟩ := decDigits_all n.toNat
    cases hl : Lib.decDigits n.toNat with
    | nil => exact absurd hl c
    | cons x r =>
      rw [hl] at a b
      have ha := a
      simp only [List.all_cons, Bool.and_eq_true] at ha
      obtain ⟨d1, d2⟩ := isDig_yes ha.1
      have hp : Lib.parseMag (x :: r) = .ok n.toNat := by
        unfold Lib.parseMag; rw [if_neg (by simp), parse_digits _ 0 a (by rw [b]; omega), b]
      unfold Lib.atoiAll
      have e1 : ¬ (x.toNat = 43 ∨ x.toNat = 45) := by omega
      have e2 : ¬ x.toNat = 45 := by omega
      simp only [if_neg e1, hp]
      rw [if_neg (by omega), if_neg (by simp [e2])]
      congr 1
      rw [if_neg e2]; omega
theorem itoa_inj {a b : Int} (ha : -9223372036854775808 ≤ a ∧ a ≤ 9223372036854775807) (hb : -9223372036854775808 ≤ b ∧ b ≤ 9223372036854775807) (h : Lib.itoa a = Lib.itoa b) : a = b := by
  have h1 := atoi_itoa a ha.1 ha.2
  rw [h, atoi_itoa b hb.1 hb.2] at h1
  injection h1 with h1
  exact h1.symm
def itoaS (n : Int) : ByteArray := ⟨(Lib.itoa n).toArray⟩
def In64 (n : Int) : Prop := -9223372036854775808 ≤ n ∧ n ≤ 9223372036854775807
/-- What ParseInt owes: the int whose text s is, if there is one. -/
def ParseEnd (s : ByteArray) (r : Int) (ok : Bool) : Prop := (ok = true ∧ itoaS r = s ∧ In64 r) ∨ (ok = false ∧ r = 0 ∧ ∀ m, In64 m → itoaS m ≠ s)
/-- What a call of ParseInt leaves. -/
def ParseRet (s : ByteArray) (W : World) (e : Ending) (w' : World) : Prop := ∃ r ok, e = .returned (.tuple #[.int .i64 r, .bool ok]) ∧ ParseEnd s r ok ∧ Below W.heap.size W w'

theorem itoaS_inj {a b : Int} (ha : In64 a) (hb : In64 b) (h : itoaS a = itoaS b) : a = b :=
  itoa_inj ha hb (by have := congrArg (fun x : ByteArray => x.data.toList) h; simpa [itoaS] using this)
theorem ParseEnd.one {s : ByteArray} {r r' : Int} {ok ok' : Bool} (h : ParseEnd s r ok) (h' : ParseEnd s r' ok') : r = r' ∧ ok = ok' := by
  rcases h with ⟨rfl, h1, h2⟩ | ⟨rfl, rfl, h1⟩ <;> rcases h' with ⟨rfl, h3, h4⟩ | ⟨rfl, rfl, h3⟩
  · exact ⟨itoaS_inj h2 h4 (h1.trans h3.symm), rfl⟩
  · exact absurd h1 (h3 _ h2)
  · exact absurd h3 (h1 _ h4)
  · exact ⟨rfl, rfl⟩
theorem atoi_itoaS {s : ByteArray} {m : Int} (hm : In64 m) (h : itoaS m = s) : Lib.atoiAll s.data.toList = .ok m := by
  rw [← h]; simpa [itoaS] using atoi_itoa m hm.1 hm.2
/-- The text of an int: a sign, then its digits. -/
theorem itoaS_neg {s : ByteArray} {m : Int} (h : itoaS m = s) (hm : m < 0) : s.data.toList = 45 :: Lib.decDigits m.natAbs := by
  rw [← h]; unfold itoaS Lib.itoa; rw [if_pos hm]
theorem itoaS_nonneg {s : ByteArray} {m : Int} (h : itoaS m = s) (hm : 0 ≤ m) : s.data.toList = Lib.decDigits m.natAbs := by
  rw [← h]; unfold itoaS Lib.itoa; rw [if_neg (by omega)]
  show Lib.decDigits m.toNat = _
  rw [show m.toNat = m.natAbs by omega]
theorem head_eq (s : ByteArray) (h : 0 < s.size) : ∃ r, s.data.toList = s[0] :: r := by
  have hl : s.data.toList.length = s.size := by simp
  exact ⟨s.data.toList.drop 1, List.drop_eq_getElem_cons (l := s.data.toList) (i := 0) (by omega)⟩
theorem extract_one (s : ByteArray) : (s.extract 1 s.size).data.toList = s.data.toList.drop 1 := by
  rw [Lib.extract_data]
  rw [List.take_of_length_le (by simp)]
/-- What stands behind the sign, where s is the text of m. -/
theorem tail_neg {s : ByteArray} {m : Int} (hs : 0 < s.size) (h45 : s[0].toNat = 45) (h : itoaS m = s) : m < 0 ∧ (s.extract 1 s.size).data.toList = Lib.decDigits m.natAbs := by
  by_cases hm : m < 0
  · exact ⟨hm, by rw [extract_one, itoaS_neg h hm]; rfl⟩
  · exfalso
    obtain ⟨r, hr⟩ := head_eq s hs
    have h1 := itoaS_nonneg h (by omega)
    obtain ⟨a, -, -⟩ := decDigits_all m.natAbs
    rw [← h1, hr] at a
    simp only [List.all_cons, Bool.and_eq_true] at a
    have := isDig_yes a.1
    omega
theorem tail_pos {s : ByteArray} {m : Int} (hs : 0 < s.size) (h45 : ¬ s[0].toNat = 45) (h : itoaS m = s) : 0 ≤ m ∧ s.data.toList = Lib.decDigits m.natAbs := by
  by_cases hm : 0 ≤ m
  · exact ⟨hm, itoaS_nonneg h hm⟩
  · exfalso
    obtain ⟨r, hr⟩ := head_eq s hs
    have h1 := itoaS_neg h (by omega)
    rw [hr] at h1
    injection h1 with h1 _
    rw [h1] at h45
    exact h45 rfl
theorem digits_dec (u : Nat) : digits (Lib.decDigits u) = true := by
  obtain ⟨a, -, c⟩ := decDigits_all u
  unfold digits
  rw [a, Bool.true_and]
  cases h : Lib.decDigits u with
  | nil => exact absurd h c
  | cons x r => rfl
theorem valF_snoc (s : ByteArray) (k : Nat) (h : k < s.size) : valF 0 (s.data.toList.take (k + 1)) = valF 0 (s.data.toList.take k) * 10 + (s[k].toNat - 48) := by
  rw [take_snoc s k h, valF_append]; rfl
theorem valF_take (l : List UInt8) (k : Nat) : valF 0 (l.take k) ≤ valF 0 l := by
  conv => rhs; rw [← List.take_append_drop k l]
  rw [valF_append]; exact valF_mono _ _
theorem digits_at {s : ByteArray} (h : digits s.data.toList = true) (k : Nat) (hk : k < s.size) : 48 ≤ s[k].toNat ∧ s[k].toNat ≤ 57 := by
  unfold digits at h
  rw [Bool.and_eq_true] at h
  have := isDig_yes (List.all_eq_true.1 h.1 _ (get_mem s k hk))
  omega
theorem no_empty (s : ByteArray) (h : s.size = 0) (m : Int) : itoaS m ≠ s := by
  intro e
  have hl : s.data.toList.length = s.size := by simp
  by_cases hm : m < 0
  · rw [itoaS_neg e hm] at hl; simp at hl; omega
  · rw [itoaS_nonneg e (by omega)] at hl
    have := (decDigits_all m.natAbs).2.2
    cases hd : Lib.decDigits m.natAbs with
    | nil => exact this hd
    | cons a r => rw [hd] at hl; simp at hl; omega
end Go.Proofs.YtfkojahoaljiaaaDoor
