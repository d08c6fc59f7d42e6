/- Words by number: the place of a word of four letters in the order of words; a step leads to a word that is less. Plain lemmas. -/
import Derived.Test.YtddifhbjjiphiaaDoorOrder
import Derived.Test.YtddifhbjjiphiaaDoorReduced
import Derived.Test.YtddifhbjjiphiaaDoorRunSteps
namespace Go.Proofs.YtddifhbjjiphiaaDoor
open Go.RowKit

def gN : Nat → Nat
  | 0 => 0
  | n + 1 => 4 * gN n + 1
theorem gN_pow : ∀ n, 3 * gN n + 1 = 4 ^ n
  | 0 => rfl
  | n + 1 => by have := gN_pow n; rw [gN, Nat.pow_succ]; omega
theorem gN_mono {a b : Nat} (h : a ≤ b) : gN a ≤ gN b := by
  obtain ⟨d, rfl⟩ := Nat.le.dest h
  induction d with
  | zero => exact Nat.le_refl _
  | succ d ih => have := ih (by omega); rw [← Nat.add_assoc, gN]; omega
/-- The number of a word: its letters are the digits 1 to 4 of base 4. -/
def rkL : List UInt8 → Nat
  | [] => 0
  | c :: l => (c.toNat - 96) * 4 ^ l.length + rkL l
def low4 (c : UInt8) : Prop := 97 ≤ c.toNat ∧ c.toNat ≤ 100
theorem rkL_lo : ∀ l : List UInt8, (∀ c ∈ l, low4 c) → gN l.length ≤ rkL l
  | [], _ => Nat.le_refl _
  | c :: l, h => by
    have h1 := rkL_lo l (fun x hx => h x (List.mem_cons_of_mem _ hx))
    have h2 := (h c (List.mem_cons_self ..)).1
    have h3 := gN_pow l.length
    have h4 : 1 * 4 ^ l.length ≤ (c.toNat - 96) * 4 ^ l.length := Nat.mul_le_mul_right _ (by omega)
    rw [List.length_cons, gN, rkL]; omega
theorem rkL_hi : ∀ l : List UInt8, (∀ c ∈ l, low4 c) → rkL l ≤ 4 * gN l.length
  | [], _ => Nat.zero_le _
  | c :: l, h => by
    have h1 := rkL_hi l (fun x hx => h x (List.mem_cons_of_mem _ hx))
    have h2 := (h c (List.mem_cons_self ..)).2
    have h3 := gN_pow l.length
    have h4 : (c.toNat - 96) * 4 ^ l.length ≤ 4 * 4 ^ l.length := Nat.mul_le_mul_right _ (by omega)
    rw [List.length_cons, gN, rkL]; omega
theorem rkL_lt : ∀ u v : List UInt8, (∀ c ∈ u, low4 c) → (∀ c ∈ v, low4 c) → u.length = v.length → Op.bytesLess u v = true → rkL u < rkL v
  | [], [], _, _, _, h => by cases h
  | [], _ :: _, _, _, h, _ => by simp at h
  | _ :: _, [], _, _, h, _ => by simp at h
  | a :: u, b :: v, hu, hv, hl, h => by
    have hl' : u.length = v.length := by simpa using hl
    have hu' := fun x hx => hu x (List.mem_cons_of_mem _ hx)
    have hv' := fun x hx => hv x (List.mem_cons_of_mem _ hx)
    rw [rkL, rkL, hl']
    rcases (bl_true a b u v).1 h with h1 | ⟨rfl, h2⟩
    · have h3 := rkL_hi u hu'
      have h4 := rkL_lo v hv'
      have h5 := gN_pow v.length
      have ha := (hu a (List.mem_cons_self ..)).1
      have h6 : (a.toNat - 96 + 1) * 4 ^ v.length ≤ (b.toNat - 96) * 4 ^ v.length := Nat.mul_le_mul_right _ (by omega)
      rw [Nat.add_mul] at h6
      rw [hl'] at h3
      omega
    · have := rkL_lt u v hu' hv' hl' h2
      omega
def rank (s : ByteArray) : Nat := rkL s.data.toList
def lowW (s : ByteArray) : Prop := ∀ c ∈ s.data.toList, low4 c
theorem length_data (s : ByteArray) : s.data.toList.length = s.size := by simp
theorem rank_lt {u v : ByteArray} (hu : lowW u) (hv : lowW v) (h : lessS u v = true) : rank u < rank v := by
  by_cases hs : u.size = v.size
  · rw [lessS_eq u v hs] at h
    exact rkL_lt _ _ hu hv (by rw [length_data, length_data, hs]) h
  · rw [lessS_ne u v hs] at h
    have h0 := of_decide_eq_true h
    have h1 := rkL_hi _ hu
    have h2 := rkL_lo _ hv
    have h3 := gN_mono (a := u.size + 1) (b := v.size) (by omega)
    rw [gN] at h3
    rw [length_data] at h1 h2
    unfold rank
    omega
theorem rank_inj {u v : ByteArray} (hu : lowW u) (hv : lowW v) (h : rank u = rank v) : u = v := by
  refine lessS_total u v ?_ ?_
  · cases h1 : lessS u v
    · rfl
    · have := rank_lt hu hv h1; omega
  · cases h1 : lessS v u
    · rfl
    · have := rank_lt hv hu h1; omega
theorem rank_8 {u : ByteArray} (hu : lowW u) (h : u.size ≤ 8) : rank u < 87381 := by
  have h1 := rkL_hi _ hu
  have h2 := gN_mono h
  rw [length_data] at h1
  have h3 : gN 8 = 21845 := rfl
  unfold rank
  omega

theorem written_iff (k : Nat) (s : ByteArray) : written k s = true ↔ ∀ c ∈ s.data.toList, 97 ≤ c.toNat ∧ c.toNat < 97 + k := by
  unfold written among
  rw [List.all_eq_true]
  constructor
  · intro h c hc
    have := h c hc
    simp only [Bool.and_eq_true, decide_eq_true_eq] at this
    omega
  · intro h c hc
    have := h c hc
    simp only [Bool.and_eq_true, decide_eq_true_eq]
    omega
theorem wordOk_iff (k : Int) (s : ByteArray) : wordOk k s = true ↔ 1 ≤ k ∧ k ≤ 4 ∧ s.size ≤ 16 ∧ ∀ c ∈ s.data.toList, 97 ≤ c.toNat ∧ c.toNat < 97 + k.toNat := by
  unfold wordOk
  rw [Bool.and_eq_true, decide_eq_true_eq, written_iff]
  constructor
  · rintro ⟨⟨h1, h2, h3⟩, h4⟩; exact ⟨h1, h2, h3, h4⟩
  · rintro ⟨h1, h2, h3, h4⟩; exact ⟨⟨h1, h2, h3⟩, h4⟩
theorem wordOk_low {k : Int} {s : ByteArray} (h : wordOk k s = true) : lowW s := by
  obtain ⟨h1, h2, h3, h4⟩ := (wordOk_iff k s).1 h
  intro c hc
  have := h4 c hc
  unfold low4
  omega

/-- A part of a word. -/
theorem split_at (s : ByteArray) (p : ByteArray) (i : Nat) (h : atP s p i = true) : i + p.size ≤ s.size ∧ s = s.extract 0 i ++ p ++ s.extract (i + p.size) s.size := by
  unfold atP at h
  rw [Bool.and_eq_true, decide_eq_true_eq] at h
  obtain ⟨h1, h2⟩ := h
  have h3 : s.extract i (i + p.size) = p := toList_inj (eq_of_beq h2)
  refine ⟨h1, ?_⟩
  have hd : ∀ a b : Nat, (s.extract a b).data.toList = (s.data.toList.take b).drop a := fun a b => by
    rw [ByteArray.data_extract, Array.toList_extract, List.extract_eq_take_drop, List.drop_take]
  apply data_inj
  rw [ByteArray.data_append, ByteArray.data_append, Array.toList_append, Array.toList_append]
  conv => rhs; rw [← h3]
  rw [hd, hd, hd]
  have e1 : (s.extract i (i + p.size)).size = p.size := by rw [ByteArray.size_extract]; omega
  rw [e1, List.drop_zero]
  have e2 : s.data.toList.take s.size = s.data.toList := List.take_of_length_le (by rw [length_data]; exact Nat.le_refl _)
  rw [e2]
  have e3 : List.take i s.data.toList = List.take i (List.take (i + p.size) s.data.toList) := by rw [List.take_take, Nat.min_eq_left (by omega)]
  rw [e3, List.take_append_drop, List.take_append_drop]
end Go.Proofs.YtddifhbjjiphiaaDoor
