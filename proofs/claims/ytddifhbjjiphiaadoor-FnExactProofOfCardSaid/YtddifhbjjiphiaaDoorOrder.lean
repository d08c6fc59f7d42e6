/- The order of words is total and stays under the same letters on both sides: in plain terms. -/
import Derived.Test.YtddifhbjjiphiaaDoorLess
namespace Go.Proofs.YtddifhbjjiphiaaDoor

theorem bl_cons (a b : UInt8) (x y : List UInt8) : Op.bytesLess (a :: x) (b :: y) = (decide (a < b) || (a == b && Op.bytesLess x y)) := rfl
theorem bl_nil (x : List UInt8) : Op.bytesLess x [] = false := by cases x <;> rfl
theorem bl_true (a b : UInt8) (x y : List UInt8) : Op.bytesLess (a :: x) (b :: y) = true ↔ a.toNat < b.toNat ∨ (a = b ∧ Op.bytesLess x y = true) := by
  rw [bl_cons, Bool.or_eq_true, decide_eq_true_eq, Bool.and_eq_true, beq_iff_eq, UInt8.lt_iff_toNat_lt]
theorem bl_irrefl : ∀ x : List UInt8, Op.bytesLess x x = false
  | [] => rfl
  | a :: x => by
    rw [Bool.eq_false_iff, ne_eq, bl_true]
    rintro (h | ⟨_, h⟩)
    · omega
    · rw [bl_irrefl x] at h; cases h
theorem bl_asymm : ∀ x y : List UInt8, Op.bytesLess x y = true → Op.bytesLess y x = false
  | x, [], h => by rw [bl_nil] at h; cases h
  | [], _ :: _, _ => bl_nil _
  | a :: x, b :: y, h => by
    rw [Bool.eq_false_iff, ne_eq, bl_true]
    rw [bl_true] at h
    rintro (k | ⟨rfl, k⟩)
    · rcases h with h | ⟨rfl, _⟩ <;> omega
    · rcases h with h | ⟨_, h⟩
      · omega
      · rw [bl_asymm x y h] at k; cases k
theorem bl_total : ∀ x y : List UInt8, Op.bytesLess x y = false → Op.bytesLess y x = false → x = y
  | [], [], _, _ => rfl
  | [], _ :: _, h, _ => by cases h
  | _ :: _, [], _, h => by cases h
  | a :: x, b :: y, h, k => by
    rw [Bool.eq_false_iff, ne_eq, bl_true] at h k
    have e : a = b := by
      apply UInt8.toNat_inj.1
      rcases Nat.lt_trichotomy a.toNat b.toNat with q | q | q
      · exact absurd (Or.inl q) h
      · exact q
      · exact absurd (Or.inl q) k
    subst e
    have e1 : Op.bytesLess x y = false := Bool.eq_false_iff.2 fun q => h (Or.inr ⟨rfl, q⟩)
    have e2 : Op.bytesLess y x = false := Bool.eq_false_iff.2 fun q => k (Or.inr ⟨rfl, q⟩)
    rw [bl_total x y e1 e2]
theorem bl_trans : ∀ x y z : List UInt8, Op.bytesLess x y = true → Op.bytesLess y z = true → Op.bytesLess x z = true
  | _, _, [], _, h => by rw [bl_nil] at h; cases h
  | _, [], _ :: _, h, _ => by rw [bl_nil] at h; cases h
  | [], _ :: _, _ :: _, _, _ => rfl
  | a :: x, b :: y, c :: z, h, k => by
    rw [bl_true] at h k ⊢
    rcases h with h | ⟨rfl, h⟩ <;> rcases k with k | ⟨rfl, k⟩
    · exact Or.inl (by omega)
    · exact Or.inl h
    · exact Or.inl k
    · exact Or.inr ⟨rfl, bl_trans x y z h k⟩
theorem bl_left : ∀ p x y : List UInt8, Op.bytesLess (p ++ x) (p ++ y) = Op.bytesLess x y
  | [], _, _ => rfl
  | a :: p, x, y => by
    rw [List.cons_append, List.cons_append, bl_cons, bl_left p x y]
    simp
theorem bl_right : ∀ x y s : List UInt8, x.length = y.length → Op.bytesLess (x ++ s) (y ++ s) = Op.bytesLess x y
  | [], [], s, _ => by rw [List.nil_append, bl_irrefl]; rfl
  | [], _ :: _, _, h => by simp at h
  | _ :: _, [], _, h => by simp at h
  | a :: x, b :: y, s, h => by
    rw [List.cons_append, List.cons_append, bl_cons, bl_cons, bl_right x y s (by simpa using h)]

theorem lessS_eq (u v : ByteArray) (h : u.size = v.size) : lessS u v = Op.bytesLess u.data.toList v.data.toList := by unfold lessS; rw [if_pos h, toList_data, toList_data]
theorem lessS_ne (u v : ByteArray) (h : u.size ≠ v.size) : lessS u v = decide (u.size < v.size) := by unfold lessS; rw [if_neg h]
theorem lessS_irrefl (u : ByteArray) : lessS u u = false := by rw [lessS_eq u u rfl, bl_irrefl]
theorem lessS_asymm (u v : ByteArray) (h : lessS u v = true) : lessS v u = false := by
  by_cases e : u.size = v.size
  · rw [lessS_eq u v e] at h; rw [lessS_eq v u e.symm]; exact bl_asymm _ _ h
  · rw [lessS_ne u v e, decide_eq_true_eq] at h; rw [lessS_ne v u (Ne.symm e), decide_eq_false_iff_not]; omega
theorem data_inj {u v : ByteArray} (h : u.data.toList = v.data.toList) : u = v := ByteArray.ext (by simpa using congrArg List.toArray h)
theorem lessS_total (u v : ByteArray) (h : lessS u v = false) (k : lessS v u = false) : u = v := by
  by_cases e : u.size = v.size
  · rw [lessS_eq u v e] at h; rw [lessS_eq v u e.symm] at k; exact data_inj (bl_total _ _ h k)
  · rw [lessS_ne u v e, decide_eq_false_iff_not] at h; rw [lessS_ne v u (Ne.symm e), decide_eq_false_iff_not] at k; omega
theorem lessS_size {u v : ByteArray} (h : lessS u v = true) : u.size ≤ v.size := by
  by_cases e : u.size = v.size
  · omega
  · rw [lessS_ne u v e, decide_eq_true_eq] at h; omega
theorem lessS_trans (u v w : ByteArray) (h : lessS u v = true) (k : lessS v w = true) : lessS u w = true := by
  have h1 := lessS_size h
  have h2 := lessS_size k
  by_cases e : u.size = w.size
  · have e1 : u.size = v.size := by omega
    have e2 : v.size = w.size := by omega
    rw [lessS_eq u v e1] at h; rw [lessS_eq v w e2] at k; rw [lessS_eq u w e]; exact bl_trans _ _ _ h k
  · rw [lessS_ne u w e, decide_eq_true_eq]; omega
theorem lessS_both (x u v w : ByteArray) : lessS (x ++ u ++ w) (x ++ v ++ w) = lessS u v := by
  have s1 : (x ++ u ++ w).size = x.size + u.size + w.size := by rw [ByteArray.size_append, ByteArray.size_append]
  have s2 : (x ++ v ++ w).size = x.size + v.size + w.size := by rw [ByteArray.size_append, ByteArray.size_append]
  by_cases e : u.size = v.size
  · rw [lessS_eq _ _ (by omega), lessS_eq _ _ e]
    simp only [ByteArray.data_append, Array.toList_append, List.append_assoc]
    rw [bl_left, bl_right _ _ _ (by simpa using e)]
  · rw [lessS_ne _ _ (by omega), lessS_ne _ _ e]
    rw [decide_eq_decide]; omega
end Go.Proofs.YtddifhbjjiphiaaDoor
