/- The reduced words of a system, counted by what may follow: plain lemmas. -/
import Derived.Test.YtjecadpofkblnaaDoorRulesOk
import Derived.Test.YtjecadpofkblnaaDoorPlaces
namespace Go.Proofs.YtjecadpofkblnaaDoor
open Go.RowKit

/-- The letter with number x. -/
def letC (x : Nat) : UInt8 := UInt8.ofNat (97 + x)
/-- Is one of L an end of v? -/
def endsW (L : List (List UInt8)) (v : List UInt8) : Bool := L.any fun p => p.isSuffixOf v
theorem endsW_iff (L : List (List UInt8)) (v : List UInt8) : endsW L v = true ↔ ∃ p ∈ L, p <:+ v := by
  unfold endsW
  rw [List.any_eq_true]
  constructor
  · rintro ⟨p, hp, h⟩; exact ⟨p, hp, List.isSuffixOf_iff_suffix.1 h⟩
  · rintro ⟨p, hp, h⟩; exact ⟨p, hp, List.isSuffixOf_iff_suffix.2 h⟩
/-- The numbers of f below j, added. -/
def sumTo (f : Nat → Nat) : Nat → Nat
  | 0 => 0
  | j + 1 => sumTo f j + f j
theorem sumTo_congr {f g : Nat → Nat} : ∀ j, (∀ x, x < j → f x = g x) → sumTo f j = sumTo g j
  | 0, _ => rfl
  | j + 1, h => by rw [sumTo, sumTo, sumTo_congr j (fun x hx => h x (by omega)), h j (Nat.lt_succ_self j)]
theorem sumTo_pos {f : Nat → Nat} : ∀ j, 0 < sumTo f j ↔ ∃ x, x < j ∧ 0 < f x
  | 0 => by simp [sumTo]
  | j + 1 => by
    rw [sumTo]
    constructor
    · intro h
      by_cases hj : 0 < f j
      · exact ⟨j, Nat.lt_succ_self j, hj⟩
      · have h0 : f j = 0 := Nat.eq_zero_of_not_pos hj
        rw [h0] at h
        obtain ⟨x, hx, h⟩ := (sumTo_pos j).1 h
        exact ⟨x, by omega, h⟩
    · rintro ⟨x, hx, h⟩
      by_cases e : x = j
      · subst e; omega
      · have := (sumTo_pos j).2 ⟨x, by omega, h⟩; omega
/-- How many words of n of the first k letters can follow u, so that no end of a beginning longer than u is in L. -/
def cnt (L : List (List UInt8)) (k : Nat) : Nat → List UInt8 → Nat
  | 0, _ => 1
  | n + 1, u => sumTo (fun x => if endsW L (u ++ [letC x]) then 0 else cnt L k n (u ++ [letC x])) k
/-- Of those, the ones that begin with one of the first j letters. -/
def cntTo (L : List (List UInt8)) (k n : Nat) (u : List UInt8) (j : Nat) : Nat := sumTo (fun x => if endsW L (u ++ [letC x]) then 0 else cnt L k n (u ++ [letC x])) j
theorem cnt_succ (L : List (List UInt8)) (k n : Nat) (u : List UInt8) : cnt L k (n + 1) u = cntTo L k n u k := rfl
/-- What follows is the same behind both. -/
def Eqv (L : List (List UInt8)) (u v : List UInt8) : Prop := ∀ t : List UInt8, t ≠ [] → endsW L (u ++ t) = endsW L (v ++ t)
theorem Eqv.refl (L : List (List UInt8)) (u : List UInt8) : Eqv L u u := fun _ _ => rfl
theorem Eqv.symm {L : List (List UInt8)} {u v : List UInt8} (h : Eqv L u v) : Eqv L v u := fun t ht => (h t ht).symm
theorem Eqv.trans {L : List (List UInt8)} {u v x : List UInt8} (h : Eqv L u v) (h' : Eqv L v x) : Eqv L u x := fun t ht => (h t ht).trans (h' t ht)
theorem Eqv.snoc {L : List (List UInt8)} {u v : List UInt8} (h : Eqv L u v) (x : UInt8) : Eqv L (u ++ [x]) (v ++ [x]) := fun t _ => by
  rw [List.append_assoc, List.append_assoc]; exact h _ (by simp)
theorem Eqv.cnt {L : List (List UInt8)} {k : Nat} : ∀ (n : Nat) {u v : List UInt8}, Eqv L u v → cnt L k n u = cnt L k n v
  | 0, _, _, _ => rfl
  | n + 1, u, v, h => by
    rw [Go.Proofs.YtjecadpofkblnaaDoor.cnt, Go.Proofs.YtjecadpofkblnaaDoor.cnt]
    refine sumTo_congr k fun x _ => ?_
    rw [h [letC x] (by simp), Eqv.cnt n (h.snoc (letC x))]
/-- A long enough end says what may follow. -/
theorem eqv_cut {L : List (List UInt8)} {m : Nat} (hL : ∀ p ∈ L, p.length ≤ m + 1) (u : List UInt8) : Eqv L u (u.drop (u.length - m)) := by
  intro t ht
  have ht1 : 1 ≤ t.length := List.length_pos_iff.2 ht
  have hs : u.drop (u.length - m) ++ t <:+ u ++ t := ⟨u.take (u.length - m), by rw [← List.append_assoc, List.take_append_drop]⟩
  rw [Bool.eq_iff_iff, endsW_iff, endsW_iff]
  constructor
  · rintro ⟨p, hp, h⟩
    refine ⟨p, hp, ?_⟩
    by_cases hm : u.length ≤ m
    · rw [show u.length - m = 0 by omega, List.drop_zero]; exact h
    · refine List.suffix_of_suffix_length_le h hs ?_
      have := hL p hp
      simp; omega
  · rintro ⟨p, hp, h⟩
    exact ⟨p, hp, h.trans hs⟩
/-- The longest end that begins one of L says it, too. -/
theorem eqv_lsp {L : List (List UInt8)} {u e : List UInt8} (he : e <:+ u) (hmax : ∀ q, q <:+ u → (∃ p ∈ L, q <+: p) → q.length ≤ e.length) : Eqv L u e := by
  intro t ht
  have hs : e ++ t <:+ u ++ t := by obtain ⟨a, rfl⟩ := he; exact ⟨a, by simp⟩
  rw [Bool.eq_iff_iff, endsW_iff, endsW_iff]
  constructor
  · rintro ⟨p, hp, h⟩
    refine ⟨p, hp, List.suffix_of_suffix_length_le h hs ?_⟩
    rw [List.length_append]
    by_cases hl : p.length ≤ t.length
    · omega
    · obtain ⟨a, ha⟩ := h
      -- p = (the end of u) ++ t
      have hal : a.length + p.length = u.length + t.length := by have := congrArg List.length ha; simpa using this
      have h1 : u.drop a.length ++ t = p := by
        have h2 := congrArg (List.drop a.length) ha
        rw [List.drop_left, List.drop_append_of_le_length (by omega)] at h2
        exact h2.symm
      have h3 := hmax (u.drop a.length) (List.drop_suffix _ _) ⟨p, hp, ⟨t, h1⟩⟩
      rw [List.length_drop] at h3
      omega
  · rintro ⟨p, hp, h⟩
    exact ⟨p, hp, h.trans hs⟩
end Go.Proofs.YtjecadpofkblnaaDoor
