/- How long a word can follow an end: plain lemmas. -/
import Derived.Test.YtjecadpofkblnaaDoorLongPlain
namespace Go.Proofs.YtjecadpofkblnaaDoor
open Go.RowKit

/-- The length of a longest word of at most t letters that can follow e. -/
def roomOf (l : List R) (k : Nat) : Nat → E → Nat
  | 0, _ => 0
  | t + 1, e => if 0 < cntE l k (t + 1) e then t + 1 else roomOf l k t e
theorem roomOf_le (l : List R) (k : Nat) (e : E) : ∀ t, roomOf l k t e ≤ t
  | 0 => Nat.le_refl 0
  | t + 1 => by
    unfold roomOf
    split
    · exact Nat.le_refl _
    · exact Nat.le_succ_of_le (roomOf_le l k e t)
theorem roomOf_iff (l : List R) (k : Nat) (e : E) : ∀ t n, n ≤ t → (n ≤ roomOf l k t e ↔ 0 < cntE l k n e)
  | 0, n, h => by
    have : n = 0 := by omega
    subst this
    exact ⟨fun _ => Nat.one_pos, fun _ => Nat.le_refl _⟩
  | t + 1, n, h => by
    unfold roomOf
    split
    · next hp => exact ⟨fun _ => cnt_le h hp, fun _ => h⟩
    · next hp =>
      by_cases hn : n = t + 1
      · subst hn
        exact ⟨fun h1 => absurd h1 (by have := roomOf_le l k e t; omega), fun h1 => absurd h1 hp⟩
      · exact roomOf_iff l k e t n (by omega)
/-- The words of r more letters behind u, whose end is e, in bytewise order; low tells which beginnings are passed over. -/
def listTo (l : List R) (k : Nat) (low : ByteArray → Bool) : Nat → ByteArray → E → List ByteArray
  | 0, u, _ => [u]
  | r + 1, u, e => (List.range k).flatMap fun j => match nxtS l e j with
    | none => []
    | some e' => if 0 < cntE l k r e' ∧ low (ext1 u j) = false then listTo l k low r (ext1 u j) e' else []
/-- .. with the first j letters. -/
def listAt (l : List R) (k : Nat) (low : ByteArray → Bool) (r : Nat) (u : ByteArray) (e : E) (j : Nat) : List ByteArray := (List.range j).flatMap fun j => match nxtS l e j with
    | none => []
    | some e' => if 0 < cntE l k r e' ∧ low (ext1 u j) = false then listTo l k low r (ext1 u j) e' else []
theorem listTo_succ (l : List R) (k : Nat) (low : ByteArray → Bool) (r : Nat) (u : ByteArray) (e : E) : listTo l k low (r + 1) u e = listAt l k low r u e k := rfl
theorem listAt_none {l : List R} {k r j : Nat} {low : ByteArray → Bool} {u : ByteArray} {e : E} (h : nxtS l e j = none) : listAt l k low r u e (j + 1) = listAt l k low r u e j := by
  unfold listAt
  rw [List.range_succ, List.flatMap_append, List.flatMap_singleton, h, List.append_nil]
theorem listAt_skip {l : List R} {k r j : Nat} {low : ByteArray → Bool} {u : ByteArray} {e e' : E} (h : nxtS l e j = some e') (h2 : ¬ (0 < cntE l k r e' ∧ low (ext1 u j) = false)) : listAt l k low r u e (j + 1) = listAt l k low r u e j := by
  unfold listAt
  rw [List.range_succ, List.flatMap_append, List.flatMap_singleton, h]
  simp only [if_neg h2, List.append_nil]
theorem listAt_take {l : List R} {k r j : Nat} {low : ByteArray → Bool} {u : ByteArray} {e e' : E} (h : nxtS l e j = some e') (h1 : 0 < cntE l k r e') (h2 : low (ext1 u j) = false) : listAt l k low r u e (j + 1) = listAt l k low r u e j ++ listTo l k low r (ext1 u j) e' := by
  unfold listAt
  rw [List.range_succ, List.flatMap_append, List.flatMap_singleton, h]
  simp only [if_pos (And.intro h1 h2)]
/-- Without a bound from below there are as many as are counted. -/
theorem listTo_len (l : List R) (k : Nat) : ∀ (r : Nat) (u : ByteArray) (e : E), (listTo l k (fun _ => false) r u e).length = cntE l k r e
  | 0, _, _ => rfl
  | r + 1, u, e => by
    have h : ∀ j, (listAt l k (fun _ => false) r u e j).length = cntToE l k r e j := by
      intro j
      induction j with
      | zero => rfl
      | succ j ih =>
        cases hn : nxtS l e j with
        | none => rw [listAt_none hn, nxt_none k r hn, ih]
        | some e' =>
          rw [(nxt_some k r hn).1]
          rcases Nat.eq_zero_or_pos (cntE l k r e') with h0 | h0
          · rw [listAt_skip hn (fun h => by omega), ih, h0, Nat.add_zero]
          · rw [listAt_take hn h0 rfl, List.length_append, ih, listTo_len l k r (ext1 u j) e']
    rw [listTo_succ, h k]; rfl
end Go.Proofs.YtjecadpofkblnaaDoor
