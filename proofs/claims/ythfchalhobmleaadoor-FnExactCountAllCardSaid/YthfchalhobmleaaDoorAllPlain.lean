/- How many reduced words there are: plain lemmas. -/
import Derived.Test.YthfchalhobmleaaDoorLongPlain
namespace Go.Proofs.YthfchalhobmleaaDoor
open Go.RowKit

/-- The reduced words of fewer than n letters. -/
def sumC (l : List R) (k : Nat) : Nat → Nat
  | 0 => 0
  | n + 1 => sumC l k n + countN l k n
theorem sumC_step (l : List R) (k n : Nat) : sumC l k (n + 1) = sumC l k n + countN l k n := rfl
theorem sumC_one (l : List R) (k : Nat) : sumC l k 1 = 1 := rfl
/-- What CountAll answers. -/
def AllRet (k : Int) (l : List R) (r : Int) : Prop := ∃ d : Int, LongRet k l d ∧ ((d < 0 ∧ r = -1) ∨ ∃ n : Nat, d = n ∧ r = wr (sumC l k.toNat (n + 1)))
theorem AllRet.one {k : Int} {l : List R} {r s : Int} (h : AllRet k l r) (h' : AllRet k l s) : r = s := by
  obtain ⟨d, h1, h2⟩ := h
  obtain ⟨d', h3, h4⟩ := h'
  obtain rfl := h1.one h3
  rcases h2 with ⟨h5, rfl⟩ | ⟨n, h5, rfl⟩ <;> rcases h4 with ⟨h6, rfl⟩ | ⟨m, h6, rfl⟩
  · rfl
  · omega
  · omega
  · have : n = m := by omega
    subst this; rfl
theorem LongRet.yes {k : Int} {l : List R} {n : Nat} (h : LongRet k l (n : Int)) : systemOk k l = true ∧ 0 < countN l k.toNat n ∧ countN l k.toNat (n + 1) = 0 := by
  rcases h with ⟨_, h⟩ | ⟨h1, h2⟩
  · omega
  · refine ⟨h1, ?_⟩
    rcases h2 with ⟨m, h3, h4, h5⟩ | ⟨h3, _⟩
    · have : n = m := by omega
      subst this; exact ⟨h4, h5⟩
    · omega
theorem long_few {l : List R} {k n : Nat} {Q : List E} (hQ : Ends l k Q) (h : 0 < countN l k n) (h' : countN l k (n + 1) = 0) : n < Q.length := by
  rcases Nat.lt_or_ge n Q.length with h1 | h1
  · exact h1
  · have h2 : 0 < countN l k Q.length := cnt_le h1 h
    have := all_pos hQ h2 (n + 1)
    omega
theorem wr_add2 (a b : Nat) : wrap64 (wr a + wr b) = wr (a + b) := by
  rw [← wr_add]; unfold wrap64; rw [IntKind.wrap_i64]
end Go.Proofs.YthfchalhobmleaaDoor
