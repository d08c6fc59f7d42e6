/- The program's ConjugatesOf; the library's sort and Compact. -/
import Derived.Test.YtlgaihofaiigcaaDoorSortPlain
import Derived.Test.YtlgaihofaiigcaaDoorShelf
import Derived.Sort.OwnSortedInts
namespace Go.Proofs.YtlgaihofaiigcaaDoor
open Go.RowKit

theorem sortInt_any (g cap n base : Nat) (l : List Int) (w : World) (h : w.ownsRow base 3 1 (.slice (some ⟨g, 0, none⟩) n cap) n (ints l)) (hn : n ≤ 1048576) :
    Calls Tryd.prog 56 #[.slice (some ⟨g, 0, none⟩) n cap] w fun e w' => e = .returned (.tuple #[]) ∧ w'.ownsRow base 3 1 (.slice (some ⟨g, 0, none⟩) n cap) n (ints (sortI l)) ∧ w.grownBy w' (some g) := by
  have hl : l.length = n := by have := h.1; rw [ints_length] at this; omega
  rcases h.2 with ⟨e, _⟩ | ⟨g', cap', cur, hv, hbase, hh, h1, h2, h3, h4⟩
  · cases e
  cases hv
  subst hl
  have hlt : g < w.heap.size := by
    rcases Nat.lt_or_ge g w.heap.size with hlt | hge
    · exact hlt
    · rw [Array.getElem?_eq_none hge] at hh; cases hh
  have hH := holds_of_blockI (ss := l) hh (by rw [Nat.mul_one] at h4; exact h4)
  refine (Tryd.slices_Sort_int g 0 cap l w hH hlt (by omega)).mono ?_
  rintro e w' ⟨rfl, k, os, rfl⟩
  refine ⟨rfl, ?_, grownBy_sortedI _⟩
  have h5 := ownsRow_sortedI (n := k) (os := os) (ss := l) (ts := sortI l) (sortI_length l) hbase hh h1 h2 h3
  exact h5
theorem row_form {w : World} {base : Nat} {e : TypeId} {v : Value} {n : Nat} {xs : List Value} (h : w.ownsRow base e 1 v n xs) (hn : 0 < n) : ∃ g cap, v = .slice (some ⟨g, 0, none⟩) n cap ∧ base ≤ g ∧ g < w.heap.size := by
  have hb := (Own.of_row h)
  rcases h.2 with ⟨-, e⟩ | ⟨g, cap, cur, rfl, hg, hh, _⟩
  · subst e
    have h1 := h.1
    simp at h1; omega
  · refine ⟨g, cap, rfl, hg, ?_⟩
    rcases Nat.lt_or_ge g w.heap.size with hlt | hge
    · exact hlt
    · rw [Array.getElem?_eq_none hge] at hh; cases hh
theorem below_own {g : Nat} {w W W' : World} (h : Below w.heap.size w W) (hg : W.grownBy W' (some g)) (hB : w.heap.size ≤ g) : Below w.heap.size w W' :=
  h.grown hg h.size (fun k hk => by injection hk with e; omega)
end Go.Proofs.YtlgaihofaiigcaaDoor
