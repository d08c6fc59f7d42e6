/- The sizes of the classes of conjugates: plain. -/
import Derived.Test.YtkiomohpmajjcaaSpecConj
namespace Go.Proofs.Ytkiomohpmajjcaa
open Go.RowKit

noncomputable def clsN (N : Nat) (xs : List Int) (k : Nat) : Nat := (pick (conjB N xs k) N).length
noncomputable def clsR (N : Nat) (xs : List Int) (k : Nat) : Bool := decide ((pick (conjB N xs k) N)[0]? = some (k : Int))
noncomputable def clsL (N : Nat) (xs : List Int) (i : Nat) : List Nat := ((List.range i).filter (clsR N xs)).map (clsN N xs)
theorem clsL_yes {N : Nat} {xs : List Int} {i : Nat} (h : clsR N xs i = true) : clsL N xs (i + 1) = clsL N xs i ++ [clsN N xs i] := by
  unfold clsL; rw [List.range_succ, List.filter_append, List.map_append]; simp [h]
theorem clsL_no {N : Nat} {xs : List Int} {i : Nat} (h : clsR N xs i = false) : clsL N xs (i + 1) = clsL N xs i := by
  unfold clsL; rw [List.range_succ, List.filter_append, List.map_append]; simp [h]
theorem clsL_len (N : Nat) (xs : List Int) (i : Nat) : (clsL N xs i).length ≤ i := by
  unfold clsL; rw [List.length_map]
  have := List.length_filter_le (clsR N xs) (List.range i)
  simpa using this
theorem cls_pos {N : Nat} {xs : List Int} (h : Grp N xs) {i : Nat} (hi : i < N) : 0 < (pick (conjB N xs i) N).length := by
  have hm : ((conj N xs 0 i : Nat) : Int) ∈ pick (conjB N xs i) N := mem_pick.2 ⟨_, h.conj_lt (by omega) hi, cdec_yes ⟨0, by omega, rfl⟩, rfl⟩
  exact List.length_pos_of_mem hm
theorem Grp.conj_zero' {N : Nat} {xs : List Int} (h : Grp N xs) {x : Nat} (hx : x < N) : conj N xs x 0 = 0 := by
  unfold conj
  rw [(h.tab.one hx).2, (h.inv_spec hx).2.1]
theorem sort_unique : ∀ (a b : List Int), a.Pairwise (· ≤ ·) → b.Pairwise (· ≤ ·) → a.Perm b → a = b
  | [], b, _, _, h => h.nil_eq
  | x :: a, [], _, _, h => absurd h.length_eq (by simp)
  | x :: a, y :: b, ha, hb, h => by
    obtain ⟨ha1, ha2⟩ := List.pairwise_cons.1 ha
    obtain ⟨hb1, hb2⟩ := List.pairwise_cons.1 hb
    have hxy : x = y := by
      have h1 := h.mem_iff.1 (List.mem_cons_self (a := x) (l := a))
      have h2 := h.mem_iff.2 (List.mem_cons_self (a := y) (l := b))
      rcases List.mem_cons.1 h1 with e | h1
      · exact e
      · rcases List.mem_cons.1 h2 with e | h2
        · exact e.symm
        · have := ha1 y h2
          have := hb1 x h1
          omega
    subst hxy
    rw [sort_unique a b ha2 hb2 (List.Perm.cons_inv h)]
/-- x is put behind the first k of a list in order, which are not greater. -/
theorem sort_insert {l : List Int} {x : Int} {k : Nat} (hk : k ≤ (sortI l).length) (h1 : ∀ j y, j < k → (sortI l)[j]? = some y → y ≤ x) (h2 : ∀ y, (sortI l)[k]? = some y → x < y) :
    (sortI l).take k ++ [x] ++ (sortI l).drop k = sortI (l ++ [x]) := by
  have hs := sortI_sorted l
  refine sort_unique _ _ ?_ (sortI_sorted _) ?_
  · rw [List.append_assoc, List.singleton_append]
    refine List.pairwise_append.2 ⟨hs.sublist (List.take_sublist _ _), ?_, ?_⟩
    · refine List.pairwise_cons.2 ⟨fun y hy => ?_, hs.sublist (List.drop_sublist _ _)⟩
      obtain ⟨j, hj⟩ := List.getElem?_of_mem hy
      rw [List.getElem?_drop] at hj
      obtain ⟨hjl, rfl⟩ := List.getElem?_eq_some_iff.1 hj
      have h3 := h2 _ (List.getElem?_eq_getElem (show k < (sortI l).length by omega))
      by_cases e : j = 0
      · subst e; simp only [Nat.add_zero]; omega
      · have := List.pairwise_iff_getElem.1 hs k (k + j) (by omega) hjl (by omega)
        omega
    · intro a ha b hb
      obtain ⟨i, hi⟩ := List.getElem?_of_mem ha
      have hik : i < k := by
        have := (List.getElem?_eq_some_iff.1 hi).1
        rw [List.length_take] at this; omega
      rw [List.getElem?_take_of_lt hik] at hi
      have hax := h1 i a hik hi
      rcases List.mem_cons.1 hb with e | hb
      · subst e; exact hax
      · obtain ⟨j, hj⟩ := List.getElem?_of_mem hb
        rw [List.getElem?_drop] at hj
        obtain ⟨hjl, rfl⟩ := List.getElem?_eq_some_iff.1 hj
        have h3 := h2 _ (List.getElem?_eq_getElem (show k < (sortI l).length by omega))
        by_cases e : j = 0
        · subst e; simp only [Nat.add_zero]; omega
        · have := List.pairwise_iff_getElem.1 hs k (k + j) (by omega) hjl (by omega)
          omega
  · have p1 : ((sortI l).take k ++ [x] ++ (sortI l).drop k).Perm (x :: ((sortI l).take k ++ (sortI l).drop k)) := by
      rw [List.append_assoc]; exact List.perm_middle
    rw [List.take_append_drop] at p1
    have p2 : (x :: sortI l).Perm (x :: l) := (List.mergeSort_perm l _).cons x
    have p3 : (x :: l).Perm (l ++ [x]) := (List.perm_append_singleton x l).symm
    exact p1.trans (p2.trans (p3.trans (List.mergeSort_perm (l ++ [x]) _).symm))
noncomputable def sizesOf (q : Int) (xs : List Int) : List Int := if isGroupB q xs then sortI (nints (clsL q.toNat xs q.toNat)) else []
theorem sizesOf_yes {N : Nat} {xs : List Int} (h : Grp N xs) : sizesOf N xs = sortI (nints (clsL N xs N)) := by unfold sizesOf; rw [isGroup_yes h]; rfl
theorem sizesOf_no {q : Int} {xs : List Int} (h : isGroupB q xs = false) : sizesOf q xs = [] := by unfold sizesOf; rw [h]; rfl
theorem sizesOf_len (q : Int) (xs : List Int) : (sizesOf q xs).length ≤ 40 := by
  cases h : isGroupB q xs
  · rw [sizesOf_no h]; simp
  · obtain ⟨N, rfl, hG⟩ := isGroup_iff h
    rw [sizesOf_yes hG, sortI_length, nints_length]
    have := clsL_len N xs N
    have := hG.tab.hi
    omega
end Go.Proofs.Ytkiomohpmajjcaa
