/- Sorted lists, and what is left of equal neighbours: plain. -/
import Derived.Test.YtlgaihofaiigcaaDoorComPlain
import Derived.Lib.SlicesCompact
namespace Go.Proofs.YtlgaihofaiigcaaDoor
open Go.RowKit

theorem strict_eq : ∀ (a b : List Int), a.Pairwise (· < ·) → b.Pairwise (· < ·) → (∀ x, x ∈ a ↔ x ∈ b) → a = b
  | [], [], _, _, _ => rfl
  | [], y :: b, _, _, h => absurd ((h y).2 (List.mem_cons_self ..)) (by simp)
  | x :: a, [], _, _, h => absurd ((h x).1 (List.mem_cons_self ..)) (by simp)
  | x :: a, y :: b, ha, hb, h => by
    obtain ⟨ha1, ha2⟩ := List.pairwise_cons.1 ha
    obtain ⟨hb1, hb2⟩ := List.pairwise_cons.1 hb
    have hxy : x = y := by
      have h1 := (h x).1 (List.mem_cons_self ..)
      have h2 := (h y).2 (List.mem_cons_self ..)
      rcases List.mem_cons.1 h1 with e | h1
      · exact e
      · rcases List.mem_cons.1 h2 with e | h2
        · exact e.symm
        · have := ha1 y h2
          have := hb1 x h1
          omega
    subst hxy
    rw [strict_eq a b ha2 hb2 fun z => by
      constructor
      · intro hz
        rcases List.mem_cons.1 ((h z).1 (List.mem_cons_of_mem _ hz)) with e | hz2
        · have := ha1 z hz; omega
        · exact hz2
      · intro hz
        rcases List.mem_cons.1 ((h z).2 (List.mem_cons_of_mem _ hz)) with e | hz2
        · have := hb1 z hz; omega
        · exact hz2]
theorem compactUpTo_sorted (d : Array Int) (hd : ∀ i j, i ≤ j → j < d.size → d[i]! ≤ d[j]!) : ∀ m, m ≤ d.size →
    (Lib.compactUpTo d m).Pairwise (· < ·) ∧ (∀ x, x ∈ Lib.compactUpTo d m ↔ ∃ j, j < m ∧ d[j]! = x)
  | 0, _ => by simp [Lib.compactUpTo]
  | m + 1, hm => by
    obtain ⟨h1, h2⟩ := compactUpTo_sorted d hd m (by omega)
    rw [Lib.compactUpTo_succ]
    cases hk : Lib.keeps d m
    · have hk2 : m ≠ 0 ∧ d[m]! = d[m - 1]! := by
        unfold Lib.keeps at hk
        rw [decide_eq_false_iff_not] at hk
        refine ⟨fun e => hk (.inl e), ?_⟩
        rcases Classical.em (d[m]! = d[m - 1]!) with e | e
        · exact e
        · exact absurd (.inr e) hk
      simp only [Bool.false_eq_true, if_false, List.append_nil]
      refine ⟨h1, fun x => ?_⟩
      rw [h2 x]
      constructor
      · rintro ⟨j, hj, e⟩; exact ⟨j, by omega, e⟩
      · rintro ⟨j, hj, e⟩
        by_cases ej : j = m
        · subst ej; exact ⟨j - 1, by omega, by rw [← hk2.2]; exact e⟩
        · exact ⟨j, by omega, e⟩
    · simp only [if_true]
      have hlt : ∀ x ∈ Lib.compactUpTo d m, x < d[m]! := fun x hx => by
        obtain ⟨j, hj, rfl⟩ := (h2 x).1 hx
        unfold Lib.keeps at hk
        rw [decide_eq_true_iff] at hk
        have h3 := hd j (m - 1) (by omega) (by omega)
        have h4 := hd (m - 1) m (by omega) (by omega)
        rcases hk with e | e <;> omega
      refine ⟨List.pairwise_append.2 ⟨h1, List.pairwise_singleton _ _, fun a ha b hb => by rw [List.mem_singleton] at hb; subst hb; exact hlt a ha⟩, fun x => ?_⟩
      rw [List.mem_append, List.mem_singleton, h2 x]
      constructor
      · rintro (⟨j, hj, e⟩ | e)
        · exact ⟨j, by omega, e⟩
        · exact ⟨m, by omega, e.symm⟩
      · rintro ⟨j, hj, e⟩
        by_cases ej : j = m
        · subst ej; exact .inr e.symm
        · exact .inl ⟨j, by omega, e⟩
/-- The list in order. -/
def sortI (l : List Int) : List Int := l.mergeSort fun x y => decide (x ≤ y)
theorem sortI_length (l : List Int) : (sortI l).length = l.length := List.length_mergeSort l
theorem sortI_mem (l : List Int) (x : Int) : x ∈ sortI l ↔ x ∈ l := List.mem_mergeSort
theorem sortI_sorted (l : List Int) : (sortI l).Pairwise (· ≤ ·) := by
  have h := List.pairwise_mergeSort (le := fun x y : Int => decide (x ≤ y)) (by intro a b c; simp; omega) (by intro a b; simp; omega) l
  exact h.imp fun h => by simpa using h
theorem compact_sortI (l : List Int) : (Lib.compact (sortI l)).Pairwise (· < ·) ∧ ∀ x, x ∈ Lib.compact (sortI l) ↔ x ∈ l := by
  have hs := sortI_sorted l
  have h := compactUpTo_sorted (sortI l).toArray (fun i j hij hj => by
    have hj' : j < (sortI l).length := by simpa using hj
    rw [getElem!_pos _ i (by simp; omega), getElem!_pos _ j hj]
    simp only [List.getElem_toArray]
    by_cases e : i = j
    · subst e; exact Int.le_refl _
    · exact List.pairwise_iff_getElem.1 hs i j (by omega) hj' (by omega)) (sortI l).length (by simp)
  refine ⟨h.1, fun x => ?_⟩
  rw [← sortI_mem l x]
  refine (h.2 x).trans ⟨?_, ?_⟩
  · rintro ⟨j, hj, rfl⟩
    rw [getElem!_pos _ j (by simpa using hj)]
    simp
  · intro hx
    obtain ⟨j, hj, rfl⟩ := List.getElem_of_mem hx
    exact ⟨j, hj, by rw [getElem!_pos _ j (by simpa using hj)]; simp⟩
theorem pick_strict (p : Nat → Bool) (n : Nat) : (pick p n).Pairwise (· < ·) := by
  unfold pick
  rw [List.pairwise_map]
  exact (List.pairwise_lt_range.filter _).imp fun h => by omega
theorem mem_pick {p : Nat → Bool} {n : Nat} {x : Int} : x ∈ pick p n ↔ ∃ k : Nat, k < n ∧ p k = true ∧ x = k := by
  unfold pick
  rw [List.mem_map]
  constructor
  · rintro ⟨k, hk, rfl⟩
    rw [List.mem_filter] at hk
    exact ⟨k, by simpa using hk.1, hk.2, rfl⟩
  · rintro ⟨k, h1, h2, rfl⟩
    exact ⟨k, List.mem_filter.2 ⟨by simpa using h1, h2⟩, rfl⟩
noncomputable def conjB (n : Nat) (xs : List Int) (i y : Nat) : Bool := cdec (∃ x, x < n ∧ conj n xs x i = y)
noncomputable def conjL (n : Nat) (xs : List Int) (i k : Nat) : List Nat := (List.range k).map fun x => conj n xs x i
theorem conjL_succ (n : Nat) (xs : List Int) (i k : Nat) : conjL n xs i (k + 1) = conjL n xs i k ++ [conj n xs k i] := by simp [conjL, List.range_succ]
theorem conjL_length (n : Nat) (xs : List Int) (i k : Nat) : (conjL n xs i k).length = k := by simp [conjL]
theorem conj_pick {N : Nat} {xs : List Int} (h : Grp N xs) {i : Nat} (hi : i < N) : Lib.compact (sortI (nints (conjL N xs i N))) = pick (conjB N xs i) N := by
  obtain ⟨h1, h2⟩ := compact_sortI (nints (conjL N xs i N))
  refine strict_eq _ _ h1 (pick_strict _ _) fun x => ?_
  rw [h2 x, mem_pick]
  constructor
  · intro hx
    obtain ⟨y, hy, rfl⟩ := List.mem_map.1 hx
    obtain ⟨a, ha, rfl⟩ := List.mem_map.1 hy
    have ha' : a < N := by simpa using ha
    exact ⟨_, h.conj_lt ha' hi, cdec_yes ⟨a, ha', rfl⟩, rfl⟩
  · rintro ⟨k, hk, hp, rfl⟩
    obtain ⟨a, ha, rfl⟩ := of_cdec hp
    exact mem_nints.2 (List.mem_map.2 ⟨a, by simpa using ha, rfl⟩)
noncomputable def conjOf (q : Int) (xs : List Int) (i : Int) : List Int := if isGroupB q xs && elemOk q xs i then pick (conjB q.toNat xs i.toNat) q.toNat else []
theorem conjOf_yes {N i : Nat} {xs : List Int} (h : Grp N xs) (hi : i < N) : conjOf N xs i = pick (conjB N xs i) N := by unfold conjOf; rw [isGroup_yes h, elemOk_yes h.tab hi]; rfl
theorem conjOf_no {q : Int} {xs : List Int} {i : Int} (h : ¬ gallOk q xs [i]) : conjOf q xs i = [] := by
  unfold conjOf
  rw [if_neg]
  intro h2
  rw [Bool.and_eq_true] at h2
  exact h ⟨h2.1, by rw [allOk_one]; exact h2.2⟩
theorem conjOf_len (q : Int) (xs : List Int) (i : Int) : (conjOf q xs i).length ≤ 40 := by
  unfold conjOf
  split
  · rename_i h
    rw [Bool.and_eq_true] at h
    obtain ⟨N, rfl, hG⟩ := isGroup_iff h.1
    have := pick_len (conjB (N : Int).toNat xs i.toNat) (N : Int).toNat
    have := hG.tab.hi
    simp at *; omega
  · simp
end Go.Proofs.YtlgaihofaiigcaaDoor
