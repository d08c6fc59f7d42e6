/- Right cosets, numbered: plain; slices kept while another one is written. -/
import Derived.Test.YtkiomohpmajjcaaSpecSub2
namespace Go.Proofs.Ytkiomohpmajjcaa
open Go.RowKit

/-- The coset of i is given the number c. -/
def cosRow (N : Nat) (xs : List Int) (H : List Nat) (i c : Nat) (C : List Int) : List Int := H.foldl (fun C h => C.set (tmul N xs h i) (c : Int)) C
def cosStep (N : Nat) (xs : List Int) (H : List Nat) (i : Nat) (s : List Int × Nat) : List Int × Nat := if 0 ≤ s.1.getD i 0 then s else (cosRow N xs H i s.2 s.1, s.2 + 1)
def cosTo (N : Nat) (xs : List Int) (H : List Nat) : Nat → List Int × Nat
  | 0 => (List.replicate N (-1), 0)
  | i + 1 => cosStep N xs H i (cosTo N xs H i)
theorem cosRow_snoc (N : Nat) (xs : List Int) (H : List Nat) (h i c : Nat) (C : List Int) : cosRow N xs (H ++ [h]) i c C = (cosRow N xs H i c C).set (tmul N xs h i) (c : Int) := by simp [cosRow]
theorem cosRow_length (N : Nat) (xs : List Int) (H : List Nat) (i c : Nat) (C : List Int) : (cosRow N xs H i c C).length = C.length := by
  unfold cosRow
  induction H generalizing C with
  | nil => rfl
  | cons h H ih => rw [List.foldl_cons, ih, List.length_set]
theorem cosTo_length (N : Nat) (xs : List Int) (H : List Nat) : ∀ i, (cosTo N xs H i).1.length = N
  | 0 => by simp [cosTo]
  | i + 1 => by
    unfold cosTo cosStep
    split
    · exact cosTo_length N xs H i
    · rw [cosRow_length]; exact cosTo_length N xs H i
theorem cosTo_count (N : Nat) (xs : List Int) (H : List Nat) : ∀ i, (cosTo N xs H i).2 ≤ i
  | 0 => by simp [cosTo]
  | i + 1 => by
    have := cosTo_count N xs H i
    unfold cosTo cosStep
    split
    · omega
    · show _ + 1 ≤ _; omega
theorem cosTo_old {N : Nat} {xs : List Int} {H : List Nat} {i : Nat} (h : 0 ≤ (cosTo N xs H i).1.getD i 0) : cosTo N xs H (i + 1) = cosTo N xs H i := by
  show cosStep N xs H i (cosTo N xs H i) = _; unfold cosStep; rw [if_pos h]
theorem cosTo_new {N : Nat} {xs : List Int} {H : List Nat} {i : Nat} (h : ¬ 0 ≤ (cosTo N xs H i).1.getD i 0) : cosTo N xs H (i + 1) = (cosRow N xs H i (cosTo N xs H i).2 (cosTo N xs H i).1, (cosTo N xs H i).2 + 1) := by
  show cosStep N xs H i (cosTo N xs H i) = _; unfold cosStep; rw [if_neg h]
noncomputable def subL (N : Nat) (xs : List Int) (G : List Nat) : List Nat := (List.range N).filter (genB N xs G)
theorem subL_nints (N : Nat) (xs : List Int) (G : List Nat) : nints (subL N xs G) = pick (genB N xs G) N := rfl
theorem subL_lt {N : Nat} {xs : List Int} {G : List Nat} : ∀ h ∈ subL N xs G, h < N := fun h hh => by
  have := (List.mem_filter.1 hh).1
  simpa using this
noncomputable def cosetsOf (q : Int) (xs es : List Int) : List Int := if gOk q xs es then (cosTo q.toNat xs (subL q.toNat xs (es.map Int.toNat)) q.toNat).1 else []
theorem cosetsOf_no {q : Int} {xs es : List Int} (h : gOk q xs es = false) : cosetsOf q xs es = [] := by unfold cosetsOf; rw [h]; rfl
theorem cosetsOf_yes {N : Nat} {xs : List Int} {G : List Nat} (h : gOk N xs (nints G) = true) : cosetsOf N xs (nints G) = (cosTo N xs (subL N xs G) N).1 := by unfold cosetsOf; rw [h, nints_nat]; rfl
theorem cosetsOf_len (q : Int) (xs es : List Int) : (cosetsOf q xs es).length ≤ 40 := by
  cases h : gOk q xs es
  · rw [cosetsOf_no h]; simp
  · obtain ⟨N, G, rfl, hG, rfl, -⟩ := gOk_iff h
    rw [cosetsOf_yes h, cosTo_length]
    exact hG.tab.hi
theorem keptA_refl (A : Option Addr) (n : Nat) (w : World) : KeptA A n w w := fun _ _ _ => rfl
theorem KeptA.trans_below {A : Option Addr} {n : Nat} {w w1 w2 : World} (h : KeptA A n w w1) (hs : w.heap.size ≤ w1.heap.size) (hb : Below w1.heap.size w1 w2) : KeptA A n w w2 := h.below hs hb
/-- What stands in a slice of the call's own. -/
theorem Own.ints_at {B n g off c : Nat} {w : World} {C : List Int} (h : Own B w (.slice (some ⟨g, off, none⟩) n c) 1 n (ints C)) {j : Nat} (hj : j < n) :
    w.cell? ⟨g, off + j, none⟩ = some (.int .i64 (C.getD j 0)) ∧ w.frozen? ⟨g, off + j, none⟩ = false := by
  have hl := h.ilen
  have hf := (h.cellAt (by omega) (i := j) (by rw [ints_length]; omega)).2
  refine ⟨?_, hf⟩
  obtain ⟨s, hs, hx⟩ := h.iget hj
  rw [hx, List.getD_eq_getElem?_getD, hs]; rfl
theorem Own.set_int {B n g off c : Nat} {w : World} {C : List Int} (h : Own B w (.slice (some ⟨g, off, none⟩) n c) 1 n (ints C)) {j : Nat} (hj : j < n) (x : Int) :
    Own B (w.setCell ⟨g, off + j, none⟩ (.int .i64 x)) (.slice (some ⟨g, off, none⟩) n c) 1 n (ints (C.set j x)) := by
  have h2 := h.set (j := j) (by rw [ints_length, h.ilen]; exact hj) (.int .i64 x)
  rwa [show (ints C).set j (.int .i64 x) = ints (C.set j x) by simp [ints, List.map_set]] at h2
end Go.Proofs.Ytkiomohpmajjcaa
