/- Steps (two ints) and lists of them: how they lie; the laws' toStep, eqStep and their lists' helpers. -/
import Derived.Test.YtddifhbjjiphiaaDoorRules
import Derived.Test.YtddifhbjjiphiaaDoorMarkRules
namespace Go.Proofs.YtddifhbjjiphiaaDoor
open Go.RowKit

abbrev ST := Int × Int
abbrev stepV (x : ST) : Value := .agg #[.int .i64 x.1, .int .i64 x.2]
def stepC (x : ST) : List Value := [.int .i64 x.1, .int .i64 x.2]
def stepsC (l : List ST) : List Value := l.flatMap stepC
theorem stepsC_length (l : List ST) : (stepsC l).length = l.length * 2 := by
  induction l with
  | nil => rfl
  | cons r l ih => simp only [stepsC, List.flatMap_cons, List.length_append, List.length_cons] at ih ⊢; rw [ih]; simp [stepC]; omega
theorem stepsC_get (l : List ST) (k : Nat) (r : ST) (h : l[k]? = some r) : (stepsC l)[k * 2]? = some (.int .i64 r.1) ∧ (stepsC l)[k * 2 + 1]? = some (.int .i64 r.2) := by
  induction l generalizing k with
  | nil => simp at h
  | cons a l ih =>
    cases k with
    | zero => simp at h; subst h; simp [stepsC, stepC]
    | succ k =>
      have := ih k (by simpa using h)
      simp only [stepsC, List.flatMap_cons]
      rw [List.getElem?_append_right (by simp [stepC]; omega), List.getElem?_append_right (by simp [stepC]; omega)]
      rw [show (k + 1) * 2 - (stepC a).length = k * 2 by simp [stepC]; omega, show (k + 1) * 2 + 1 - (stepC a).length = k * 2 + 1 by simp [stepC]; omega]
      exact this
theorem stepsC_append (a b : List ST) : stepsC (a ++ b) = stepsC a ++ stepsC b := by simp [stepsC]
theorem stepsC_one (a : ST) : stepsC [a] = [.int .i64 a.1, .int .i64 a.2] := rfl
theorem stepsC_set (l : List ST) (k : Nat) (r : ST) (hk : k < l.length) : ((stepsC l).set (k * 2) (.int .i64 r.1)).set (k * 2 + 1) (.int .i64 r.2) = stepsC (l.set k r) := by
  induction l generalizing k with
  | nil => simp at hk
  | cons a l ih =>
    cases k with
    | zero => rfl
    | succ k =>
      have := ih k (by simpa using hk)
      rw [show stepsC (a :: l) = .int .i64 a.1 :: .int .i64 a.2 :: stepsC l from rfl]
      rw [show (k + 1) * 2 = (k * 2) + 1 + 1 by omega]
      simp only [List.set_cons_succ]
      rw [this]; rfl
theorem Own.step {B n g off c : Nat} {w : World} {l : List ST} (h : Own B w (.slice (some ⟨g, off, none⟩) n c) 2 n (stepsC l)) {k : Nat} (hk : k < n) :
    B ≤ g ∧ g < w.heap.size ∧ ∃ r, l[k]? = some r ∧ w.cell? ⟨g, off + k * 2, none⟩ = some (.int .i64 r.1) ∧ w.cell? ⟨g, off + k * 2 + 1, none⟩ = some (.int .i64 r.2) ∧
      w.frozen? ⟨g, off + k * 2, none⟩ = false ∧ w.frozen? ⟨g, off + k * 2 + 1, none⟩ = false := by
  have hg := h.ge (by omega)
  have h1 := h.1
  rw [stepsC_length] at h1
  have hl : k < l.length := by omega
  have hr : l[k]? = some l[k] := List.getElem?_eq_getElem hl
  obtain ⟨q1, q2⟩ := stepsC_get l k _ hr
  have r1 := h.cellAt (by omega) (i := k * 2) (by rw [stepsC_length]; omega)
  have r2 := h.cellAt (by omega) (i := k * 2 + 1) (by rw [stepsC_length]; omega)
  exact ⟨hg.1, hg.2, l[k], hr, r1.1.trans q1, r2.1.trans q2, r1.2, r2.2⟩
theorem Own.slen {B n : Nat} {w : World} {v : Value} {l : List ST} (h : Own B w v 2 n (stepsC l)) : l.length = n := by have := h.1; rw [stepsC_length] at this; omega
theorem infoStep : (Tryd.prog.info? 102).map (fun i => (i.zero, i.size, i.bytes)) = some (some (.agg #[.int .i64 0, .int .i64 0]), 2, 16) := by kernel_rfl

def marksS (k : Int) (n : Nat) : List ST := (List.range n).map fun i : Nat => (k + 2 * i, k + 2 * i + 1)
theorem marksS_length (k : Int) (n : Nat) : (marksS k n).length = n := by simp [marksS]
theorem marksS_get (k : Int) (n j : Nat) (h : j < n) : (marksS k n)[j]? = some (k + 2 * j, k + 2 * j + 1) := by simp [marksS, h]
theorem marksS_step (k : Int) (i : Nat) (l : List ST) (hi : i < l.length) : (marksS k i ++ l.drop i).set i (k + 2 * i, k + 2 * i + 1) = marksS k (i + 1) ++ l.drop (i + 1) := by
  have h1 : l.drop i = l[i] :: l.drop (i + 1) := by rw [List.drop_eq_getElem_cons hi]
  have hm : marksS k (i + 1) = marksS k i ++ [(k + 2 * i, k + 2 * i + 1)] := by simp [marksS, List.range_succ]
  rw [h1, hm, List.set_append_right _ _ (by simp [marksS_length]), marksS_length, Nat.sub_self, List.set_cons_zero, List.append_assoc]
  rfl
/-- A slice of steps that came in: its cells hold xs. -/
def InS (w : World) (A : Option Addr) (n c : Nat) (xs : List ST) : Prop :=
  xs.length = n ∧ n ≤ c ∧ c ≤ maxLen ∧ ∀ k, k < n → ∃ a r, A = some a ∧ xs[k]? = some r ∧ a.block < w.heap.size ∧ w.cell? (a.add (k * 2)) = some (.int .i64 r.1) ∧ w.cell? ⟨(a.add (k * 2)).block, (a.add (k * 2)).off + 1, none⟩ = some (.int .i64 r.2) ∧ (Lit.int .i64 r.1).wf = true ∧ (Lit.int .i64 r.2).wf = true
theorem InS.keep {w w' : World} {A : Option Addr} {n c : Nat} {xs : List ST} (h : InS w A n c xs) (hb : Below w.heap.size w w') : InS w' A n c xs := by
  obtain ⟨h1, h2, h3, h4⟩ := h
  refine ⟨h1, h2, h3, fun k hk => ?_⟩
  obtain ⟨a, r, e, hs, hlt, hc, hc', hm⟩ := h4 k hk
  exact ⟨a, r, e, hs, by have := hb.size; omega, (hb.cell (by rw [addR_block]; exact hlt)).trans hc, (hb.cell (by show (a.add (k * 2)).block < _; rw [addR_block]; exact hlt)).trans hc', hm⟩
theorem madeSteps_get (n j : Nat) (hj : j < n * 2) : (madeCells #[Value.int .i64 0, Value.int .i64 0] (n * 2))[j]? = some (.int .i64 0) := by
  have h : j % 2 = 0 ∨ j % 2 = 1 := by omega
  rcases h with h | h <;> simp [madeCells, hj, h]
theorem Own.madeS (u : World) (n : Nat) (e : TypeId) (hn : n ≤ maxLen) : Own u.heap.size (u.alloc (.cells (madeCells #[.int .i64 0, .int .i64 0] (n * 2)) e)) (.slice (some ⟨u.heap.size, 0, none⟩) n n) 2 n (stepsC (List.replicate n (0, 0))) := by
  refine ⟨by rw [stepsC_length]; simp, _, n, rfl, Nat.le_refl _, hn, fun _ => ⟨u.heap.size, 0, rfl, Nat.le_refl _, by simp, fun j hj => ?_⟩⟩
  have hh := heap_alloc_new u (.cells (madeCells #[.int .i64 0, .int .i64 0] (n * 2)) e)
  refine ⟨?_, frozen_of_row _ _ _ _ _ hh⟩
  rw [cell_of_row _ _ _ _ _ _ hh, Nat.zero_add]
  rw [stepsC_length, List.length_replicate] at hj
  rw [madeSteps_get n j hj]
  have h : j = j / 2 * 2 ∨ j = j / 2 * 2 + 1 := by omega
  have hg := stepsC_get (List.replicate n ((0, 0) : ST)) (j / 2) (0, 0) (by rw [List.getElem?_replicate, if_pos (by omega)])
  rcases h with h | h
  · rw [h]; exact hg.1.symm
  · rw [h]; exact hg.2.symm
theorem take_set_any {α : Type} (xs : List α) (n k : Nat) (s z : α) (hs : xs[k]? = some s) (hk : k < n) :
    (xs.take k ++ List.replicate (n - k) z).set k s = xs.take (k + 1) ++ List.replicate (n - (k + 1)) z := by
  have hk' := (List.getElem?_eq_some_iff.1 hs).1
  have he := (List.getElem?_eq_some_iff.1 hs).2
  rw [List.take_succ_eq_append_getElem hk', he, show n - k = (n - (k + 1)) + 1 by omega, List.replicate_succ]
  rw [List.set_append_right _ _ (by simp; omega)]
  have : k - (xs.take k).length = 0 := by simp; omega
  rw [this]
  simp
end Go.Proofs.YtddifhbjjiphiaaDoor
