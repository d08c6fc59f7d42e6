/- A reduction, step by step, until there is no step: plain lemmas. -/
import Derived.Test.YtddifhbjjiphiaaDoorRank
namespace Go.Proofs.YtddifhbjjiphiaaDoor
open Go.RowKit

theorem systemOk_mem {k : Int} {l : List R} (h : systemOk k l = true) {r : R} (hr : r ∈ l) : lessS r.2 r.1 = true ∧ wordOk k r.2 = true := by
  simp only [systemOk, rulesOk, Bool.and_eq_true, List.all_eq_true] at h
  have h1 := h.1.2 r hr
  have h2 := h.2 r hr
  simp only [ruleOk, sidesOk, Bool.and_eq_true] at h1
  exact ⟨h2, h1.1.1.1.2⟩
/-- A step of an ordered system: it is made, the word stays a word, and is less. -/
theorem step_props {k : Int} {l : List R} {s : ByteArray} {x : ST} (h : canRed k l s = true) (hx : isStepB l s x = true) :
    afterS l s x = ((afterS l s x).1, true) ∧ canRed k l (afterS l s x).1 = true ∧ lessS (afterS l s x).1 s = true ∧ (afterS l s x).1.size ≤ s.size := by
  have hsys : systemOk k l = true := by simp only [canRed, Bool.and_eq_true] at h; exact h.1
  have hw := canRed_word h
  obtain ⟨hk1, hk4, h16, hlet⟩ := (wordOk_iff k s).1 hw
  obtain ⟨i, p, rfl, hi, hp, r, hr, hat⟩ := isStepB_parts hx
  obtain ⟨hless, hw2⟩ := systemOk_mem hsys (List.mem_of_getElem? hr)
  obtain ⟨-, -, -, hlet2⟩ := (wordOk_iff k r.2).1 hw2
  obtain ⟨hfit, hsp⟩ := split_at s r.1 p hat
  have hsz := lessS_size hless
  have ha : afterS l s ((i : Int), (p : Int)) = (s.extract 0 p ++ r.2 ++ s.extract (p + r.1.size) s.size, true) := by
    rw [afterS_at (r := r) (by simpa using hr), repS, if_pos]
    · simp only [Int.toNat_natCast]
    · rw [repB]; exact decide_eq_true (by dsimp only; omega)
  rw [ha]
  dsimp only
  generalize hpre : s.extract 0 p = a at *
  generalize hpost : s.extract (p + r.1.size) s.size = b at *
  have hl : lessS (a ++ r.2 ++ b) s = true := by
    conv => lhs; rw [hsp]
    rw [lessS_both]; exact hless
  refine ⟨rfl, ?_, hl, lessS_size hl⟩
  rw [canRed, hsys, Bool.true_and, wordOk_iff]
  refine ⟨hk1, hk4, by have := lessS_size hl; omega, fun c hc => ?_⟩
  rw [ByteArray.data_append, ByteArray.data_append, Array.toList_append, Array.toList_append, List.mem_append, List.mem_append] at hc
  rcases hc with (hc | hc) | hc
  · refine hlet c ?_
    rw [hsp, ByteArray.data_append, ByteArray.data_append, Array.toList_append, Array.toList_append]
    exact List.mem_append_left _ (List.mem_append_left _ hc)
  · exact hlet2 c hc
  · refine hlet c ?_
    rw [hsp, ByteArray.data_append, ByteArray.data_append, Array.toList_append, Array.toList_append]
    exact List.mem_append_right _ hc
theorem step_rank {k : Int} {l : List R} {s : ByteArray} {x : ST} (h : canRed k l s = true) (hx : isStepB l s x = true) : rank (afterS l s x).1 < rank s := by
  obtain ⟨_, h2, h3, _⟩ := step_props h hx
  exact rank_lt (wordOk_low (canRed_word h2)) (wordOk_low (canRed_word h)) h3
theorem head_step {l : List R} {s : ByteArray} {d : Int} {x : ST} (h : (stepsD l s d).head? = some x) : isStepB l s x = true :=
  (mem_stepsD l s d x).1 (List.mem_of_mem_head? h)

def reds (l : List R) (d : Int) : Nat → ByteArray → List (ST × ByteArray)
  | 0, _ => []
  | f + 1, s => match (stepsD l s d).head? with | none => [] | some x => (x, (afterS l s x).1) :: reds l d f (afterS l s x).1
theorem reds_none {l : List R} {d : Int} {s : ByteArray} (f : Nat) (h : (stepsD l s d).head? = none) : reds l d (f + 1) s = [] := by rw [reds, h]
theorem reds_some {l : List R} {d : Int} {s : ByteArray} {x : ST} (f : Nat) (h : (stepsD l s d).head? = some x) : reds l d (f + 1) s = (x, (afterS l s x).1) :: reds l d f (afterS l s x).1 := by rw [reds, h]
def redsOf (l : List R) (d : Int) (s : ByteArray) : List (ST × ByteArray) := reds l d (rank s + 1) s
theorem reds_more {k : Int} {l : List R} {d : Int} : ∀ (N : Nat) (s : ByteArray) (f : Nat), canRed k l s = true → rank s ≤ N → rank s < f → reds l d f s = redsOf l d s
  | N, s, f, h, hN, hf => by
    obtain ⟨f, rfl⟩ : ∃ f', f = f' + 1 := ⟨f - 1, by omega⟩
    unfold redsOf
    cases hh : (stepsD l s d).head? with
    | none => rw [reds_none f hh, reds_none _ hh]
    | some x =>
      rw [reds_some f hh, reds_some _ hh]
      have hx := head_step hh
      have hr := step_rank h hx
      obtain ⟨_, h2, _, _⟩ := step_props h hx
      cases N with
      | zero => omega
      | succ N => rw [reds_more N _ f h2 (by omega) (by omega), reds_more N _ (rank s) h2 (by omega) hr]
theorem redsOf_none {l : List R} {d : Int} {s : ByteArray} (h : (stepsD l s d).head? = none) : redsOf l d s = [] := reds_none _ h
theorem redsOf_some {k : Int} {l : List R} {d : Int} {s : ByteArray} {x : ST} (h : canRed k l s = true) (hh : (stepsD l s d).head? = some x) : redsOf l d s = (x, (afterS l s x).1) :: redsOf l d (afterS l s x).1 := by
  rw [redsOf, reds_some _ hh]
  have hx := head_step hh
  obtain ⟨_, h2, _, _⟩ := step_props h hx
  rw [reds_more _ _ _ h2 (Nat.le_refl _) (step_rank h hx)]
theorem redsOf_len {k : Int} {l : List R} {d : Int} : ∀ (N : Nat) (s : ByteArray), canRed k l s = true → rank s ≤ N → (redsOf l d s).length ≤ rank s
  | N, s, h, hN => by
    cases hh : (stepsD l s d).head? with
    | none => rw [redsOf_none hh]; exact Nat.zero_le _
    | some x =>
      rw [redsOf_some h hh]
      have hx := head_step hh
      have hr := step_rank h hx
      obtain ⟨_, h2, _, _⟩ := step_props h hx
      cases N with
      | zero => omega
      | succ N => have := redsOf_len (d := d) N _ h2 (by omega); rw [List.length_cons]; omega
theorem rank_16 {k : Int} {s : ByteArray} (h : wordOk k s = true) : rank s ≤ 5726623060 := by
  have h1 := rkL_hi _ (wordOk_low h)
  obtain ⟨-, -, h2, -⟩ := (wordOk_iff k s).1 h
  rw [length_data] at h1
  have h3 := gN_mono h2
  have h4 : gN 16 = 1431655765 := rfl
  unfold rank
  omega
def lastOf (s : ByteArray) (r : List (ST × ByteArray)) : ByteArray := (r.getLast?.map (·.2)).getD s
theorem lastOf_nil (s : ByteArray) : lastOf s [] = s := rfl
theorem lastOf_cons (s : ByteArray) (x : ST) (y : ByteArray) (r : List (ST × ByteArray)) : lastOf s ((x, y) :: r) = lastOf y r := by
  cases r with
  | nil => rfl
  | cons a r => rw [lastOf, lastOf, List.getLast?_cons_cons, List.getLast?_eq_some_getLast (by simp : a :: r ≠ [])]; rfl
def formOf (l : List R) (d : Int) (s : ByteArray) : ByteArray := lastOf s (redsOf l d s)
theorem formOf_none {l : List R} {d : Int} {s : ByteArray} (h : (stepsD l s d).head? = none) : formOf l d s = s := by rw [formOf, redsOf_none h]; rfl
theorem formOf_some {k : Int} {l : List R} {d : Int} {s : ByteArray} {x : ST} (h : canRed k l s = true) (hh : (stepsD l s d).head? = some x) : formOf l d s = formOf l d (afterS l s x).1 := by
  rw [formOf, redsOf_some h hh, lastOf_cons]; rfl
def traceOf (l : List R) (s : ByteArray) : List ST := (redsOf l 0 s).map (·.1)
theorem traceOf_none {l : List R} {s : ByteArray} (h : (stepsD l s 0).head? = none) : traceOf l s = [] := by rw [traceOf, redsOf_none h]; rfl
theorem traceOf_some {k : Int} {l : List R} {s : ByteArray} {x : ST} (h : canRed k l s = true) (hh : (stepsD l s 0).head? = some x) : traceOf l s = x :: traceOf l (afterS l s x).1 := by
  rw [traceOf, redsOf_some h hh]; rfl
theorem traceOf_len {k : Int} {l : List R} {s : ByteArray} (h : canRed k l s = true) : (traceOf l s).length ≤ 5726623060 := by
  rw [traceOf, List.length_map]
  exact Nat.le_trans (redsOf_len _ s h (Nat.le_refl _)) (rank_16 (canRed_word h))
def formS (k : Int) (l : List R) (s : ByteArray) (d : Int) : ByteArray × Bool := if canRed k l s then (formOf l d s, true) else (⟨#[]⟩, false)
def traceS (k : Int) (l : List R) (s : ByteArray) : List ST := if canRed k l s then traceOf l s else []
/-- The model's step: where an ordered system has one. -/
theorem apply_step {k : Int} {l : List R} {s : ByteArray} {x : ST} (h : canRed k l s = true) (hx : isStepB l s x = true) : applyS k l s x = afterS l s x := by
  rw [applyS, canRed_rules h, hx]; rfl
theorem side_none {k : Int} {l : List R} {s : ByteArray} {d : Int} (h : canRed k l s = true) (hh : (stepsD l s d).head? = none) : sideStep k l s d = ((0, 0), false) := by
  rw [sideStep, if_pos (canRed_rules h), hh]; rfl
theorem side_some {k : Int} {l : List R} {s : ByteArray} {d : Int} {x : ST} (h : canRed k l s = true) (hh : (stepsD l s d).head? = some x) : sideStep k l s d = (x, true) := by
  rw [sideStep, if_pos (canRed_rules h), hh]; rfl
end Go.Proofs.YtddifhbjjiphiaaDoor
