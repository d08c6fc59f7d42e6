/- HasRule and LongestSide: the program's and the model's; '==' on two rules; slices.Contains at rules. -/
import Derived.Test.YtddifhbjjiphiaaDoorRules
import Derived.Laws.StructEq
namespace Go.Proofs.YtddifhbjjiphiaaDoor
open Go.RowKit

theorem ruleEqParts (u v s t : ByteArray) : (u.toList == s.toList && v.toList == t.toList) = decide (u = s ∧ v = t) := by
  by_cases h1 : u = s
  · by_cases h2 : v = t
    · subst h1; subst h2; simp
    · simp [h2, toList_ne h2]
  · simp [h1, toList_ne h1]
theorem run_eqlRule (u v s t : ByteArray) (w : World) : (binOp .eql 63 (.agg #[.string u, .string v]) (.agg #[.string s, .string t])).run Tryd.prog w = .ok (.bool (decide (u = s ∧ v = t))) w := by
  rw [run_eql_struct, run_equalIn_agg w _ _ _ _ (by kernel_rfl) (by kernel_rfl), ← ruleEqParts]
  simp [go_sem, Program.fieldsOf, Tryd.underlying63, Tryd.underlying9]
  by_cases h1 : u.toList = s.toList <;> by_cases h2 : v.toList = t.toList <;> simp [h1, h2]

theorem run_neqRule (u v s t : ByteArray) (w : World) : (binOp .neq 63 (.agg #[.string u, .string v]) (.agg #[.string s, .string t])).run Tryd.prog w = .ok (.bool (!decide (u = s ∧ v = t))) w := by
  rw [run_neq_struct, run_equalIn_agg w _ _ _ _ (by kernel_rfl) (by kernel_rfl), ← ruleEqParts]
  simp [go_sem, Program.fieldsOf, Tryd.underlying63, Tryd.underlying9]
  by_cases h1 : u.toList = s.toList <;> by_cases h2 : v.toList = t.toList <;> simp [h1, h2]

/-- Is r one of l? -/
def hasR (l : List R) (r : R) : Bool := l.any fun x => decide (x.1 = r.1 ∧ x.2 = r.2)
theorem hasR_step (l : List R) (k : Nat) (x r : R) (h : l[k]? = some x) : hasR (l.take (k + 1)) r = (hasR (l.take k) r || decide (x.1 = r.1 ∧ x.2 = r.2)) := by
  have hk := (List.getElem?_eq_some_iff.1 h).1
  have he := (List.getElem?_eq_some_iff.1 h).2
  rw [List.take_succ_eq_append_getElem hk, he]; simp [hasR]
theorem hasR_yes (l : List R) (k : Nat) (x r : R) (h : l[k]? = some x) (hx : decide (x.1 = r.1 ∧ x.2 = r.2) = true) : hasR l r = true := by
  unfold hasR
  rw [List.any_eq_true]; exact ⟨x, List.mem_of_getElem? h, hx⟩

/-- The greatest length of a left side. -/
def longest (l : List R) : Nat := l.foldl (fun a r => max a r.1.size) 0
theorem longest_step (l : List R) (k : Nat) (x : R) (h : l[k]? = some x) : longest (l.take (k + 1)) = max (longest (l.take k)) x.1.size := by
  have hk := (List.getElem?_eq_some_iff.1 h).1
  have he := (List.getElem?_eq_some_iff.1 h).2
  rw [List.take_succ_eq_append_getElem hk, he]; simp [longest]

theorem max_if (z m : Nat) : Value.int .i64 (if z < m then (m : Int) else (z : Int)) = .int .i64 ((max z m : Nat) : Int) := by
  by_cases h : z < m
  · rw [if_pos h, show max z m = m by omega]
  · rw [if_neg h, show max z m = z by omega]
end Go.Proofs.YtddifhbjjiphiaaDoor
