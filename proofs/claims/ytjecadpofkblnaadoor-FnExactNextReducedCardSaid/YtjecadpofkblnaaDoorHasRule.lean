/- HasRule and LongestSide: the program's and the model's; '==' on two rules; slices.Contains at rules. -/
import Derived.Test.YtjecadpofkblnaaDoorRules
import Derived.Laws.StructEq
namespace Go.Proofs.YtjecadpofkblnaaDoor
open Go.RowKit

theorem ruleEqParts (u v s t : ByteArray) : (u.toList == s.toList && v.toList == t.toList) = decide (u = s ∧ v = t) := by
  by_cases h1 : u = s
  · by_cases h2 : v = t
    · subst h1; subst h2; simp
    · simp [h2, toList_ne h2]
  · simp [h1, toList_ne h1]
theorem run_eqlRule (u v s t : ByteArray) (w : World) : (binOp .eql 88 (.agg #[.string u, .string v]) (.agg #[.string s, .string t])).run Tryd.prog w = .ok (.bool (decide (u = s ∧ v = t))) w := by
  rw [run_eql_struct, run_equalIn_agg w _ _ _ _ (by kernel_rfl) (by kernel_rfl), ← ruleEqParts]
  simp [go_sem, Program.fieldsOf, Tryd.underlying88, Tryd.underlying9]
  by_cases h1 : u.toList = s.toList <;> by_cases h2 : v.toList = t.toList <;> simp [h1, h2]

theorem run_neqRule (u v s t : ByteArray) (w : World) : (binOp .neq 88 (.agg #[.string u, .string v]) (.agg #[.string s, .string t])).run Tryd.prog w = .ok (.bool (!decide (u = s ∧ v = t))) w := by
  rw [run_neq_struct, run_equalIn_agg w _ _ _ _ (by kernel_rfl) (by kernel_rfl), ← ruleEqParts]
  simp [go_sem, Program.fieldsOf, Tryd.underlying88, Tryd.underlying9]
  by_cases h1 : u.toList = s.toList <;> by_cases h2 : v.toList = t.toList <;> simp [h1, h2]

/-- Is r one of l? -/
def hasR (l : List R) (r : R) : Bool := l.any fun x => decide (x.1 = r.1 ∧ x.2 = r.2)
theorem hasR_step (l : List R) (k : Nat) (x r : R) (h : l[k]? = some x) : hasR (l.take (k + 1)) r = (hasR (l.take k) r || decide (x.1 = r.1 ∧ x.2 = r.2)) := by
  have hk := (List.getElem?_eq_some_iff.1 h).1
  have he := (List.getElem?_eq_some_iff.1 h).2
  rw [List.take_succ_eq_append_getElem hk, he]; simp [hasR]
theorem hasR_yes (l : List R) (k : Nat) (x r : R) (h : l[k]? = some x) (hx : decide (x.1 = r.1 ∧ x.2 = r.2) = true) : hasR l r = true := by
  unfold hasR
  rw [List.any_eq_true]; exact ⟨x, List.mem_of_getElem? h, hx⟩

/-- The greatest length of a left side. -/
def longest (l : List R) : Nat := l.foldl (fun a r => max a r.1.size) 0
theorem longest_step (l : List R) (k : Nat) (x : R) (h : l[k]? = some x) : longest (l.take (k + 1)) = max (longest (l.take k)) x.1.size := by
  have hk := (List.getElem?_eq_some_iff.1 h).1
  have he := (List.getElem?_eq_some_iff.1 h).2
  rw [List.take_succ_eq_append_getElem hk, he]; simp [longest]

theorem max_if (z m : Nat) : Value.int .i64 (if z < m then (m : Int) else (z : Int)) = .int .i64 ((max z m : Nat) : Int) := by
  by_cases h : z < m
  · rw [if_pos h, show max z m = m by omega]
  · rw [if_neg h, show max z m = z by omega]
set_option maxRecDepth 100000 in
set_option maxHeartbeats 800000 in
theorem specLongest (k : Int) (A : Option Addr) (n c B : Nat) (l : List R) (w : World) (h : Own B w (.slice A n c) 2 n (rulesC l)) (hsm : smallR l) :
    Calls Tryd.prog 113 #[.agg #[.int .i64 k, .slice A n c]] w fun e w' => e = .returned (.int .i64 (longest l)) ∧ Below w.heap.size w w' := by
  have hmax := h.bound
  have Hlen := Lib.hid h.rlen
  unfold maxLen at hmax
  have HO := Lib.hid h
  have Hsm := Lib.hid hsm
  clear h hsm
  go_enter Tryd.func113, Tryd.ntmps113
  go_wp2_with fail
  go_loopw [3, 9] (fun m i wr => ∃ j z : Nat, j ≤ n ∧ i = .int .i64 j ∧ m = .int .i64 z ∧ z ≤ 1048576 ∧ Hid (longest (l.take j) = z) ∧ Below w.heap.size w wr) (fun _ i _ => n - (intOf i).toNat)
  case atStart => exact ⟨0, 0, Nat.zero_le _, rfl, rfl, by omega, rfl, bel1 _ _⟩
  case round =>
    obtain ⟨j, z, hj, rfl, rfl, hz, HX, hb⟩ := hrel
    have hbs := hb.size
    by_cases hlt : j < n
    · obtain ⟨g, off, c0, hv⟩ := HO.out.formR (by omega)
      obtain ⟨rfl, rfl⟩ : A = some ⟨g, off, none⟩ ∧ c = c0 := by injection hv with a _ b; exact ⟨a, b⟩
      clear hv
      obtain ⟨-, hgl, ⟨u, v⟩, hr, x0, x1, -, -⟩ := (HO.out.below hb).rule hlt
      have hsz := (Hsm.out _ (List.mem_of_getElem? hr)).1
      dsimp only at hsz
      have Hr := Lib.hid hr
      clear hr
      have hbw1 := Lib.hid (fun o => hb.alloc hb.size o)
      have HX2 : Hid (longest (l.take (j + 1)) = max z u.size) := by
        show _ = _
        rw [longest_step l j _ Hr.out, HX.out]
      clear hb
      go_wp2_with fail
      go_roundw
      case rel => exact ⟨j + 1, max z u.size, by omega, by go_num, max_if z u.size, by omega, HX2, hbw1.out _⟩
      case measure => simp [intOf]; omega
    · have He := Lib.hid (show z = longest l by
        have h1 := HX.out
        rw [List.take_of_length_le (by rw [Hlen.out]; omega)] at h1
        exact h1.symm)
      go_wp2_with fail
      go_ret
      exact ⟨by show Ending.returned (.int .i64 (z : Int)) = _; rw [He.out], hb⟩
end Go.Proofs.YtjecadpofkblnaaDoor
