/- HasRule and LongestSide: the program's and the model's; '==' on two rules; slices.Contains at rules. -/
import Derived.Test.YtpmghdecfpfahaaRules
import Derived.Laws.StructEq
namespace Go.Proofs.Ytpmghdecfpfahaa
open Go.RowKit

theorem ruleEqParts (u v s t : ByteArray) : (u.toList == s.toList && v.toList == t.toList) = decide (u = s ∧ v = t) := by
  by_cases h1 : u = s
  · by_cases h2 : v = t
    · subst h1; subst h2; simp
    · simp [h2, toList_ne h2]
  · simp [h1, toList_ne h1]
theorem run_eqlRule (u v s t : ByteArray) (w : World) : (binOp .eql 34 (.agg #[.string u, .string v]) (.agg #[.string s, .string t])).run Try.prog w = .ok (.bool (decide (u = s ∧ v = t))) w := by
  rw [run_eql_struct, run_equalIn_agg w _ _ _ _ (by kernel_rfl) (by kernel_rfl), ← ruleEqParts]
  simp [go_sem, Program.fieldsOf, Try.underlying34, Try.underlying9]
  by_cases h1 : u.toList = s.toList <;> by_cases h2 : v.toList = t.toList <;> simp [h1, h2]

theorem run_neqRule (u v s t : ByteArray) (w : World) : (binOp .neq 34 (.agg #[.string u, .string v]) (.agg #[.string s, .string t])).run Try.prog w = .ok (.bool (!decide (u = s ∧ v = t))) w := by
  rw [run_neq_struct, run_equalIn_agg w _ _ _ _ (by kernel_rfl) (by kernel_rfl), ← ruleEqParts]
  simp [go_sem, Program.fieldsOf, Try.underlying34, Try.underlying9]
  by_cases h1 : u.toList = s.toList <;> by_cases h2 : v.toList = t.toList <;> simp [h1, h2]

/-- Is r one of l? -/
def hasR (l : List R) (r : R) : Bool := l.any fun x => decide (x.1 = r.1 ∧ x.2 = r.2)
theorem hasR_step (l : List R) (k : Nat) (x r : R) (h : l[k]? = some x) : hasR (l.take (k + 1)) r = (hasR (l.take k) r || decide (x.1 = r.1 ∧ x.2 = r.2)) := by
  have hk := (List.getElem?_eq_some_iff.1 h).1
  have he := (List.getElem?_eq_some_iff.1 h).2
  rw [List.take_succ_eq_append_getElem hk, he]; simp [hasR]
theorem hasR_yes (l : List R) (k : Nat) (x r : R) (h : l[k]? = some x) (hx : decide (x.1 = r.1 ∧ x.2 = r.2) = true) : hasR l r = true := by
  unfold hasR
  rw [List.any_eq_true]; exact ⟨x, List.mem_of_getElem? h, hx⟩

set_option maxRecDepth 100000 in
set_option maxHeartbeats 800000 in
theorem specHasRule (k : Int) (A : Option Addr) (n c B : Nat) (l : List R) (s t : ByteArray) (w : World) (h : Own B w (.slice A n c) 2 n (rulesC l)) :
    Calls Try.prog 9 #[.agg #[.int .i64 k, .slice A n c], .agg #[.string s, .string t]] w fun e w' => e = .returned (.bool (hasR l (s, t))) ∧ Below w.heap.size w w' := by
  have hmax := h.bound
  have Hlen := Lib.hid h.rlen
  unfold maxLen at hmax
  have HO := Lib.hid h
  clear h
  go_enter Try.func9, Try.ntmps9
  go_wp2_with fail
  go_loopw [10] (fun i wr => ∃ j : Nat, j ≤ n ∧ i = .int .i64 j ∧ Hid (hasR (l.take j) (s, t) = false) ∧ Hid (Blk wr (w.heap.size + 1) 34 #[.string s, .string t]) ∧ Below w.heap.size w wr) (fun i _ => n - (intOf i).toNat)
  case atStart => exact ⟨0, Nat.zero_le _, rfl, rfl, Blk.new2 _ _ _ _, bel2 _ _ _⟩
  case round =>
    obtain ⟨j, hj, rfl, HX, HB, hb⟩ := hrel
    have hbs := hb.size
    obtain ⟨q0, q1, -, -, ql⟩ := HB.out.two
    by_cases hlt : j < n
    · obtain ⟨g, off, c0, hv⟩ := HO.out.formR (by omega)
      obtain ⟨rfl, rfl⟩ : A = some ⟨g, off, none⟩ ∧ c = c0 := by injection hv with a _ b; exact ⟨a, b⟩
      clear hv
      obtain ⟨-, hgl, ⟨u, v⟩, hr, x0, x1, -, -⟩ := (HO.out.below hb).rule hlt
      have Hr := Lib.hid hr
      clear hr
      have HB1 := Lib.hid (fun o => HB.out.alloc o)
      have hbw1 := Lib.hid (fun o => hb.alloc hb.size o)
      cases hd : decide (u = s ∧ v = t)
      · have heq := fun w' => (run_eqlRule u v s t w').trans (by rw [hd])
        have HX2 : Hid (hasR (l.take (j + 1)) (s, t) = false) := by
          show _ = false
          rw [hasR_step l j _ _ Hr.out, HX.out]; exact hd
        clear hd hb HB
        go_wp2_with fail
        go_roundw
        case rel => exact ⟨j + 1, by omega, by go_num, HX2, HB1.out _, hbw1.out _⟩
        case measure => simp [intOf]; omega
      · have heq := fun w' => (run_eqlRule u v s t w').trans (by rw [hd])
        have He := Lib.hid (hasR_yes l j _ (s, t) Hr.out hd)
        clear hd hb HB
        go_wp2_with fail
        go_ret
        exact ⟨ret_bool He.out.symm, hbw1.out _⟩
    · have He := Lib.hid (show false = hasR l (s, t) by
        have h1 := HX.out
        rw [List.take_of_length_le (by rw [Hlen.out]; omega)] at h1
        exact h1.symm)
      go_wp2_with fail
      go_ret
      exact ⟨ret_bool He.out, hb⟩

set_option maxRecDepth 100000 in
set_option maxHeartbeats 800000 in
theorem indexR_any (A : Option Addr) (n c B : Nat) (l : List R) (s t : ByteArray) (w : World) (h : Own B w (.slice A n c) 2 n (rulesC l)) :
    Calls Try.prog 29 #[.slice A n c, .agg #[.string s, .string t]] w fun e w' => ∃ q : Int, e = .returned (.int .i64 q) ∧ Hid (decide (0 ≤ q) = hasR l (s, t)) ∧ Below w.heap.size w w' := by
  have hmax := h.bound
  have Hlen := Lib.hid h.rlen
  unfold maxLen at hmax
  have HO := Lib.hid h
  clear h
  go_enter Try.func29, Try.ntmps29
  go_wp2_with fail
  go_loopw [8] (fun i wr => ∃ j : Nat, j ≤ n ∧ i = .int .i64 j ∧ Hid (hasR (l.take j) (s, t) = false) ∧ Hid (Blk wr w.heap.size 34 #[.string s, .string t]) ∧ Below w.heap.size w wr) (fun i _ => n - (intOf i).toNat)
  case atStart => exact ⟨0, Nat.zero_le _, rfl, rfl, Blk.new1 _ _ _, bel1 _ _⟩
  case round =>
    obtain ⟨j, hj, rfl, HX, HB, hb⟩ := hrel
    have hbs := hb.size
    obtain ⟨q0, q1, -, -, ql⟩ := HB.out.two
    by_cases hlt : j < n
    · obtain ⟨g, off, c0, hv⟩ := HO.out.formR (by omega)
      obtain ⟨rfl, rfl⟩ : A = some ⟨g, off, none⟩ ∧ c = c0 := by injection hv with a _ b; exact ⟨a, b⟩
      clear hv
      obtain ⟨-, hgl, ⟨u, v⟩, hr, x0, x1, -, -⟩ := (HO.out.below hb).rule hlt
      have Hr := Lib.hid hr
      clear hr
      cases hd : decide (u = s ∧ v = t)
      · have heq := fun w' => (run_eqlRule s t u v w').trans (by rw [show decide (s = u ∧ t = v) = false by rw [← hd]; simp [eq_comm]])
        have HX2 : Hid (hasR (l.take (j + 1)) (s, t) = false) := by
          show _ = false
          rw [hasR_step l j _ _ Hr.out, HX.out]; exact hd
        clear hd
        go_wp2_with fail
        go_quiet (fail)
        all_goals go_wp2_with fail
        go_roundw
        case rel => exact ⟨j + 1, by omega, by go_num, HX2, Blk.drewN HB.out _, below_drewN hb _⟩
        case measure => simp [intOf]; omega
      · have heq := fun w' => (run_eqlRule s t u v w').trans (by rw [show decide (s = u ∧ t = v) = true by rw [← hd]; simp [eq_comm]])
        have He := Lib.hid (hasR_yes l j _ (s, t) Hr.out hd)
        clear hd
        go_wp2_with fail
        go_quiet (fail)
        all_goals go_wp2_with fail
        go_ret
        exact ⟨j, rfl, by show decide _ = _; rw [He.out]; simp, below_drewN hb _⟩
    · have He := Lib.hid (show false = hasR l (s, t) by
        have h1 := HX.out
        rw [List.take_of_length_le (by rw [Hlen.out]; omega)] at h1
        exact h1.symm)
      go_wp2_with fail
      go_ret
      exact ⟨-1, rfl, by show decide _ = _; rw [← He.out]; rfl, hb⟩

set_option maxHeartbeats 800000 in
theorem containsR_any (A : Option Addr) (n c B : Nat) (l : List R) (s t : ByteArray) (w : World) (h : Own B w (.slice A n c) 2 n (rulesC l)) :
    Calls Try.prog 22 #[.slice A n c, .agg #[.string s, .string t]] w fun e w' => e = .returned (.bool (hasR l (s, t))) ∧ Below w.heap.size w w' := by
  have HO := Lib.hid (fun o1 => h.below (bel1 w o1))
  clear h
  go_enter Try.func22, Try.ntmps22
  go_wp2_with fail
  refine (indexR_any A n c B l s t _ (HO.out _)).mono ?_
  rintro e w1 ⟨q, rfl, He, hb1⟩
  have b1 := (bel1 w _).trans (hb1.mono (by simp))
  clear hb1
  go_wp2_with fail
  go_ret
  exact ⟨ret_bool He.out, b1⟩
set_option maxHeartbeats 800000 in
theorem implHasRule (k : Int) (A : Option Addr) (n c B : Nat) (l : List R) (s t : ByteArray) (w : World) (h : Own B w (.slice A n c) 2 n (rulesC l)) :
    Calls Try.prog 12 #[.agg #[.int .i64 k, .slice A n c], .agg #[.string s, .string t]] w fun e w' => e = .returned (.bool (hasR l (s, t))) ∧ Below w.heap.size w w' := by
  have HO := Lib.hid (fun o1 o2 => h.below (bel2 w o1 o2))
  clear h
  go_enter Try.func12, Try.ntmps12
  go_wp2_with fail
  refine (containsR_any A n c B l s t _ (HO.out _ _)).mono ?_
  rintro e w1 ⟨rfl, hb1⟩
  have b1 := (bel2 w _ _).trans (hb1.mono (by simp; omega))
  clear hb1
  go_wp2_with fail
  go_ret
  exact ⟨rfl, b1⟩

/-- The greatest length of a left side. -/
def longest (l : List R) : Nat := l.foldl (fun a r => max a r.1.size) 0
theorem longest_step (l : List R) (k : Nat) (x : R) (h : l[k]? = some x) : longest (l.take (k + 1)) = max (longest (l.take k)) x.1.size := by
  have hk := (List.getElem?_eq_some_iff.1 h).1
  have he := (List.getElem?_eq_some_iff.1 h).2
  rw [List.take_succ_eq_append_getElem hk, he]; simp [longest]

theorem max_if (z m : Nat) : Value.int .i64 (if z < m then (m : Int) else (z : Int)) = .int .i64 ((max z m : Nat) : Int) := by
  by_cases h : z < m
  · rw [if_pos h, show max z m = m by omega]
  · rw [if_neg h, show max z m = z by omega]
set_option maxRecDepth 100000 in
set_option maxHeartbeats 800000 in
theorem implLongest (k : Int) (A : Option Addr) (n c B : Nat) (l : List R) (w : World) (h : Own B w (.slice A n c) 2 n (rulesC l)) (hsm : smallR l) :
    Calls Try.prog 15 #[.agg #[.int .i64 k, .slice A n c]] w fun e w' => e = .returned (.int .i64 (longest l)) ∧ Below w.heap.size w w' := by
  have hmax := h.bound
  have Hlen := Lib.hid h.rlen
  unfold maxLen at hmax
  have HO := Lib.hid h
  have Hsm := Lib.hid hsm
  clear h hsm
  go_enter Try.func15, Try.ntmps15
  go_wp2_with fail
  go_loopw [3, 9] (fun m i wr => ∃ j z : Nat, j ≤ n ∧ i = .int .i64 j ∧ m = .int .i64 z ∧ z ≤ 1048576 ∧ Hid (longest (l.take j) = z) ∧ Below w.heap.size w wr) (fun _ i _ => n - (intOf i).toNat)
  case atStart => exact ⟨0, 0, Nat.zero_le _, rfl, rfl, by omega, rfl, bel1 _ _⟩
  case round =>
    obtain ⟨j, z, hj, rfl, rfl, hz, HX, hb⟩ := hrel
    have hbs := hb.size
    by_cases hlt : j < n
    · obtain ⟨g, off, c0, hv⟩ := HO.out.formR (by omega)
      obtain ⟨rfl, rfl⟩ : A = some ⟨g, off, none⟩ ∧ c = c0 := by injection hv with a _ b; exact ⟨a, b⟩
      clear hv
      obtain ⟨-, hgl, ⟨u, v⟩, hr, x0, x1, -, -⟩ := (HO.out.below hb).rule hlt
      have hsz := (Hsm.out _ (List.mem_of_getElem? hr)).1
      dsimp only at hsz
      have Hr := Lib.hid hr
      clear hr
      have hbw1 := Lib.hid (fun o => hb.alloc hb.size o)
      have HX2 : Hid (longest (l.take (j + 1)) = max z u.size) := by
        show _ = _
        rw [longest_step l j _ Hr.out, HX.out]
      clear hb
      go_wp2_with fail
      go_roundw
      case rel => exact ⟨j + 1, max z u.size, by omega, by go_num, max_if z u.size, by omega, HX2, hbw1.out _⟩
      case measure => simp [intOf]; omega
    · have He := Lib.hid (show z = longest l by
        have h1 := HX.out
        rw [List.take_of_length_le (by rw [Hlen.out]; omega)] at h1
        exact h1.symm)
      go_wp2_with fail
      go_ret
      exact ⟨by show Ending.returned (.int .i64 (z : Int)) = _; rw [He.out], hb⟩
set_option maxRecDepth 100000 in
set_option maxHeartbeats 800000 in
theorem specLongest (k : Int) (A : Option Addr) (n c B : Nat) (l : List R) (w : World) (h : Own B w (.slice A n c) 2 n (rulesC l)) (hsm : smallR l) :
    Calls Try.prog 14 #[.agg #[.int .i64 k, .slice A n c]] w fun e w' => e = .returned (.int .i64 (longest l)) ∧ Below w.heap.size w w' := by
  have hmax := h.bound
  have Hlen := Lib.hid h.rlen
  unfold maxLen at hmax
  have HO := Lib.hid h
  have Hsm := Lib.hid hsm
  clear h hsm
  go_enter Try.func14, Try.ntmps14
  go_wp2_with fail
  go_loopw [3, 9] (fun m i wr => ∃ j z : Nat, j ≤ n ∧ i = .int .i64 j ∧ m = .int .i64 z ∧ z ≤ 1048576 ∧ Hid (longest (l.take j) = z) ∧ Below w.heap.size w wr) (fun _ i _ => n - (intOf i).toNat)
  case atStart => exact ⟨0, 0, Nat.zero_le _, rfl, rfl, by omega, rfl, bel1 _ _⟩
  case round =>
    obtain ⟨j, z, hj, rfl, rfl, hz, HX, hb⟩ := hrel
    have hbs := hb.size
    by_cases hlt : j < n
    · obtain ⟨g, off, c0, hv⟩ := HO.out.formR (by omega)
      obtain ⟨rfl, rfl⟩ : A = some ⟨g, off, none⟩ ∧ c = c0 := by injection hv with a _ b; exact ⟨a, b⟩
      clear hv
      obtain ⟨-, hgl, ⟨u, v⟩, hr, x0, x1, -, -⟩ := (HO.out.below hb).rule hlt
      have hsz := (Hsm.out _ (List.mem_of_getElem? hr)).1
      dsimp only at hsz
      have Hr := Lib.hid hr
      clear hr
      have hbw1 := Lib.hid (fun o => hb.alloc hb.size o)
      have HX2 : Hid (longest (l.take (j + 1)) = max z u.size) := by
        show _ = _
        rw [longest_step l j _ Hr.out, HX.out]
      clear hb
      go_wp2_with fail
      go_roundw
      case rel => exact ⟨j + 1, max z u.size, by omega, by go_num, max_if z u.size, by omega, HX2, hbw1.out _⟩
      case measure => simp [intOf]; omega
    · have He := Lib.hid (show z = longest l by
        have h1 := HX.out
        rw [List.take_of_length_le (by rw [Hlen.out]; omega)] at h1
        exact h1.symm)
      go_wp2_with fail
      go_ret
      exact ⟨by show Ending.returned (.int .i64 (z : Int)) = _; rw [He.out], hb⟩
end Go.Proofs.Ytpmghdecfpfahaa
