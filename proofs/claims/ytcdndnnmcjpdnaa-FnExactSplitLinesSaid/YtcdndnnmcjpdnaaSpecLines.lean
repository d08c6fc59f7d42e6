/- spec.SplitLines. -/
import Derived.Test.YtcdndnnmcjpdnaaSpecSplit
import Derived.Test.YtcdndnnmcjpdnaaLinesPlain
import Derived.Lib.SmallJoins
namespace Go.Proofs.Ytcdndnnmcjpdnaa
open Go.RowKit Go.Joins

set_option maxHeartbeats 800000 in
theorem specSplitLines (s : ByteArray) (w : World) (hs : s.size ≤ 1048576) :
    Calls Try.prog 18 #[.string s] w fun e w' => ∃ v, e = .returned v ∧ Own w.heap.size w' v 1 (linesL s).length (strs (linesL s)) ∧ Below w.heap.size w w' := by
  obtain ⟨m, hm, hlast⟩ := cutL_last s
  have hm2 : m ≤ 1048576 := by
    have h := splitL_len (sepOf nl.data.toList) s.data.toList
    have h2 : s.data.toList.length = s.size := by simp
    unfold cutL at hm; omega
  have Hm := Lib.hid hm
  have Hlast := Lib.hid hlast
  clear hm hlast
  go_enter Try.func18, Try.ntmps18
  go_wp2_with (go_at_call 13; refine (specSplitAny s nl _ hs (by unfold maxLen; decide)).mono ?_)
  rintro e w1 ⟨v0, rfl, o0, b0⟩
  change Own w.heap.size w1 v0 1 (cutL s).length (strs (cutL s)) at o0
  rw [Hm.out] at o0
  obtain ⟨A0, c0, rfl⟩ := o0.form
  obtain ⟨g, off, rfl, -, -, hcell⟩ := Own.str o0 (by omega)
  obtain ⟨x, hx, hc, -⟩ := hcell m (by omega)
  rw [Hlast.out] at hx
  obtain rfl := Option.some.inj hx
  clear hcell hx
  have hmc : m + 1 ≤ c0 := by
    obtain ⟨_, A', c', hv, hc', hx', _⟩ := o0
    injection hv with _ _ e; subst e; exact hc'
  have hcm : c0 ≤ maxLen := by
    obtain ⟨_, A', c', hv, hc', hx', _⟩ := o0
    injection hv with _ _ e; subst e; exact hx'
  unfold maxLen at hcm
  by_cases hx : (splitSt (sepOf nl.data.toList) s.data.toList).2 = []
  · have hemp : (mkS (splitSt (sepOf nl.data.toList) s.data.toList).2).toList.isEmpty = true := by rw [mkS_empty, hx]; rfl
    have hL : linesL s = (cutL s).take m := by
      unfold linesL; rw [if_pos hx, List.dropLast_eq_take, Hm.out]; simp
    have hll : (linesL s).length = m := by rw [hL, List.length_take, Hm.out]; omega
    have o1 := o0.take (m := m) (by omega)
    have hst : (strs (cutL s)).take m = strs (linesL s) := by rw [hL]; simp [strs]
    rw [hst] at o1
    have Hll := Lib.hid hll
    clear hll hst hL hx
    go_wp2_with fail
    go_ret
    rw [Hll.out]
    exact ⟨_, rfl, o1, b0⟩
  · have hemp : (mkS (splitSt (sepOf nl.data.toList) s.data.toList).2).toList.isEmpty = false := by
      rw [mkS_empty]
      cases h : (splitSt (sepOf nl.data.toList) s.data.toList).2 with
      | nil => exact absurd h hx
      | cons a l => rfl
    have hL : linesL s = cutL s := by unfold linesL; rw [if_neg hx]
    have HL := Lib.hid hL
    clear hL hx
    go_wp2_with fail
    go_ret
    rw [HL.out, Hm.out]
    exact ⟨_, rfl, o0, b0⟩

end Go.Proofs.Ytcdndnnmcjpdnaa
