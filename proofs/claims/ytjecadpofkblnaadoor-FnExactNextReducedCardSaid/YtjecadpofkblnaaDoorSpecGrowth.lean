/- The model's GrowthOf and CountReduced. -/
import Derived.Test.YtjecadpofkblnaaDoorSpecGrowPlain
import Derived.Test.YtjecadpofkblnaaDoorOneByte
namespace Go.Proofs.YtjecadpofkblnaaDoor
open Go.RowKit

theorem list_ext {a b : ByteArray} (h : a.data.toList = b.data.toList) : a = b := ByteArray.ext (Array.toList_inj.1 h)
set_option maxRecDepth 100000 in
set_option maxHeartbeats 800000 in
theorem specEnds_any (k : Int) (A : Option Addr) (n c B : Nat) (l : List R) (s : ByteArray) (w : World) (h : Own B w (.slice A n c) 2 n (rulesC l)) (hs : s.size ≤ 1048576) :
    Calls Tryd.prog 47 #[.agg #[.int .i64 k, .slice A n c], .string s] w fun e w' => e = .returned (.bool (hitS l s)) ∧ Below w.heap.size w w' := by
  have hmax := h.bound
  have Hlen := Lib.hid h.rlen
  unfold maxLen at hmax
  have HO := Lib.hid h
  clear h
  go_enter Tryd.func47, Tryd.ntmps47
  go_wp2_with fail
  go_loopw [10] (fun i wx => ∃ j : Nat, i = .int .i64 j ∧ j ≤ n ∧ Hid (hitS (l.take j) s = false) ∧ Hid (Blk wx w.heap.size 25 #[.int .i64 k, .slice A n c]) ∧ Below w.heap.size w wx) (fun i _ => n - (intOf i).toNat)
  case atStart => exact ⟨0, rfl, Nat.zero_le _, rfl, Blk.new1 _ _ _, bel1 _ _⟩
  case round =>
    obtain ⟨j, rfl, hj, HM, HB, hb⟩ := hrel
    have hbs2 := hb.size
    by_cases hlt : j < n
    · obtain ⟨g, off, c0, hv⟩ := HO.out.formR (by omega)
      obtain ⟨rfl, rfl⟩ : A = some ⟨g, off, none⟩ ∧ c = c0 := by injection hv with a _ b; exact ⟨a, b⟩
      clear hv
      obtain ⟨-, hgl, ⟨u, v⟩, hr, x0, x1, -, -⟩ := (HO.out.below hb).rule hlt
      have Hr := Lib.hid hr
      clear hr
      have b2 := hb.alloc hbs2 (.cells #[.string u, .string v] 88)
      have HB2 := Lib.hid (HB.out.alloc (.cells #[.string u, .string v] 88))
      obtain ⟨r0, r1, -, -, rl⟩ := (Blk.new1 wr #[.string u, .string v] 88).two
      have Hst := Lib.hid (hit_step l s j _ Hr.out)
      by_cases hsz : u.size ≤ s.size
      · cases hbb : ((s.extract (s.size - u.size) s.size).toList == u.toList)
        · have HM2 : Hid (hitS (l.take (j + 1)) s = false) := by show _ = _; rw [Hst.out, HM.out]; unfold sufS; rw [hbb, Bool.and_false]; rfl
          go_wp2_with fail
          go_quiet (fail)
          all_goals go_wp2_with fail
          all_goals go_roundw
          case rel => exact ⟨j + 1, by go_num, by omega, HM2, HB2.out.drewN _, below_drewN b2 _⟩
          case measure => simp [intOf]; omega
        · have Hit : Hid (hitS l s = true) := hit_yes Hr.out (by unfold sufS; rw [hbb, decide_eq_true hsz]; rfl)
          go_wp2_with fail
          go_quiet (fail)
          all_goals go_wp2_with fail
          go_ret
          exact ⟨ret_bool Hit.out.symm, below_drewN b2 _⟩
      · have HM2 : Hid (hitS (l.take (j + 1)) s = false) := by show _ = _; rw [Hst.out, HM.out]; unfold sufS; rw [decide_eq_false hsz]; rfl
        go_wp2_with fail
        go_quiet (fail)
        all_goals go_wp2_with fail
        all_goals go_roundw
        case rel => exact ⟨j + 1, by go_num, by omega, HM2, HB2.out.drewN _, below_drewN b2 _⟩
        case measure => simp [intOf]; omega
    · have HM3 : Hid (hitS l s = false) := by
        have h1 := HM.out
        rw [List.take_of_length_le (by rw [Hlen.out]; omega)] at h1
        exact h1
      go_wp2_with fail
      go_ret
      exact ⟨ret_bool HM3.out.symm, hb⟩

set_option maxRecDepth 100000 in
set_option maxHeartbeats 800000 in
theorem specCut_any (k : Int) (A : Option Addr) (n c B : Nat) (l : List R) (s : ByteArray) (w : World) (h : Own B w (.slice A n c) 2 n (rulesC l)) (hsm : smallR l) (hl : ∀ r ∈ l, r.1.size ≤ 8) (hs : s.size ≤ 1048576) :
    Calls Tryd.prog 102 #[.agg #[.int .i64 k, .slice A n c], .string s] w fun e w' => e = .returned (.string (cutS l s)) ∧ Below w.heap.size w w' := by
  have hln := longest_le hl
  have HO := Lib.hid h
  clear h
  go_enter Tryd.func102, Tryd.ntmps102
  go_wp2_with fail
  refine (specLongest k A n c B l _ (HO.out.below (bel1 w _)) hsm).mono ?_
  rintro e w1 ⟨rfl, hb1⟩
  have b1 := (bel1 w _).trans (hb1.mono (by simp))
  have Hcut : Hid (cutS l s = s.extract (s.size - (longest l - 1)) s.size) := rfl
  generalize longest l = m at *
  clear hb1
  by_cases hm : m ≤ 1
  · have h0 : m - 1 = 0 := by omega
    rw [h0, Nat.sub_zero] at Hcut
    have hm0 : (m : Int) - 1 ≤ 0 := by omega
    have Hc2 : Hid (cutS l s = ByteArray.empty) := by
      show _ = _
      rw [Hcut.out]
      refine list_ext ?_
      rw [extract_end]
      exact List.drop_of_length_le (by simp)
    by_cases he : s = ByteArray.empty
    · subst he
      go_wp2_with fail
      all_goals (go_ret; exact ⟨ret_str Hc2.out.symm, b1⟩)
    · go_wp2_with fail
      all_goals (go_ret; exact ⟨ret_str Hc2.out.symm, b1⟩)
  · by_cases hs1 : s.size ≤ m - 1
    · have Hc2 : Hid (cutS l s = s) := by
        show _ = _
        rw [Hcut.out, show s.size - (m - 1) = 0 by omega]
        refine list_ext ?_
        rw [extract_end]; rfl
      have hs2 : (s.size : Int) ≤ (m : Int) - 1 := by omega
      have hm2 : 0 < (m : Int) - 1 := by omega
      go_wp2_with fail
      all_goals (go_ret; exact ⟨ret_str Hc2.out.symm, b1⟩)
    · have hs2 : ¬ (s.size : Int) ≤ (m : Int) - 1 := by omega
      have hm2 : 0 < (m : Int) - 1 := by omega
      go_wp2_with fail
      all_goals (go_ret; exact ⟨ret_str Hcut.out.symm, b1⟩)
end Go.Proofs.YtjecadpofkblnaaDoor
