/- The laws' heldTable; how long a table is that OppositeTable or ProductTable answers. -/
import Derived.Test.YtlehdmflnglipaaTable
import Derived.Test.YtlehdmflnglipaaOppPlain
namespace Go.Proofs.Ytlehdmflnglipaa
open Go.RowKit

set_option maxRecDepth 100000 in
set_option maxHeartbeats 400000 in
theorem heldTable_yes (x k : Int) (A : Option Addr) (n c B : Nat) (w : World) (h : Own B w (.slice A n c) 1 n (ints (imarks k n))) (h0 : 0 ≤ k) (hk : k + n ≤ 4611686018427387904) :
    Calls Try.prog 14 #[tabV x A n c, .int .i64 k] w fun e w' => e = .returned (.int .i64 (k + n)) ∧ Below w.heap.size w w' := by
  have HO := Lib.hid (fun o1 => h.below (bel1 w o1))
  clear h
  go_enter Try.func14, Try.ntmps14
  go_wp2_with fail
  refine (heldIntS_yes A n c B k _ (HO.out _) h0 hk).mono ?_
  rintro e w1 ⟨rfl, m1, rfl⟩
  have b1 := below_drewN (bel1 w (.cells #[.int .i64 x, .slice A n c] 27)) m1
  go_wp2_with fail
  go_ret
  exact ⟨rfl, b1⟩
theorem oppOf_len (q : Int) (xs : List Int) : (oppOf q xs).2.1.length ≤ 1600 := by
  cases h : tableOk q xs
  · rw [oppOf_no h]; exact Nat.zero_le _
  · obtain ⟨N, rfl, hT⟩ := tableOk_iff h
    rw [oppOf_yes hT]
    show (grid _ _).length ≤ 1600
    rw [grid_len]; exact sq_le hT.hi
theorem prodOf_len (q : Int) (xs : List Int) (r : Int) (ys : List Int) : (prodOf q xs r ys).2.1.length ≤ 1600 := by
  cases h : tableOk q xs
  · rw [prodOf_no1 h]; exact Nat.zero_le _
  · cases h' : tableOk r ys
    · rw [prodOf_no2 h']; exact Nat.zero_le _
    · obtain ⟨N, rfl, hT⟩ := tableOk_iff h
      obtain ⟨M, rfl, hT'⟩ := tableOk_iff h'
      by_cases hNM : N * M ≤ 40
      · rw [prodOf_yes hT hT' hNM]
        show (grid _ _).length ≤ 1600
        rw [grid_len]; exact sq_le hNM
      · rw [prodOf_no3 (by omega)]; exact Nat.zero_le _
end Go.Proofs.Ytlehdmflnglipaa
