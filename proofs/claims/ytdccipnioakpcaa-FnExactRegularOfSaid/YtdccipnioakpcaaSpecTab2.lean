/- The model's functions of tables. -/
import Derived.Test.YtdccipnioakpcaaTabFns
import Derived.Deep.RegionHeld3
namespace Go.Proofs.Ytdccipnioakpcaa
open Go.RowKit

set_option maxRecDepth 100000 in
set_option maxHeartbeats 800000 in
theorem l08Ok_any (q : Int) (A : Option Addr) (n c B : Nat) (xs : List Int) (i : Int) (w : World) (h : Own B w (.slice A n c) 1 n (ints xs)) (hn : n ≤ 1048576) :
    Calls Try.prog 35 #[tabV q A n c, .int .i64 i] w fun e w' => e = .returned (.bool (elemOk q xs i)) ∧ Below w.heap.size w w' := by
  have HO := Lib.hid (h.below (bel1 w (.cells #[.int .i64 q, .slice A n c] 27)))
  clear h
  go_enter Try.func35, Try.ntmps35
  go_wp2_with fail
  refine (specTableOk q A n c B xs _ HO.out hn).mono ?_
  rintro e w1 ⟨rfl, hb1⟩
  have b1 := (bel1 w _).trans (hb1.mono (by simp))
  have X1 := Lib.hid ((Blk.new1 w _ _).below hb1 (by simp))
  obtain ⟨q0, q1, -, -, ql⟩ := X1.out.two
  clear hb1
  cases hT : tableOk q xs
  · have He := Lib.hid (elemOk_tab i hT)
    clear hT
    go_wp2_with fail
    go_ret
    exact ⟨ret_bool He.out.symm, b1⟩
  · obtain ⟨N, rfl, hTab⟩ := tableOk_iff hT
    have h1 := hTab.lo
    have h40 := hTab.hi
    have He := Lib.hid (show (decide (0 ≤ i) && decide (i ≤ (N : Int) - 1)) = elemOk N xs i by unfold elemOk; rw [hT, Bool.true_and])
    clear hTab hT
    go_wp2_with fail
    refine (l01In_any _ _ _ _).mono ?_
    rw [He.out]
    rintro e w2 ⟨rfl, rfl⟩
    go_wp2_with fail
    go_ret
    exact ⟨rfl, b1⟩
set_option maxRecDepth 100000 in
set_option maxHeartbeats 800000 in
theorem l08Times_any (N i k : Nat) (A : Option Addr) (n c B : Nat) (xs : List Int) (w : World) (h : Own B w (.slice A n c) 1 n (ints xs)) (hT : TabOk N xs) (hi : i < N) (hk : k < N) :
    Calls Try.prog 49 #[tabV N A n c, .int .i64 i, .int .i64 k] w fun e w' => e = .returned (.int .i64 (tmul N xs i k : Nat)) ∧ Below w.heap.size w w' := by
  have hlen := h.ilen
  have hln := hT.len
  have h40 := hT.hi
  have hik := row_lt hi hk
  have hiN := row_le hi h40
  have hn0 : 0 < n := by omega
  have hikn : i * N + k < n := by omega
  obtain ⟨g, off, c0, hv⟩ := h.formR hn0
  obtain ⟨rfl, rfl⟩ : A = some ⟨g, off, none⟩ ∧ c = c0 := by injection hv with a _ b; exact ⟨a, b⟩
  have x := (h.below (bel1 w (.cells #[.int .i64 N, .slice (some ⟨g, off, none⟩) n c] 27))).tat hikn
  rw [hT.cast hi hk] at x
  clear h hv hik hlen hln hT
  go_enter Try.func49, Try.ntmps49
  go_wp2_with fail
  go_ret
  exact ⟨rfl, bel1 _ _⟩
def InvPost (n : Nat) (xs : List Int) (i : Nat) (e : Ending) : Prop := (unitB n xs i = true ∧ ∃ k : Nat, k ≤ 40 ∧ e = .returned (.int .i64 k)) ∨ (unitB n xs i = false ∧ e = .returned (.int .i64 (-1)))
end Go.Proofs.Ytdccipnioakpcaa
