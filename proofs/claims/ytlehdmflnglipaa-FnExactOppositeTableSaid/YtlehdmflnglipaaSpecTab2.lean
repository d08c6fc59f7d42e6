/- The model's functions of tables. -/
import Derived.Test.YtlehdmflnglipaaTabFns
import Derived.Deep.RegionHeld3
namespace Go.Proofs.Ytlehdmflnglipaa
open Go.RowKit

set_option maxRecDepth 100000 in
set_option maxHeartbeats 800000 in
theorem l08Times_any (N i k : Nat) (A : Option Addr) (n c B : Nat) (xs : List Int) (w : World) (h : Own B w (.slice A n c) 1 n (ints xs)) (hT : TabOk N xs) (hi : i < N) (hk : k < N) :
    Calls Try.prog 24 #[tabV N A n c, .int .i64 i, .int .i64 k] w fun e w' => e = .returned (.int .i64 (tmul N xs i k : Nat)) ∧ Below w.heap.size w w' := by
  have hlen := h.ilen
  have hln := hT.len
  have h40 := hT.hi
  have hik := row_lt hi hk
  have hiN := row_le hi h40
  have hn0 : 0 < n := by omega
  have hikn : i * N + k < n := by omega
  obtain ⟨g, off, c0, hv⟩ := h.formR hn0
  obtain ⟨rfl, rfl⟩ : A = some ⟨g, off, none⟩ ∧ c = c0 := by injection hv with a _ b; exact ⟨a, b⟩
  have x := (h.below (bel1 w (.cells #[.int .i64 N, .slice (some ⟨g, off, none⟩) n c] 27))).tat hikn
  rw [hT.cast hi hk] at x
  clear h hv hik hlen hln hT
  go_enter Try.func24, Try.ntmps24
  go_wp2_with fail
  go_ret
  exact ⟨rfl, bel1 _ _⟩
def InvPost (n : Nat) (xs : List Int) (i : Nat) (e : Ending) : Prop := (unitB n xs i = true ∧ ∃ k : Nat, k ≤ 40 ∧ (k < n ∧ tmul n xs i k = 0 ∧ tmul n xs k i = 0) ∧ e = .returned (.int .i64 k)) ∨ (unitB n xs i = false ∧ e = .returned (.int .i64 (-1)))
end Go.Proofs.Ytlehdmflnglipaa
