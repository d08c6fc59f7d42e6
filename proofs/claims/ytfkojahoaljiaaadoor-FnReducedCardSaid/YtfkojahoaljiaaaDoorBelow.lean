/- The laws' small draws: l01Below. -/
import Derived.Test.YtfkojahoaljiaaaDoorCur
namespace Go.Proofs.YtfkojahoaljiaaaDoor
open Go.RowKit Go.Joins

def BelowPost (W : World) (g : Nat) (A : Option Addr) (n c N : Nat) (e : Ending) (w' : World) : Prop :=
  ∃ r : Nat, e = .returned (.int .i64 r) ∧ r < N ∧ Cur w' g A n c ∧ W.grownBy w' (some g)

set_option maxHeartbeats 800000 in
theorem l01Below_small (g : Nat) (A : Option Addr) (n c N : Nat) (w : World) (h : Cur w g A n c) (h0 : 0 < N) (h1 : N ≤ 256) :
    Calls Tryd.prog 32 #[.pointer (some ⟨g, 0, none⟩), .int .i64 N] w (BelowPost w g A n c N) := by
  have H := Lib.hid h
  clear h
  have e1 : (0 : Int) < N := by omega
  have e2 : (N : Int) ≤ 256 := by omega
  go_enter Tryd.func32, Tryd.ntmps32
  go_wp2_with (go_at_call 19; refine (l01Byte_any g A n c _ H.out).mono ?_)
  rintro e w1 ⟨r, rfl, hr0, hr1, hC, hG⟩
  have HC := Lib.hid hC
  clear hC
  obtain ⟨q, rfl⟩ : ∃ q : Nat, r = q := ⟨r.toNat, by omega⟩
  go_wp2_with fail
  go_ret
  exact ⟨q % N, rfl, Nat.mod_lt _ h0, HC.out, hG⟩

end Go.Proofs.YtfkojahoaljiaaaDoor
