/- The model's CountReduced. -/
import Derived.Test.YtjecadpofkblnaaDoorSpecGrowthOf
namespace Go.Proofs.YtjecadpofkblnaaDoor
open Go.RowKit

set_option maxRecDepth 100000 in
set_option maxHeartbeats 800000 in
theorem specCountReduced (k : Int) (A : Option Addr) (n c B : Nat) (l : List R) (x : Int) (w : World) (h : Own B w (.slice A n c) 2 n (rulesC l)) (hsm : smallR l) :
    Calls Tryd.prog 45 #[.agg #[.int .i64 k, .slice A n c], .int .i64 x] w fun e w' => e = .returned (.int .i64 (countR k l x)) ∧ Below w.heap.size w w' := by
  have HO := Lib.hid h
  clear h
  go_enter Tryd.func45, Tryd.ntmps45
  go_wp2_with fail
  refine (specGrowthOf k A n c B l x _ (HO.out.below (bel1 w _)) hsm).mono ?_
  rintro e w1 ⟨v, rfl, o1, hb1⟩
  have b1 := (bel1 w _).trans (hb1.mono (by simp))
  clear hb1
  obtain ⟨A1, c1, rfl⟩ := o1.form
  cases h1 : canC k l x
  · have HF := Lib.hid (countR_no h1)
    rw [growS_no h1] at o1 ⊢
    clear h1
    go_wp2_with fail
    go_ret
    exact ⟨by rw [HF.out]; rfl, b1⟩
  · obtain ⟨k', x', rfl, rfl, hk1, hk4, hx, h12, hl⟩ := canC_parts h1
    have HF := Lib.hid (countR_yes h1)
    rw [growS_yes h1, growL_len] at o1
    rw [growS_yes h1, growL_len]
    clear h1
    obtain ⟨g, off, hA1, -, hgl, hcell⟩ := o1.int (by omega)
    subst hA1
    obtain ⟨y, hy, x0, -⟩ := hcell x' (by omega)
    rw [growL_get l k' _ x' (by omega)] at hy
    injection hy with hy
    subst hy
    clear hcell o1
    go_wp2_with fail
    go_ret
    exact ⟨by rw [HF.out]; rfl, b1⟩
end Go.Proofs.YtjecadpofkblnaaDoor
