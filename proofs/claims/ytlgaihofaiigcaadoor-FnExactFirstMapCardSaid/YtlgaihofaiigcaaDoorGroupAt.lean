/- The program's group: how it lies; its making. -/
import Derived.Test.YtlgaihofaiigcaaDoorGroupPlain
import Derived.Test.YtlgaihofaiigcaaDoorImplTab
import Derived.Deep.RegionHeld3
namespace Go.Proofs.YtlgaihofaiigcaaDoor
open Go.RowKit

set_option maxRecDepth 100000 in
set_option maxHeartbeats 1600000 in
/-- monoidWith of no elements. -/
theorem monoidWith_none (q : Int) (A E : Option Addr) (n c d B : Nat) (xs : List Int) (w : World) (h : Own B w (.slice A n c) 1 n (ints xs)) :
    Calls Tryd.prog 62 #[tabV q A n c, .slice E 0 d] w fun e w' => WithPost q xs [] w.heap.size e w' ∧ Below w.heap.size w w' := by
  have HO := Lib.hid (h.below (bel1 w (.cells #[.int .i64 q, .slice A n c] 28)))
  clear h
  go_enter Tryd.func62, Tryd.ntmps62
  go_wp2_with fail
  refine (monoidFrom_any q A n c B xs _ HO.out).mono ?_
  rintro e w1 ⟨hm, hb1⟩
  have b1 := (bel1 w _).trans (hb1.mono (by simp))
  clear hb1 HO
  rcases hm with ⟨N, g2, hqN, hT, rfl, hg, hM⟩ | ⟨hT, rfl⟩
  · have hg' : w.heap.size ≤ g2 := by simp at hg; omega
    have HM := Lib.hid hM
    have HT := Lib.hid hT
    subst hqN
    clear hM hT hg
    go_wp2_with fail
    refine wp_loop_rounds 1 ?_
    rw [rounds_succ]
    have He := Lib.hid (show allOk N xs [] = true by unfold allOk; rw [tableOk_yes HT.out]; rfl)
    go_wp2_with fail
    go_ret2
    exact ⟨.inl ⟨N, g2, rfl, HT.out, He.out, rfl, hg', HM.out⟩, b1⟩
  · have He := Lib.hid (show allOk q xs [] = false by unfold allOk; rw [hT, Bool.false_and])
    clear hT
    go_wp2_with fail
    go_ret2
    exact ⟨.inr ⟨He.out, rfl⟩, b1⟩
theorem monoidWith_all (q : Int) (A E : Option Addr) (n c m d B D : Nat) (xs es : List Int) (w : World) (h : Own B w (.slice A n c) 1 n (ints xs)) (hE : Own D w (.slice E m d) 1 m (ints es)) :
    Calls Tryd.prog 62 #[tabV q A n c, .slice E m d] w fun e w' => WithPost q xs es w.heap.size e w' ∧ Below w.heap.size w w' := by
  by_cases hm : 0 < m
  · exact monoidWith_any q A E n c m d B D xs es w h hE hm
  · obtain rfl : m = 0 := by omega
    obtain rfl : es = [] := List.eq_nil_of_length_eq_zero hE.ilen
    exact monoidWith_none q A E n c d B xs w h
structure GrpAt (w : World) (h g n : Nat) (xs : List Int) : Prop where
  mon : MonAt w g n xs
  lt : h < w.heap.size
  ptr : w.cell? ⟨h, 0, none⟩ = some (.pointer (some ⟨g, 0, none⟩))
  inv : ∀ i, i < n → w.cell? ⟨h, 1 + i, none⟩ = some (.int .i64 (tinv n xs i : Nat))
theorem GrpAt.below {w w' : World} {h g n : Nat} {xs : List Int} (H : GrpAt w h g n xs) (hb : Below w.heap.size w w') : GrpAt w' h g n xs :=
  ⟨H.mon.below hb, by have := hb.size; have := H.lt; omega, (hb.cell (p := ⟨h, 0, none⟩) H.lt).trans H.ptr, fun i hi => (hb.cell (p := ⟨h, 1 + i, none⟩) H.lt).trans (H.inv i hi)⟩
def grpZ : Array Value := (Array.replicate 41 (Value.int .i64 0)).setIfInBounds 0 (.pointer none)
theorem grpZ_size : grpZ.size = 41 := by simp [grpZ]
theorem grpZ_ne : (grpZ = #[]) = False := by
  simp only [eq_iff_iff, iff_false]; intro h
  have := congrArg Array.size h; rw [grpZ_size] at this; simp at this
theorem run_rowAt (g off N : Nat) (h40 : N ≤ 40) (w : World) : Sem.run Tryd.prog (Instr.sliceAt 114 (.pointer (some ⟨g, off, none⟩)) none (some (.int .i64 (N : Int))) none) w = .ok (.slice (some ⟨g, off, none⟩) N 40) w := by
  have hL : Tryd.prog.arrayLen 114 = 40 := by kernel_rfl
  have hs : ∀ w, Sem.run Tryd.prog (sizeOf (Tryd.prog.elem 114)) w = .ok 1 w := fun w => by kernel_rfl
  rw [run_sliceAt_array_h w 114 ⟨g, off, none⟩ (by kernel_rfl) .i64 (N : Int) (by omega) (by rw [hL]; omega), hs, hL]
  simp [slicedAt, Addr.add]
set_option maxRecDepth 100000 in
set_option maxHeartbeats 800000 in
/-- The first 0 in the row of i: its inverse. -/
theorem indexRow_any (g N i : Nat) (xs : List Int) (w : World) (h : MonAt w g N xs) (hT : TabOk N xs) (hu : ∃ k, k < N ∧ tmul N xs i k = 0 ∧ tmul N xs k i = 0) (hi : i < N) :
    Calls Tryd.prog 58 #[.slice (some ⟨g, 1 + i * 40, none⟩) N 40, .int .i64 0] w fun e w' => e = .returned (.int .i64 (tinv N xs i : Nat)) ∧ Below w.heap.size w w' := by
  have h40 := hT.hi
  have HU := Lib.hid (fun k => hT.inv_of (k := k) hu hi)
  have HC := Lib.hid (fun k (hk : k < N) => h.num hT.rng hi hk)
  clear h
  go_enter Tryd.func58, Tryd.ntmps58
  go_wp2_with fail
  go_loop [8] (fun i' => ∃ k : Nat, i' = .int .i64 k ∧ k ≤ N ∧ Hid (∀ j, j < k → tmul N xs i j ≠ 0)) (fun i' => N - (intOf i').toNat)
  case atStart => exact ⟨0, rfl, Nat.zero_le _, fun j hj => absurd hj (by omega)⟩
  case round =>
    obtain ⟨k, rfl, hk, HI⟩ := hrel
    by_cases hlt : k < N
    · have hx := HC.out k hlt
      by_cases e : tmul N xs i k = 0
      · have He := Lib.hid (HU.out k hlt e)
        rw [e] at hx
        clear e
        go_wp2_with fail
        go_ret
        exact ⟨ret_i64 (by rw [← He.out]), Below.refl _ _⟩
      · have HI1 : Hid (∀ j, j < k + 1 → tmul N xs i j ≠ 0) := fun j hj => by
          by_cases e3 : j = k
          · subst e3; exact e
          · exact HI.out j (by omega)
        generalize tmul N xs i k = U at *
        have e1 : ((0 : Int) == (U : Int)) = false := by simp; omega
        have e2 : ((U : Int) == (0 : Int)) = false := by simp; omega
        clear e
        go_wp2_with fail
        go_round
        case rel => exact ⟨k + 1, by go_num, by omega, HI1⟩
        case measure => simp [intOf]; omega
    · obtain ⟨a, ha, h1, -⟩ := hu
      exact absurd h1 (HI.out a (by omega))
def gallOk (q : Int) (xs es : List Int) : Prop := isGroupB q xs = true ∧ allOk q xs es = true
def GWPost (q : Int) (xs es : List Int) (e : Ending) (w' : World) : Prop :=
  (∃ N h g : Nat, q = N ∧ Grp N xs ∧ allOk q xs es = true ∧ e = .returned (.tuple #[.pointer (some ⟨h, 0, none⟩), .bool true]) ∧ GrpAt w' h g N xs) ∨ (¬ gallOk q xs es ∧ e = .returned (.tuple #[.pointer none, .bool false]))
end Go.Proofs.YtlgaihofaiigcaaDoor
