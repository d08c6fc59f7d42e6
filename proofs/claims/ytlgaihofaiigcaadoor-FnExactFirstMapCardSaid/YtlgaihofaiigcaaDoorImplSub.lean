/- The program's subgroups. -/
import Derived.Test.YtlgaihofaiigcaaDoorSpecSub2
namespace Go.Proofs.YtlgaihofaiigcaaDoor
open Go.RowKit

theorem idxI_mem {l : List Int} {v : Int} : (0 ≤ idxI l v) ↔ v ∈ l := by
  induction l with
  | nil => simp [idxI]
  | cons a l ih =>
    unfold idxI
    by_cases e : a = v
    · subst e; simp
    · rw [if_neg e, List.mem_cons]
      by_cases h : idxI l v < 0
      · rw [if_pos h]
        have : v ∉ l := fun hm => by have := ih.2 hm; omega
        simp [this]; exact fun h => e h.symm
      · rw [if_neg h]
        have := ih.1 (by omega)
        simp [this]; omega
theorem idxI_ge (l : List Int) (v : Int) : decide (0 ≤ idxI l v) = decide (v ∈ l) := by
  rw [decide_eq_decide]; exact idxI_mem
theorem idxI_bound (l : List Int) (v : Int) : -1 ≤ idxI l v ∧ idxI l v < l.length + 1 := by
  induction l with
  | nil => simp [idxI]
  | cons a l ih =>
    unfold idxI
    simp only [List.length_cons]
    split
    · omega
    · split <;> omega
theorem mem_nints {Q : List Nat} {x : Nat} : ((x : Int) ∈ nints Q) ↔ x ∈ Q := by
  unfold nints
  rw [List.mem_map]
  constructor
  · rintro ⟨y, hy, e⟩; obtain rfl : y = x := by omega
    exact hy
  · intro h; exact ⟨x, h, rfl⟩
set_option maxRecDepth 100000 in
set_option maxHeartbeats 400000 in
theorem containsInt_any (A : Option Addr) (n c B : Nat) (x : Nat) (Q : List Nat) (w : World) (h : Own B w (.slice A n c) 1 n (ints (nints Q))) :
    Calls Tryd.prog 77 #[.slice A n c, .int .i64 x] w fun e w' => e = .returned (.bool (memB Q x)) ∧ Below w.heap.size w w' := by
  have HO := Lib.hid h
  have hb := idxI_bound (nints Q) x
  have He := Lib.hid (show decide (0 ≤ idxI (nints Q) x) = memB Q x by rw [idxI_ge]; unfold memB; rw [decide_eq_decide]; exact mem_nints)
  clear h
  go_enter Tryd.func77, Tryd.ntmps77
  go_wp2_with fail
  refine (indexInt_any A n c B x (nints Q) w HO.out).mono ?_
  rintro e w1 ⟨rfl, rfl⟩
  generalize idxI (nints Q) x = I at *
  go_wp2_with fail
  go_ret
  exact ⟨ret_bool He.out, Below.refl _ _⟩
theorem gen_nil {N : Nat} {xs : List Int} (y : Nat) : Gen N xs [] y ↔ y = 0 := by
  constructor
  · intro h; cases h with
    | zero => rfl
    | step _ hg => cases hg
  · rintro rfl; exact Gen.zero
theorem mem_pow1 {N : Nat} {xs : List Int} {i k : Nat} (h0 : 0 < k) (hk : tpow N xs i k = 0) (y : Nat) : y ∈ pow1 N xs i k ↔ Gen N xs [i] y := by
  unfold pow1
  rw [List.mem_map]
  constructor
  · rintro ⟨t, _, rfl⟩; exact gen_pow (t + 1)
  · intro h
    obtain ⟨t, h1, h2, rfl⟩ := gen_one h0 hk h
    exact ⟨t - 1, by simp; omega, by rw [show t - 1 + 1 = t by omega]⟩
theorem memB_gen {N : Nat} {xs : List Int} {Q G : List Nat} {y : Nat} (h : y ∈ Q ↔ Gen N xs G y) : memB Q y = genB N xs G y := by
  unfold memB genB
  by_cases hj : y ∈ Q
  · rw [decide_eq_true hj, cdec_yes (h.1 hj)]
  · rw [decide_eq_false hj, cdec_no (fun h2 => hj (h.2 h2))]
end Go.Proofs.YtlgaihofaiigcaaDoor
