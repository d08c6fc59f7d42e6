/- The model's SubgroupOf. -/
import Derived.Test.YtlgaihofaiigcaaDoorSpecSub
namespace Go.Proofs.YtlgaihofaiigcaaDoor
open Go.RowKit

noncomputable def gOk (q : Int) (xs es : List Int) : Bool := isGroupB q xs && allOk q xs es
theorem gOk_no {q : Int} {xs es : List Int} (h : ¬ gallOk q xs es) : gOk q xs es = false := by
  unfold gOk
  cases hg : isGroupB q xs
  · rfl
  · cases ha : allOk q xs es
    · rfl
    · exact absurd ⟨hg, ha⟩ h
theorem gOk_yes {N : Nat} {xs es : List Int} (hG : Grp N xs) (h : allOk N xs es = true) : gOk N xs es = true := by unfold gOk; rw [isGroup_yes hG, h]; rfl
theorem gOk_iff {q : Int} {xs es : List Int} (h : gOk q xs es = true) : ∃ (N : Nat) (G : List Nat), q = N ∧ Grp N xs ∧ es = nints G ∧ ∀ g ∈ G, g < N := by
  unfold gOk at h
  rw [Bool.and_eq_true] at h
  obtain ⟨N, rfl, hG⟩ := isGroup_iff h.1
  obtain ⟨G, e, hg⟩ := elems_of h.2
  exact ⟨N, G, rfl, hG, e, hg⟩
theorem nints_nat (G : List Nat) : (nints G).map Int.toNat = G := by
  unfold nints; rw [List.map_map]
  conv => rhs; rw [← List.map_id G]
  exact List.map_congr_left fun x _ => by simp
noncomputable def subOf (q : Int) (xs es : List Int) : List Int := if gOk q xs es then pick (genB q.toNat xs (es.map Int.toNat)) q.toNat else []
theorem subOf_no {q : Int} {xs es : List Int} (h : gOk q xs es = false) : subOf q xs es = [] := by unfold subOf; rw [h]; rfl
theorem subOf_yes {N : Nat} {xs : List Int} {G : List Nat} (h : gOk N xs (nints G) = true) : subOf N xs (nints G) = pick (genB N xs G) N := by unfold subOf; rw [h, nints_nat]; rfl
theorem subOf_len (q : Int) (xs es : List Int) : (subOf q xs es).length ≤ 40 := by
  cases h : gOk q xs es
  · rw [subOf_no h]; simp
  · obtain ⟨N, G, rfl, hG, rfl, -⟩ := gOk_iff h
    rw [subOf_yes h]
    have := pick_len (genB N xs G) N
    have := hG.tab.hi
    omega
end Go.Proofs.YtlgaihofaiigcaaDoor
