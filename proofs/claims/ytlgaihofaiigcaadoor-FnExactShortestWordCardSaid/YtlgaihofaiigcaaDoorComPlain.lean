/- Conjugates and commutators: plain; the inverse and the conjugate on both sides. -/
import Derived.Test.YtlgaihofaiigcaaDoorImplSub4
import Derived.Deep.AppendLies
import Derived.Deep.RegionLaw
namespace Go.Proofs.YtlgaihofaiigcaaDoor
open Go.RowKit

/-- The product of x, i and the inverse of x. -/
noncomputable def conj (N : Nat) (xs : List Int) (x i : Nat) : Nat := tmul N xs (tmul N xs x i) (tinv N xs x)
theorem Grp.conj_lt {N : Nat} {xs : List Int} (h : Grp N xs) {x i : Nat} (hx : x < N) (hi : i < N) : conj N xs x i < N := h.tab.lt (h.tab.lt hx hi) (h.inv_spec hx).1
noncomputable def com (N : Nat) (xs : List Int) (x y : Nat) : Nat := tmul N xs (conj N xs x y) (tinv N xs y)
theorem Grp.com_lt {N : Nat} {xs : List Int} (h : Grp N xs) {x y : Nat} (hx : x < N) (hy : y < N) : com N xs x y < N := h.tab.lt (h.conj_lt hx hy) (h.inv_spec hy).1
noncomputable def comRow (N : Nat) (xs : List Int) (x k : Nat) : List Nat := (List.range k).map (com N xs x)
noncomputable def comTo (N : Nat) (xs : List Int) (x : Nat) : List Nat := (List.range x).flatMap fun a => comRow N xs a N
theorem comRow_succ (N : Nat) (xs : List Int) (x k : Nat) : comRow N xs x (k + 1) = comRow N xs x k ++ [com N xs x k] := by simp [comRow, List.range_succ]
theorem comRow_length (N : Nat) (xs : List Int) (x k : Nat) : (comRow N xs x k).length = k := by simp [comRow]
theorem comTo_succ (N : Nat) (xs : List Int) (x : Nat) : comTo N xs (x + 1) = comTo N xs x ++ comRow N xs x N := by simp [comTo, List.range_succ]
theorem comTo_length (N : Nat) (xs : List Int) : ∀ x, (comTo N xs x).length = x * N
  | 0 => by simp [comTo]
  | x + 1 => by rw [comTo_succ, List.length_append, comTo_length N xs x, comRow_length, Nat.succ_mul]
theorem Grp.comTo_lt {N : Nat} {xs : List Int} (h : Grp N xs) : ∀ g ∈ comTo N xs N, g < N := fun g hg => by
  unfold comTo comRow at hg
  obtain ⟨a, ha, hg⟩ := List.mem_flatMap.1 hg
  obtain ⟨b, hb, rfl⟩ := List.mem_map.1 hg
  exact h.com_lt (by simpa using ha) (by simpa using hb)
noncomputable def commOf (q : Int) (xs : List Int) : List Int := if isGroupB q xs then pick (genB q.toNat xs (comTo q.toNat xs q.toNat)) q.toNat else []
theorem commOf_yes {N : Nat} {xs : List Int} (h : Grp N xs) : commOf N xs = pick (genB N xs (comTo N xs N)) N := by unfold commOf; rw [isGroup_yes h]; rfl
theorem commOf_no {q : Int} {xs : List Int} (h : isGroupB q xs = false) : commOf q xs = [] := by unfold commOf; rw [h]; rfl
theorem commOf_len (q : Int) (xs : List Int) : (commOf q xs).length ≤ 40 := by
  cases h : isGroupB q xs
  · rw [commOf_no h]; simp
  · obtain ⟨N, rfl, hG⟩ := isGroup_iff h
    rw [commOf_yes hG]
    have := pick_len (genB N xs (comTo N xs N)) N
    have := hG.tab.hi
    omega
theorem group_not {q : Int} {xs : List Int} (h : ¬ gallOk q xs []) : isGroupB q xs = false := by
  cases hg : isGroupB q xs
  · rfl
  · obtain ⟨N, rfl, hG⟩ := isGroup_iff hg
    exact absurd ⟨hg, by unfold allOk; rw [tableOk_yes hG.tab]; rfl⟩ h
theorem news1 {W : World} {g : Nat} {v : Value} (h : W.cell? ⟨g, 0, none⟩ = some v) : ∀ j x, [v][j]? = some x → W.cell? ((⟨g, 0, none⟩ : Addr).add j) = some x := fun j x hj => by
  match j, hj with
  | 0, hj => simp at hj; subst hj; simpa [Addr.add] using h
theorem one_int (u : Int) : ∀ x ∈ [Value.int .i64 u], x.oneCell' = true := fun x hx => by simp at hx; subst hx; rfl
theorem bel_alloc {W X : World} (h : Below W.heap.size W X) (o : Obj) : Below W.heap.size W (X.alloc o) := h.alloc h.size o
end Go.Proofs.YtlgaihofaiigcaaDoor
