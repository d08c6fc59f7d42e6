/- StepsOf: the program's; slices.Collect at steps. -/
import Derived.Maps.AppendAt
import Derived.Test.YtddifhbjjiphiaaDoorNextStep
namespace Go.Proofs.YtddifhbjjiphiaaDoor
open Go.RowKit Go.Shelf
attribute [local go_sem] Oper.semAt_some

/-- A variable's box B holds a slice whose row lies beyond; behind an append and the store back. -/
theorem box_appended {W w1 : World} {base B : Nat} {t e : TypeId} {size : Nat} {v v' : Value} {k m : Nat} {xs ys : List Value} {tmp : Obj} {D : Nat → Prop} (hv : Blk W B t #[v]) (hB : B < base) (hb : base ≤ W.heap.size)
    (hrow : W.ownsRow base e size v k xs) (hown' : w1.ownsRow base e size v' m ys) (hgrow : (W.alloc tmp).grownBy w1 v.ownBlock) (hD : ∀ k, D k → k < base ∧ k ≠ B) :
    Blk w1 B t #[v] ∧ Blk (w1.setCell ⟨B, 0, none⟩ v') B t #[v'] ∧ (w1.setCell ⟨B, 0, none⟩ v').ownsRow base e size v' m ys ∧ KeepsOthers W (w1.setCell ⟨B, 0, none⟩ v') ∧ Keeps D W (w1.setCell ⟨B, 0, none⟩ v') ∧ Below B W (w1.setCell ⟨B, 0, none⟩ v') := by
  have hold : ∀ d, d < base → w1.heap[d]? = W.heap[d]? := fun d hd => grown_block hrow hgrow hd hb
  have hv1 : Blk w1 B t #[v] := (hold B hB).trans hv
  have hsz : W.heap.size ≤ w1.heap.size := by have := hgrow.size; simp at this; omega
  refine ⟨hv1, hv1.set_ 0 v', ?_, ?_, ⟨by simp [World.size_setCell]; omega, fun j hj => ?_⟩, ?_⟩
  · refine hown'.kept (grownBy_setCell' w1 B v') (.inr (fun e => ?_))
    have h1 := (hown'.lt B e).1
    omega
  · refine ((KeepsOthers.alloc W tmp).trans (KeepsOthers.of_grownBy hgrow fun j o ej hj => ?_)).trans (KeepsOthers.setCell _ _ _)
    rcases (hrow.alloc tmp).2 with ⟨rfl, _⟩ | ⟨g, cap, cur, rfl, _, hgb, _⟩
    · simp [Value.ownBlock] at ej
    · have e1 : g = j := by simpa [Value.ownBlock] using ej
      subst e1
      rw [hgb] at hj; injection hj with hj; rw [← hj]; rfl
  · obtain ⟨h1, h2⟩ := hD j hj
    exact (Below.heap_setCell w1 ⟨B, 0, none⟩ v' j (by simpa using h2)).trans (hold j h1)
  · have hb1 : Below B W w1 := ⟨hgrow.os.trans rfl, hgrow.tape.trans rfl, hgrow.output.trans rfl, hsz, fun j hj => hold j (by omega)⟩
    exact hb1.setCell (Nat.le_refl _) _
theorem row_kept {W W' : World} {row : Option Nat} {base : Nat} {e : TypeId} {size : Nat} {v : Value} {k : Nat} {xs : List Value} (h : W.ownsRow base e size v k xs) (hg : W.grownBy W' row) (hr : ∀ r, row = some r → ∃ o : Obj, W.heap[r]? = some o ∧ o.isCells = false) : W'.ownsRow base e size v k xs := by
  refine h.kept hg ?_
  rcases h.2 with ⟨rfl, _⟩ | ⟨g, cap, cur, rfl, _, hgb, _⟩
  · exact .inl rfl
  · refine .inr fun e' => ?_
    obtain ⟨o, ho, hc⟩ := hr g (by simpa [Value.ownBlock] using e'.symm)
    rw [hgb] at ho; cases ho; cases hc
theorem steps_bound (l : List R) (s : ByteArray) (d : Int) (hs : s.size ≤ 1048576) (hl : l.length ≤ 12) : (stepsD l s d).length ≤ 12582912 := by
  have h1 := rowsTo_len l s d s.size
  have h2 : s.size * l.length ≤ 1048576 * 12 := Nat.mul_le_mul hs hl
  unfold stepsD
  omega

theorem stepsOf_bound (k : Int) (l : List R) (s : ByteArray) (hs : s.size ≤ 1048576) : (stepsOf k l s).length ≤ 5726623060 := by
  unfold stepsOf
  split
  · rename_i hk
    exact Nat.le_trans (steps_bound l s 0 hs (rulesOk_len hk)) (by omega)
  · simp
end Go.Proofs.YtddifhbjjiphiaaDoor
