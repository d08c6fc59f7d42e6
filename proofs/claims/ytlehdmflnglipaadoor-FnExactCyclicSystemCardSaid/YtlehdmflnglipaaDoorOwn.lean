/- Slices of the call's own whose cells are known: plain lemmas, of no program. -/
import Derived.Test.YtlehdmflnglipaaDoorKit
import Derived.Deep.Draws
import Derived.Lib.ItoaNum
namespace Go.Proofs.YtlehdmflnglipaaDoor
open Go.RowKit

/-- v is a slice of n elements (size cells each) that hold xs, in a block from B on that may be written. -/
def Own (B : Nat) (w : World) (v : Value) (size n : Nat) (xs : List Value) : Prop :=
  xs.length = n * size ∧ ∃ (A : Option Addr) (c : Nat), v = .slice A n c ∧ n ≤ c ∧ c ≤ maxLen ∧
    (0 < n → ∃ g off, A = some ⟨g, off, none⟩ ∧ B ≤ g ∧ g < w.heap.size ∧ ∀ j, j < xs.length → w.cell? ⟨g, off + j, none⟩ = xs[j]? ∧ w.frozen? ⟨g, off + j, none⟩ = false)

section
variable {B B' size n : Nat} {w w' : World} {v : Value} {xs : List Value}
theorem Own.mono (h : Own B w v size n xs) (hB : B' ≤ B) : Own B' w v size n xs := by
  obtain ⟨h1, A, c, hv, hc, hm, h2⟩ := h
  exact ⟨h1, A, c, hv, hc, hm, fun hn => by obtain ⟨g, off, e, hg, r⟩ := h2 hn; exact ⟨g, off, e, by omega, r⟩⟩
theorem Own.keep (h : Own B w v size n xs) (hs : w.heap.size ≤ w'.heap.size) (hk : ∀ g, g < w.heap.size → w'.heap[g]? = w.heap[g]?) : Own B w' v size n xs := by
  obtain ⟨h1, A, c, hv, hc, hm, h2⟩ := h
  refine ⟨h1, A, c, hv, hc, hm, fun hn => ?_⟩
  obtain ⟨g, off, e, hg, hlt, r⟩ := h2 hn
  refine ⟨g, off, e, hg, by omega, fun j hj => ?_⟩
  have hh := hk g hlt
  exact ⟨(World.cell?_of_block (w := w) (a := ⟨g, off + j, none⟩) hh).trans (r j hj).1, (World.frozen?_of_block (w := w) (a := ⟨g, off + j, none⟩) hh).trans (r j hj).2⟩
theorem Own.below (h : Own B w v size n xs) (hb : Below w.heap.size w w') : Own B w' v size n xs := h.keep hb.size hb.block
/-- A store into a cell of the slice. -/
theorem Own.set {g off c : Nat} (h : Own B w (.slice (some ⟨g, off, none⟩) n c) size n xs) {j : Nat} (hj : j < xs.length) (u : Value) :
    Own B (w.setCell ⟨g, off + j, none⟩ u) (.slice (some ⟨g, off, none⟩) n c) size n (xs.set j u) := by
  obtain ⟨h1, A', c', hv, hc, hm, h2⟩ := h
  refine ⟨by simpa using h1, _, c', hv, hc, hm, fun hn => ?_⟩
  obtain ⟨g', off', e, hg, hlt, r⟩ := h2 hn
  have hA : A' = some ⟨g, off, none⟩ := by injection hv with a b d; exact a.symm
  rw [hA] at e
  obtain ⟨rfl, rfl⟩ : g = g' ∧ off = off' := by injection e with e; injection e with e1 e2; exact ⟨e1, e2⟩
  refine ⟨g, off, hA, hg, by simpa [World.setCell] using hlt, fun i hi => ?_⟩
  rw [List.length_set] at hi
  refine ⟨?_, by rw [World.frozen?_setCell]; exact (r i hi).2⟩
  by_cases hij : i = j
  · subst hij
    have hc1 := (r i hi).1
    rw [List.getElem?_eq_getElem hi] at hc1
    rw [World.cell?_setCell_same _ _ _ hc1]; simp [hi]
  · rw [World.cell?_setCell_other _ _ _ _ (fun e : (⟨g, off + j, none⟩ : Addr) = ⟨g, off + i, none⟩ => hij (by injection e with _ e2; omega)), (r i hi).1, List.getElem?_set_ne (by omega)]
/-- v[:m] -/
theorem Own.take {A : Option Addr} {c m : Nat} (h : Own B w (.slice A n c) 1 n xs) (hm : m ≤ n) : Own B w (.slice A m c) 1 m (xs.take m) := by
  obtain ⟨h1, A', c', hv, hc, hx, h2⟩ := h
  obtain ⟨rfl, rfl⟩ : A = A' ∧ c = c' := by injection hv; exact ⟨by assumption, by assumption⟩
  refine ⟨by simp; omega, A, c, rfl, by omega, hx, fun hn => ?_⟩
  obtain ⟨g, off, e, hg, hlt, r⟩ := h2 (by omega)
  refine ⟨g, off, e, hg, hlt, fun j hj => ?_⟩
  rw [List.length_take] at hj
  rw [List.getElem?_take_of_lt (by omega)]
  exact r j (by omega)
theorem Own.form (h : Own B w v size n xs) : ∃ A c, v = .slice A n c := by obtain ⟨_, A, c, hv, _⟩ := h; exact ⟨A, c, hv⟩
theorem Own.drewN (h : Own B w v size n xs) (k : Nat) : Own B (w.drewN k) v size n xs := h
theorem Own.none_ : Own B w (.slice none 0 0) size 0 [] := ⟨by simp, none, 0, rfl, Nat.le_refl _, by unfold maxLen; omega, fun h => absurd h (by omega)⟩
theorem Own.of_row {base : Nat} {e : TypeId} (h : w.ownsRow base e size v n xs) : Own base w v size n xs := by
  obtain ⟨hl, h2⟩ := h
  rcases h2 with ⟨rfl, rfl⟩ | ⟨g, cap, cur, rfl, hg, hh, hn, hm, hs, ht⟩
  · exact ⟨hl, none, 0, rfl, Nat.le_refl _, by unfold maxLen; omega, fun h => absurd h (by omega)⟩
  · refine ⟨hl, _, cap, rfl, hn, hm, fun hn => ⟨g, 0, rfl, hg, ?_, fun j hj => ?_⟩⟩
    · rcases Nat.lt_or_ge g w.heap.size with hlt | hge
      · exact hlt
      · rw [Array.getElem?_eq_none hge] at hh; cases hh
    · have hc := cell_of_row w g (0 + j) cur e (0, 0) hh
      refine ⟨?_, ?_⟩
      · rw [hc, ← ht, Nat.zero_add, List.getElem?_take_of_lt (by omega)]; simp
      · simp [World.frozen?, hh]
theorem ownsRow_ge {base : Nat} {e : TypeId} (h : w.ownsRow base e size v n xs) {k : Nat} (hk : some k = v.ownBlock) : base ≤ k := by
  rcases h.2 with ⟨rfl, _⟩ | ⟨g, cap, cur, rfl, hg, _⟩
  · simp [Value.ownBlock] at hk
  · simp [Value.ownBlock] at hk; omega
/-- The world behind an append of one element: what lay below the row's base stands. -/
theorem grown_one {W : World} {base : Nat} {e : TypeId} {o : Obj} {B : Nat} (hown : w.ownsRow base e size v n xs) (hg : (w.alloc o).grownBy w' v.ownBlock) (hb : Below B W w) (hB : B ≤ base) (hbase : base ≤ w.heap.size) :
    Below B W w' := (hb.alloc (by omega) o).grown hg (by simp; omega) (fun k hk => by have := ownsRow_ge hown hk.symm; omega)
theorem grown_block {base : Nat} {e : TypeId} {o : Obj} {g : Nat} (hown : w.ownsRow base e size v n xs) (hg : (w.alloc o).grownBy w' v.ownBlock) (hlt : g < base) (hbase : base ≤ w.heap.size) : w'.heap[g]? = w.heap[g]? := by
  rw [hg.block g (by simp; omega) (fun h => by have := ownsRow_ge hown h; omega), Below.heap_alloc _ _ _ (by omega)]
/-- A slice literal of one-cell elements. -/
theorem Own.new (W : World) (C : Array Value) (m : Nat) (e : TypeId) (hm : C.size = m) (hx : m ≤ maxLen) : Own W.heap.size (W.alloc (.cells C e)) (.slice (some ⟨W.heap.size, 0, none⟩) m m) 1 m C.toList := by
  refine ⟨by simp; omega, _, m, rfl, Nat.le_refl _, hx, fun _ => ⟨W.heap.size, 0, rfl, Nat.le_refl _, by simp, fun j hj => ?_⟩⟩
  have hh := heap_alloc_new W (.cells C e)
  refine ⟨?_, by simp only [World.frozen?, hh]; simp⟩
  rw [cell_of_row _ _ _ _ _ _ hh]; simp
end
end Go.Proofs.YtlehdmflnglipaaDoor
