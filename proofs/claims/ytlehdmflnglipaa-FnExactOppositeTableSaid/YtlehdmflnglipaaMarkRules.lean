/- The laws' marks on lists of rules and on systems: markRuleS, heldRuleS, markSystem, heldSystem. -/
import Derived.Test.YtlehdmflnglipaaRules
import Derived.Test.YtlehdmflnglipaaMarks
namespace Go.Proofs.Ytlehdmflnglipaa
open Go.RowKit

theorem Own.cellAt {B n m g off c : Nat} {w : World} {xs : List Value} (h : Own B w (.slice (some ⟨g, off, none⟩) n c) m n xs) (hn : 0 < n) {i : Nat} (hi : i < xs.length) : w.cell? ⟨g, off + i, none⟩ = xs[i]? ∧ w.frozen? ⟨g, off + i, none⟩ = false := by
  obtain ⟨h1, A', c', hv, hc, hm, h2⟩ := h
  obtain ⟨g', off', e, hg, hlt, r⟩ := h2 hn
  have hA : A' = some ⟨g, off, none⟩ := by injection hv with a b d; exact a.symm
  rw [hA] at e
  obtain ⟨rfl, rfl⟩ : g = g' ∧ off = off' := by injection e with e; injection e with e1 e2; exact ⟨e1, e2⟩
  exact r i hi
theorem Own.ge {B n m g off c : Nat} {w : World} {xs : List Value} (h : Own B w (.slice (some ⟨g, off, none⟩) n c) m n xs) (hn : 0 < n) : B ≤ g ∧ g < w.heap.size := by
  obtain ⟨h1, A', c', hv, hc, hm, h2⟩ := h
  obtain ⟨g', off', e, hg, hlt, r⟩ := h2 hn
  have hA : A' = some ⟨g, off, none⟩ := by injection hv with a b d; exact a.symm
  rw [hA] at e
  obtain ⟨rfl, rfl⟩ : g = g' ∧ off = off' := by injection e with e; injection e with e1 e2; exact ⟨e1, e2⟩
  exact ⟨hg, hlt⟩
def blockOf (A : Option Addr) : Nat := (A.map (·.block)).getD 0
/-- Nothing that was there has turned, but the slice's own block. -/
def KeptA (A : Option Addr) (n : Nat) (w w' : World) : Prop := ∀ d, d < w.heap.size → (0 < n → d ≠ blockOf A) → w'.heap[d]? = w.heap[d]?
theorem KeptA.below {A : Option Addr} {n : Nat} {w w1 w2 : World} (h : KeptA A n w w1) (hs : w.heap.size ≤ w1.heap.size) (hb : Below w1.heap.size w1 w2) : KeptA A n w w2 := fun d hd hn => (hb.block d (by omega)).trans (h d hd hn)
theorem KeptA.setCell {g off n : Nat} {w w1 : World} (h : KeptA (some ⟨g, off, none⟩) n w w1) (hn : 0 < n) (o : Nat) (u : Value) : KeptA (some ⟨g, off, none⟩) n w (w1.setCell ⟨g, o, none⟩ u) :=
  fun d hd h1 => (Below.heap_setCell w1 ⟨g, o, none⟩ u d (h1 hn)).trans (h d hd h1)
theorem KeptA.blk {A : Option Addr} {n : Nat} {w w' : World} {d : Nat} {t : TypeId} {cs : Array Value} (h : KeptA A n w w') (hb : Blk w d t cs) (hn : 0 < n → d ≠ blockOf A) : Blk w' d t cs := (h d hb.lt hn).trans hb
theorem Own.blk_lt {B n m c : Nat} {w : World} {A : Option Addr} {xs : List Value} (h : Own B w (.slice A n c) m n xs) (hn : 0 < n) : B ≤ blockOf A ∧ blockOf A < w.heap.size := by
  obtain ⟨g, off, c0, hv⟩ := h.formR hn
  obtain ⟨rfl, rfl⟩ : A = some ⟨g, off, none⟩ ∧ c = c0 := by injection hv with a _ b; exact ⟨a, b⟩
  exact h.ge hn
theorem Own.keptA {B n N m c : Nat} {w w' : World} {A A' : Option Addr} {xs : List Value} (h : Own B w (.slice A' N c) m N xs) (hk : KeptA A n w w') (hs : w.heap.size ≤ w'.heap.size) (hne : 0 < N → 0 < n → blockOf A' ≠ blockOf A) : Own B w' (.slice A' N c) m N xs := by
  obtain ⟨h1, A9, c9, hv, hc, hm, h2⟩ := h
  obtain ⟨rfl, rfl⟩ : A' = A9 ∧ c = c9 := by injection hv with a _ b; exact ⟨a, b⟩
  refine ⟨h1, A', c, rfl, hc, hm, fun hn => ?_⟩
  obtain ⟨g, off, e, hg, hlt, r⟩ := h2 hn
  have hb : blockOf A' = g := by rw [e]; rfl
  have hh := hk g hlt (fun h => by rw [← hb]; exact hne hn h)
  exact ⟨g, off, e, hg, by omega, fun j hj => ⟨(World.cell?_of_block (w := w) (a := ⟨g, off + j, none⟩) hh).trans (r j hj).1, (World.frozen?_of_block (w := w) (a := ⟨g, off + j, none⟩) hh).trans (r j hj).2⟩⟩
def marksR (k : Int) (n : Nat) : List R := (List.range n).map fun i : Nat => (markT (k + 2 * i), markT (k + 2 * i + 1))
theorem marksR_length (k : Int) (n : Nat) : (marksR k n).length = n := by simp [marksR]
theorem marksR_get (k : Int) (n j : Nat) (h : j < n) : (marksR k n)[j]? = some (markT (k + 2 * j), markT (k + 2 * j + 1)) := by simp [marksR, h]
theorem marksR_step (k : Int) (i : Nat) (l : List R) (hi : i < l.length) : (marksR k i ++ l.drop i).set i (markT (k + 2 * i), markT (k + 2 * i + 1)) = marksR k (i + 1) ++ l.drop (i + 1) := by
  have h1 : l.drop i = l[i] :: l.drop (i + 1) := by rw [List.drop_eq_getElem_cons hi]
  have hm : marksR k (i + 1) = marksR k i ++ [(markT (k + 2 * i), markT (k + 2 * i + 1))] := by simp [marksR, List.range_succ]
  rw [h1, hm, List.set_append_right _ _ (by simp [marksR_length]), marksR_length, Nat.sub_self, List.set_cons_zero, List.append_assoc]
  rfl

theorem held2r_keep {W W1 w : World} {a : Addr} {v : Value} {B : Nat} (h : W.cell? a = some v ∧ Below B w W) (hb : Below W.heap.size W W1) (hB : B ≤ w.heap.size) (ha : a.block < w.heap.size) : W1.cell? a = some v ∧ Below B w W1 :=
  have hs := h.2.size
  ⟨(hb.cell (by omega)).trans h.1, h.2.trans (hb.mono (by omega))⟩
end Go.Proofs.Ytlehdmflnglipaa
