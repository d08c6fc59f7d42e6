/- The model's least subgroup. -/
import Derived.Test.YtlgaihofaiigcaaDoorGroupInv
import Derived.Test.YtlgaihofaiigcaaDoorSpecRegular
namespace Go.Proofs.YtlgaihofaiigcaaDoor
open Go.RowKit

def memB (Q : List Nat) (y : Nat) : Bool := decide (y ∈ Q)
/-- Block b is a row of n bools. -/
def Bits (w : World) (b n : Nat) (f : Nat → Bool) : Prop := Blk w b 4 (bl n f).toArray
theorem Bits.new (w : World) (n : Nat) : Bits (w.alloc (.cells (madeCells #[.bool false] n) 4)) w.heap.size n (fun _ => false) := by
  have e : madeCells #[Value.bool false] n = (bl n (fun _ => false)).toArray := by
    apply Array.ext
    · simp [madeCells, bl]
    · intro i h1 h2; simp [madeCells, bl, Nat.mod_one]
  unfold Bits; rw [e]; exact Blk.new1 _ _ _
theorem Bits.new0 (w : World) (n : Nat) : Bits (w.alloc (.cells ((madeCells #[.bool false] n).setIfInBounds 0 (.bool true)) 4)) w.heap.size n (memB [0]) := by
  have e : madeCells #[Value.bool false] n = (bl n (fun _ => false)).toArray := by
    apply Array.ext
    · simp [madeCells, bl]
    · intro i h1 h2; simp [madeCells, bl, Nat.mod_one]
  unfold Bits
  rw [e, List.setIfInBounds_toArray, bl_set, bl_congr (g := memB [0]) (fun j _ => by simp [memB])]
  exact Blk.new1 _ _ _
section
variable {w w' : World} {b n : Nat} {f : Nat → Bool}
theorem Bits.lt (h : Bits w b n f) : b < w.heap.size := Blk.lt h
theorem Bits.cell (h : Bits w b n f) {j : Nat} (hj : j < n) : w.cell? ⟨b, j, none⟩ = some (.bool (f j)) ∧ w.frozen? ⟨b, j, none⟩ = false := by
  refine ⟨(Blk.cell h j).trans ?_, Blk.frozen h j⟩
  rw [List.getElem?_toArray, bl_get hj]
theorem Bits.set_ (h : Bits w b n f) (i : Nat) (v : Bool) : Bits (w.setCell ⟨b, i, none⟩ (.bool v)) b n (fun j => if j = i then v else f j) := by
  have h2 := Blk.set_ h i (.bool v)
  rwa [List.setIfInBounds_toArray, bl_set] at h2
theorem Bits.congr {f' : Nat → Bool} (h : Bits w b n f) (e : ∀ j, j < n → f j = f' j) : Bits w b n f' := by
  unfold Bits at h ⊢; rwa [bl_congr e] at h
theorem Bits.keep (h : Bits w b n f) (hk : w'.heap[b]? = w.heap[b]?) : Bits w' b n f := hk.trans h
theorem Bits.below (h : Bits w b n f) (hb : Below w.heap.size w w') : Bits w' b n f := h.keep (hb.block b h.lt)
theorem Bits.own (h : Bits w b n f) (hn : n ≤ maxLen) {B : Nat} (hB : B ≤ b) : Own B w (.slice (some ⟨b, 0, none⟩) n n) 1 n (bl n f) := by
  refine ⟨by rw [bl_length]; omega, _, n, rfl, Nat.le_refl _, hn, fun _ => ⟨b, 0, rfl, hB, h.lt, fun j hj => ?_⟩⟩
  rw [bl_length] at hj
  rw [Nat.zero_add, bl_get hj]
  exact h.cell hj
theorem row_set {base : Nat} {e : TypeId} {size : Nat} {v : Value} {k : Nat} {xs : List Value} (h : w.ownsRow base e size v k xs) {p : Addr} (hp : p.block < base) (u : Value) : (w.setCell p u).ownsRow base e size v k xs := by
  obtain ⟨h1, h2⟩ := h
  refine ⟨h1, ?_⟩
  rcases h2 with h2 | ⟨g, cap, cur, rfl, hg, hh, r⟩
  · exact .inl h2
  · exact .inr ⟨g, cap, cur, rfl, hg, (Below.heap_setCell w p u g (by omega)).trans hh, r⟩
end
theorem held3_keep {W W1 : World} {g g' o o' q : Nat} {a b a' : Value} {B : Nat} {w : World} (h : W.cell? ⟨g, o, none⟩ = some a ∧ W.cell? ⟨g, q, none⟩ = some b ∧ W.cell? ⟨g', o', none⟩ = some a' ∧ Below B w W) (hb : Below W.heap.size W W1) (hB : B ≤ w.heap.size) (hg : g < w.heap.size) (hg' : g' < w.heap.size) :
    W1.cell? ⟨g, o, none⟩ = some a ∧ W1.cell? ⟨g, q, none⟩ = some b ∧ W1.cell? ⟨g', o', none⟩ = some a' ∧ Below B w W1 := by
  obtain ⟨h1, h2, h3, h5⟩ := h
  have hs := h5.size
  exact ⟨(hb.cell (by show g < _; omega)).trans h1, (hb.cell (by show g < _; omega)).trans h2, (hb.cell (by show g' < _; omega)).trans h3, h5.trans (hb.mono (by omega))⟩
/-- The cell of a number in a row. -/
theorem row_nat {w : World} {B : Nat} {e : TypeId} {v : Value} {n : Nat} {Q : List Nat} (h : w.ownsRow B e 1 v n (ints (nints Q))) {j x : Nat} (hj : Q[j]? = some x) :
    ∃ g off c, v = .slice (some ⟨g, off, none⟩) n c ∧ j < n ∧ g < w.heap.size ∧ w.cell? ⟨g, off + j, none⟩ = some (.int .i64 (x : Nat)) := by
  have ho := Own.of_row h
  have hl := ho.ilen
  rw [nints_length] at hl
  have hlt : j < n := by have := (List.getElem?_eq_some_iff.1 hj).1; omega
  obtain ⟨g, off, c, rfl⟩ := ho.formR (by omega)
  obtain ⟨s, hs, hx⟩ := ho.iget hlt
  rw [nints_get hj] at hs
  obtain rfl := Option.some.inj hs
  exact ⟨g, off, c, rfl, hlt, (ho.blk_lt (by omega)).2, hx⟩
theorem Own.nat {w : World} {D m d : Nat} {E : Option Addr} {G : List Nat} (h : Own D w (.slice E m d) 1 m (ints (nints G))) {k x : Nat} (hk : G[k]? = some x) :
    ∃ g off, E = some ⟨g, off, none⟩ ∧ k < m ∧ w.cell? ⟨g, off + k, none⟩ = some (.int .i64 (x : Nat)) := by
  have hl := h.ilen
  rw [nints_length] at hl
  have hlt : k < m := by have := (List.getElem?_eq_some_iff.1 hk).1; omega
  obtain ⟨g, off, c0, hv⟩ := h.formR (by omega)
  obtain ⟨rfl, rfl⟩ : E = some ⟨g, off, none⟩ ∧ d = c0 := by injection hv with a _ b; exact ⟨a, b⟩
  obtain ⟨s, hs, hx⟩ := h.iget hlt
  rw [nints_get hk] at hs
  obtain rfl := Option.some.inj hs
  exact ⟨g, off, rfl, hlt, hx⟩
end Go.Proofs.YtlgaihofaiigcaaDoor
