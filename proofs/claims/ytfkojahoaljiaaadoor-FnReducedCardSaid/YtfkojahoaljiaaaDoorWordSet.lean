/- A map of the call's own from words to bools, as a set of words: what the walk asks of it. -/
import Derived.Test.YtfkojahoaljiaaaDoorBfs
import Derived.Maps.OwnIn
import Derived.Maps.OwnSet
import Derived.Maps.Views
import Derived.StringKeys
namespace Go.Proofs.YtfkojahoaljiaaaDoor
open Go.RowKit Go.Maps

def keyW (y : ByteArray) : Lit := .string y.data.toList
theorem keyW_key (y : ByteArray) : WideAt.IsKeyLit (keyW y) := trivial
theorem keyW_ne {x y : ByteArray} (h : x ≠ y) : keyW x ≠ keyW y := fun e => h (by unfold keyW at e; injection e with e; exact data_inj e)
theorem keyedW : Keyed Tryd.prog 9 := string_keyed Tryd.underlying9
theorem zeroB (w : World) : (zeroValue 4).run Tryd.prog w = .ok (.bool false) w := by kernel_rfl
/-- Block b is a map that holds just the words of Q, each at true. -/
def SetM (W : World) (b : Nat) (Q : List ByteArray) : Prop :=
  ∃ D : DataW Unit, W.ownsMap Tryd.prog 9 (plainElem Tryd.prog 4) b Q.length D ∧ IsMap D ∧ Maps.size D = Q.length ∧
    ∀ y : ByteArray, D.atKey (keyW y) (.lit (.bool false)) = .lit (.bool (hasW Q y)) ∧ Maps.has D (keyW y) = hasW Q y
theorem SetM.lt {W : World} {b : Nat} {Q : List ByteArray} (h : SetM W b Q) : b < W.heap.size := by obtain ⟨D, h1, _⟩ := h; exact h1.lt
theorem SetM.kept {W W' : World} {b : Nat} {Q : List ByteArray} {row : Option Nat} (h : SetM W b Q) (hg : W.grownBy W' row) (hne : some b ≠ row) : SetM W' b Q := by
  obtain ⟨D, h1, h2⟩ := h
  exact ⟨D, h1.kept hg hne, h2⟩
theorem SetM.below {W W' : World} {b : Nat} {Q : List ByteArray} (h : SetM W b Q) (hb : Below W.heap.size W W') : SetM W' b Q :=
  h.kept (row := none) ⟨hb.os, hb.tape, hb.output, hb.size, fun k hk _ => hb.block k hk⟩ (by simp)
theorem SetM.made (W : World) : SetM (W.alloc (.map #[] 0)) W.heap.size [] :=
  ⟨.map [], World.ownsMap_made W _ _ _, isMap_empty, rfl, fun _ => ⟨rfl, rfl⟩⟩
theorem boolE_inv {P : Program} {e : TypeId} {v : Value} {x : Bool} {ps : List MemPlace} (hv : plainElem (H := Unit) P e v = some (.lit (.bool x), ps)) : v = .bool x := by
  unfold plainElem at hv
  split at hv
  · simp at hv; rw [hv.1]
  · split at hv <;> simp at hv
  · split at hv <;> simp at hv
  · cases hv
theorem putKey_len {es : List (Lit × DataW Unit)} {k : Lit} {d : DataW Unit} (h : Maps.has (.map es) k = false) : (ChangeMaps.putKey k d es).length = es.length + 1 := by
  rw [Maps.has_eq, List.any_eq_false] at h
  unfold ChangeMaps.putKey
  rw [length_insert, List.filter_eq_self.2]
  intro p hp
  unfold ChangeMaps.notKey
  simpa using h p hp
theorem hasW_snoc (Q : List ByteArray) (x y : ByteArray) : hasW (Q ++ [x]) y = (hasW Q y || decide (x = y)) := by simp [hasW]
end Go.Proofs.YtfkojahoaljiaaaDoor
