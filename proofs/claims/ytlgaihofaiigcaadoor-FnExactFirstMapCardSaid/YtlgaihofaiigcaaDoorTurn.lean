/- Worlds that differ in some blocks alone: plain. -/
import Derived.Test.YtlgaihofaiigcaaDoorRules
namespace Go.Proofs.YtlgaihofaiigcaaDoor
open Go.RowKit

/-- All blocks of W but those of S lie as they lay. -/
structure Turn (S : List Nat) (W W' : World) : Prop where
  os : W'.os = W.os
  tape : W'.tape = W.tape
  output : W'.output = W.output
  size : W.heap.size ≤ W'.heap.size
  block : ∀ k, k < W.heap.size → k ∉ S → W'.heap[k]? = W.heap[k]?
theorem Turn.refl (S : List Nat) (W : World) : Turn S W W := ⟨rfl, rfl, rfl, Nat.le_refl _, fun _ _ _ => rfl⟩
theorem Turn.trans {S : List Nat} {X Y Z : World} (h : Turn S X Y) (k : Turn S Y Z) : Turn S X Z :=
  ⟨k.os.trans h.os, k.tape.trans h.tape, k.output.trans h.output, Nat.le_trans h.size k.size, fun i hi hn => (k.block i (Nat.lt_of_lt_of_le hi h.size) hn).trans (h.block i hi hn)⟩
theorem turn_below {S : List Nat} {W W' : World} (h : Below W.heap.size W W') : Turn S W W' := ⟨h.os, h.tape, h.output, h.size, fun k hk _ => h.block k hk⟩
theorem turn_grown {S : List Nat} {W W' : World} {b : Nat} (h : W.grownBy W' (some b)) (hb : b ∈ S) : Turn S W W' := ⟨h.os, h.tape, h.output, h.size, fun k hk hn => h.block k hk (fun e => hn (by injection e with e; rw [e]; exact hb))⟩
theorem turn_set {S : List Nat} (W : World) (b o : Nat) (u : Value) (hb : b ∈ S) : Turn S W (W.setCell ⟨b, o, none⟩ u) :=
  ⟨rfl, rfl, rfl, by simp [World.size_setCell], fun k _ hn => Below.heap_setCell W ⟨b, o, none⟩ u k (fun e => hn (by rw [e]; exact hb))⟩
theorem Turn.blk {S : List Nat} {W W' : World} (h : Turn S W W') {g : Nat} {t : TypeId} {cs : Array Value} (hb : Blk W g t cs) (hn : g ∉ S) : Blk W' g t cs := (h.block g hb.lt hn).trans hb
theorem Turn.obj {S : List Nat} {W W' : World} (h : Turn S W W') {g : Nat} {o : Obj} (hb : W.heap[g]? = some o) (hn : g ∉ S) : W'.heap[g]? = some o := (h.block g (Array.getElem?_eq_some_iff.1 hb).1 hn).trans hb
theorem Turn.below {S : List Nat} {W W' : World} (h : Turn S W W') {B : Nat} (hS : ∀ b ∈ S, B ≤ b) (hB : B ≤ W.heap.size) : Below B W W' :=
  ⟨h.os, h.tape, h.output, h.size, fun k hk => h.block k (by omega) (fun hm => by have := hS k hm; omega)⟩
theorem Turn.mono {S S' : List Nat} {W W' : World} (h : Turn S W W') (hs : ∀ b ∈ S, b ∈ S') : Turn S' W W' := ⟨h.os, h.tape, h.output, h.size, fun k hk hn => h.block k hk (fun hm => hn (hs k hm))⟩
end Go.Proofs.YtlgaihofaiigcaaDoor
