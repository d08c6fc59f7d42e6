/- The program's products of generators. -/
import Derived.Test.YtlgaihofaiigcaaDoorImplSub
namespace Go.Proofs.YtlgaihofaiigcaaDoor
open Go.RowKit

theorem row_apart {w : World} {base : Nat} {e t : TypeId} {size : Nat} {v : Value} {k b : Nat} {xs : List Value} {cs : Array Value} (h : w.ownsRow base e size v k xs) (hb : Blk w b t cs) (ht : t ≠ e) : v.ownBlock ≠ some b := by
  rcases h.2 with ⟨rfl, _⟩ | ⟨g, cap, cur, rfl, hg, hh, r⟩
  · simp [Value.ownBlock]
  · intro hv
    simp only [Value.ownBlock, Option.some.injEq] at hv
    subst hv
    unfold Blk at hb
    rw [hb] at hh
    simp only [Option.some.injEq, Obj.cells.injEq] at hh
    exact ht hh.2.1
theorem row_store {w : World} {base : Nat} {e : TypeId} {size : Nat} {v : Value} {k : Nat} {xs : List Value} (h : w.ownsRow base e size v k xs) {p : Addr} (hp : v.ownBlock ≠ some p.block) (u : Value) : (w.setCell p u).ownsRow base e size v k xs := by
  obtain ⟨h1, h2⟩ := h
  refine ⟨h1, ?_⟩
  rcases h2 with h2 | ⟨g, cap, cur, rfl, hg, hh, r⟩
  · exact .inl h2
  · exact .inr ⟨g, cap, cur, rfl, hg, (Below.heap_setCell w p u g (fun e => hp (by simp [Value.ownBlock]; exact e))).trans hh, r⟩
theorem grown_keep {w w' : World} {o : Obj} {b : Nat} {r : Option Nat} (hg : (w.alloc o).grownBy w' r) (hlt : b < w.heap.size) (hn : r ≠ some b) : w'.heap[b]? = w.heap[b]? := by
  rw [hg.block b (by simp; omega) hn.symm, Below.heap_alloc _ _ _ hlt]
end Go.Proofs.YtlgaihofaiigcaaDoor
