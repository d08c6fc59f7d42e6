/- Slices of strings of the call's own. -/
import Derived.Test.YtlehdmflnglipaaDoorBase
import Derived.Test.YtlehdmflnglipaaDoorOwn
import Derived.IntWalk
namespace Go.Proofs.YtlehdmflnglipaaDoor
open Go.RowKit

theorem infoStr : (Tryd.prog.info? 9).map (fun i => (i.zero, i.size, i.bytes)) = some (some (.string ⟨#[]⟩), 1, 16) := by kernel_rfl
def strs (l : List ByteArray) : List Value := l.map Value.string
theorem strs_length (l : List ByteArray) : (strs l).length = l.length := List.length_map ..
/-- What the walk asks of a slice that holds strings: the cell and its mark. -/
theorem Own.str {B n : Nat} {w : World} {A : Option Addr} {c : Nat} {l : List ByteArray} (h : Own B w (.slice A n c) 1 n (strs l)) (hn : 0 < n) :
    ∃ g off, A = some ⟨g, off, none⟩ ∧ B ≤ g ∧ g < w.heap.size ∧ ∀ j, j < n → ∃ s, l[j]? = some s ∧ w.cell? ⟨g, off + j, none⟩ = some (.string s) ∧ w.frozen? ⟨g, off + j, none⟩ = false := by
  obtain ⟨h1, A', c', hv, hc, hm, h2⟩ := h
  obtain ⟨rfl, rfl⟩ : A = A' ∧ c = c' := by injection hv; exact ⟨by assumption, by assumption⟩
  obtain ⟨g, off, e, hg, hlt, r⟩ := h2 hn
  refine ⟨g, off, e, hg, hlt, fun j hj => ?_⟩
  have hl : l.length = n := by simpa [strs] using h1
  have hj' : j < (strs l).length := by rw [strs_length]; omega
  obtain ⟨r1, r2⟩ := r j hj'
  refine ⟨l[j]'(by omega), by simp [hl, hj], ?_, r2⟩
  rw [r1]; simp [strs, hl, hj]

end Go.Proofs.YtlehdmflnglipaaDoor
