/- The laws' small draws: l01Str, MakeText. -/
import Derived.Test.YtfkojahoaljiaaaDoorBelow
import Derived.Test.YtfkojahoaljiaaaDoorStrs
namespace Go.Proofs.YtfkojahoaljiaaaDoor
open Go.RowKit Go.Joins

def StrPost (W : World) (g : Nat) (A : Option Addr) (n c : Nat) (L : List ByteArray) (e : Ending) (w' : World) : Prop :=
  ∃ s, e = .returned (.string s) ∧ s ∈ L ∧ Cur w' g A n c ∧ W.grownBy w' (some g)

set_option maxHeartbeats 800000 in
theorem l01Str_any (g : Nat) (A : Option Addr) (n c q m : Nat) (L : List ByteArray) (w : World) (h : Cur w g A n c) (hq : q ≠ g) (hL : w.heap[q]? = some (.cells (strs L).toArray 9 (0, 0))) (hm : L.length = m) (h0 : 0 < m) (h1 : m ≤ 256) :
    Calls Tryd.prog 34 #[.pointer (some ⟨g, 0, none⟩), .slice (some ⟨q, 0, none⟩) m m] w (StrPost w g A n c L) := by
  have H := Lib.hid h
  have HL := Lib.hid hL
  have Hm := Lib.hid hm
  clear h hL hm
  go_enter Tryd.func34, Tryd.ntmps34
  go_wp2_with (go_at_call 32; refine (l01Below_small g A n c m _ H.out h0 h1).mono ?_)
  rintro e w1 ⟨r, rfl, hr, hC, hG⟩
  have HC := Lib.hid hC
  have HG := Lib.hid hG
  clear hC hG
  have hx : w1.cell? ⟨q, r, none⟩ = some (.string (L[r]'(by rw [Hm.out]; exact hr))) := by
    have hb : w1.heap[q]? = some (.cells (strs L).toArray 9 (0, 0)) := (HG.out.block q (Array.getElem?_eq_some_iff.1 HL.out).1 (fun e => by injection e with e; exact hq e)).trans HL.out
    rw [cell_of_row _ _ _ _ _ _ hb]
    have := Hm.out
    simp [strs, hr, this]
  have hmem : L[r]'(by rw [Hm.out]; exact hr) ∈ L := List.getElem_mem _
  have Hmem := Lib.hid hmem
  clear hmem
  generalize L[r]'(by rw [Hm.out]; exact hr) = s at *
  go_wp2_with fail
  go_ret
  exact ⟨s, rfl, Hmem.out, HC.out, HG.out⟩

def TextPost (W : World) (e : Ending) (w' : World) : Prop := ∃ s : ByteArray, e = .returned (.string s) ∧ s.size ≤ 14 ∧ Below W.heap.size W w'

def words5 : List ByteArray := [⟨#[97]⟩, ⟨#[98, 99]⟩, ⟨#[32]⟩, ⟨#[44]⟩, ⟨#[120, 49]⟩]
theorem words5_size (x : ByteArray) (h : x ∈ words5) : x.size ≤ 2 := by
  simp only [words5, List.mem_cons, List.not_mem_nil, or_false] at h
  rcases h with rfl | rfl | rfl | rfl | rfl <;> decide

end Go.Proofs.YtfkojahoaljiaaaDoor
