/- The laws' small draws: l01Below, l01Str, MakeText. -/
import Derived.Test.YtcdndnnmcjpdnaaDoorCur
import Derived.Test.YtcdndnnmcjpdnaaDoorStrs
namespace Go.Proofs.YtcdndnnmcjpdnaaDoor
open Go.RowKit Go.Joins

def BelowPost (W : World) (g : Nat) (A : Option Addr) (n c N : Nat) (e : Ending) (w' : World) : Prop :=
  ∃ r : Nat, e = .returned (.int .i64 r) ∧ r < N ∧ Cur w' g A n c ∧ W.grownBy w' (some g)

set_option maxHeartbeats 800000 in
theorem l01Below_small (g : Nat) (A : Option Addr) (n c N : Nat) (w : World) (h : Cur w g A n c) (h0 : 0 < N) (h1 : N ≤ 256) :
    Calls Tryd.prog 21 #[.pointer (some ⟨g, 0, none⟩), .int .i64 N] w (BelowPost w g A n c N) := by
  have H := Lib.hid h
  clear h
  have e1 : (0 : Int) < N := by omega
  have e2 : (N : Int) ≤ 256 := by omega
  go_enter Tryd.func21, Tryd.ntmps21
  go_wp2_with (go_at_call 17; refine (l01Byte_any g A n c _ H.out).mono ?_)
  rintro e w1 ⟨r, rfl, hr0, hr1, hC, hG⟩
  have HC := Lib.hid hC
  clear hC
  obtain ⟨q, rfl⟩ : ∃ q : Nat, r = q := ⟨r.toNat, by omega⟩
  go_wp2_with fail
  go_ret
  exact ⟨q % N, rfl, Nat.mod_lt _ h0, HC.out, hG⟩

def StrPost (W : World) (g : Nat) (A : Option Addr) (n c : Nat) (L : List ByteArray) (e : Ending) (w' : World) : Prop :=
  ∃ s, e = .returned (.string s) ∧ s ∈ L ∧ Cur w' g A n c ∧ W.grownBy w' (some g)

set_option maxHeartbeats 800000 in
theorem l01Str_any (g : Nat) (A : Option Addr) (n c q m : Nat) (L : List ByteArray) (w : World) (h : Cur w g A n c) (hq : q ≠ g) (hL : w.heap[q]? = some (.cells (strs L).toArray 9 (0, 0))) (hm : L.length = m) (h0 : 0 < m) (h1 : m ≤ 256) :
    Calls Tryd.prog 22 #[.pointer (some ⟨g, 0, none⟩), .slice (some ⟨q, 0, none⟩) m m] w (StrPost w g A n c L) := by
  have H := Lib.hid h
  have HL := Lib.hid hL
  have Hm := Lib.hid hm
  clear h hL hm
  go_enter Tryd.func22, Tryd.ntmps22
  go_wp2_with (go_at_call 21; refine (l01Below_small g A n c m _ H.out h0 h1).mono ?_)
  rintro e w1 ⟨r, rfl, hr, hC, hG⟩
  have HC := Lib.hid hC
  have HG := Lib.hid hG
  clear hC hG
  have hx : w1.cell? ⟨q, r, none⟩ = some (.string (L[r]'(by rw [Hm.out]; exact hr))) := by
    have hb : w1.heap[q]? = some (.cells (strs L).toArray 9 (0, 0)) := (HG.out.block q (Array.getElem?_eq_some_iff.1 HL.out).1 (fun e => by injection e with e; exact hq e)).trans HL.out
    rw [cell_of_row _ _ _ _ _ _ hb]
    have := Hm.out
    simp [strs, hr, this]
  have hmem : L[r]'(by rw [Hm.out]; exact hr) ∈ L := List.getElem_mem _
  have Hmem := Lib.hid hmem
  clear hmem
  generalize L[r]'(by rw [Hm.out]; exact hr) = s at *
  go_wp2_with fail
  go_ret
  exact ⟨s, rfl, Hmem.out, HC.out, HG.out⟩

def TextPost (W : World) (e : Ending) (w' : World) : Prop := ∃ s : ByteArray, e = .returned (.string s) ∧ s.size ≤ 14 ∧ Below W.heap.size W w'

def words5 : List ByteArray := [⟨#[97]⟩, ⟨#[98, 99]⟩, ⟨#[32]⟩, ⟨#[44]⟩, ⟨#[120, 49]⟩]
theorem words5_size (x : ByteArray) (h : x ∈ words5) : x.size ≤ 2 := by
  simp only [words5, List.mem_cons, List.not_mem_nil, or_false] at h
  rcases h with rfl | rfl | rfl | rfl | rfl <;> decide

set_option maxHeartbeats 800000 in
theorem MakeText_any (A : Option Addr) (n c : Nat) (w : World) (h : InB w A n c) (hn : n ≤ 1048576) :
    Calls Tryd.prog 9 #[.slice A n c] w (TextPost w) := by
  go_enter Tryd.func9, Tryd.ntmps9
  go_wp2_with (go_at_call 20; refine (l01New_any A n c _ h hn).mono ?_)
  rintro e w1 ⟨g, rfl, hg, hC, hb⟩
  have hs := hb.size
  go_wp2_with (go_at_call 21; refine (l01Below_small g A n c 8 _ hC (by omega) (by omega)).mono ?_)
  rintro e w2 ⟨r, rfl, hr, hC2, hG⟩
  have hb2 := below_grown hb hG hg hs
  have HC := Lib.hid hC2
  clear hC hC2 hG
  go_wp2_with fail
  go_loopw [4, 5] (fun t i wr => ∃ (k : Nat) (s : ByteArray), i = .int .i64 k ∧ t = .string s ∧ s.size + 2 * k ≤ 14 ∧ Hid (Cur wr g A n c) ∧ Below w.heap.size w wr) (fun _ i _ => (intOf i).toNat)
  case atStart => exact ⟨r, ⟨#[]⟩, rfl, rfl, by show 0 + _ ≤ _; omega, HC, hb2⟩
  case round =>
    obtain ⟨k, s, rfl, rfl, hsz, HC', hb'⟩ := hrel
    have hs' := hb'.size
    by_cases hk : 0 < k
    · go_wp2_with fail
      have HC2 := Lib.hid (HC'.out.below ((Below.refl _ wr).alloc (Nat.le_refl _) (.cells (strs words5).toArray 9)))
      refine (l01Str_any g A n c wr.heap.size 5 words5 (wr.alloc (.cells (strs words5).toArray 9)) HC2.out (by have := HC'.out.lt; omega) (heap_alloc_new wr _) rfl (by omega) (by omega)).mono ?_
      rintro e w3 ⟨x, rfl, hx, hC3, hG3⟩
      have hx2 := words5_size x hx
      have HC3 := Lib.hid hC3
      have hb3 := below_grown (hb'.alloc hs' (.cells (strs words5).toArray 9)) hG3 hg (by simp; omega)
      clear hC3 hG3 hx
      go_wp2_with fail
      go_roundw
      case rel => exact ⟨k - 1, s ++ x, by go_num, rfl, by rw [ByteArray.size_append]; omega, HC3, hb3⟩
      case measure => simp [intOf]; omega
    · go_wp2_with fail
      go_ret
      exact ⟨s, rfl, by omega, hb'⟩
end Go.Proofs.YtcdndnnmcjpdnaaDoor
