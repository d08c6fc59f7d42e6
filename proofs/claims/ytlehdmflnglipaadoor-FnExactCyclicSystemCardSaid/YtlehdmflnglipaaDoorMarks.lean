/- The laws' own helpers on slices of strings: markText, markStringS, heldStringS, eqStringS. -/
import Derived.Test.YtlehdmflnglipaaDoorStrs
import Derived.Test.YtlehdmflnglipaaDoorOneByte
import Derived.Deep.QuietTactic
import Derived.BigQuiet
import Derived.IntWalk
import Derived.Deep.RegionHeld3
import Derived.Lib.ItoaLen
namespace Go.Proofs.YtlehdmflnglipaaDoor
open Go.RowKit

/-- The digits of n, none for 0. -/
def dec0 (n : Nat) : List UInt8 := if n = 0 then [] else Lib.decDigits n
theorem dec0_step {n : Nat} (h : n ≠ 0) : dec0 n = dec0 (n / 10) ++ [UInt8.ofNat (48 + n % 10)] := by
  unfold dec0
  rw [if_neg h]
  by_cases h10 : n < 10
  · rw [if_pos (by omega), Lib.decDigits_one h10, show n % 10 = n from by omega]; rfl
  · rw [if_neg (by omega), Lib.decDigits, dif_neg h10]
def markT (k : Int) : ByteArray := if k ≤ 0 then ⟨#[109, 48]⟩ else ⟨(109 :: dec0 k.toNat).toArray⟩

theorem dec0_le (n : Nat) (h : n ≤ 4611686018427387904) : (dec0 n).length ≤ 20 := by
  unfold dec0
  split
  · simp
  · rw [Lib.decDigits_length]; exact Lib.nDigits_le20 n (by omega)

set_option maxRecDepth 100000 in
set_option maxHeartbeats 400000 in
theorem markText_any (k : Int) (w : World) (hk : k ≤ 4611686018427387904) :
    Calls Tryd.prog 54 #[.int .i64 k] w fun e w' => e = .returned (.string (markT k)) ∧ Below w.heap.size w w' := by
  by_cases h0 : k ≤ 0
  · have hm : (⟨#[109, 48]⟩ : ByteArray) = markT k := by unfold markT; rw [if_pos h0]
    have Hm := Lib.hid hm
    clear hm
    go_enter Tryd.func54, Tryd.ntmps54
    go_wp2
    go_ret
    exact ⟨ret_str Hm.out, Below.refl _ _⟩
  · go_enter Tryd.func54, Tryd.ntmps54
    go_wp2
    obtain ⟨n, rfl⟩ : ∃ n : Nat, k = n := ⟨k.toNat, by omega⟩
    go_loopw [0, 3] (fun q o wr => ∃ (m : Nat) (out : List UInt8), q = .int .i64 m ∧ m ≤ n ∧ o = .string ⟨out.toArray⟩ ∧ Hid (dec0 m ++ out = dec0 n) ∧ out.length ≤ 20 ∧ Below w.heap.size w wr) (fun q _ _ => (intOf q).toNat)
    case atStart => exact ⟨n, [], rfl, Nat.le_refl _, rfl, List.append_nil _, by simp, Below.refl _ _⟩
    case round =>
      obtain ⟨m, out, rfl, hm, rfl, HD, ho, hb⟩ := hrel
      by_cases hpos : 0 < m
      · have hcv := one_byte (P := Tryd.prog) Tryd.underlying71 Tryd.underlying5 Tryd.underlying9 wr (48 + (m : Int) % 10) (by omega) (by omega)
        go_wp2
        go_roundw
        case rel =>
          refine ⟨m / 10, UInt8.ofNat (48 + m % 10) :: out, by go_num, by omega, ?_, ?_, ?_, hb.alloc hb.size _⟩
          · congr 1
            rw [show UInt8.ofNat (48 + m % 10) = 48 + UInt8.ofNat (m % 10) by rw [UInt8.ofNat_add]; rfl]
            apply ByteArray.ext; simp
          · show dec0 (m / 10) ++ (UInt8.ofNat (48 + m % 10) :: out) = dec0 n
            rw [← HD.out, dec0_step (n := m) (by omega)]; simp
          · have h1 := congrArg List.length HD.out
            rw [dec0_step (n := m) (by omega)] at h1
            have h2 := dec0_le n (by omega)
            simp only [List.length_append, List.length_cons, List.length_nil] at h1 ⊢
            omega
        case measure => simp [intOf]; omega
      · obtain rfl : m = 0 := by omega
        have hf : (⟨#[109]⟩ ++ ⟨out.toArray⟩ : ByteArray) = markT n := by
          have h1 := HD.out
          unfold markT
          rw [if_neg (by omega), Int.toNat_natCast, ← h1]
          apply ByteArray.ext; simp [dec0]
        have Hf := Lib.hid hf
        clear hf
        go_wp2
        go_ret
        exact ⟨ret_str Hf.out, hb⟩

/-- markText k, markText (k + 1), .. -/
def marks (k : Int) (n : Nat) : List ByteArray := (List.range n).map fun j : Nat => markT (k + j)
theorem marks_length (k : Int) (n : Nat) : (marks k n).length = n := by simp [marks]
theorem marks_get (k : Int) (n j : Nat) (h : j < n) : (strs (marks k n))[j]? = some (.string (markT (k + j))) := by simp [strs, marks, h]

theorem marks_step (k : Int) (i : Nat) (l : List ByteArray) (hi : i < l.length) : (strs (marks k i ++ l.drop i)).set i (.string (markT (k + i))) = strs (marks k (i + 1) ++ l.drop (i + 1)) := by
  have h1 : l.drop i = l[i] :: l.drop (i + 1) := by rw [List.drop_eq_getElem_cons hi]
  rw [h1]
  have hm : marks k (i + 1) = marks k i ++ [markT (k + i)] := by simp [marks, List.range_succ]
  rw [hm]
  simp only [strs, List.map_append, List.map_cons]
  rw [List.set_append_right _ _ (by simp [marks_length])]
  simp [marks_length]

theorem held_keep {B : Nat} {w W W1 : World} {a : Addr} {v : Value} (h : W.cell? a = some v ∧ Below B w W) (hb : Below W.heap.size W W1) (hB : B ≤ w.heap.size) (ha : a.block < w.heap.size) : W1.cell? a = some v ∧ Below B w W1 :=
  have hs := h.2.size
  ⟨(hb.cell (by omega)).trans h.1, h.2.trans (hb.mono (by omega))⟩

end Go.Proofs.YtlehdmflnglipaaDoor
