/- The laws' drawn words: l02Draw, MakeWord. -/
import Derived.Test.YtfkojahoaljiaaaDoorBelow
import Derived.Test.YtfkojahoaljiaaaDoorLetters
import Derived.Test.YtfkojahoaljiaaaDoorOneByte
import Derived.Deep.RegionWith
namespace Go.Proofs.YtfkojahoaljiaaaDoor
open Go.RowKit Go.Joins

def DrawPost (W : World) (g : Nat) (A : Option Addr) (n c k most : Nat) (e : Ending) (w' : World) : Prop :=
  ∃ s, e = .returned (.string s) ∧ written k s = true ∧ s.size ≤ most ∧ Cur w' g A n c ∧ W.grownBy w' (some g)
theorem grown_alloc (w : World) (g : Nat) (o : Obj) : w.grownBy (w.alloc o) (some g) := ⟨rfl, rfl, rfl, by simp, fun k hk _ => Below.heap_alloc _ _ _ hk⟩
theorem written_nil (k : Nat) : written k ⟨#[]⟩ = true := rfl
theorem written_append (k : Nat) (s t : ByteArray) : written k (s ++ t) = (written k s && written k t) := by
  unfold written
  rw [ByteArray.data_append, Array.toList_append, List.all_append]
theorem written_one (k x : Nat) (hx : x < k) (hk : k ≤ 4) : written k ⟨#[UInt8.ofNat (97 + x)]⟩ = true := by
  match x, hx with
  | 0, hx => simp [written, among]; omega
  | 1, hx => simp [written, among]; omega
  | 2, hx => simp [written, among]; omega
  | 3, hx => simp [written, among]; omega
  | x + 4, hx => omega

set_option maxHeartbeats 800000 in
theorem l02Draw_any (g : Nat) (A : Option Addr) (n c k most : Nat) (w : World) (h : Cur w g A n c) (hk0 : 0 < k) (hk : k ≤ 4) (hm : most ≤ 100) :
    Calls Tryd.prog 37 #[.pointer (some ⟨g, 0, none⟩), .int .i64 k, .int .i64 most] w (DrawPost w g A n c k most) := by
  have H := Lib.hid h
  clear h
  obtain ⟨m1, hm0, hm1⟩ : ∃ m1 : Nat, m1 = most + 1 ∧ (most : Int) + 1 = (m1 : Int) := ⟨most + 1, rfl, by omega⟩
  have Hm0 := Lib.hid hm0
  have hm2 : m1 ≤ 101 := by omega
  clear hm0
  go_enter Tryd.func37, Tryd.ntmps37
  go_wp2_with (go_at_call 32; refine (l01Below_small g A n c m1 _ H.out (by have := Hm0.out; omega) (by omega)).mono ?_)
  rintro e w1 ⟨r, rfl, hr, hC, hG⟩
  have HC := Lib.hid hC
  have HG := Lib.hid hG
  clear hC hG
  go_wp2_with fail
  go_loopw [7, 8] (fun v i wr => ∃ (q : Nat) (s : ByteArray), v = .string s ∧ i = .int .i64 q ∧ q + s.size = r ∧ Hid (written k s = true) ∧ Hid (Cur wr g A n c) ∧ Hid (w.grownBy wr (some g))) (fun _ i _ => (intOf i).toNat)
  case atStart => exact ⟨r, ⟨#[]⟩, rfl, rfl, rfl, written_nil k, HC, HG⟩
  case round =>
    obtain ⟨q, s, rfl, rfl, hqs, HW, HC2, HG2⟩ := hrel
    by_cases hq : 0 < q
    · go_wp2_with (go_at_call 32; refine (l01Below_small g A n c k _ HC2.out hk0 (by omega)).mono ?_)
      rintro e w2 ⟨x, rfl, hx, hC3, hG3⟩
      have hcv := one_byte (P := Tryd.prog) Tryd.underlying22 Tryd.underlying5 Tryd.underlying9 w2 (97 + (x : Int)) (by omega) (by omega)
      have hyw : (97 + (x : Int)) % 256 = 97 + (x : Int) := by omega
      have hb97 : (97 + (x : Int)).toNat = 97 + x := by omega
      rw [hb97] at hcv
      have HW2 := Lib.hid (show written k (s ++ ⟨#[UInt8.ofNat (97 + x)]⟩) = true by rw [written_append, HW.out, written_one k x hx hk]; rfl)
      have hz := ByteArray.size_append (a := s) (b := ⟨#[UInt8.ofNat (97 + x)]⟩)
      have hz1 : (⟨#[UInt8.ofNat (97 + x)]⟩ : ByteArray).size = 1 := rfl
      have HC4 := Lib.hid (hC3.below ((Below.refl w2.heap.size w2).alloc (Nat.le_refl _) (.cells #[.int .u8 (97 + (x : Int))] 5)))
      have HG4 := Lib.hid (grown_trans' (grown_trans' HG2.out hG3) (grown_alloc w2 g (.cells #[.int .u8 (97 + (x : Int))] 5)))
      clear hC3 hG3
      generalize (⟨#[UInt8.ofNat (97 + x)]⟩ : ByteArray) = b at *
      go_wp2_with fail
      go_roundw
      case rel => exact ⟨q - 1, s ++ b, rfl, by go_num, by rw [hz]; omega, HW2, HC4, HG4⟩
      case measure => simp [intOf]; omega
    · go_wp2_with fail
      go_ret
      exact ⟨s, rfl, HW.out, by have := Hm0.out; omega, HC2.out, HG2.out⟩

def WordPost (W : World) (k most : Nat) (e : Ending) (w' : World) : Prop := ∃ s, e = .returned (.string s) ∧ written k s = true ∧ s.size ≤ most ∧ Below W.heap.size W w'

end Go.Proofs.YtfkojahoaljiaaaDoor
