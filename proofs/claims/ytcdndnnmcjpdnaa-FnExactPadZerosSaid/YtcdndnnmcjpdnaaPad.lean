/- Both PadZeros. -/
import Derived.Test.YtcdndnnmcjpdnaaJoinParts
import Derived.Test.YtcdndnnmcjpdnaaBase
import Derived.Test.YtcdndnnmcjpdnaaOwn
import Derived.Test.YtcdndnnmcjpdnaaShelf
import Derived.Lib.SmallJoins
import Derived.IntWalk
import Derived.Laws.Rows
namespace Go.Proofs.Ytcdndnnmcjpdnaa
open Go.RowKit Go.Joins

def zerosL (k : Nat) (s : ByteArray) : List UInt8 := List.replicate k 48 ++ s.data.toList
def mkB (l : List UInt8) : ByteArray := ⟨l.toArray⟩
def padS (s : ByteArray) (n : Int) : ByteArray := if 2000 < n then s else mkB (zerosL (n - s.size).toNat s)
def strSize : Value → Nat | .string s => s.size | _ => 0
theorem zerosL_zero (s : ByteArray) : mkB (zerosL 0 s) = s := by unfold mkB zerosL; apply ByteArray.ext; simp
theorem zerosL_size (k : Nat) (s : ByteArray) : (mkB (zerosL k s)).size = k + s.size := by
  show (zerosL k s).toArray.size = _
  simp [zerosL]
theorem zerosL_step (k : Nat) (s : ByteArray) : (⟨#[48]⟩ : ByteArray) ++ mkB (zerosL k s) = mkB (zerosL (k + 1) s) := by
  apply ByteArray.ext; simp [mkB, zerosL, List.replicate_succ]

set_option maxHeartbeats 400000 in
theorem specPadZeros (s : ByteArray) (n : Int) (w : World) (hs : s.size ≤ 1048576) (hn : -9223372036854775808 ≤ n) :
    Calls Try.prog 24 #[.string s, .int .i64 n] w fun e w' => e = .returned (.string (padS s n)) ∧ w = w' := by
  by_cases hbig : 2000 < n
  · have Hp := Lib.hid (show s = padS s n by unfold padS; rw [if_pos hbig])
    go_enter Try.func24, Try.ntmps24
    go_wp2
    go_ret
    exact ⟨ret_str Hp.out, rfl⟩
  · have Hp := Lib.hid (show mkB (zerosL (n - s.size).toNat s) = padS s n by unfold padS; rw [if_neg hbig])
    have Z0 := Lib.hid (zerosL_zero s)
    go_enter Try.func24, Try.ntmps24
    go_wp2
    go_loop [0] (fun q => ∃ k : Nat, k ≤ (n - s.size).toNat ∧ q = .string (mkB (zerosL k s))) (fun q => (n - strSize q).toNat)
    case atStart => exact ⟨0, Nat.zero_le _, by rw [Z0.out]⟩
    case round =>
      obtain ⟨k, hk, rfl⟩ := hrel
      have hz := zerosL_size k s
      have Hz := Lib.hid hz
      have Hst := Lib.hid (zerosL_step k s)
      generalize hzz : mkB (zerosL k s) = z at *
      have Hzz := Lib.hid hzz
      clear hz hzz
      have hzs : (z.size : Int) ≤ 2000000 := by rw [Hz.out]; omega
      by_cases hlt : (z.size : Int) < n
      · go_wp2
        have hz2 := zerosL_size (k + 1) s
        have e1 := Hz.out
        have hk2 : k + 1 ≤ (n - s.size).toNat := by omega
        refine ⟨⟨k + 1, hk2, by rw [Hst.out]⟩, ?_⟩
        rw [Hst.out]
        show (n - ((mkB (zerosL (k + 1) s)).size : Int)).toNat < (n - (z.size : Int)).toNat
        rw [hz2, e1]; omega
      · have hkk : k = (n - s.size).toNat := by have := Hz.out; omega
        have Hend := Lib.hid (show z = padS s n by rw [← Hp.out, ← hkk, Hzz.out])
        go_wp2
        go_ret
        exact ⟨ret_str Hend.out, rfl⟩

theorem repeat48 : ∀ c, Lib.repeatL [48] c = List.replicate c 48
  | 0 => rfl
  | c + 1 => by rw [Lib.repeatL, repeat48 c, List.replicate_succ]; rfl
theorem join_two (c : Nat) (s : ByteArray) : joinS [⟨(Lib.repeatL [48] c).toArray⟩, s] ⟨#[]⟩ = mkB (zerosL c s) := by
  unfold joinS mkB zerosL
  simp only [List.map_cons, List.map_nil, Lib.join_cons, Lib.joinTail, repeat48]
  simp
theorem join_two_len (c : Nat) (s : ByteArray) (hc : c ≤ 2000) (hs : s.size ≤ 1048576) :
    (Lib.join ([(⟨(Lib.repeatL [48] c).toArray⟩ : ByteArray), s].map (·.data.toList)) (⟨#[]⟩ : ByteArray).data.toList).length ≤ 140737488355328 := by
  simp only [List.map_cons, List.map_nil, Lib.join_cons, Lib.joinTail, repeat48]
  simp; omega

set_option maxHeartbeats 400000 in
theorem implPadZeros (s : ByteArray) (n : Int) (w : World) (hs : s.size ≤ 1048576) (hn : -9223372036854775808 ≤ n) :
    Calls Try.prog 25 #[.string s, .int .i64 n] w fun e w' => e = .returned (.string (padS s n)) ∧ Below w.heap.size w w' := by
  by_cases hge : n ≤ s.size
  · have Hp := Lib.hid (show s = padS s n by
      unfold padS
      split
      · rfl
      · rw [show (n - s.size).toNat = 0 by omega, zerosL_zero])
    go_enter Try.func25, Try.ntmps25
    go_wp2_with fail
    go_ret
    exact ⟨ret_str Hp.out, Below.refl _ _⟩
  by_cases hbig : 2000 < n
  · have Hp := Lib.hid (show s = padS s n by unfold padS; rw [if_pos hbig])
    have hlt : ¬ (n ≤ (s.size : Int)) := hge
    go_enter Try.func25, Try.ntmps25
    go_wp2_with fail
    go_ret
    exact ⟨ret_str Hp.out, Below.refl _ _⟩
  obtain ⟨c, rfl⟩ : ∃ c : Nat, n = (c : Int) + (s.size : Int) := ⟨(n - s.size).toNat, by omega⟩
  have h48 : ((⟨#[48]⟩ : ByteArray)).size = 1 := rfl
  have Hp := Lib.hid (show mkB (zerosL c s) = padS s ((c : Int) + (s.size : Int)) by
    unfold padS; rw [if_neg hbig, show ((c : Int) + (s.size : Int) - (s.size : Int)).toNat = c by omega])
  have hc0 : 0 < c := by omega
  have hc1 : c ≤ 2000 := by omega
  go_enter Try.func25, Try.ntmps25
  go_wp2_with fail
  refine (Try.strings_Repeat ⟨#[48]⟩ c _ (by omega) (by rw [h48]; omega)).mono ?_
  rintro e w1 ⟨rfl, hb1⟩
  have HJ := Lib.hid (join_two c s)
  have HL := Lib.hid (join_two_len c s hc1 hs)
  have hrep : (⟨#[48]⟩ : ByteArray).data.toList = [48] := rfl
  rw [hrep]
  generalize hR : (⟨(Lib.repeatL [48] c).toArray⟩ : ByteArray) = R at *
  clear hR hrep
  go_wp2_with fail
  refine (joinParts_any w1.heap.size 0 2 [R, s] ⟨#[]⟩ (w1.alloc (.cells #[.string R, .string s] 9)) (fun j x hx => ?_) (by simp) (by simp) (by simp) HL.out).mono ?_
  · rw [cell_of_row _ _ _ _ _ _ (heap_alloc_new w1 _)]
    match j, hx with
    | 0, hx => simp at hx; subst hx; rfl
    | 1, hx => simp at hx; subst hx; rfl
  rintro e w2 ⟨rfl, hb2⟩
  go_wp2_with fail
  go_ret
  exact ⟨ret_str (by rw [HJ.out, Hp.out]), hb1.trans (((Below.refl _ w1).alloc (Nat.le_refl _) _).mono hb1.size |>.trans (hb2.mono (by have := hb1.size; simp; omega)))⟩
end Go.Proofs.Ytcdndnnmcjpdnaa
