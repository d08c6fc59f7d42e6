/- The program's spelled: a word by its letters' numbers. -/
import Derived.Test.YtlehdmflnglipaaDoorKnownPlain
import Derived.Test.YtlehdmflnglipaaDoorLetters
import Derived.Test.YtlehdmflnglipaaDoorMon
namespace Go.Proofs.YtlehdmflnglipaaDoor
open Go.RowKit

theorem someInt32K : (Tryd.prog.underlying 21).isSome = true := by kernel_rfl
theorem letter_utf8K (q : Nat) (h : q < 4) : Utf8.encode (97 + (q : Int)) = ⟨#[UInt8.ofNat (97 + q)]⟩ := by
  match q, h with
  | 0, _ => decide +kernel
  | 1, _ => decide +kernel
  | 2, _ => decide +kernel
  | 3, _ => decide +kernel
theorem letter_textK (q : Nat) (h : q < 4) : ∃ b : ByteArray, b.size = 1 ∧ ⟨#[UInt8.ofNat (97 + q)]⟩ = b ∧ ∀ w, (convert 21 9 (.int .i32 (97 + (q : Int)))).run Tryd.prog w = .ok (.string b) w := by
  refine ⟨⟨#[UInt8.ofNat (97 + q)]⟩, rfl, rfl, fun w => ?_⟩
  rw [← letter_utf8K q h]
  exact run_convert_int_string (P := Tryd.prog) w 21 9 .i32 (97 + (q : Int)) someInt32K Tryd.underlying9
set_option maxRecDepth 100000 in
set_option maxHeartbeats 800000 in
theorem spelled_any (A : Option Addr) (n c D : Nat) (l : List Nat) (w : World) (h : Own D w (.slice A n c) 1 n (ints (natI l))) (hl : ∀ x ∈ l, x < 4) (hn : n ≤ 8) (h0 : 0 < n) (hL : Let w) :
    Calls Tryd.prog 29 #[.slice A n c] w fun e w' => e = .returned (.string (letW l)) ∧ w' = w := by
  have hlen : l.length = n := by have := h.ilen; simpa [natI] using this
  obtain ⟨g, off, c0, hv⟩ := h.formR h0
  obtain ⟨rfl, rfl⟩ : A = some ⟨g, off, none⟩ ∧ c = c0 := by injection hv with a _ b; exact ⟨a, b⟩
  clear hv
  have HC := Lib.hid (fun j (hj : j < n) => h.iget hj)
  have HL := Lib.hid hL
  have Hl := Lib.hid hl
  have Hlen := Lib.hid hlen
  clear h hL hl hlen
  go_enter Tryd.func29, Tryd.ntmps29
  go_wp2_with fail
  go_loop [3, 8] (fun s i => ∃ k : Nat, k ≤ n ∧ s = .string (letW (l.take k)) ∧ i = .int .i64 k) (fun _ i => n - (intOf i).toNat)
  case atStart => exact ⟨0, Nat.zero_le _, rfl, rfl⟩
  case round =>
    obtain ⟨k, hk, rfl, rfl⟩ := hrel
    by_cases hlt : k < n
    · obtain ⟨s, hs, hx⟩ := HC.out k hlt
      obtain ⟨x, hxl⟩ : ∃ x, l[k]? = some x := ⟨l[k]'(by have := Hlen.out; omega), List.getElem?_eq_getElem _⟩
      rw [natI_get hxl] at hs
      obtain rfl := Option.some.inj hs
      have hx4 : x < 4 := Hl.out x (List.mem_of_getElem? hxl)
      have hc := HL.out.cell x hx4
      obtain ⟨bb, hbs, hbx, hcv⟩ := letter_textK x hx4
      obtain ⟨ww, hww⟩ : ∃ ww : ByteArray, letW (l.take k) = ww := ⟨_, rfl⟩
      have Hst := Lib.hid (show letW (l.take (k + 1)) = ww ++ bb by
        rw [← hww, ← hbx, ← letW_snoc, List.take_add_one, hxl]; rfl)
      have e8 : Utf8.encode (IntKind.i32.wrap (97 + (x : Int))) = bb := by rw [IntWalk.i32_in _ ⟨by omega, by omega⟩, letter_utf8K x hx4, hbx]
      have hsz : ww.size ≤ 8 := by rw [← hww, letW_size, List.length_take]; omega
      have e9 : ¬ (9223372036854775807 < ww.size + 1) := by omega
      rw [hww]
      have hx0 : (0 : Int) ≤ (x : Int) := by omega
      have hx4i : (x : Int) < 4 := by omega
      clear hs hxl hbx hww
      go_wp2_with fail
      go_round
      case rel => exact ⟨k + 1, by omega, by rw [Hst.out], by go_num⟩
      case measure => simp [intOf]; omega
    · obtain rfl : n = k := by omega
      have He := Lib.hid (show letW (l.take n) = letW l by rw [List.take_of_length_le (by rw [Hlen.out]; exact Nat.le_refl _)])
      go_wp2_with fail
      go_ret
      exact ⟨ret_str He.out, rfl⟩
end Go.Proofs.YtlehdmflnglipaaDoor
