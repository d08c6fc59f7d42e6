/- impl.lengthened. -/
import Derived.Test.YtpgfjcnbgomagaaDoorWordsPlain
import Derived.Test.YtpgfjcnbgomagaaDoorLetters
import Derived.Test.YtpgfjcnbgomagaaDoorStrs
import Derived.Laws.Rows
namespace Go.Proofs.YtpgfjcnbgomagaaDoor
open Go.RowKit Go.Joins

theorem someInt32 : (Tryd.prog.underlying 21).isSome = true := by kernel_rfl
/-- string(rune('a' + q)) -/
theorem letter_text (q : Nat) (h : q < 4) : ∃ b : ByteArray, b.size = 1 ∧ ⟨#[UInt8.ofNat (97 + q)]⟩ = b ∧ ∀ w, (convert 21 9 (.int .i32 (97 + (q : Int)))).run Tryd.prog w = .ok (.string b) w := by
  have he : Utf8.encode (97 + (q : Int)) = ⟨#[UInt8.ofNat (97 + q)]⟩ := by
    match q, h with
    | 0, _ => decide +kernel
    | 1, _ => decide +kernel
    | 2, _ => decide +kernel
    | 3, _ => decide +kernel
  refine ⟨⟨#[UInt8.ofNat (97 + q)]⟩, rfl, rfl, fun w => ?_⟩
  rw [← he]
  exact run_convert_int_string (P := Tryd.prog) w 21 9 .i32 (97 + (q : Int)) someInt32 Tryd.underlying9

set_option maxHeartbeats 800000 in
set_option maxRecDepth 100000 in
theorem lengthened_any (A : Option Addr) (n c B k : Nat) (l : List ByteArray) (w : World) (h : Own B w (.slice A n c) 1 n (strs l)) (hn : n ≤ 256) (hk : k ≤ 4) (hz : ∀ s ∈ l, s.size ≤ 256) (hL : Let w) :
    Calls Tryd.prog 25 #[.slice A n c, .int .i64 k] w fun e w' => ∃ v, e = .returned v ∧ Own w.heap.size w' v 1 (n * k) (strs (nextL l k)) ∧ Below w.heap.size w w' := by
  obtain ⟨i0, hi, hz0, hz1, hz2⟩ := info_parts infoStr
  have hl : l.length = n := by have := h.1; simpa [strs] using this
  have Hl := Lib.hid hl
  have HO := Lib.hid h
  have HL := Lib.hid hL
  have Hz := Lib.hid hz
  clear hl h hL hz
  go_enter Tryd.func25, Tryd.ntmps25
  go_wp2_with fail
  go_loopw [5, 7, 8, 11, 15, 16] (fun v _ _ i _ _ wr => ∃ j : Nat, j ≤ n ∧ i = .int .i64 j ∧ Hid (wr.ownsRow w.heap.size 9 1 v (j * k) (strs (nextL (l.take j) k))) ∧ Below w.heap.size w wr ∧ w.heap.size ≤ wr.heap.size) (fun _ _ _ i _ _ _ => n - (intOf i).toNat)
  case atStart => exact ⟨0, Nat.zero_le _, rfl, by rw [Nat.zero_mul]; exact World.ownsRow_nil _ _ _ _, Below.refl _ _, Nat.le_refl _⟩
  case round =>
    obtain ⟨j, hj, rfl, HR, hb, hsz⟩ := hrel
    by_cases hlt : j < n
    · obtain ⟨g, off, rfl, -, hg, hcell⟩ := (HO.out.below hb).str (by omega)
      obtain ⟨s, hs, hx, -⟩ := hcell j hlt
      have Hs := Lib.hid hs
      have hss := Hz.out s (List.mem_of_getElem? hs)
      have Htk := Lib.hid (nextL_take l k j s hs)
      clear hcell hs
      go_wp2_with fail
      go_loopw [5, 8, 16] (fun v _ x wx => ∃ q : Nat, q ≤ k ∧ x = .int .i64 q ∧ Hid (wx.ownsRow w.heap.size 9 1 v (j * k + q) (strs (nextL (l.take j) k ++ extK s q))) ∧ Below w.heap.size w wx ∧ w.heap.size ≤ wx.heap.size) (fun _ _ x _ => k - (intOf x).toNat)
      case atStart => exact ⟨0, Nat.zero_le _, rfl, by rw [extK_zero, List.append_nil, Nat.add_zero]; exact HR, hb, hsz⟩
      case round =>
        obtain ⟨q, hq, rfl, HR2, hb2, hsz2⟩ := hrel
        by_cases hqk : q < k
        · have hc := (HL.out.keep hb2 (Nat.le_refl _)).cell q (by omega)
          obtain ⟨b, hbs, hbx, hcv⟩ := letter_text q (by omega)
          have hjk : j * k ≤ 1024 := Nat.mul_le_mul (show j ≤ 256 by omega) hk
          have Hst := Lib.hid (extK_step s q)
          have Hb := Lib.hid (show s ++ b = ext1 s q by unfold ext1; rw [hbx])
          clear hbx
          go_wp2_with (at_builtin; refine wpList_append_own _ rfl _ _ 29 rfl w.heap.size 9 i0 (.string ⟨#[]⟩) 1 16 Tryd.underlying29 hi hz0 hz1 hz2 rfl (by decide) _ _ _ rfl (HR2.out.alloc _) ⟨wr.heap.size, 0, none⟩ 1 1 [.string (s ++ b)] rfl rfl ?c1 ?c2 ?c3 ?c4 ?c5 ?_)
          case c1 =>
            intro j u hj
            match j, hj with
            | 0, hj => simp at hj; subst hj; simp [Addr.add]
          case c2 => intro u hu; simp at hu; subst hu; rfl
          case c3 => unfold maxLen; omega
          case c4 => omega
          case c5 => simp; omega
          intro v' w3 hown' hgrow _
          have hO2 : w3.ownsRow w.heap.size 9 1 v' (j * k + (q + 1)) (strs (nextL (l.take j) k ++ extK s (q + 1))) := by
            have e : strs (nextL (l.take j) k ++ extK s q) ++ [Value.string (s ++ b)] = strs (nextL (l.take j) k ++ extK s (q + 1)) := by
              rw [Hst.out, Hb.out]; simp [strs]
            rw [← e]; exact hown'
          have hbw3 : Below w.heap.size w w3 := grown_one HR2.out hgrow hb2 (Nat.le_refl _) hsz2
          have hsz3 := hgrow.size
          simp at hsz3
          have HO2 := Lib.hid hO2
          clear hO2 hown' hgrow
          go_wp2_with fail
          go_roundw
          case rel => exact ⟨q + 1, by omega, by go_num, HO2, hbw3, by omega⟩
          case measure => simp [intOf]; omega
        · obtain rfl : q = k := by omega
          have HR3 : Hid (wr.ownsRow w.heap.size 9 1 u5 ((j + 1) * q) (strs (nextL (l.take (j + 1)) q))) := by
            show World.ownsRow _ _ _ _ _ _ _
            rw [Htk.out, Nat.succ_mul]; exact HR2.out
          go_wp2_with fail
          go_roundw
          case rel => exact ⟨j + 1, by omega, by go_num, HR3, hb2, hsz2⟩
          case measure => simp [intOf]; omega
    · have HR3 := HR.out
      have hjn : j = n := by omega
      rw [hjn, List.take_of_length_le (by rw [Hl.out]; exact Nat.le_refl _)] at HR3
      have HR4 := Lib.hid HR3
      clear HR3
      go_wp2_with fail
      go_ret
      exact ⟨_, rfl, Own.of_row HR4.out, hb⟩
end Go.Proofs.YtpgfjcnbgomagaaDoor
