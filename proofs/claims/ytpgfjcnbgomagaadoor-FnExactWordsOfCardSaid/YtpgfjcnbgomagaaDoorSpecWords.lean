/- All words of a length: spec.WordsOf. -/
import Derived.Test.YtpgfjcnbgomagaaDoorWords
import Derived.Test.YtpgfjcnbgomagaaDoorMarks
namespace Go.Proofs.YtpgfjcnbgomagaaDoor
open Go.RowKit Go.Joins

set_option maxHeartbeats 1600000 in
set_option maxRecDepth 100000 in
theorem specWordsOf (k n : Int) (w : World) (hn0 : -9223372036854775808 ≤ n) :
    Calls Tryd.prog 13 #[.int .i64 k, .int .i64 n] w (WordsPost k n w) := by
  by_cases hk : 1 ≤ k ∧ k ≤ 4
  case neg =>
    have Hd := Lib.hid (show k < 1 ∨ 4 < k by omega)
    have Hno := Lib.hid (words_bad w (show ¬ wordsOk k n from fun h => hk ⟨h.1, h.2.1⟩) (Below.refl _ w))
    clear hk
    go_enter Tryd.func13, Tryd.ntmps13
    go_wp2_with (go_at_call 24; refine (l01In_no _ _ _ _ Hd.out).mono ?_; rintro e w' ⟨rfl, rfl⟩)
    go_ret2
    exact Hno.out
  obtain ⟨hk0, hk4⟩ := hk
  by_cases hneg : n < 0
  · have Hno := Lib.hid (words_bad w (show ¬ wordsOk k n from fun h => by have := h.2.2.1; omega) (Below.refl _ w))
    go_enter Tryd.func13, Tryd.ntmps13
    go_wp2_with (go_at_call 24; refine (l01In_yes _ _ _ _ hk0 hk4).mono ?_; rintro e w' ⟨rfl, rfl⟩)
    go_ret2
    exact Hno.out
  by_cases hbig : 256 < n
  · have Hno := Lib.hid (words_bad w (show ¬ wordsOk k n from fun h => by have := h.2.2.2.1; omega) (Below.refl _ w))
    go_enter Tryd.func13, Tryd.ntmps13
    go_wp2_with (go_at_call 24; refine (l01In_yes _ _ _ _ hk0 hk4).mono ?_; rintro e w' ⟨rfl, rfl⟩)
    go_ret2
    exact Hno.out
  obtain ⟨k, rfl⟩ : ∃ m : Nat, k = m := ⟨k.toNat, by omega⟩
  obtain ⟨n, rfl⟩ : ∃ m : Nat, n = m := ⟨n.toNat, by omega⟩
  obtain ⟨i0, hi, hz0, hz1, hz2⟩ := info_parts infoStr
  have HO0 := Lib.hid (Own.new w #[.string ⟨#[]⟩] 1 9 rfl (by unfold maxLen; omega))
  go_enter Tryd.func13, Tryd.ntmps13
  go_wp2_with (go_at_call 24; refine (l01In_yes _ _ _ _ hk0 hk4).mono ?_; rintro e w' ⟨rfl, rfl⟩)
  go_loopw [6, 7] (fun v i wr => ∃ j m : Nat, j ≤ n ∧ i = .int .i64 j ∧ m ≤ 256 ∧ Hid ((wordsL k j).length = m) ∧ (∃ A c, v = .slice A m c) ∧ Hid (Own w.heap.size wr v 1 m (strs (wordsL k j))) ∧ Hid (∀ i, i < j → (wordsL k i).length * k ≤ 256) ∧ Below w.heap.size w wr ∧ w.heap.size ≤ wr.heap.size) (fun _ i _ => n - (intOf i).toNat)
  case atStart => exact ⟨0, 1, Nat.zero_le _, rfl, by omega, rfl, ⟨_, _, rfl⟩, HO0, fun i h => by omega, (Below.refl _ _).alloc (Nat.le_refl _) _, by simp⟩
  case round =>
    obtain ⟨j, m, hj, rfl, hm, Hm, ⟨A, c, rfl⟩, HO, HB, hb, hsz⟩ := hrel
    by_cases hlt : j < n
    · generalize hWJ : wordsL k j = L at *
      have HWJ := Lib.hid hWJ
      have Hz := Lib.hid (show ∀ s ∈ L, s.size ≤ 256 from fun s hs => by rw [← hWJ] at hs; rw [wordsL_size k j s hs]; omega)
      clear hWJ
      go_wp2_with fail
      have HR0 : Hid ((wr.alloc (.cells #[] 9)).ownsRow wr.heap.size 9 1 (.slice (some ⟨wr.heap.size, 0, none⟩) 0 0) (0 * k) (strs (nextL (L.take 0) k))) := by
        show World.ownsRow _ _ _ _ _ _ _
        rw [Nat.zero_mul]
        exact ⟨rfl, Or.inr ⟨wr.heap.size, 0, #[], rfl, Nat.le_refl _, heap_alloc_new wr _, Nat.le_refl _, by unfold maxLen; omega, rfl, rfl⟩⟩
      obtain ⟨w0, rfl⟩ : ∃ x : World, x = wr := ⟨_, rfl⟩
      have HBN := Lib.hid ((Below.refl w0.heap.size w0).alloc (Nat.le_refl _) (.cells #[] 9))
      have hge : w0.heap.size ≤ (w0.alloc (.cells #[] 9)).heap.size := by simp
      generalize w0.alloc (.cells #[] 9) = wn at *
      go_loopw [8, 10, 11, 32] (fun v _ _ i wx => ∃ q : Nat, q ≤ m ∧ i = .int .i64 q ∧ Hid (wx.ownsRow w0.heap.size 9 1 v (q * k) (strs (nextL (L.take q) k))) ∧ Below w0.heap.size w0 wx ∧ w0.heap.size ≤ wx.heap.size) (fun _ _ _ i _ => m - (intOf i).toNat)
      case atStart => exact ⟨0, Nat.zero_le _, rfl, HR0, HBN, hge⟩
      case round =>
        obtain ⟨q, hq, rfl, HR, hb1, hsz1⟩ := hrel
        obtain ⟨w1, rfl⟩ : ∃ x : World, x = wr := ⟨_, rfl⟩
        by_cases hqm : q < m
        · obtain ⟨g, off, rfl, -, hg, hcell⟩ := (HO.out.below hb1).str (by omega)
          obtain ⟨s, hs, hx, -⟩ := hcell q hqm
          have Hs := Lib.hid hs
          have hss := Hz.out s (List.mem_of_getElem? hs)
          have Htk := Lib.hid (nextL_take L k q s hs)
          clear hcell hs
          go_wp2_with fail
          go_loopw [8, 11] (fun v x wx => ∃ y : Nat, y ≤ k ∧ x = .int .i64 y ∧ Hid (wx.ownsRow w0.heap.size 9 1 v (q * k + y) (strs (nextL (L.take q) k ++ extK s y))) ∧ Below w0.heap.size w0 wx ∧ w0.heap.size ≤ wx.heap.size) (fun _ x _ => k - (intOf x).toNat)
          case atStart => exact ⟨0, Nat.zero_le _, rfl, by rw [extK_zero, List.append_nil, Nat.add_zero]; exact HR, hb1, hsz1⟩
          case round =>
            obtain ⟨y, hy, rfl, HR2, hb2, hsz2⟩ := hrel
            by_cases hyk : y < k
            · have hyw : (97 + (y : Int)) % 256 = 97 + (y : Int) := by omega
              have hcv := one_byte (P := Tryd.prog) Tryd.underlying22 Tryd.underlying5 Tryd.underlying9 wr (97 + (y : Int)) (by omega) (by omega)
              have hjk : q * k ≤ 1024 := Nat.mul_le_mul (show q ≤ 256 by omega) (show k ≤ 4 by omega)
              have Hst := Lib.hid (extK_step s y)
              have hb97 : (97 + (y : Int)).toNat = 97 + y := by omega
              rw [hb97] at hcv
              have hsz1b : (⟨#[UInt8.ofNat (97 + y)]⟩ : ByteArray).size = 1 := rfl
              have Hb := Lib.hid (show s ++ ⟨#[UInt8.ofNat (97 + y)]⟩ = ext1 s y from rfl)
              generalize (⟨#[UInt8.ofNat (97 + y)]⟩ : ByteArray) = b at *
              go_wp2_with (at_builtin; refine wpList_append_own _ rfl _ _ 29 rfl w0.heap.size 9 i0 (.string ⟨#[]⟩) 1 16 Tryd.underlying29 hi hz0 hz1 hz2 rfl (by decide) _ _ _ rfl ((HR2.out.alloc _).alloc _) ⟨wr.heap.size + 1, 0, none⟩ 1 1 [.string (s ++ b)] rfl rfl ?c1 ?c2 ?c3 ?c4 ?c5 ?_)
              case c1 =>
                intro j u hj
                match j, hj with
                | 0, hj => simp at hj; subst hj; rw [show (⟨wr.heap.size + 1, 0, none⟩ : Addr).add 0 = ⟨wr.heap.size + 1, 0, none⟩ from rfl, World.cell?_alloc_at _ _ _ _ (by simp)]; rfl
              case c2 => intro u hu; simp at hu; subst hu; rfl
              case c3 => unfold maxLen; omega
              case c4 => omega
              case c5 => simp; omega
              intro v' w3 hown' hgrow _
              have hO2 : w3.ownsRow w0.heap.size 9 1 v' (q * k + (y + 1)) (strs (nextL (L.take q) k ++ extK s (y + 1))) := by
                have e : strs (nextL (L.take q) k ++ extK s y) ++ [Value.string (s ++ b)] = strs (nextL (L.take q) k ++ extK s (y + 1)) := by
                  rw [Hst.out, Hb.out]; simp [strs]
                rw [← e]; exact hown'
              have hbw3 : Below w0.heap.size w0 w3 := grown_one (w := wr.alloc (.cells #[.int .u8 (97 + (y : Int))] 5)) (HR2.out.alloc _) hgrow (hb2.alloc hsz2 _) (Nat.le_refl _) (by simp; omega)
              have hsz3 := hgrow.size
              simp at hsz3
              have HO2 := Lib.hid hO2
              clear hO2 hown' hgrow
              go_wp2_with fail
              go_roundw
              case rel => exact ⟨y + 1, by omega, by go_num, HO2, hbw3, by omega⟩
              case measure => simp [intOf]; omega
            · obtain rfl : y = k := by omega
              have HR3 : Hid (wr.ownsRow w0.heap.size 9 1 u8 ((q + 1) * y) (strs (nextL (L.take (q + 1)) y))) := by
                show World.ownsRow _ _ _ _ _ _ _
                rw [Htk.out, Nat.succ_mul]; exact HR2.out
              go_wp2_with fail
              go_roundw
              case rel => exact ⟨q + 1, by omega, by go_num, HR3, hb2, hsz2⟩
              case measure => simp [intOf]; omega
        · obtain rfl : q = m := by omega
          have HR3 := HR.out
          rw [List.take_of_length_le (by rw [Hm.out]; exact Nat.le_refl _)] at HR3
          obtain ⟨p, hp, hmul⟩ : ∃ p : Nat, q * k = p ∧ (q : Int) * (k : Int) = (p : Int) := ⟨q * k, rfl, rfl⟩
          have hp4 : p ≤ 1024 := by rw [← hp]; exact Nat.mul_le_mul hm (show k ≤ 4 by omega)
          rw [hp] at HR3
          have Hp := Lib.hid hp
          clear hp
          have HO3 := Own.of_row HR3
          obtain ⟨A1, c1, rfl⟩ := HO3.form
          have HO4 := Lib.hid (HO3.mono hsz)
          clear HR3 HO3
          have hb3 := hb.trans (hb1.mono hsz)
          by_cases hbig2 : 256 < p
          · have Hno := Lib.hid (words_bad w (show ¬ wordsOk (k : Int) (n : Int) from fun h => by
              have h1 := h.2.2.2.2 j (by omega)
              rw [Int.toNat_natCast, HWJ.out, Hm.out, Hp.out] at h1
              omega) hb3)
            go_wp2_with fail
            go_ret2
            exact Hno.out
          · go_wp2_with fail
            go_roundw
            case rel => exact ⟨j + 1, p, by omega, by go_num, by omega, by show _ = _; rw [wordsL_step_length, HWJ.out, Hm.out, Hp.out], ⟨_, _, rfl⟩, by show Own _ _ _ _ _ _; rw [show wordsL k (j + 1) = nextL L k by rw [← HWJ.out]; rfl]; exact HO4.out, fun i h => by
              by_cases e : i = j
              · subst e; rw [HWJ.out, Hm.out, Hp.out]; omega
              · exact HB.out i (by omega), hb3, by omega⟩
            case measure => simp [intOf]; omega
    · obtain rfl : j = n := by omega
      have Hy := Lib.hid (show WordsRet (k : Int) (j : Int) (wordsL k j) true from Or.inr ⟨rfl, ⟨by omega, by omega, by omega, by omega, fun i h => HB.out i (by omega)⟩, rfl⟩)
      go_wp2_with fail
      go_ret2
      exact ⟨_, _, _, rfl, Hy.out, by rw [Hm.out]; exact HO.out, by rw [Hm.out]; omega, hb⟩
end Go.Proofs.YtpgfjcnbgomagaaDoor
