/- The model's CosetsOf. -/
import Derived.Test.YtkiomohpmajjcaaCosPlain
namespace Go.Proofs.Ytkiomohpmajjcaa
open Go.RowKit

set_option maxRecDepth 100000 in
set_option maxHeartbeats 1600000 in
theorem specCosetsOf (q : Int) (A E : Option Addr) (n c m d B D : Nat) (xs es : List Int) (w : World) (h : Own B w (.slice A n c) 1 n (ints xs)) (hE : Own D w (.slice E m d) 1 m (ints es)) (hn : n ≤ 1048576) :
    Calls Try.prog 26 #[tabV q A n c, .slice E m d] w fun e w' => ∃ v, e = .returned v ∧ Own w.heap.size w' v 1 (cosetsOf q xs es).length (ints (cosetsOf q xs es)) ∧ Below w.heap.size w w' := by
  obtain ⟨i0, hi0, hz0, hz1, hz2⟩ := infoR_parts infoInt
  have HO := Lib.hid (h.below (bel1 w (.cells #[.int .i64 q, .slice A n c] 28)))
  have HE := Lib.hid (hE.below (bel1 w (.cells #[.int .i64 q, .slice A n c] 28)))
  have HAl := Lib.hid (fun hn : 0 < n => h.blk_lt hn)
  clear h hE
  go_enter Try.func26, Try.ntmps26
  go_wp2_with fail
  refine (l10Ok_any q A E n c m d B D xs es _ HO.out HE.out hn).mono ?_
  rintro e w1 ⟨rfl, hb1⟩
  have b1 := (bel1 w _).trans (hb1.mono (by simp))
  have X1 := Lib.hid ((Blk.new1 w _ _).below hb1 (by simp))
  have E1 := Lib.hid (HE.out.below hb1)
  have O1 := Lib.hid (HO.out.below hb1)
  obtain ⟨q0, q1, -, -, ql⟩ := X1.out.two
  clear hb1 HO HE
  cases hg : gOk q xs es
  · have He := Lib.hid (cosetsOf_no hg)
    clear hg
    go_wp2_with fail
    go_ret
    exact ⟨_, rfl, by rw [He.out]; exact Own.none_, b1⟩
  · obtain ⟨N, G, rfl, hG, rfl, hg2⟩ := gOk_iff hg
    have He := Lib.hid (cosetsOf_yes hg)
    have h1 := hG.tab.lo
    have h40 := hG.tab.hi
    have HG := Lib.hid hG
    have HGs := Lib.hid hg2
    clear hg hG hg2
    go_wp2_with fail
    refine (l10Sub_any N A E n c m d B D xs G _ O1.out E1.out HG.out.tab HGs.out).mono ?_
    rintro e w2 ⟨v2, rfl, o2, hb2⟩
    obtain ⟨A2, c2, rfl⟩ := o2.form
    have O2 := Lib.hid o2
    have b2 := b1.trans (hb2.mono b1.size)
    have X2 := Lib.hid (X1.out.below hb2 X1.out.lt)
    have P2 := Lib.hid (O1.out.below hb2)
    clear hb2 o2 X1 O1 E1 q0 q1 ql
    go_wp2_with fail
    refine (l09List_any _ N _ _ (genB N xs G) _ O2.out (by omega)).mono ?_
    rintro e w3 ⟨v3, rfl, o3, hb3⟩
    have hbs2 := b2.size
    have b3 := b2.trans (hb3.mono hbs2)
    have X3 := Lib.hid (X2.out.below hb3 X2.out.lt)
    have P3 := Lib.hid (P2.out.below hb3)
    rw [← subL_nints, nints_length] at o3
    obtain ⟨A3, c3, rfl⟩ := o3.form
    have O3 := Lib.hid o3
    have hHl := pick_len (genB N xs G) N
    rw [← subL_nints, nints_length] at hHl
    have HHlt := Lib.hid (subL_lt (N := N) (xs := xs) (G := G))
    clear hb3 o3 X2 P2 O2
    generalize hH : subL N xs G = H at *
    clear hH
    have hbs3 := b3.size
    go_wp2_with fail
    have HR0 := Lib.hid (row_empty w3 3)
    have hbn := bel1 w3 (.cells #[] 3)
    generalize w3.alloc (.cells #[] 3) = wn at *
    go_loopw [6, 7] (fun v i' wr => ∃ i : Nat, i' = .int .i64 i ∧ i ≤ N ∧ Hid (wr.ownsRow w3.heap.size 3 1 v i (ints (List.replicate i (-1)))) ∧ Below w3.heap.size w3 wr) (fun _ i' _ => N - (intOf i').toNat)
    case atStart => exact ⟨0, rfl, Nat.zero_le _, HR0, hbn⟩
    case round =>
      obtain ⟨i, rfl, hiN, HR, hb⟩ := hrel
      obtain ⟨q0, q1, -, -, -⟩ := (X3.out.below hb X3.out.lt).two
      have hbs := hb.size
      by_cases hlt : i < N
      · have Hs := Lib.hid (show ints (List.replicate (i + 1) (-1)) = ints (List.replicate i (-1)) ++ [.int .i64 (-1)] by rw [List.replicate_succ']; simp [ints])
        go_wp2_with (at_builtin; refine wpList_append_own _ rfl _ _ 22 rfl w3.heap.size 3 i0 (.int .i64 0) 1 8 Try.underlying22 hi0 hz0 hz1 hz2 rfl (by decide) _ _ _ rfl (HR.out.alloc _) ⟨wr.heap.size, 0, none⟩ 1 1 [.int .i64 (-1)] rfl rfl ?c1 ?c2 ?c3 ?c4 ?c5 ?_)
        case c1 => intro j u hj; match j, hj with | 0, hj => (simp at hj; subst hj; simp [Addr.add])
        case c2 => intro u hu; simp at hu; subst hu; rfl
        case c3 => unfold maxLen; omega
        case c4 => omega
        case c5 => simp; omega
        intro v' w6 hown' hgrow _
        have HX6 : Hid (w6.ownsRow w3.heap.size 3 1 v' (i + 1) (ints (List.replicate (i + 1) (-1)))) := by
          show World.ownsRow _ _ _ _ _ _ _
          rw [Hs.out]; exact hown'
        have hbw6 : Below w3.heap.size w3 w6 := grown_one HR.out hgrow hb (Nat.le_refl _) hbs
        clear hown' hgrow HR q0 q1
        go_wp2_with fail
        go_roundw
        case rel => exact ⟨i + 1, by go_num, by omega, HX6, hbw6⟩
        case measure => simp [intOf]; omega
      · obtain rfl : N = i := by omega
        obtain ⟨g, off, c9, rfl⟩ := (Own.of_row HR.out).formR (by omega)
        have HC0 := Lib.hid (Own.of_row HR.out)
        have hgb := HC0.out.blk_lt (by omega)
        have hgb1 : w3.heap.size ≤ g := hgb.1
        have hgb2 : g < wr.heap.size := hgb.2
        have hxw : w.heap.size < w3.heap.size := X3.out.lt
        have XB := Lib.hid (X3.out.below hb X3.out.lt)
        have PB := Lib.hid (P3.out.below hb)
        have OB := Lib.hid (O3.out.below hb)
        have OBl := Lib.hid (fun hn : 0 < H.length => O3.out.blk_lt hn)
        have bB := b3.trans (hb.mono hbs3)
        clear HR hgb hb X3 P3 O3 HR0
        generalize hwB : wr = wB at *
        have hbsB := bB.size
        have Hq := Lib.hid (fun (w' : World) (hk : KeptA (some ⟨g, off, none⟩) N wB w') => (hk.blk XB.out (fun _ => by show w.heap.size ≠ g; omega)).two)
        go_wp2_with fail
        go_loopw [8, 32] (fun c' i' wr => ∃ i : Nat, c' = .int .i64 ((cosTo N xs H i).2 : Nat) ∧ i' = .int .i64 i ∧ i ≤ N ∧ Hid (Own w3.heap.size wr (.slice (some ⟨g, off, none⟩) N c9) 1 N (ints (cosTo N xs H i).1)) ∧ Hid (KeptA (some ⟨g, off, none⟩) N wB wr ∧ wB.heap.size ≤ wr.heap.size) ∧ Below w.heap.size w wr) (fun _ i' _ => N - (intOf i').toNat)
        case atStart => exact ⟨0, rfl, rfl, Nat.zero_le _, HC0, ⟨keptA_refl _ _ _, Nat.le_refl _⟩, bB⟩
        case round =>
          obtain ⟨i, rfl, rfl, hi, HC, HK, hb⟩ := hrel
          have hbs := hb.size
          by_cases hil : i < N
          · obtain ⟨x1, -⟩ := HC.out.ints_at hil
            have hcnt := cosTo_count N xs H i
            by_cases hold : 0 ≤ (cosTo N xs H i).1.getD i 0
            · have Ho := Lib.hid (cosTo_old hold)
              have HC1 : Hid (Own w3.heap.size wr (.slice (some ⟨g, off, none⟩) N c9) 1 N (ints (cosTo N xs H (i + 1)).1)) := by
                show Own _ _ _ _ _ _; rw [Ho.out]; exact HC.out
              generalize (cosTo N xs H i).1.getD i 0 = z at *
              go_wp2_with fail
              go_roundw
              case rel => exact ⟨i + 1, by rw [Ho.out], by go_num, by omega, HC1, HK, hb⟩
              case measure => simp [intOf]; omega
            · have Ho := Lib.hid (cosTo_new hold)
              generalize (cosTo N xs H i).1.getD i 0 = z at *
              obtain ⟨cc, hcc⟩ : ∃ cc, (cosTo N xs H i).2 = cc := ⟨_, rfl⟩
              obtain ⟨CC, hCC⟩ : ∃ CC, (cosTo N xs H i).1 = CC := ⟨_, rfl⟩
              rw [hcc] at hcnt ⊢
              rw [hcc, hCC] at Ho
              rw [hCC] at HC
              have HCC0 := HC
              rw [show CC = cosRow N xs (H.take 0) i cc CC from rfl] at HCC0
              clear hcc hCC HC
              go_wp2_with fail
              clear x1
              go_loopw [42] (fun k' wr => ∃ k : Nat, k' = .int .i64 k ∧ k ≤ H.length ∧ Hid (Own w3.heap.size wr (.slice (some ⟨g, off, none⟩) N c9) 1 N (ints (cosRow N xs (H.take k) i cc CC))) ∧ Hid (KeptA (some ⟨g, off, none⟩) N wB wr ∧ wB.heap.size ≤ wr.heap.size) ∧ Below w.heap.size w wr) (fun k' _ => H.length - (intOf k').toNat)
              case atStart => exact ⟨0, rfl, Nat.zero_le _, HCC0, HK, hb⟩
              case round =>
                clear HCC0 HK hb hbs
                obtain ⟨k, rfl, hk, HC, HK, hb⟩ := hrel
                have hbs := hb.size
                by_cases hkl : k < H.length
                · obtain ⟨y, hy⟩ : ∃ y, H[k]? = some y := ⟨H[k], List.getElem?_eq_getElem hkl⟩
                  have hyN := HHlt.out y (List.mem_of_getElem? hy)
                  have Ht := Lib.hid (show cosRow N xs (H.take (k + 1)) i cc CC = (cosRow N xs (H.take k) i cc CC).set (tmul N xs y i) (cc : Int) by rw [List.take_add_one, hy]; exact cosRow_snoc N xs _ y i cc CC)
                  have hOS := OB.out.keptA HK.out.1 HK.out.2 (fun h1 _ => by have := (OBl.out h1).2; show _ ≠ g; omega)
                  obtain ⟨ge, eo, rfl, -, x1⟩ := hOS.nat hy
                  obtain ⟨q0, q1, -, -, ql⟩ := Hq.out wr HK.out.1
                  have HP := Lib.hid (PB.out.keptA HK.out.1 HK.out.2 (fun h1 _ => by have := (HAl.out h1).2; show _ ≠ g; omega))
                  clear hy hOS
                  go_wp2_with fail
                  refine (l08Times_any N y i A n c B xs _ HP.out HG.out.tab hyN hil).mono ?_
                  rintro e w9 ⟨rfl, hb9⟩
                  have hb10 := hb.trans (hb9.mono hbs)
                  have HC9 := Lib.hid (HC.out.below hb9)
                  have HK9 := Lib.hid (HK.out.1.below HK.out.2 hb9)
                  have hs9 := hb9.size
                  have hsw := HK.out.2
                  have hzN := HG.out.tab.lt hyN hil
                  generalize tmul N xs y i = z at *
                  obtain ⟨x2, x3⟩ := HC9.out.ints_at hzN
                  have HC10 := Lib.hid (HC9.out.set_int hzN (cc : Int))
                  rw [← Ht.out] at HC10
                  have HK10 : Hid (KeptA (some ⟨g, off, none⟩) N wB (w9.setCell ⟨g, off + z, none⟩ (.int .i64 (cc : Int))) ∧ wB.heap.size ≤ (w9.setCell ⟨g, off + z, none⟩ (.int .i64 (cc : Int))).heap.size) := ⟨HK9.out.setCell (by omega) _ _, by rw [World.size_setCell]; omega⟩
                  have hb11 := hb10.setCell (p := ⟨g, off + z, none⟩) (by show w.heap.size ≤ g; omega) (.int .i64 (cc : Int))
                  clear hb9 HC HK x1 q0 q1 ql HP HC9 HK9
                  go_wp2_with fail
                  go_roundw
                  case rel => exact ⟨k + 1, by go_num, by omega, HC10, HK10, hb11⟩
                  case measure => simp [intOf]; omega
                · obtain rfl : H.length = k := by omega
                  have HC1 : Hid (Own w3.heap.size wr (.slice (some ⟨g, off, none⟩) N c9) 1 N (ints (cosTo N xs H (i + 1)).1)) := by
                    show Own _ _ _ _ _ _; rw [Ho.out]; rw [List.take_length] at HC; exact HC.out
                  go_wp2_with fail
                  go_roundw
                  case rel => exact ⟨i + 1, by rw [Ho.out]; go_num, by go_num, by omega, HC1, HK, hb⟩
                  case measure => simp [intOf]; omega
          · obtain rfl : N = i := by omega
            have Hl := Lib.hid (cosTo_length N xs H N)
            go_wp2_with fail
            go_ret
            exact ⟨_, rfl, by rw [He.out, Hl.out]; exact HC.out.mono (by omega), hb⟩
end Go.Proofs.Ytkiomohpmajjcaa
