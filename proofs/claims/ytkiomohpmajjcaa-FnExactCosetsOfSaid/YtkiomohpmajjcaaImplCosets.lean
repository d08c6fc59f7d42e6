/- The program's CosetsOf. -/
import Derived.Test.YtkiomohpmajjcaaRepeat
import Derived.Test.YtkiomohpmajjcaaSpecCosets
import Derived.Test.YtkiomohpmajjcaaImplSub4
namespace Go.Proofs.Ytkiomohpmajjcaa
open Go.RowKit

set_option maxRecDepth 100000 in
set_option maxHeartbeats 1600000 in
theorem cosets_any (h g N B : Nat) (xs : List Int) (P : List Nat) (v : Value) (w : World) (H : GrpAt w h g N xs) (hG : Grp N xs) (hS : SubV N xs P B w v) :
    Calls Try.prog 51 #[.pointer (some ⟨h, 0, none⟩), v] w fun e w' => ∃ v', e = .returned v' ∧ Own w.heap.size w' v' 1 N (ints (cosTo N xs (subL N xs P) N).1) ∧ Below w.heap.size w w' := by
  have h40 := hG.tab.hi
  have h1 := hG.tab.lo
  have HG := Lib.hid hG
  have HH := Lib.hid (fun (w' : World) (hb : Below w.heap.size w w') => H.below hb)
  have HS := Lib.hid (fun (w' : World) (hb : Below w.heap.size w w') => hS.below hb)
  obtain ⟨t, r, -, rfl, -⟩ := hS.callee
  have b1 := bel1 w (.cells #[.int .i64 (-1)] 3)
  have X1 := Lib.hid (Blk.new1 w #[.int .i64 (-1)] 3)
  have x1 := (H.below b1).ptr
  have x2 := (H.below b1).mon.size
  clear H hG hS
  go_enter Try.func51, Try.ntmps51
  go_wp2_with fail
  clear x1 x2
  generalize w.alloc (.cells #[.int .i64 (-1)] 3) = w1 at *
  refine (repeatOne_any (-1) w.heap.size N _ X1.out h1 h40).mono ?_
  rintro e w2 ⟨v2, rfl, o2, hb2⟩
  have hbs1 := b1.size
  have b2 := b1.trans (hb2.mono hbs1)
  obtain ⟨gc, off, c9, rfl⟩ := o2.formR (by omega)
  have O2 := Lib.hid (o2.mono hbs1)
  have hgb := (o2.mono hbs1).blk_lt (by omega)
  have hgb1 : w.heap.size ≤ gc := hgb.1
  have hgb2 : gc < w2.heap.size := hgb.2
  clear hb2 o2 hgb X1
  have x1 := (HH.out _ b2).ptr
  have hlt := (HH.out _ b2).lt
  have HW := Lib.hid (fun (w' : World) (hb : Below w2.heap.size w2 w') => b2.trans (hb.mono b2.size))
  go_wp2_with fail
  go_region_held3 (fun w' => w'.cell? ⟨h, 0, none⟩ = some (.pointer (some ⟨g, 0, none⟩)) ∧ Below w2.heap.size w2 w')
    (first | exact ⟨x1, (Below.refl _ w2).drew⟩ | exact held1_keep (by assumption) hb9 (Nat.le_refl _) hlt | assumption)
    ((go_at_call 48; refine (elementsWith_has g N _ xs P _ _ (HH.out _ (HW.out _ (And.right (by assumption)))).mon HG.out.tab (HS.out _ (HW.out _ (And.right (by assumption))))).mono ?_; rintro e w9 ⟨v9, rfl, o9, hb9⟩; obtain ⟨A9, c8, rfl⟩ := o9.form))
  have hS := (‹_ ∧ Below w2.heap.size w2 w9›).2
  have hwS : w2.heap.size ≤ w9.heap.size := hS.size
  rw [← subL_nints, nints_length] at o9
  rw [← subL_nints, nints_length]
  have hHl := pick_len (genB N xs P) N
  rw [← subL_nints, nints_length] at hHl
  have HHlt := Lib.hid (subL_lt (N := N) (xs := xs) (G := P))
  have OB := Lib.hid o9
  have OBl := Lib.hid (fun hn : 0 < (subL N xs P).length => o9.blk_lt hn)
  have HC0 := Lib.hid (O2.out.below hS)
  rw [show List.replicate N (-1 : Int) = (cosTo N xs (subL N xs P) 0).1 from rfl] at HC0
  have bB := HW.out _ hS
  clear hS hb9 o9 x1 O2 HS
  generalize hH : subL N xs P = H at *
  have HHq := Lib.hid hH
  clear hH
  generalize w9 = wB at *
  have hbsB := bB.size
  have hgB : gc < wB.heap.size := by omega
  have hd2 : w2.drew.heap.size = w2.heap.size := rfl
  have x1 := (HH.out _ bB).ptr
  have x2 := (HH.out _ bB).mon.size
  go_wp2_with fail
  clear x1 x2
  go_loopw [7, 35] (fun c' i' wr => ∃ i : Nat, c' = .int .i64 ((cosTo N xs H i).2 : Nat) ∧ i' = .int .i64 i ∧ i ≤ N ∧ Hid (Own w.heap.size wr (.slice (some ⟨gc, off, none⟩) N c9) 1 N (ints (cosTo N xs H i).1)) ∧ Hid (KeptA (some ⟨gc, off, none⟩) N wB wr ∧ wB.heap.size ≤ wr.heap.size) ∧ Below w.heap.size w wr) (fun _ i' _ => N - (intOf i').toNat)
  case atStart => exact ⟨0, rfl, rfl, Nat.zero_le _, HC0, ⟨keptA_refl _ _ _, Nat.le_refl _⟩, bB⟩
  case round =>
    obtain ⟨i, rfl, rfl, hi, HC, HK, hb⟩ := hrel
    have hbs := hb.size
    by_cases hil : i < N
    · obtain ⟨x1, -⟩ := HC.out.ints_at hil
      have hcnt := cosTo_count N xs H i
      by_cases hold : 0 ≤ (cosTo N xs H i).1.getD i 0
      · have Ho := Lib.hid (cosTo_old hold)
        have HC1 : Hid (Own w.heap.size wr (.slice (some ⟨gc, off, none⟩) N c9) 1 N (ints (cosTo N xs H (i + 1)).1)) := by
          show Own _ _ _ _ _ _; rw [Ho.out]; exact HC.out
        generalize (cosTo N xs H i).1.getD i 0 = z at *
        go_wp2_with fail
        go_roundw
        case rel => exact ⟨i + 1, by rw [Ho.out], by go_num, by omega, HC1, HK, hb⟩
        case measure => simp [intOf]; omega
      · have Ho := Lib.hid (cosTo_new hold)
        generalize (cosTo N xs H i).1.getD i 0 = z at *
        obtain ⟨cc, hcc⟩ : ∃ cc, (cosTo N xs H i).2 = cc := ⟨_, rfl⟩
        obtain ⟨CC, hCC⟩ : ∃ CC, (cosTo N xs H i).1 = CC := ⟨_, rfl⟩
        rw [hcc] at hcnt ⊢
        rw [hcc, hCC] at Ho
        rw [hCC] at HC
        have HCC0 := HC
        rw [show CC = cosRow N xs (H.take 0) i cc CC from rfl] at HCC0
        clear hcc hCC HC
        go_wp2_with fail
        clear x1
        go_loopw [45] (fun k' wr => ∃ k : Nat, k' = .int .i64 k ∧ k ≤ H.length ∧ Hid (Own w.heap.size wr (.slice (some ⟨gc, off, none⟩) N c9) 1 N (ints (cosRow N xs (H.take k) i cc CC))) ∧ Hid (KeptA (some ⟨gc, off, none⟩) N wB wr ∧ wB.heap.size ≤ wr.heap.size) ∧ Below w.heap.size w wr) (fun k' _ => H.length - (intOf k').toNat)
        case atStart => exact ⟨0, rfl, Nat.zero_le _, HCC0, HK, hb⟩
        case round =>
          clear HCC0 HK hb hbs
          obtain ⟨k, rfl, hk, HC, HK, hb⟩ := hrel
          have hbs := hb.size
          by_cases hkl : k < H.length
          · obtain ⟨y, hy⟩ : ∃ y, H[k]? = some y := ⟨H[k], List.getElem?_eq_getElem hkl⟩
            have hyN := HHlt.out y (List.mem_of_getElem? hy)
            have Ht := Lib.hid (show cosRow N xs (H.take (k + 1)) i cc CC = (cosRow N xs (H.take k) i cc CC).set (tmul N xs y i) (cc : Int) by rw [List.take_add_one, hy]; exact cosRow_snoc N xs _ y i cc CC)
            have hOS := OB.out.keptA HK.out.1 HK.out.2 (fun h1 _ => by have := (OBl.out h1).1; show _ ≠ gc; omega)
            obtain ⟨ge, eo, rfl, -, x1⟩ := hOS.nat hy
            have x2 := (HH.out _ hb).ptr
            have x3 := (HH.out _ hb).mon.num HG.out.tab.rng hyN hil
            have hzN := HG.out.tab.lt hyN hil
            clear hy hOS
            generalize tmul N xs y i = z at *
            obtain ⟨x4, x5⟩ := HC.out.ints_at hzN
            have HC10 := Lib.hid (HC.out.set_int hzN (cc : Int))
            rw [← Ht.out] at HC10
            have hsw := HK.out.2
            have HK10 : Hid (KeptA (some ⟨gc, off, none⟩) N wB (wr.setCell ⟨gc, off + z, none⟩ (.int .i64 (cc : Int))) ∧ wB.heap.size ≤ (wr.setCell ⟨gc, off + z, none⟩ (.int .i64 (cc : Int))).heap.size) := ⟨HK.out.1.setCell (by omega) _ _, by rw [World.size_setCell]; omega⟩
            have hb11 := hb.setCell (p := ⟨gc, off + z, none⟩) (by show w.heap.size ≤ gc; omega) (.int .i64 (cc : Int))
            clear HC HK
            go_wp2_with fail
            go_roundw
            case rel => exact ⟨k + 1, by go_num, by omega, HC10, HK10, hb11⟩
            case measure => simp [intOf]; omega
          · obtain rfl : H.length = k := by omega
            have HC1 : Hid (Own w.heap.size wr (.slice (some ⟨gc, off, none⟩) N c9) 1 N (ints (cosTo N xs H (i + 1)).1)) := by
              show Own _ _ _ _ _ _; rw [Ho.out]; rw [List.take_length] at HC; exact HC.out
            go_wp2_with fail
            go_roundw
            case rel => exact ⟨i + 1, by rw [Ho.out]; go_num, by go_num, by omega, HC1, HK, hb⟩
            case measure => simp [intOf]; omega
    · obtain rfl : N = i := by omega
      go_wp2_with fail
      go_ret
      exact ⟨_, rfl, by rw [HHq.out]; exact HC.out, hb⟩
set_option maxRecDepth 100000 in
set_option maxHeartbeats 1600000 in
theorem implCosetsOf (q : Int) (A E : Option Addr) (n c m d B D : Nat) (xs es : List Int) (w : World) (h : Own B w (.slice A n c) 1 n (ints xs)) (hE : Own D w (.slice E m d) 1 m (ints es)) (_hn : n ≤ 1048576) (hm : m ≤ 1048576) :
    Calls Try.prog 27 #[tabV q A n c, .slice E m d] w fun e w' => ∃ v, e = .returned v ∧ Own w.heap.size w' v 1 (cosetsOf q xs es).length (ints (cosetsOf q xs es)) ∧ Below w.heap.size w w' := by
  have HO := Lib.hid (h.below (bel1 w (.cells #[.int .i64 q, .slice A n c] 28)))
  have HE := Lib.hid (hE.below (bel1 w (.cells #[.int .i64 q, .slice A n c] 28)))
  clear h hE
  go_enter Try.func27, Try.ntmps27
  go_wp2_with fail
  refine (groupWith_any q A E n c m d B D xs es _ HO.out HE.out).mono ?_
  rintro e w1 ⟨hmm, hb1⟩
  have b1 := (bel1 w _).trans (hb1.mono (by simp))
  have HE1 := Lib.hid (HE.out.below hb1)
  clear hb1 HO HE
  rcases hmm with ⟨N, h, g, rfl, hG, ha, rfl, hM⟩ | ⟨ha, rfl⟩
  · obtain ⟨G, rfl, hg⟩ := elems_of ha
    have He := Lib.hid (cosetsOf_yes (gOk_yes hG ha))
    have HG := Lib.hid hG
    have Hg := Lib.hid hg
    have HM := Lib.hid hM
    have hbs := b1.size
    clear hG ha hM hg
    go_wp2_with fail
    refine (subgroupWith_any h g N E m d D xs G _ HM.out HG.out HE1.out Hg.out hm).mono ?_
    rintro e w8 ⟨⟨v8, rfl, hS8⟩, hb8⟩
    have b8 := b1.trans (hb8.mono hbs)
    have HM8 := Lib.hid (HM.out.below hb8)
    have HS8 := Lib.hid hS8
    obtain ⟨t8, r8, f8, rfl, -⟩ := hS8.callee
    clear hb8 hS8
    have hbs8 := b8.size
    go_wp2_with fail
    refine (cosets_any h g N _ xs G _ _ HM8.out HG.out HS8.out).mono ?_
    rintro e w9 ⟨v9, rfl, o9, hb9⟩
    have O9 := Lib.hid (o9.mono hbs8)
    have b9 := b8.trans (hb9.mono hbs8)
    obtain ⟨A9, c9, rfl⟩ := o9.form
    have Hl := Lib.hid (cosTo_length N xs (subL N xs G) N)
    clear hb9 o9
    go_wp2_with fail
    go_ret
    exact ⟨_, rfl, by rw [He.out, Hl.out]; exact O9.out, b9⟩
  · have He := Lib.hid (cosetsOf_no (gOk_no ha))
    clear ha
    go_wp2_with fail
    go_ret
    exact ⟨_, rfl, by rw [He.out]; exact Own.none_, b1⟩
end Go.Proofs.Ytkiomohpmajjcaa
