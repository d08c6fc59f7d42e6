/- The program's SortingSystem. -/
import Derived.Test.YtlehdmflnglipaaDoorImplKnown
namespace Go.Proofs.YtlehdmflnglipaaDoor
open Go.RowKit

theorem sortOf_no {k : Int} (h : ¬ (1 ≤ k ∧ k ≤ 4)) : sortOf k = (0, [], false) := by unfold sortOf; rw [if_neg h]
theorem sortOf_yes {k : Nat} (h : 1 ≤ k ∧ k ≤ 4) : sortOf k = ((k : Int), sortTo k, true) := by unfold sortOf; rw [if_pos (by omega)]; rfl
set_option maxRecDepth 100000 in
set_option maxHeartbeats 1600000 in
theorem implSortingSystem (k : Int) (w : World) (hL : Let w) :
    Calls Tryd.prog 14 #[.int .i64 k] w fun e w' => SysAns w (sortOf k) e w' := by
  obtain ⟨i0, hi0, hz0, hz1, hz2⟩ := infoR_parts infoMaker
  have HL := Lib.hid (fun (w' : World) (hb : Below w.heap.size w w') => hL.keep hb (Nat.le_refl _))
  clear hL
  have b1 := bel1 w zSys
  have HZ1 := Lib.hid (Blk.new1 w #[.int .i64 0, .slice none 0 0] 24)
  go_enter Tryd.func14, Tryd.ntmps14
  go_wp2_with fail
  refine (lettersOk_any k _).mono ?_
  by_cases hk : 1 ≤ k ∧ k ≤ 4
  case neg =>
    rw [show inK k = false by unfold inK; simp; omega]
    rintro e w2 ⟨rfl, rfl⟩
    have He := Lib.hid (sortOf_no hk)
    clear hk
    obtain ⟨z0, z1, zf0, zf1, zl⟩ := HZ1.out.two
    go_wp2_with fail
    refine bodyPost_ret (v := .tuple #[.agg #[.int .i64 0, .slice none 0 0], .bool false]) (by simp [results, Tryd.results14, go_sem, *]) rfl ?_
    rw [He.out]
    exact ⟨none, 0, rfl, Own.none_, b1⟩
  rw [show inK k = true by unfold inK; simp; omega]
  rintro e w2 ⟨rfl, rfl⟩
  obtain ⟨K, rfl⟩ : ∃ K : Nat, k = K := ⟨k.toNat, by omega⟩
  have hK1 : 1 ≤ K := by omega
  have hK4 : K ≤ 4 := by omega
  have He := Lib.hid (sortOf_yes (k := K) (by omega))
  clear hk
  have hs1 : (w.alloc zSys).heap.size = w.heap.size + 1 := by simp
  have HM1 := Lib.hid (MakersTo.nil (w.heap.size + 1) (w.alloc zSys))
  change Below w.heap.size w (w.alloc (.cells #[.int .i64 0, .slice none 0 0] 24)) at b1
  change (w.alloc (.cells #[.int .i64 0, .slice none 0 0] 24)).heap.size = w.heap.size + 1 at hs1
  change Hid (MakersTo (w.heap.size + 1) (w.alloc (.cells #[.int .i64 0, .slice none 0 0] 24)) _ _ _) at HM1
  generalize w.alloc (.cells #[.int .i64 0, .slice none 0 0] 24) = w1 at *
  go_wp2_with fail
  go_loopw [4, 12] (fun v p wr => ∃ (i : Nat) (fs : List Value), p = .int .i64 i ∧ i ≤ K ∧ Hid (Blk wr w.heap.size 24 #[.int .i64 0, .slice none 0 0]) ∧ Hid (MakersTo (w.heap.size + 1) wr v (sortTo i) fs) ∧ Below w.heap.size w wr) (fun _ p _ => K - (intOf p).toNat)
  case atStart => exact ⟨0, [], rfl, Nat.zero_le _, HZ1, HM1, b1⟩
  case round =>
    clear HM1 HZ1 b1
    obtain ⟨i, fs, rfl, hi, HZ, HM, hb⟩ := hrel
    have hzl := HZ.out.lt
    by_cases hlt : i < K
    · have Hst := Lib.hid (sortTo_succ i)
      have HP6 := Lib.hid (Blk.new1 wr #[.int .i64 (i : Int)] 3)
      have HM6 := Lib.hid (HM.out.alloc (.cells #[.int .i64 (i : Int)] 3))
      have HZ6 := Lib.hid (HZ.out.alloc (.cells #[.int .i64 (i : Int)] 3))
      have hb6 := hb.alloc hb.size (.cells #[.int .i64 (i : Int)] 3)
      have hi4 : i < 4 := by omega
      have HRl := Lib.hid (fun x (hx : x ≤ i) => sortTo_row i x hi4 hx)
      have HM60 : Hid (MakersTo (w.heap.size + 1) (wr.alloc (.cells #[.int .i64 (i : Int)] 3)) u4 (sortTo i ++ sortRow i 0) fs) := by
        show MakersTo _ _ _ _ _
        rw [show sortRow i 0 = [] from rfl, List.append_nil]; exact HM6.out
      obtain ⟨bx, hbx⟩ : ∃ bx, wr.heap.size = bx := ⟨_, rfl⟩
      rw [hbx] at HP6
      clear HM6 HM HZ hb
      go_wp2_with fail
      clear hbx
      generalize wr.alloc (.cells #[.int .i64 (i : Int)] 3) = wn at *
      clear hzl
      go_loopw [4, 16] (fun v p wr => ∃ (x : Nat) (fs : List Value), p = .int .i64 x ∧ x ≤ i ∧ Hid (Blk wr w.heap.size 24 #[.int .i64 0, .slice none 0 0]) ∧ Hid (Blk wr bx 3 #[.int .i64 (i : Int)]) ∧ Hid (MakersTo (w.heap.size + 1) wr v (sortTo i ++ sortRow i x) fs) ∧ Below w.heap.size w wr) (fun _ p _ => i - (intOf p).toNat)
      case atStart => exact ⟨0, fs, rfl, Nat.zero_le _, HZ6, HP6, HM60, hb6⟩
      case round =>
        clear HM60 HZ6 HP6 hb6
        obtain ⟨x, fs, rfl, hx, HZ, HP, HM, hb⟩ := hrel
        have hzl := HZ.out.lt
        by_cases hxi : x < i
        · have Hst2 := Lib.hid (show sortTo i ++ sortRow i (x + 1) = (sortTo i ++ sortRow i x) ++ [(letW [i, x], letW [x, i])] by rw [sortRow_succ, List.append_assoc])
          have HQ6 := Lib.hid (Blk.new1 wr #[.int .i64 (x : Int)] 3)
          have HP6 := Lib.hid (HP.out.alloc (.cells #[.int .i64 (x : Int)] 3))
          have HM6 := Lib.hid (HM.out.alloc (.cells #[.int .i64 (x : Int)] 3))
          have HZ6 := Lib.hid (HZ.out.alloc (.cells #[.int .i64 (x : Int)] 3))
          have hb6 := hb.alloc hb.size (.cells #[.int .i64 (x : Int)] 3)
          have hpl := HRl.out x (by omega)
          generalize sortTo i ++ sortRow i x = PL at *
          go_wp2_with (at_builtin; refine wpList_append_own _ rfl _ _ 49 rfl (w.heap.size + 1) 83 i0 .nilFunc 1 8 Tryd.underlying49 hi0 hz0 hz1 hz2 rfl (by decide) _ _ _ rfl (HM6.out.1.alloc _) ⟨wr.heap.size + 1, 0, none⟩ 1 1 [.func (.func 36) #[] #[.pointer (some ⟨bx, 0, none⟩), .pointer (some ⟨wr.heap.size, 0, none⟩)]] rfl rfl ?c1 ?c2 ?c3 ?c4 ?c5 ?_)
          case c1 => intro j u hj; match j, hj with | 0, hj => (simp at hj; subst hj; simp [Addr.add])
          case c2 => exact one_funcK _ _
          case c3 => unfold maxLen; omega
          case c4 => omega
          case c5 => simp; omega
          intro v' w6 hown' hgrow _
          have HM7 : Hid (MakersTo (w.heap.size + 1) w6 v' (sortTo i ++ sortRow i (x + 1)) (fs ++ [.func (.func 36) #[] #[.pointer (some ⟨bx, 0, none⟩), .pointer (some ⟨wr.heap.size, 0, none⟩)]])) := by
            show MakersTo _ _ _ _ _
            rw [Hst2.out]
            exact HM6.out.next hown' hgrow (sortMaker HP6.out HQ6.out (by omega) (by omega))
          have hb7 : Below w.heap.size w w6 := grown_one HM6.out.1 hgrow hb6 (by omega) (by simp; omega)
          have HZ7 : Hid (Blk w6 w.heap.size 24 #[.int .i64 0, .slice none 0 0]) := (FKept.grown HM6.out.1 hgrow).blk (by decide) HZ6.out
          have HP7 : Hid (Blk w6 bx 3 #[.int .i64 (i : Int)]) := (FKept.grown HM6.out.1 hgrow).blk (by decide) HP6.out
          clear hown' hgrow HM6 HZ6 HP6 HQ6 hb6 HM HZ HP hb
          go_wp2_with fail
          go_roundw
          case rel => exact ⟨x + 1, _, by go_num, by omega, HZ7, HP7, HM7, hb7⟩
          case measure => simp [intOf]; omega
        · obtain rfl : i = x := by omega
          have HMn : Hid (MakersTo (w.heap.size + 1) wr u4 (sortTo (i + 1)) fs) := by
            show MakersTo _ _ _ _ _
            rw [Hst.out]; exact HM.out
          go_wp2_with fail
          go_roundw
          case rel => exact ⟨i + 1, fs, by go_num, by omega, HZ, HMn, hb⟩
          case measure => simp [intOf]; omega
    · obtain rfl : K = i := by omega
      have HL1 := HL.out _ hb
      obtain ⟨A9, c9, hv9⟩ := (HM.out.done HL1).form
      have HD := Lib.hid (HM.out.done HL1)
      subst hv9
      have hpl := sortTo_len K (by omega)
      have HMB := Lib.hid (madeBy_any K A9 (sortTo K).length c9 (w.heap.size + 1) (sortTo K) wr HD.out rfl (by omega))
      clear hpl HM HL1
      generalize sortTo K = PL at *
      go_wp2_with fail
      refine HMB.out.mono ?_
      rintro e w7 ⟨A7, c7, rfl, o7, hb7⟩
      have b7 := hb.trans (hb7.mono hb.size)
      have HZ7 := Lib.hid (HZ.out.below hb7 HZ.out.lt)
      have O7 := Lib.hid o7
      clear hb7 o7 HZ
      obtain ⟨z0, z1, zf0, zf1, zl⟩ := HZ7.out.two
      go_wp2_with fail
      refine bodyPost_ret (v := .tuple #[.agg #[.int .i64 (K : Int), .slice A7 PL.length c7], .bool true]) (by simp [results, Tryd.results14, go_sem, *]) rfl ?_
      rw [He.out]
      refine ⟨A7, c7, rfl, ?_, ?_⟩
      · exact ((O7.out.far (by show w.heap.size < wr.heap.size; exact hzl) _).far (by show w.heap.size < wr.heap.size; exact hzl) _).mono (by omega)
      · exact (b7.setCell (Nat.le_refl _) _).setCell (Nat.le_refl _) _
end Go.Proofs.YtlehdmflnglipaaDoor
