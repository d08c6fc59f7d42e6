/- The program's BracketSystem. -/
import Derived.Test.YtlehdmflnglipaaDoorImplKnown
namespace Go.Proofs.YtlehdmflnglipaaDoor
open Go.RowKit

theorem brackOf_no {k : Int} (h : ¬ (1 ≤ k ∧ k ≤ 2)) : brackOf k = (0, [], false) := by unfold brackOf; rw [if_neg h]
theorem brackOf_yes {k : Nat} (h : 1 ≤ k ∧ k ≤ 2) : brackOf k = (2 * (k : Int), brackTo k, true) := by unfold brackOf; rw [if_pos (by omega)]; rfl
set_option maxRecDepth 100000 in
set_option maxHeartbeats 1600000 in
theorem implBracketSystem (k : Int) (w : World) (hL : Let w) :
    Calls Tryd.prog 18 #[.int .i64 k] w fun e w' => SysAns w (brackOf k) e w' := by
  obtain ⟨i0, hi0, hz0, hz1, hz2⟩ := infoR_parts infoMaker
  have HL := Lib.hid (fun (w' : World) (hb : Below w.heap.size w w') => hL.keep hb (Nat.le_refl _))
  clear hL
  have b1 := bel1 w zSys
  have HZ1 := Lib.hid (Blk.new1 w #[.int .i64 0, .slice none 0 0] 24)
  by_cases hk : 1 ≤ k ∧ k ≤ 2
  case neg =>
    have He := Lib.hid (brackOf_no hk)
    obtain ⟨z0, z1, zf0, zf1, zl⟩ := HZ1.out.two
    have hk2 : k < 1 ∨ 2 < k := by omega
    clear hk
    by_cases hk1 : k < 1
    · clear hk2
      go_enter Tryd.func18, Tryd.ntmps18
      go_wp2_with fail
      refine bodyPost_ret (v := .tuple #[.agg #[.int .i64 0, .slice none 0 0], .bool false]) (by simp [results, Tryd.results18, go_sem, *]) rfl ?_
      rw [He.out]
      exact ⟨none, 0, rfl, Own.none_, b1⟩
    · have hk3 : 2 < k := by omega
      clear hk2
      go_enter Tryd.func18, Tryd.ntmps18
      go_wp2_with fail
      refine bodyPost_ret (v := .tuple #[.agg #[.int .i64 0, .slice none 0 0], .bool false]) (by simp [results, Tryd.results18, go_sem, *]) rfl ?_
      rw [He.out]
      exact ⟨none, 0, rfl, Own.none_, b1⟩
  obtain ⟨K, rfl⟩ : ∃ K : Nat, k = K := ⟨k.toNat, by omega⟩
  have hK1 : 1 ≤ K := by omega
  have hK4 : K ≤ 2 := by omega
  have He := Lib.hid (brackOf_yes (k := K) (by omega))
  clear hk
  have hs1 : (w.alloc zSys).heap.size = w.heap.size + 1 := by simp
  have HM1 := Lib.hid (MakersTo.nil (w.heap.size + 1) (w.alloc zSys))
  change Below w.heap.size w (w.alloc (.cells #[.int .i64 0, .slice none 0 0] 24)) at b1
  change (w.alloc (.cells #[.int .i64 0, .slice none 0 0] 24)).heap.size = w.heap.size + 1 at hs1
  change Hid (MakersTo (w.heap.size + 1) (w.alloc (.cells #[.int .i64 0, .slice none 0 0] 24)) _ _ _) at HM1
  go_enter Tryd.func18, Tryd.ntmps18
  go_wp2_with fail
  generalize w.alloc (.cells #[.int .i64 0, .slice none 0 0] 24) = w1 at *
  go_loopw [4, 14] (fun v p wr => ∃ (i : Nat) (fs : List Value), p = .int .i64 i ∧ i ≤ K ∧ Hid (Blk wr w.heap.size 24 #[.int .i64 0, .slice none 0 0]) ∧ Hid (MakersTo (w.heap.size + 1) wr v (brackTo i) fs) ∧ Below w.heap.size w wr) (fun _ p _ => K - (intOf p).toNat)
  case atStart => exact ⟨0, [], rfl, Nat.zero_le _, HZ1, HM1, b1⟩
  case round =>
    clear HM1 HZ1 b1
    obtain ⟨i, fs, rfl, hi, HZ, HM, hb⟩ := hrel
    have hzl := HZ.out.lt
    by_cases hlt : i < K
    · have Hst := Lib.hid (brackTo_succ i)
      have HP6 := Lib.hid (Blk.new1 wr #[.int .i64 (i : Int)] 3)
      have HM6 := Lib.hid (HM.out.alloc (.cells #[.int .i64 (i : Int)] 3))
      have HZ6 := Lib.hid (HZ.out.alloc (.cells #[.int .i64 (i : Int)] 3))
      have hb6 := hb.alloc hb.size (.cells #[.int .i64 (i : Int)] 3)
      have hpl : (brackTo i).length ≤ 4 := by rw [brackTo_len]; omega
      generalize brackTo i = PL at *
      go_wp2_with (at_builtin; refine wpList_append_own _ rfl _ _ 49 rfl (w.heap.size + 1) 83 i0 .nilFunc 1 8 Tryd.underlying49 hi0 hz0 hz1 hz2 rfl (by decide) _ _ _ rfl (HM6.out.1.alloc _) ⟨wr.heap.size + 1, 0, none⟩ 1 1 [.func (.func 38) #[] #[.pointer (some ⟨wr.heap.size, 0, none⟩)]] rfl rfl ?c1 ?c2 ?c3 ?c4 ?c5 ?_)
      case c1 => intro j u hj; match j, hj with | 0, hj => (simp at hj; subst hj; simp [Addr.add])
      case c2 => exact one_funcK _ _
      case c3 => unfold maxLen; omega
      case c4 => omega
      case c5 => simp; omega
      intro v' w6 hown' hgrow _
      have HM7 : Hid (MakersTo (w.heap.size + 1) w6 v' (brackTo (i + 1)) (fs ++ [.func (.func 38) #[] #[.pointer (some ⟨wr.heap.size, 0, none⟩)]])) := by
        show MakersTo _ _ _ _ _
        rw [Hst.out]
        exact HM6.out.next hown' hgrow (brackMaker HP6.out (by omega))
      have hb7 : Below w.heap.size w w6 := grown_one HM6.out.1 hgrow hb6 (by omega) (by simp; omega)
      have HZ7 : Hid (Blk w6 w.heap.size 24 #[.int .i64 0, .slice none 0 0]) := (FKept.grown HM6.out.1 hgrow).blk (by decide) HZ6.out
      clear hown' hgrow HM6 HZ6 HP6 hb6 HM HZ hb
      go_wp2_with fail
      go_roundw
      case rel => exact ⟨i + 1, _, by go_num, by omega, HZ7, HM7, hb7⟩
      case measure => simp [intOf]; omega
    · obtain rfl : K = i := by omega
      have HL1 := HL.out _ hb
      obtain ⟨A9, c9, hv9⟩ := (HM.out.done HL1).form
      have HD := Lib.hid (HM.out.done HL1)
      subst hv9
      have hpl := brackTo_len K
      have HMB := Lib.hid (madeBy_any (2 * (K : Int)) A9 (brackTo K).length c9 (w.heap.size + 1) (brackTo K) wr HD.out rfl (by omega))
      clear hpl HM HL1
      generalize brackTo K = PL at *
      go_wp2_with fail
      refine HMB.out.mono ?_
      rintro e w7 ⟨A7, c7, rfl, o7, hb7⟩
      have b7 := hb.trans (hb7.mono hb.size)
      have HZ7 := Lib.hid (HZ.out.below hb7 HZ.out.lt)
      have O7 := Lib.hid o7
      clear hb7 o7 HZ
      obtain ⟨z0, z1, zf0, zf1, zl⟩ := HZ7.out.two
      go_wp2_with fail
      refine bodyPost_ret (v := .tuple #[.agg #[.int .i64 (2 * (K : Int)), .slice A7 PL.length c7], .bool true]) (by simp [results, Tryd.results18, go_sem, *]) rfl ?_
      rw [He.out]
      refine ⟨A7, c7, rfl, ?_, ?_⟩
      · exact ((O7.out.far (by show w.heap.size < wr.heap.size; exact hzl) _).far (by show w.heap.size < wr.heap.size; exact hzl) _).mono (by omega)
      · exact (b7.setCell (Nat.le_refl _) _).setCell (Nat.le_refl _) _
end Go.Proofs.YtlehdmflnglipaaDoor
