/- The model's SortingSystem. -/
import Derived.Test.YtlehdmflnglipaaDoorSpecKnown
namespace Go.Proofs.YtlehdmflnglipaaDoor
open Go.RowKit

theorem sortOf_noS {k : Int} (h : ¬ (1 ≤ k ∧ k ≤ 4)) : sortOf k = (0, [], false) := by unfold sortOf; rw [if_neg h]
theorem sortOf_yesS {k : Nat} (h : 1 ≤ k ∧ k ≤ 4) : sortOf k = ((k : Int), sortTo k, true) := by unfold sortOf; rw [if_pos (by omega)]; rfl
set_option maxRecDepth 100000 in
set_option maxHeartbeats 3200000 in
theorem specSortingSystem (k : Int) (w : World) :
    Calls Tryd.prog 13 #[.int .i64 k] w fun e w' => SysAns w (sortOf k) e w' := by
  obtain ⟨i0, hi0, hz0, hz1, hz2⟩ := infoR_parts infoRuleS
  have b1 := bel1 w (.cells #[.int .i64 0, .slice none 0 0] 24)
  have HZ1 := Lib.hid (Blk.new1 w #[.int .i64 0, .slice none 0 0] 24)
  go_enter Tryd.func13, Tryd.ntmps13
  go_wp2_with fail
  by_cases hk : 1 ≤ k ∧ k ≤ 4
  case neg =>
    refine (l01In_no k 1 4 _ (by omega)).mono ?_
    rintro e w2 ⟨rfl, rfl⟩
    have He := Lib.hid (sortOf_noS hk)
    clear hk
    obtain ⟨z0, z1, zf0, zf1, zl⟩ := HZ1.out.two
    go_wp2_with fail
    refine bodyPost_ret (v := .tuple #[.agg #[.int .i64 0, .slice none 0 0], .bool false]) (by simp [results, Tryd.results13, go_sem, *]) rfl ?_
    rw [He.out]
    exact ⟨none, 0, rfl, Own.none_, b1⟩
  refine (l01In_yes k 1 4 _ hk.1 hk.2).mono ?_
  rintro e w2 ⟨rfl, rfl⟩
  obtain ⟨K, rfl⟩ : ∃ K : Nat, k = K := ⟨k.toNat, by omega⟩
  have hK1 : 1 ≤ K := by omega
  have hK4 : K ≤ 4 := by omega
  have He := Lib.hid (sortOf_yesS (k := K) (by omega))
  clear hk
  have HZ2 := Lib.hid (HZ1.out.alloc (.cells #[.int .i64 (K : Int), .slice none 0 0] 24))
  have HY2 := Lib.hid (Blk.new2 w (.cells #[.int .i64 0, .slice none 0 0] 24) #[.int .i64 (K : Int), .slice none 0 0] 24)
  have HR2 := Lib.hid (World.ownsRow_nil ((w.alloc (.cells #[.int .i64 0, .slice none 0 0] 24)).alloc (.cells #[.int .i64 (K : Int), .slice none 0 0] 24)) (w.heap.size + 2) 44 2)
  have b2 := bel2 w (.cells #[.int .i64 0, .slice none 0 0] 24) (.cells #[.int .i64 (K : Int), .slice none 0 0] 24)
  have hs2 : w.heap.size + 2 ≤ ((w.alloc (.cells #[.int .i64 0, .slice none 0 0] 24)).alloc (.cells #[.int .i64 (K : Int), .slice none 0 0] 24)).heap.size := by simp
  clear HZ1 b1
  go_wp2_with fail
  generalize (w.alloc (.cells #[.int .i64 0, .slice none 0 0] 24)).alloc (.cells #[.int .i64 (K : Int), .slice none 0 0] 24) = w2 at *
  go_loopw [5] (fun p wr => ∃ (i : Nat) (vv : Value), p = .int .i64 i ∧ i ≤ K ∧ Hid (Blk wr (w.heap.size + 1) 24 #[.int .i64 (K : Int), vv]) ∧ Hid (Blk wr w.heap.size 24 #[.int .i64 0, .slice none 0 0]) ∧ Hid (wr.ownsRow (w.heap.size + 2) 44 2 vv (sortTo i).length (rulesC (sortTo i))) ∧ Below w.heap.size w wr ∧ w.heap.size + 2 ≤ wr.heap.size) (fun p _ => K - (intOf p).toNat)
  case atStart => exact ⟨1, _, rfl, by omega, HY2, HZ2, HR2, b2, hs2⟩
  case round =>
    clear HR2 HY2 HZ2 b2 hs2
    obtain ⟨i, vv, rfl, hi, HY, HZ, HR, hb, hs⟩ := hrel
    by_cases hlt : i < K
    · have Hst := Lib.hid (sortTo_succ i)
      have hi4 : i < 4 := by omega
      have HRl := Lib.hid (fun x (hx : x ≤ i) => sortTo_row i x hi4 hx)
      have HR0 : Hid (wr.ownsRow (w.heap.size + 2) 44 2 vv (sortTo i ++ sortRow i 0).length (rulesC (sortTo i ++ sortRow i 0))) := by
        show World.ownsRow _ _ _ _ _ _ _
        rw [show sortRow i 0 = [] from rfl, List.append_nil]; exact HR.out
      clear HR
      go_wp2_with fail
      obtain ⟨wo, rfl⟩ : ∃ y : World, y = wr := ⟨_, rfl⟩
      go_loopw [6] (fun p wr => ∃ (x : Nat) (vv : Value), p = .int .i64 x ∧ x ≤ i ∧ Hid (Blk wr (w.heap.size + 1) 24 #[.int .i64 (K : Int), vv]) ∧ Hid (Blk wr w.heap.size 24 #[.int .i64 0, .slice none 0 0]) ∧ Hid (wr.ownsRow (w.heap.size + 2) 44 2 vv (sortTo i ++ sortRow i x).length (rulesC (sortTo i ++ sortRow i x))) ∧ Below w.heap.size w wr ∧ w.heap.size + 2 ≤ wr.heap.size) (fun p _ => i - (intOf p).toNat)
      case atStart => exact ⟨0, _, rfl, Nat.zero_le _, HY, HZ, HR0, hb, hs⟩
      case round =>
        clear HR0 HY HZ hb hs
        obtain ⟨x, vv, rfl, hx, HY, HZ, HR, hb, hs⟩ := hrel
        by_cases hxi : x < i
        · have Hst3 := Lib.hid (show sortTo i ++ sortRow i (x + 1) = (sortTo i ++ sortRow i x) ++ [(letW [i, x], letW [x, i])] by rw [sortRow_succ, List.append_assoc])
          have hpl := HRl.out x (by omega)
          have hst2 : letW [i] ++ letW [x] = letW [i, x] := letW_two _ _
          have Hst2 := Lib.hid hst2
          have hst4 : letW [x] ++ letW [i] = letW [x, i] := letW_two _ _
          have Hst4 := Lib.hid hst4
          have hsz1 : (letW [i]).size = 1 := letW_size [i]
          have hsz2 : (letW [x]).size = 1 := letW_size [x]
          have HLt := Lib.hid (fun (W : World) => l13Letter_any i W hi4)
          have HLt2 := Lib.hid (fun (W : World) => l13Letter_any x W (by omega))
          generalize hPP : sortTo i ++ sortRow i x = PL at *
          have HPP : Hid (PL = PL) := rfl
          generalize letW [i] = u at *
          generalize letW [x] = v at *
          clear hst2 hst4 hPP
          obtain ⟨A9, c9, hv9⟩ := (Own.of_row HR.out).form
          subst hv9
          have t1 : wr.cell? ⟨w.heap.size + 1, 1, none⟩ = some (.slice A9 PL.length c9) := HY.out.cell 1
          have hd0 : Below wr.heap.size wr wr.drew := (Below.refl _ wr).drew
          go_wp2_with fail
          go_region_law (first
            | (refine (id ?_); rw [if_pos (by simp [Region.wanted])]; go_simp; (first | refine (HLt.out _).mono ?_ | refine (HLt2.out _).mono ?_); rintro e w7 ⟨rfl, hb7⟩; have hb7' := Below.trans (by assumption : Below wr.heap.size wr _) (hb7.mono (Below.size (by assumption))); clear hb7; have HY7 := Lib.hid (HY.out.below hb7' HY.out.lt); have t7 : w7.cell? ⟨w.heap.size + 1, 1, none⟩ = some (.slice A9 PL.length c9) := HY7.out.cell 1; have t8 : (w7.alloc (.cells #[.string (u ++ v), .string (v ++ u)] 44)).cell? ⟨w.heap.size + 1, 1, none⟩ = some (.slice A9 PL.length c9) := (HY7.out.alloc _).cell 1; go_simp)
            | (refine (id ?_); rw [if_pos (by simp [Region.wanted])]; refine wp_append_lies _ (.tmp 24) (.tmp 36) 22 rfl (w.heap.size + 2) 44 i0 (.agg #[.string ⟨#[]⟩, .string ⟨#[]⟩]) 2 32 Tryd.underlying22 hi0 hz0 hz1 hz2 rfl (by omega) (.slice A9 PL.length c9) PL.length (rulesC PL) (by first | rfl | simp [Act.eval, Act.put]) ((row_below HR.out hb7').alloc _) ⟨w7.heap.size, 0, none⟩ 1 1 [.string (u ++ v), .string (v ++ u)] (by first | rfl | simp [Act.eval, Act.put]) rfl (news2S (Blk.new1 w7 _ _)) (two_strS (u ++ v) (v ++ u)) (by omega) (by unfold maxLen; omega) (by omega) (by have := hb7'.size; simp; omega) (w7.heap.size + 1) (by simp) ?_; intro g9 cp9 w9 hown9 hgrow9 hat9 hlt9; have HY9 : Hid (Blk w9 (w.heap.size + 1) 24 #[.int .i64 (K : Int), .slice A9 PL.length c9]) := (hgrow9.block _ (by have := hb7'.size; simp; omega) (fun h => by have := ownsRow_ge HR.out h; omega)).trans (HY7.out.alloc _); have z1 : w9.cell? ⟨w.heap.size + 1, 1, none⟩ = some (.slice A9 PL.length c9) := HY9.out.cell 1; have zf : w9.frozen? ⟨w.heap.size + 1, 1, none⟩ = false := HY9.out.frozen 1))
          all_goals (
            have HZ9 : Hid (Blk w9 w.heap.size 24 #[.int .i64 0, .slice none 0 0]) := (hgrow9.block _ (by have := hb7'.size; simp; omega) (fun h => by have := ownsRow_ge HR.out h; omega)).trans ((HZ.out.below hb7' HZ.out.lt).alloc _)
            have HY10 : Hid (Blk (w9.setCell ⟨w.heap.size + 1, 1, none⟩ (.slice (some ⟨g9, 0, none⟩) (PL.length + 1) cp9)) (w.heap.size + 1) 24 #[.int .i64 (K : Int), .slice (some ⟨g9, 0, none⟩) (PL.length + 1) cp9]) := HY9.out.set_ 1 _
            have HZ10 : Hid (Blk (w9.setCell ⟨w.heap.size + 1, 1, none⟩ (.slice (some ⟨g9, 0, none⟩) (PL.length + 1) cp9)) w.heap.size 24 #[.int .i64 0, .slice none 0 0]) := HZ9.out.far (by show w.heap.size ≠ w.heap.size + 1; omega) _
            have HR10 : Hid ((w9.setCell ⟨w.heap.size + 1, 1, none⟩ (.slice (some ⟨g9, 0, none⟩) (PL.length + 1) cp9)).ownsRow (w.heap.size + 2) 44 2 (.slice (some ⟨g9, 0, none⟩) (PL.length + 1) cp9) (sortTo i ++ sortRow i (x + 1)).length (rulesC (sortTo i ++ sortRow i (x + 1)))) := by
              show World.ownsRow _ _ _ _ _ _ _
              rw [Hst3.out, rulesC_snoc, List.length_append, ← Hst2.out, ← Hst4.out]
              exact ownsRow_sameS (W := w9) hown9 (fun b hb => Below.heap_setCell w9 ⟨w.heap.size + 1, 1, none⟩ _ b (by show b ≠ w.heap.size + 1; omega))
            have b9 : Below w.heap.size w w9 := grown_one (row_below HR.out hb7') hgrow9 (hb.trans (hb7'.mono hb.size)) (by omega) (by have := hb7'.size; omega)
            have b10 := b9.setCell (p := ⟨w.heap.size + 1, 1, none⟩) (by show w.heap.size ≤ w.heap.size + 1; omega) (.slice (some ⟨g9, 0, none⟩) (PL.length + 1) cp9)
            have hs10 : w.heap.size + 2 ≤ (w9.setCell ⟨w.heap.size + 1, 1, none⟩ (.slice (some ⟨g9, 0, none⟩) (PL.length + 1) cp9)).heap.size := by have h9 := hgrow9.size; have := hb7'.size; simp at h9; simp; omega
            clear hown9 hgrow9 hat9 z1 zf HY9 HZ9 b9 t1
            go_wp2_with fail
            go_roundw
            case rel => exact ⟨x + 1, _, by go_num, by omega, HY10, HZ10, HR10, b10, hs10⟩
            case measure => simp [intOf]; omega)
        · obtain rfl : i = x := by omega
          have HRn : Hid (wr.ownsRow (w.heap.size + 2) 44 2 vv (sortTo (i + 1)).length (rulesC (sortTo (i + 1)))) := by
            show World.ownsRow _ _ _ _ _ _ _
            rw [Hst.out]; exact HR.out
          go_wp2_with fail
          go_roundw
          case rel => exact ⟨i + 1, vv, by go_num, by omega, HY, HZ, HRn, hb, hs⟩
          case measure => simp [intOf]; omega
    · obtain rfl : K = i := by omega
      obtain ⟨A9, c9, hv9⟩ := (Own.of_row HR.out).form
      subst hv9
      have HO := Lib.hid (Own.of_row HR.out)
      obtain ⟨t0, t1, -, -, tl⟩ := HY.out.two
      obtain ⟨z0, z1, zf0, zf1, zl⟩ := HZ.out.two
      generalize sortTo K = PL at *
      go_wp2_with fail
      refine bodyPost_ret (v := .tuple #[.agg #[.int .i64 (K : Int), .slice A9 PL.length c9], .bool true]) (by simp [results, Tryd.results13, go_sem, *]) rfl ?_
      rw [He.out]
      refine ⟨A9, c9, rfl, ?_, ?_⟩
      · exact ((HO.out.far (by show w.heap.size < w.heap.size + 2; omega) _).far (by show w.heap.size < w.heap.size + 2; omega) _).mono (by omega)
      · exact (hb.setCell (Nat.le_refl _) _).setCell (Nat.le_refl _) _
end Go.Proofs.YtlehdmflnglipaaDoor
