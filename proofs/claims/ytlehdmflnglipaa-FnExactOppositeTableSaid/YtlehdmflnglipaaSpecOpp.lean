/- The model's OppositeTable. -/
import Derived.Test.YtlehdmflnglipaaSpecTab2
import Derived.Test.YtlehdmflnglipaaOppPlain
import Derived.Deep.RegionLaw
import Derived.Deep.AppendLies
namespace Go.Proofs.Ytlehdmflnglipaa
open Go.RowKit

set_option maxRecDepth 100000 in
set_option maxHeartbeats 3200000 in
theorem specOppositeTable (q : Int) (A : Option Addr) (n c B : Nat) (xs : List Int) (w : World) (h : Own B w (.slice A n c) 1 n (ints xs)) (hn : n ≤ 1048576) :
    Calls Try.prog 11 #[tabV q A n c] w fun e w' => TabAns w (oppOf q xs) e w' := by
  obtain ⟨i0, hi0, hz0, hz1, hz2⟩ := infoR_parts infoInt
  have b0 := bel2 w (.cells #[.int .i64 q, .slice A n c] 27) (.cells #[.int .i64 0, .slice none 0 0] 27)
  have HO := Lib.hid (h.below b0)
  have HX0 := Lib.hid ((Blk.new1 w #[.int .i64 q, .slice A n c] 27).alloc (.cells #[.int .i64 0, .slice none 0 0] 27))
  have HZ0 := Lib.hid (Blk.new2 w (.cells #[.int .i64 q, .slice A n c] 27) #[.int .i64 0, .slice none 0 0] 27)
  clear h
  go_enter Try.func11, Try.ntmps11
  go_wp2_with fail
  generalize (w.alloc (.cells #[.int .i64 q, .slice A n c] 27)).alloc (.cells #[.int .i64 0, .slice none 0 0] 27) = w0 at *
  refine (specTableOk q A n c B xs _ HO.out hn).mono ?_
  rintro e w1 ⟨rfl, hb1⟩
  have b1 := b0.trans (hb1.mono b0.size)
  have HX1 := Lib.hid (HX0.out.below hb1 HX0.out.lt)
  have HZ1 := Lib.hid (HZ0.out.below hb1 HZ0.out.lt)
  have HO1 := Lib.hid (HO.out.below hb1)
  have hs1 : w.heap.size + 1 < w1.heap.size := HZ1.out.lt
  clear hb1 HO HX0 HZ0 b0
  cases hT : tableOk q xs
  · have He := Lib.hid (oppOf_no hT)
    clear hT
    obtain ⟨z0, z1, zf0, zf1, zl⟩ := HZ1.out.two
    go_wp2_with fail
    refine bodyPost_ret (v := .tuple #[tabV 0 none 0 0, .bool false]) (by simp [results, Try.results11, go_sem, *]) rfl ?_
    rw [He.out]
    refine ⟨none, 0, rfl, Own.none_, ?_⟩
    exact (b1.setCell (by show w.heap.size ≤ w.heap.size + 1; omega) _).setCell (by show w.heap.size ≤ w.heap.size + 1; omega) _
  obtain ⟨N, rfl, hTab⟩ := tableOk_iff hT
  have h1 := hTab.lo
  have h40 := hTab.hi
  have hsq := sq_le h40
  have HT := Lib.hid hTab
  have He := Lib.hid (oppOf_yes hTab)
  clear hT hTab
  obtain ⟨q0, q1, -, -, ql⟩ := HX1.out.two
  go_wp2_with fail
  have HY2 := Lib.hid (Blk.new1 w1 #[.int .i64 (N : Int), .slice none 0 0] 27)
  have HR2 := Lib.hid (World.ownsRow_nil (w1.alloc (.cells #[.int .i64 (N : Int), .slice none 0 0] 27)) (w1.heap.size + 1) 3 1)
  have b2 := bel1 w1 (.cells #[.int .i64 (N : Int), .slice none 0 0] 27)
  have hs2 : w1.heap.size + 1 ≤ (w1.alloc (.cells #[.int .i64 (N : Int), .slice none 0 0] 27)).heap.size := by simp
  generalize w1.alloc (.cells #[.int .i64 (N : Int), .slice none 0 0] 27) = w2 at *
  have HXW := Lib.hid (fun (W : World) (hW : Below w1.heap.size w1 W) => HX1.out.below hW HX1.out.lt)
  have HZW := Lib.hid (fun (W : World) (hW : Below w1.heap.size w1 W) => HZ1.out.below hW HZ1.out.lt)
  have HOW := Lib.hid (fun (W : World) (hW : Below w1.heap.size w1 W) => HO1.out.below hW)
  clear q0 q1 ql HX1 HZ1 HO1
  go_loopw [5] (fun p wr => ∃ (i : Nat) (vv : Value), p = .int .i64 i ∧ i ≤ N ∧ Hid (Blk wr w1.heap.size 27 #[.int .i64 (N : Int), vv]) ∧ Hid (wr.ownsRow (w1.heap.size + 1) 3 1 vv (i * N) (ints (gridTo N (oppF N xs) i))) ∧ Below w1.heap.size w1 wr ∧ w1.heap.size + 1 ≤ wr.heap.size) (fun p _ => N - (intOf p).toNat)
  case atStart => exact ⟨0, _, rfl, Nat.zero_le _, HY2, by simpa [gridTo, ints] using HR2, b2, hs2⟩
  case round =>
    clear HR2 HY2 b2 hs2
    obtain ⟨i, vv, rfl, hi, HY, HR, hb, hs⟩ := hrel
    obtain ⟨q0, q1, -, -, ql⟩ := (HXW.out _ hb).two
    by_cases hlt : i < N
    · have HR0 : Hid (wr.ownsRow (w1.heap.size + 1) 3 1 vv (i * N + 0) (ints (gridTo N (oppF N xs) i ++ gridRow (oppF N xs) i 0))) := by show World.ownsRow _ _ _ _ _ _ _; rw [show gridRow (oppF N xs) i 0 = [] from rfl, List.append_nil]; exact HR.out
      have hiN := row_le hlt h40
      have HGs := Lib.hid (gridTo_succ N (oppF N xs) i)
      have HGs2 := Lib.hid (Nat.succ_mul i N)
      generalize gridTo N (oppF N xs) i = PL at *
      generalize hKK : i * N = KK at *
      have HKK := Lib.hid hKK
      clear HR hKK
      go_wp2_with fail
      obtain ⟨wo, rfl⟩ : ∃ y : World, y = wr := ⟨_, rfl⟩
      clear q0 q1 ql
      go_loopw [6] (fun p wr => ∃ (j : Nat) (vv : Value), p = .int .i64 j ∧ j ≤ N ∧ Hid (Blk wr w1.heap.size 27 #[.int .i64 (N : Int), vv]) ∧ Hid (wr.ownsRow (w1.heap.size + 1) 3 1 vv (KK + j) (ints (PL ++ gridRow (oppF N xs) i j))) ∧ Below w1.heap.size w1 wr ∧ w1.heap.size + 1 ≤ wr.heap.size) (fun p _ => N - (intOf p).toNat)
      case atStart => exact ⟨0, vv, rfl, Nat.zero_le _, HY, HR0, hb, hs⟩
      case round =>
        clear HR0 HY hb hs
        obtain ⟨j, vv, rfl, hj, HY, HR, hb, hs⟩ := hrel
        obtain ⟨q0, q1, -, -, ql⟩ := (HXW.out _ hb).two
        by_cases hjt : j < N
        · have HS := Lib.hid (gridRow_succ (oppF N xs) i j)
          obtain ⟨z, hz⟩ : ∃ z, tmul N xs j i = z := ⟨_, rfl⟩
          rw [show oppF N xs i j = z from hz] at HS
          have HTM := Lib.hid (fun (W : World) (hW : Below w1.heap.size w1 W) => by have h := l08Times_any N j i A n c B xs W (HOW.out W hW) HT.out hjt hlt; rw [hz] at h; exact h)
          clear hz
          generalize gridRow (oppF N xs) i j = PT at *
          generalize hPP : PL ++ PT = PP at *
          have HPP := Lib.hid hPP
          clear hPP
          obtain ⟨A9, c9, hv9⟩ := (Own.of_row HR.out).form
          subst hv9
          have t1 : wr.cell? ⟨w1.heap.size, 1, none⟩ = some (.slice A9 (KK + j) c9) := HY.out.cell 1
          have hcl := hb.drew
          go_wp2_with fail
          go_region_law (first
            | (refine (id ?_); rw [if_pos (by simp [Region.wanted])]; go_simp; refine (HTM.out _ hcl).mono ?_; rintro e w7 ⟨rfl, hb7⟩; have hb7' : Below wr.heap.size wr w7 := (Below.refl _ wr).drew.trans hb7; have HY7 := Lib.hid (HY.out.below hb7' HY.out.lt); have t7 : w7.cell? ⟨w1.heap.size, 1, none⟩ = some (.slice A9 (KK + j) c9) := HY7.out.cell 1; have t8 : (w7.alloc (.cells #[.int .i64 (z : Int)] 3)).cell? ⟨w1.heap.size, 1, none⟩ = some (.slice A9 (KK + j) c9) := (HY7.out.alloc _).cell 1; obtain ⟨p0, p1, -, -, pl⟩ := (HXW.out _ (hb.trans (hb7'.mono hb.size))).two; go_simp)
            | (refine (id ?_); rw [if_pos (by simp [Region.wanted])]; refine wp_append_lies _ (.tmp 27) (.tmp 32) 22 rfl (w1.heap.size + 1) 3 i0 (.int .i64 0) 1 8 Try.underlying22 hi0 hz0 hz1 hz2 rfl (by omega) (.slice A9 (KK + j) c9) (KK + j) (ints PP) (by first | rfl | simp [Act.eval, Act.put]) ((row_below HR.out hb7').alloc _) ⟨w7.heap.size, 0, none⟩ 1 1 [.int .i64 (z : Int)] (by first | rfl | simp [Act.eval, Act.put]) rfl (news1G ((Blk.new1 w7 _ _).cell 0)) (one_intG z) (by omega) (by unfold maxLen; omega) (by omega) (by have := hb7'.size; simp; omega) (w7.heap.size + 1) (by simp) ?_; intro g9 cp9 w9 hown9 hgrow9 hat9 hlt9; have HY9 : Hid (Blk w9 w1.heap.size 27 #[.int .i64 (N : Int), .slice A9 (KK + j) c9]) := (hgrow9.block _ (by have := hb7'.size; simp; omega) (fun h => by have := ownsRow_ge HR.out h; omega)).trans (HY7.out.alloc _); have z1 : w9.cell? ⟨w1.heap.size, 1, none⟩ = some (.slice A9 (KK + j) c9) := HY9.out.cell 1; have zf : w9.frozen? ⟨w1.heap.size, 1, none⟩ = false := HY9.out.frozen 1))
          all_goals (
            have HY10 : Hid (Blk (w9.setCell ⟨w1.heap.size, 1, none⟩ (.slice (some ⟨g9, 0, none⟩) (KK + j + 1) cp9)) w1.heap.size 27 #[.int .i64 (N : Int), .slice (some ⟨g9, 0, none⟩) (KK + j + 1) cp9]) := HY9.out.set_ 1 _
            have HR10 : Hid ((w9.setCell ⟨w1.heap.size, 1, none⟩ (.slice (some ⟨g9, 0, none⟩) (KK + j + 1) cp9)).ownsRow (w1.heap.size + 1) 3 1 (.slice (some ⟨g9, 0, none⟩) (KK + j + 1) cp9) (KK + (j + 1)) (ints (PL ++ gridRow (oppF N xs) i (j + 1)))) := by
              show World.ownsRow _ _ _ _ _ _ _
              rw [HS.out, ← List.append_assoc, HPP.out, ← Nat.add_assoc]
              refine ownsRow_sameH (W := w9) ?_ (fun b hb => Below.heap_setCell w9 ⟨w1.heap.size, 1, none⟩ _ b (by show b ≠ w1.heap.size; omega))
              simpa [ints] using hown9
            have b9 : Below w1.heap.size w1 w9 := grown_one (row_below HR.out hb7') hgrow9 (hb.trans (hb7'.mono hb.size)) (by omega) (by have := hb7'.size; omega)
            have b10 := b9.setCell (p := ⟨w1.heap.size, 1, none⟩) (Nat.le_refl _) (.slice (some ⟨g9, 0, none⟩) (KK + j + 1) cp9)
            have hs10 : w1.heap.size + 1 ≤ (w9.setCell ⟨w1.heap.size, 1, none⟩ (.slice (some ⟨g9, 0, none⟩) (KK + j + 1) cp9)).heap.size := by have h9 := hgrow9.size; have := hb7'.size; simp at h9; simp; omega
            clear hown9 hgrow9 hat9 z1 zf HY9 b9 t1 t7 t8 hb7 hb7' p0 p1 pl
            go_wp2_with fail
            go_roundw
            case rel => exact ⟨j + 1, _, by go_num, by omega, HY10, HR10, b10, hs10⟩
            case measure => simp [intOf]; omega)
        · obtain rfl : N = j := by omega
          have HRn : Hid (wr.ownsRow (w1.heap.size + 1) 3 1 vv ((i + 1) * N) (ints (gridTo N (oppF N xs) (i + 1)))) := by
            show World.ownsRow _ _ _ _ _ _ _
            rw [HGs.out, HGs2.out]; exact HR.out
          go_wp2_with fail
          go_roundw
          case rel => exact ⟨i + 1, vv, by go_num, by omega, HY, HRn, hb, hs⟩
          case measure => simp [intOf]; omega
    · obtain rfl : N = i := by omega
      obtain ⟨A9, c9, hv9⟩ := (Own.of_row HR.out).form
      subst hv9
      have HO := Lib.hid (Own.of_row HR.out)
      obtain ⟨t0, t1, -, -, tl⟩ := HY.out.two
      obtain ⟨z0, z1, zf0, zf1, zl⟩ := (HZW.out _ hb).two
      go_wp2_with fail
      refine bodyPost_ret (v := .tuple #[tabV N A9 (N * N) c9, .bool true]) (by simp [results, Try.results11, go_sem, *]) rfl ?_
      rw [He.out]
      have hbw := b1.trans (hb.mono b1.size)
      refine ⟨A9, c9, by rw [grid_len], ?_, ?_⟩
      · rw [grid_len]
        exact ((HO.out.far (by show w.heap.size + 1 < w1.heap.size + 1; omega) _).far (by show w.heap.size + 1 < w1.heap.size + 1; omega) _).mono (by omega)
      · exact (hbw.setCell (by show w.heap.size ≤ w.heap.size + 1; omega) _).setCell (by show w.heap.size ≤ w.heap.size + 1; omega) _
end Go.Proofs.Ytlehdmflnglipaa
