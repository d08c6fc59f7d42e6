/- The model's CommutatorsOf. -/
import Derived.Test.YtkiomohpmajjcaaComPlain
namespace Go.Proofs.Ytkiomohpmajjcaa
open Go.RowKit

set_option maxRecDepth 100000 in
set_option maxHeartbeats 1600000 in
theorem specCommutatorsOf (q : Int) (A : Option Addr) (n c B : Nat) (xs : List Int) (w : World) (h : Own B w (.slice A n c) 1 n (ints xs)) (hn : n ≤ 1048576) :
    Calls Try.prog 34 #[tabV q A n c] w fun e w' => ∃ v, e = .returned v ∧ Own w.heap.size w' v 1 (commOf q xs).length (ints (commOf q xs)) ∧ Below w.heap.size w w' := by
  obtain ⟨i0, hi0, hz0, hz1, hz2⟩ := infoR_parts infoInt
  have HO := Lib.hid (h.below (bel1 w (.cells #[.int .i64 q, .slice A n c] 28)))
  clear h
  go_enter Try.func34, Try.ntmps34
  go_wp2_with fail
  refine (specIsGroup q A n c B xs _ HO.out hn).mono ?_
  rintro e w1 ⟨rfl, hb1⟩
  have b1 := (bel1 w _).trans (hb1.mono (by simp))
  have X1 := Lib.hid ((Blk.new1 w _ _).below hb1 (by simp))
  have O1 := Lib.hid (HO.out.below hb1)
  obtain ⟨q0, q1, -, -, ql⟩ := X1.out.two
  clear hb1 HO
  cases hg : isGroupB q xs
  · have He := Lib.hid (commOf_no hg)
    clear hg
    go_wp2_with fail
    go_ret
    exact ⟨_, rfl, by rw [He.out]; exact Own.none_, b1⟩
  · obtain ⟨N, rfl, hG⟩ := isGroup_iff hg
    have He := Lib.hid (commOf_yes hG)
    have h1 := hG.tab.lo
    have h40 := hG.tab.hi
    have HG := Lib.hid hG
    clear hg hG
    go_wp2_with fail
    have HR0 := Lib.hid (row_empty w1 3)
    have hbn := bel1 w1 (.cells #[] 3)
    have hbs1 := b1.size
    clear q0 q1
    generalize w1.alloc (.cells #[] 3) = wn at *
    go_loopw [3, 4] (fun v x' wr => ∃ (x L : Nat), x' = .int .i64 x ∧ x ≤ N ∧ L = x * N ∧ Hid (wr.ownsRow w1.heap.size 3 1 v L (ints (nints (comTo N xs x)))) ∧ Below w1.heap.size w1 wr) (fun _ x' _ => N - (intOf x').toNat)
    case atStart => exact ⟨0, 0, rfl, Nat.zero_le _, by simp, HR0, hbn⟩
    case round =>
      obtain ⟨x, L, rfl, hxN, hL, HR, hb⟩ := hrel
      obtain ⟨q0, q1, -, -, -⟩ := (X1.out.below hb X1.out.lt).two
      have HL := Lib.hid hL
      have hL16 : L ≤ 1600 := by rw [hL]; exact Nat.le_trans (Nat.mul_le_mul_right N hxN) (sq_le h40)
      clear hL
      by_cases hlt : x < N
      · go_wp2_with fail
        clear q0 q1
        have HR1 : Hid (wr.ownsRow w1.heap.size 3 1 u3 (L + 0) (ints (nints (comTo N xs x ++ comRow N xs x 0)))) := by show World.ownsRow _ _ _ _ _ _ _; simp [comRow]; exact HR.out
        go_loopw [3, 5] (fun v y' wr => ∃ (y : Nat), y' = .int .i64 y ∧ y ≤ N ∧ Hid (wr.ownsRow w1.heap.size 3 1 v (L + y) (ints (nints (comTo N xs x ++ comRow N xs x y)))) ∧ Below w1.heap.size w1 wr) (fun _ y' _ => N - (intOf y').toNat)
        case atStart => exact ⟨0, rfl, Nat.zero_le _, HR1, hb⟩
        case round =>
          clear HR HR1 hb
          obtain ⟨y, rfl, hyN, HR, hb⟩ := hrel
          obtain ⟨q0, q1, -, -, ql2⟩ := (X1.out.below hb X1.out.lt).two
          have hbs := hb.size
          by_cases hylt : y < N
          · obtain ⟨z, hz⟩ : ∃ z, com N xs x y = z := ⟨_, rfl⟩
            have HS := Lib.hid (show nints (comTo N xs x ++ comRow N xs x (y + 1)) = nints (comTo N xs x ++ comRow N xs x y) ++ [(z : Int)] by rw [comRow_succ, ← List.append_assoc, nints_snoc, hz])
            have HSt : Hid (∀ w', Below w1.heap.size w1 w' → w'.cell? ⟨w.heap.size, 0, none⟩ = some (.int .i64 (N : Int)) ∧ w'.cell? ⟨w.heap.size, 1, none⟩ = some (.slice A n c) ∧ Below w1.heap.size w1 w') :=
              fun w' hw => by obtain ⟨y0, y1, -, -, -⟩ := (X1.out.below hw X1.out.lt).two; exact ⟨y0, y1, hw⟩
            have c0 : Below wr.heap.size wr wr.drew := (Below.refl _ wr).drew
            have HW := Lib.hid (fun (w' : World) (hS : Below wr.heap.size wr w') => O1.out.below (hb.trans (hS.mono hbs)))
            have HRx := Lib.hid (fun (w' : World) (hS : Below wr.heap.size wr w') => row_below HR.out hS)
            have hT := HG.out.conj_lt hlt hylt
            have hI := (HG.out.inv_spec hylt).1
            obtain ⟨T, hTq⟩ : ∃ T, conj N xs x y = T := ⟨_, rfl⟩
            obtain ⟨I, hIq⟩ : ∃ I, tinv N xs y = I := ⟨_, rfl⟩
            rw [hTq] at hT
            rw [hIq] at hI
            have hzz : tmul N xs T I = z := by rw [← hz, ← hTq, ← hIq]; rfl
            have HTurn := Lib.hid (fun (w' : World) (hS : Below wr.heap.size wr w') => by have h := l10Turn_any N x y A n c B xs w' (HW.out w' hS) HG.out hlt hylt; rw [hTq] at h; exact h)
            have HInv := Lib.hid (fun (w' : World) (hS : Below wr.heap.size wr w') => by have h := l08Inv_any N y A n c B xs w' (HW.out w' hS) HG.out hylt; rw [hIq] at h; exact h)
            have HTimes := Lib.hid (fun (w' : World) (hS : Below wr.heap.size wr w') => by have h := l08Times_any N T I A n c B xs w' (HW.out w' hS) HG.out.tab hT hI; rw [hzz] at h; exact h)
            clear hz hTq hIq hzz
            go_wp2_with fail
            go_region_held3 (fun w' => w'.cell? ⟨w.heap.size, 0, none⟩ = some (.int .i64 (N : Int)) ∧ w'.cell? ⟨w.heap.size, 1, none⟩ = some (.slice A n c) ∧ Below w1.heap.size w1 w')
              ((refine HSt.out _ ?_; first | exact b10 | exact hb.trans ((by assumption : Below wr.heap.size wr _).mono hbs) | exact hb.trans ((bel_alloc (by assumption : Below wr.heap.size wr _) _).mono hbs)))
              ((first
                | (go_at_call 52; refine (HTurn.out _ (by assumption)).mono ?_; rintro e w7 ⟨rfl, hb7⟩; have b7 := Below.trans (by assumption : Below wr.heap.size wr _) (hb7.mono (Below.size (by assumption))); clear hb7)
                | (go_at_call 41; refine (HInv.out _ (by assumption)).mono ?_; rintro e w8 ⟨rfl, hb8⟩; have b8 := Below.trans (by assumption : Below wr.heap.size wr _) (hb8.mono (Below.size (by assumption))); clear hb8)
                | (go_at_call 50; refine (HTimes.out _ (by assumption)).mono ?_; rintro e w9 ⟨rfl, hb9⟩; have b9 := Below.trans (by assumption : Below wr.heap.size wr _) (hb9.mono (Below.size (by assumption))); clear hb9)
                | (refine (id ?_); rw [if_pos (by simp [Region.wanted])]; refine wp_append_lies _ (.tmp 22) (.tmp 32) 22 rfl w1.heap.size 3 i0 (.int .i64 0) 1 8 Try.underlying22 hi0 hz0 hz1 hz2 rfl (by omega) u3 (L + y) (ints (nints (comTo N xs x ++ comRow N xs x y))) rfl ((HRx.out w9 b9).alloc _) ⟨w9.heap.size, 0, none⟩ 1 1 [.int .i64 (z : Int)] rfl rfl (news1 ((Blk.new1 w9 _ _).cell 0)) (one_int z) (by omega) (by unfold maxLen; omega) (by omega) (by have := b9.size; simp; omega) _ rfl ?_; intro g10 c10 w10 hR10 hG10 hat10 hlt10; (have b10 : Below w1.heap.size w1 w10 := grown_one (HRx.out w9 b9) hG10 (hb.trans (b9.mono hbs)) (Nat.le_refl _) (by have := b9.size; omega)); clear hat10 hlt10)))
            have HX6 : Hid (w10.ownsRow w1.heap.size 3 1 (.slice (some ⟨g10, 0, none⟩) (L + y + 1) c10) (L + (y + 1)) (ints (nints (comTo N xs x ++ comRow N xs x (y + 1))))) := by
              show World.ownsRow _ _ _ _ _ _ _
              rw [HS.out, ← Nat.add_assoc]; simpa [ints] using hR10
            clear hR10 hG10 b7 b8 b9 HTurn HInv HTimes HSt HRx HW q0 q1 c0
            go_wp2_with fail
            go_roundw
            case rel => exact ⟨y + 1, by go_num, by omega, HX6, b10⟩
            case measure => simp [intOf]; omega
          · obtain rfl : N = y := by omega
            have HX6 : Hid (wr.ownsRow w1.heap.size 3 1 u3 (L + N) (ints (nints (comTo N xs (x + 1))))) := by
              show World.ownsRow _ _ _ _ _ _ _
              rw [comTo_succ]; exact HR.out
            have hL2 : Hid (L + N = (x + 1) * N) := by show _ = _; rw [HL.out, Nat.succ_mul]
            go_wp2_with fail
            go_roundw
            case rel => exact ⟨x + 1, L + N, by go_num, by omega, hL2.out, HX6, hb⟩
            case measure => simp [intOf]; omega
      · obtain rfl : N = x := by omega
        obtain ⟨A9, c9, rfl⟩ := (Own.of_row HR.out).form
        have OL := Lib.hid (Own.of_row HR.out)
        have b3 := b1.trans (hb.mono hbs1)
        have OT := Lib.hid (O1.out.below hb)
        clear HR HL
        go_wp2_with fail
        refine (l10Sub_any N A A9 n c L c9 B _ xs (comTo N xs N) _ OT.out OL.out HG.out.tab HG.out.comTo_lt).mono ?_
        rintro e w4 ⟨v4, rfl, o4, hb4⟩
        obtain ⟨A4, c4, rfl⟩ := o4.form
        have O4 := Lib.hid o4
        have b4 := b3.trans (hb4.mono b3.size)
        clear hb4 o4 q0 q1
        go_wp2_with fail
        refine (l09List_any _ N _ _ (genB N xs (comTo N xs N)) _ O4.out (by omega)).mono ?_
        rintro e w5 ⟨v5, rfl, o5, hb5⟩
        have hbs4 := b4.size
        have O5 := Lib.hid (o5.mono hbs4)
        have b5 := b4.trans (hb5.mono hbs4)
        obtain ⟨A5, c5, rfl⟩ := o5.form
        clear hb5 o5
        go_wp2_with fail
        go_ret
        exact ⟨_, rfl, by rw [He.out]; exact O5.out, b5⟩
end Go.Proofs.Ytkiomohpmajjcaa
