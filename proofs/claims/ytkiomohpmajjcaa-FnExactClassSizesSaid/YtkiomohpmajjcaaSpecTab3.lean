/- The model's ZeroOf, IsGroup, IndexPeriod. -/
import Derived.Test.YtkiomohpmajjcaaSpecTab2
namespace Go.Proofs.Ytkiomohpmajjcaa
open Go.RowKit

set_option maxRecDepth 100000 in
set_option maxHeartbeats 1600000 in
theorem specIndexPeriod (q : Int) (A : Option Addr) (n c B : Nat) (xs : List Int) (i : Int) (w : World) (h : Own B w (.slice A n c) 1 n (ints xs)) (hn : n ≤ 1048576) :
    Calls Try.prog 43 #[tabV q A n c, .int .i64 i] w fun e w' => e = .returned (.tuple #[.int .i64 (indexPeriod q xs i).1, .int .i64 (indexPeriod q xs i).2]) ∧ Below w.heap.size w w' := by
  obtain ⟨i0, hi0, hz0, hz1, hz2⟩ := infoR_parts infoInt
  have HO := Lib.hid (h.below (bel1 w (.cells #[.int .i64 q, .slice A n c] 28)))
  clear h
  go_enter Try.func43, Try.ntmps43
  go_wp2_with fail
  refine (l08Ok_any q A n c B xs i _ HO.out hn).mono ?_
  rintro e w1 ⟨rfl, hb1⟩
  have b1 := (bel1 w _).trans (hb1.mono (by simp))
  have X1 := Lib.hid ((Blk.new1 w _ _).below hb1 (by simp))
  have O1 := Lib.hid (HO.out.below hb1)
  obtain ⟨q0, q1, -, -, ql⟩ := X1.out.two
  clear hb1 HO
  cases hE : elemOk q xs i
  · have He := Lib.hid (indexPeriod_no hE)
    clear hE
    go_wp2_with fail
    go_ret2
    exact ⟨ret_ii He.out, b1⟩
  · obtain ⟨N, i, rfl, rfl, hTab, hi⟩ := elemOk_iff hE
    have h1 := hTab.lo
    have h40 := hTab.hi
    have HT := Lib.hid hTab
    clear hE hTab
    go_wp2_with fail
    have HR0 := Lib.hid (row_empty w1 3)
    have hbn := bel1 w1 (.cells #[] 3)
    clear q0 q1
    generalize w1.alloc (.cells #[] 3) = wn at *
    go_loopw [6, 7] (fun v x wr => ∃ t : Nat, x = .int .i64 (tpow N xs i t : Nat) ∧ Hid (wr.ownsRow w1.heap.size 3 1 v t (ints (pows N xs i t))) ∧ Hid (Diff N xs i t) ∧ Below w1.heap.size w1 wr) (fun v _ _ => N + 1 - lenOf v)
    case atStart => exact ⟨0, rfl, HR0, fun a b hab hb => absurd hb (by omega), hbn⟩
    case round =>
      obtain ⟨t, rfl, HR, HD, hb⟩ := hrel
      have hbs := hb.size
      have htN := HD.out.le HT.out hi
      obtain ⟨A9, c9, hv⟩ := (Own.of_row HR.out).form
      subst hv
      have HC := Lib.hid (fun j (hj : j < t) => row_pow HR.out hj)
      go_wp2_with fail
      go_loop [21] (fun i' => ∃ j : Nat, i' = .int .i64 j ∧ j ≤ t ∧ Hid (∀ a, a < j → tpow N xs i a ≠ tpow N xs i t)) (fun i' => t - (intOf i').toNat)
      case atStart => exact ⟨0, rfl, Nat.zero_le _, fun a ha => absurd ha (by omega)⟩
      case round =>
        obtain ⟨j, rfl, hj, HJ⟩ := hrel
        by_cases hlt : j < t
        · obtain ⟨g, off, rfl, hx⟩ := HC.out j hlt
          by_cases e : tpow N xs i j = tpow N xs i t
          · have He := Lib.hid (indexPeriod_yes HT.out hi (ip_of HD.out hlt e.symm))
            have e2 : (((tpow N xs i t : Nat) : Int) == ((tpow N xs i j : Nat) : Int)) = true := by simp; omega
            clear e
            go_wp2_with fail
            go_ret2
            exact ⟨ret_ii (by rw [He.out]; exact Prod.ext rfl (by show ((t - j : Nat) : Int) = _; omega)), b1.trans (hb.mono b1.size)⟩
          · have e2 : (((tpow N xs i t : Nat) : Int) == ((tpow N xs i j : Nat) : Int)) = false := by simp; omega
            have HJ1 : Hid (∀ a, a < j + 1 → tpow N xs i a ≠ tpow N xs i t) := fun a ha => by
              by_cases e3 : a = j
              · subst e3; exact e
              · exact HJ.out a (by omega)
            clear e
            go_wp2_with fail
            go_round
            case rel => exact ⟨j + 1, by go_num, by omega, HJ1⟩
            case measure => simp [intOf]; omega
        · obtain rfl : t = j := by omega
          have HD1 := Lib.hid (HD.out.succ HJ.out)
          have htN1 := HD1.out.le HT.out hi
          have Hs := Lib.hid (pows_succ N xs i t)
          have Hp := Lib.hid (show tpow N xs i (t + 1) = tmul N xs (tpow N xs i t) i from rfl)
          have hpt := HT.out.pow_lt hi t
          generalize hPT : tpow N xs i t = PT at *
          generalize hPS : pows N xs i t = PS at *
          have HPT := Lib.hid hPT
          have HPS := Lib.hid hPS
          clear hPT hPS
          go_wp2_with (at_builtin; refine wpList_append_own _ rfl _ _ 22 rfl w1.heap.size 3 i0 (.int .i64 0) 1 8 Try.underlying22 hi0 hz0 hz1 hz2 rfl (by decide) _ _ _ rfl (HR.out.alloc _) ⟨wr.heap.size, 0, none⟩ 1 1 [.int .i64 (PT : Int)] rfl rfl ?c1 ?c2 ?c3 ?c4 ?c5 ?_)
          case c2 => rfl
          case c3 => unfold maxLen; omega
          case c4 => omega
          case c5 => omega
          intro v' w6 hown' hgrow _
          have HX6 : Hid (w6.ownsRow w1.heap.size 3 1 v' (t + 1) (ints (pows N xs i (t + 1)))) := by
            show World.ownsRow _ _ _ _ _ _ _
            rw [Hs.out]; simpa [ints] using hown'
          have hbw6 : Below w1.heap.size w1 w6 := grown_one HR.out hgrow hb (Nat.le_refl _) hbs
          have hl6 : lenOf v' = t + 1 := by obtain ⟨A8, c8, hv8⟩ := (Own.of_row HX6.out).form; rw [hv8]; rfl
          have HL6 := Lib.hid hl6
          have hbs6 := hbw6.size
          clear hown' hgrow hl6 HR
          obtain ⟨q0, q1, -, -, -⟩ := (X1.out.below hbw6 X1.out.lt).two
          go_wp2_with fail
          refine (l08Times_any N PT i A n c B xs _ (O1.out.below hbw6) HT.out hpt hi).mono ?_
          rw [← Hp.out]
          rintro e w7 ⟨rfl, hb7⟩
          have HX7 := Lib.hid (row_below HX6.out hb7)
          have b7 := hbw6.trans (hb7.mono hbs6)
          clear hb7 q0 q1
          go_wp2_with fail
          go_roundw
          case rel => exact ⟨t + 1, rfl, HX7, HD1, b7⟩
          case measure => rw [HL6.out]; simp [lenOf]; omega
set_option maxRecDepth 100000 in
set_option maxHeartbeats 1600000 in
theorem specIsGroup (q : Int) (A : Option Addr) (n c B : Nat) (xs : List Int) (w : World) (h : Own B w (.slice A n c) 1 n (ints xs)) (hn : n ≤ 1048576) :
    Calls Try.prog 39 #[tabV q A n c] w fun e w' => e = .returned (.bool (isGroupB q xs)) ∧ Below w.heap.size w w' := by
  have b1 := bel1 w (.cells #[.int .i64 q, .slice A n c] 28)
  have HO := Lib.hid (fun (w' : World) (hb : Below w.heap.size w w') => h.below hb)
  have X1 := Lib.hid (Blk.new1 w #[.int .i64 q, .slice A n c] 28)
  clear h
  go_enter Try.func39, Try.ntmps39
  go_wp2_with fail
  generalize w.alloc (.cells #[.int .i64 q, .slice A n c] 28) = w1 at *
  obtain ⟨q0, q1, -, -, ql⟩ := X1.out.two
  have HW := Lib.hid (fun (w' : World) (hS : w'.cell? ⟨w.heap.size, 0, none⟩ = some (.int .i64 q) ∧ w'.cell? ⟨w.heap.size, 1, none⟩ = some (.slice A n c) ∧ Below w1.heap.size w1 w') => HO.out w' (b1.trans (hS.2.2.mono b1.size)))
  cases hT : tableOk q xs
  · have He := Lib.hid (show isGroupB q xs = false by unfold isGroupB; rw [hT, Bool.false_and])
    have HT := Lib.hid hT
    clear hT
    first | go_region_with ((go_at_call 58; refine (specTableOk q A n c B xs _ (HO.out _ b1.drew) hn).mono ?_; rw [HT.out]; rintro e w9 ⟨rfl, hb9⟩)) | fail
    all_goals go_wp2_with fail
    all_goals (go_ret; exact ⟨ret_bool He.out.symm, b1.trans ((Below.refl _ w1).drew.trans hb9 |>.mono b1.size)⟩)
  · obtain ⟨N, rfl, hTab⟩ := tableOk_iff hT
    have HT := Lib.hid hT
    clear hT
    have hpl := pickOf_len N xs unitB
    go_region_held3 (fun w' => w'.cell? ⟨w.heap.size, 0, none⟩ = some (.int .i64 N) ∧ w'.cell? ⟨w.heap.size, 1, none⟩ = some (.slice A n c) ∧ Below w1.heap.size w1 w')
      (first | exact ⟨q0, q1, (Below.refl _ w1).drew⟩ | exact held2_keep (by assumption) hb9 (Nat.le_refl _) ql)
      ((first | (go_at_call 58; refine (specTableOk N A n c B xs _ (HW.out _ (by assumption)) hn).mono ?_; rw [HT.out]; rintro e w9 ⟨rfl, hb9⟩) | (go_at_call 59; refine (specUnitsOf N A n c B xs _ (HW.out _ (by assumption)) hn).mono ?_; rintro e w9 ⟨v9, rfl, o9, hb9⟩; obtain ⟨A9, c9, rfl⟩ := o9.form)))
    have hS := ‹_ ∧ _ ∧ Below w1.heap.size w1 w9›
    have b9 := hS.2.2
    clear hS
    have He := Lib.hid (show isGroupB N xs = (((pickOf N xs unitB).length : Int) == (N : Int)) by unfold isGroupB; rw [HT.out, Bool.true_and])
    go_wp2_with fail
    go_ret
    exact ⟨ret_bool He.out.symm, b1.trans (b9.mono b1.size)⟩
end Go.Proofs.Ytkiomohpmajjcaa
