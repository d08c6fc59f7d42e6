/- The program's IndexPeriod, IsCommutative, IdempotentsOf, UnitsOf, ZeroOf, IsGroup. -/
import Derived.Test.YtacmjgmpfbebbaaImplTab
namespace Go.Proofs.Ytacmjgmpfbebbaa
open Go.RowKit

theorem row_one (w : World) (x : Int) (e : TypeId) : (w.alloc (.cells #[.int .i64 x] e)).ownsRow w.heap.size e 1 (.slice (some ⟨w.heap.size, 0, none⟩) 1 1) 1 (ints [x]) :=
  ⟨rfl, Or.inr ⟨w.heap.size, 1, #[.int .i64 x], rfl, Nat.le_refl _, heap_alloc_new w _, Nat.le_refl _, by unfold maxLen; omega, rfl, rfl⟩⟩
set_option maxRecDepth 100000 in
set_option maxHeartbeats 1600000 in
theorem indexPeriod_any (g N i : Nat) (xs : List Int) (w : World) (h : MonAt w g N xs) (hT : TabOk N xs) (hi : i < N) :
    Calls Try.prog 45 #[.pointer (some ⟨g, 0, none⟩), .int .i64 i] w fun e w' => e = .returned (.tuple #[.int .i64 (indexPeriod N xs i).1, .int .i64 (indexPeriod N xs i).2]) ∧ Below w.heap.size w w' := by
  obtain ⟨i0, hi0, hz0, hz1, hz2⟩ := infoR_parts infoInt
  have HM := Lib.hid h
  have HT := Lib.hid hT
  have h40 := hT.hi
  clear h hT
  go_enter Try.func45, Try.ntmps45
  go_wp2_with fail
  have HR0 := Lib.hid (row_one w 0 3)
  have hbn := bel1 w (.cells #[.int .i64 0] 3)
  generalize w.alloc (.cells #[.int .i64 0] 3) = wn at *
  go_loopw [6] (fun v wr => ∃ t : Nat, Hid (wr.ownsRow w.heap.size 3 1 v (t + 1) (ints (pows N xs i (t + 1)))) ∧ Hid (Diff N xs i (t + 1)) ∧ Below w.heap.size w wr) (fun v _ => N + 1 - lenOf v)
  case atStart => exact ⟨0, HR0, fun a b hab hb => absurd hb (by omega), hbn⟩
  case round =>
    obtain ⟨t, HR, HD, hb⟩ := hrel
    have hbs := hb.size
    have htN := HD.out.le HT.out hi
    obtain ⟨A9, c9, hv⟩ := (Own.of_row HR.out).form
    subst hv
    obtain ⟨g9, off9, rfl, hx⟩ := row_pow HR.out (show t < t + 1 by omega)
    have hpt := HT.out.pow_lt hi t
    have hy := (HM.out.below hb).num HT.out.rng hpt hi
    have Hp := Lib.hid (show tpow N xs i (t + 1) = tmul N xs (tpow N xs i t) i from rfl)
    rw [← Hp.out] at hy
    have HO := Lib.hid (fun m => (Own.of_row HR.out).drewN m)
    have hmax := (Own.of_row HR.out).bound
    unfold maxLen at hmax
    generalize hPT : tpow N xs i t = PT at *
    have HPT := Lib.hid hPT
    clear hPT
    generalize hNX : tpow N xs i (t + 1) = NX at *
    have HNX := Lib.hid hNX
    clear hNX
    go_wp2_with fail
    go_quiet (fail)
    go_wp2_with fail
    refine (indexInt_any _ (t + 1) _ _ (NX : Int) (pows N xs i (t + 1)) _ (HO.out _)).mono ?_
    rintro e w2 ⟨rfl, rfl⟩
    have HB : Hid (Below w.heap.size w (wr.drewN nq)) := below_drewN hb _
    have HRq : Hid ((wr.drewN nq).ownsRow w.heap.size 3 1 (.slice (some ⟨g9, off9, none⟩) (t + 1) c9) (t + 1) (ints (pows N xs i (t + 1)))) := HR
    clear HR HO hx hy
    generalize wr.drewN nq = w2 at *
    by_cases hf : ∃ j, j < t + 1 ∧ tpow N xs i j = NX
    · obtain ⟨j, hj, hjx⟩ := hf
      have He := Lib.hid (idxI_at (l := pows N xs i (t + 1)) (v := (NX : Int)) (k := j) (by rw [pows_get hj, hjx]) (fun a ha => by
        rw [pows_get (by omega)]
        intro h
        have h2 : tpow N xs i a = NX := by have := Option.some.inj h; omega
        exact HD.out a j ha hj (by rw [h2, hjx])))
      have Hx := Lib.hid (indexPeriod_yes HT.out hi (ip_of HD.out hj (by rw [HNX.out, hjx])))
      rw [He.out]
      clear hjx
      go_wp2_with fail
      go_ret2
      exact ⟨ret_ii (by rw [Hx.out]; exact Prod.ext rfl (by show ((t + 1 - j : Nat) : Int) = _; omega)), HB.out⟩
    · have He := Lib.hid (idxI_no (l := pows N xs i (t + 1)) (v := (NX : Int)) (fun a ha => by
        rw [pows_length] at ha
        rw [pows_get ha]
        intro h
        exact hf ⟨a, ha, by have := Option.some.inj h; omega⟩))
      have HD1 := Lib.hid (HD.out.succ (fun a ha e => hf ⟨a, ha, by rw [e, HNX.out]⟩))
      have htN1 := HD1.out.le HT.out hi
      have Hs := Lib.hid (pows_succ N xs i (t + 1))
      rw [He.out]
      clear hf
      generalize hPS : pows N xs i (t + 1) = PS at *
      have HPS := Lib.hid hPS
      clear hPS
      have hsz2 := HB.out.size
      go_wp2_with (at_builtin; refine wpList_append_own _ rfl _ _ 22 rfl w.heap.size 3 i0 (.int .i64 0) 1 8 Try.underlying22 hi0 hz0 hz1 hz2 rfl (by decide) _ _ _ rfl (HRq.out.alloc _) ⟨w2.heap.size, 0, none⟩ 1 1 [.int .i64 (NX : Int)] rfl rfl ?c1 ?c2 ?c3 ?c4 ?c5 ?_)
      case c1 => intro j u hj; match j, hj with | 0, hj => (simp at hj; subst hj; simp [Addr.add])
      case c2 => intro u hu; simp at hu; subst hu; rfl
      case c3 => unfold maxLen; omega
      case c4 => omega
      case c5 => simp; omega
      intro v' w6 hown' hgrow _
      have HX6 : Hid (w6.ownsRow w.heap.size 3 1 v' (t + 1 + 1) (ints (pows N xs i (t + 1 + 1)))) := by
        show World.ownsRow _ _ _ _ _ _ _
        rw [Hs.out, HNX.out]; simpa [ints] using hown'
      have hbw6 : Below w.heap.size w w6 := grown_one HRq.out hgrow HB.out (Nat.le_refl _) hsz2
      have hl6 : lenOf v' = t + 2 := by obtain ⟨A8, c8, hv8⟩ := (Own.of_row HX6.out).form; rw [hv8]; rfl
      have HL6 := Lib.hid hl6
      clear hown' hgrow hl6 HRq
      go_wp2_with fail
      go_roundw
      case rel => exact ⟨t + 1, HX6, HD1, hbw6⟩
      case measure => rw [HL6.out]; simp [lenOf]; omega
set_option maxRecDepth 100000 in
set_option maxHeartbeats 800000 in
theorem implIndexPeriod (q : Int) (A : Option Addr) (n c B : Nat) (xs : List Int) (i : Int) (w : World) (h : Own B w (.slice A n c) 1 n (ints xs)) (_hn : n ≤ 1048576) :
    Calls Try.prog 22 #[tabV q A n c, .int .i64 i] w fun e w' => e = .returned (.tuple #[.int .i64 (indexPeriod q xs i).1, .int .i64 (indexPeriod q xs i).2]) ∧ Below w.heap.size w w' := by
  have HO := Lib.hid (h.below (bel2 w (.cells #[.int .i64 q, .slice A n c] 27) (.cells #[.int .i64 i] 3)))
  have HE := Lib.hid (lit_one w (.cells #[.int .i64 q, .slice A n c] 27) i 3)
  clear h
  go_enter Try.func22, Try.ntmps22
  go_wp2_with fail
  refine (monoidWith_any q A _ n c 1 1 B _ xs [i] _ HO.out HE.out (by omega)).mono ?_
  rintro e w1 ⟨hm, hb1⟩
  have b1 := (bel2 w _ _).trans (hb1.mono (by simp; omega))
  clear hb1 HO HE
  rcases hm with ⟨N, g, rfl, hT, ha, rfl, -, hM⟩ | ⟨ha, rfl⟩
  · rw [allOk_one] at ha
    obtain ⟨_, i, e1, rfl, -, hi⟩ := elemOk_iff ha
    have hi' : i < N := by omega
    have HT := Lib.hid hT
    have HM := Lib.hid hM
    clear hT ha hM e1 hi
    go_wp2_with fail
    refine (indexPeriod_any g N i xs _ HM.out HT.out hi').mono ?_
    rintro e w2 ⟨rfl, hb2⟩
    have b2 := b1.trans (hb2.mono b1.size)
    clear hb2
    go_wp2_with fail
    go_ret2
    exact ⟨rfl, b2⟩
  · rw [allOk_one] at ha
    have He := Lib.hid (indexPeriod_no ha)
    clear ha
    go_wp2_with fail
    go_ret2
    exact ⟨ret_ii He.out, b1⟩
set_option maxRecDepth 100000 in
set_option maxHeartbeats 800000 in
theorem isCommutative_any (g N : Nat) (xs : List Int) (w : World) (h : MonAt w g N xs) (h40 : N ≤ 40) (hr : Rng N xs) :
    Calls Try.prog 46 #[.pointer (some ⟨g, 0, none⟩)] w fun e w' => e = .returned (.bool (cdec (∀ i k, k < i → i < N → tmul N xs i k = tmul N xs k i))) ∧ ∃ m, w' = w.drewN m := by
  have x := h.size
  have HM := Lib.hid (fun i k hi hk => h.num hr (i := i) (k := k) hi hk)
  clear h hr
  go_enter Try.func46, Try.ntmps46
  go_wp2_with fail
  go_loopw [9] (fun i' wr => ∃ (i m : Nat), i' = .int .i64 i ∧ i ≤ N ∧ wr = w.drewN m ∧ Hid (∀ a k, a < i → k < a → tmul N xs a k = tmul N xs k a)) (fun i' _ => N - (intOf i').toNat)
  case atStart => exact ⟨0, 0, rfl, Nat.zero_le _, rfl, fun a k ha => absurd ha (by omega)⟩
  case round =>
    obtain ⟨i, m, rfl, hi, rfl, HI⟩ := hrel
    by_cases hlt : i < N
    · go_wp2_with fail
      go_loopw [13] (fun k' wr => ∃ (k m : Nat), k' = .int .i64 k ∧ k ≤ i ∧ wr = w.drewN m ∧ Hid (∀ b, b < k → tmul N xs i b = tmul N xs b i)) (fun k' _ => i - (intOf k').toNat)
      case atStart => exact ⟨0, m, rfl, Nat.zero_le _, rfl, fun b hb => absurd hb (by omega)⟩
      case round =>
        obtain ⟨k, m', rfl, hk, rfl, HK⟩ := hrel
        by_cases hkl : k < i
        · have hkN : k < N := by omega
          have z1 := HM.out i k hlt hkN
          have z2 := HM.out k i hkN hlt
          obtain ⟨U, hU⟩ : ∃ U, tmul N xs i k = U := ⟨_, rfl⟩
          obtain ⟨V, hV⟩ : ∃ V, tmul N xs k i = V := ⟨_, rfl⟩
          rw [hU] at z1
          rw [hV] at z2
          have HU := Lib.hid hU
          have HV := Lib.hid hV
          clear hU hV
          go_wp2_with fail
          by_cases hUV : U = V
          · subst hUV
            have HK1 : Hid (∀ b, b < k + 1 → tmul N xs i b = tmul N xs b i) := fun b hb => by
              by_cases e : b = k
              · subst e; rw [HU.out, HV.out]
              · exact HK.out b (by omega)
            go_quiet (fail)
            all_goals go_wp2_with fail
            go_roundw
            case rel => exact ⟨k + 1, _, by go_num, by omega, rfl, HK1⟩
            case measure => simp [intOf]; omega
          · have He := Lib.hid (cdec_no (P := ∀ i k, k < i → i < N → tmul N xs i k = tmul N xs k i) (fun h => hUV (by have h3 := h i k hkl hlt; rw [HU.out, HV.out] at h3; exact h3)))
            have e3 : ((U : Int) == (V : Int)) = false := by simp; omega
            have e4 : ((U : Int) != (V : Int)) = true := by simp; omega
            clear hUV
            go_quiet (fail)
            all_goals go_wp2_with fail
            go_ret
            exact ⟨ret_bool He.out.symm, _, World.drewN_drewN _ _ _⟩
        · obtain rfl : i = k := by omega
          have HI1 : Hid (∀ a k, a < i + 1 → k < a → tmul N xs a k = tmul N xs k a) := fun a k' ha hk2 => by
            by_cases e : a = i
            · subst e; exact HK.out k' hk2
            · exact HI.out a k' (by omega) hk2
          go_wp2_with fail
          go_roundw
          case rel => exact ⟨i + 1, _, by go_num, by omega, rfl, HI1⟩
          case measure => simp [intOf]; omega
    · obtain rfl : N = i := by omega
      have He := Lib.hid (cdec_yes (P := ∀ i k, k < i → i < N → tmul N xs i k = tmul N xs k i) (fun i k hk hi => HI.out i k hi hk))
      go_wp2_with fail
      go_ret
      exact ⟨ret_bool He.out.symm, _, rfl⟩
set_option maxRecDepth 100000 in
set_option maxHeartbeats 800000 in
theorem implIdempotentsOf (q : Int) (A : Option Addr) (n c B : Nat) (xs : List Int) (w : World) (h : Own B w (.slice A n c) 1 n (ints xs)) (_hn : n ≤ 1048576) :
    Calls Try.prog 26 #[tabV q A n c] w fun e w' => ∃ v, e = .returned v ∧ Own w.heap.size w' v 1 (pickOf q xs idemB).length (ints (pickOf q xs idemB)) ∧ Below w.heap.size w w' := by
  have HO := Lib.hid (h.below (bel1 w (.cells #[.int .i64 q, .slice A n c] 27)))
  clear h
  go_enter Try.func26, Try.ntmps26
  go_wp2_with fail
  refine (monoidFrom_any q A n c B xs _ HO.out).mono ?_
  rintro e w1 ⟨hm, hb1⟩
  have b1 := (bel1 w _).trans (hb1.mono (by simp))
  clear hb1 HO
  rcases hm with ⟨N, g, rfl, hT, rfl, -, hM⟩ | ⟨hT, rfl⟩
  · have He := Lib.hid (pickOf_yes idemB hT)
    have HT := Lib.hid hT
    have HM := Lib.hid hM
    clear hT hM
    go_wp2_with fail
    refine (elementsWith_isIdem g N xs _ HM.out HT.out.hi HT.out).mono ?_
    rintro e w2 ⟨v, rfl, o2, hb2⟩
    obtain ⟨A2, c2, rfl⟩ := o2.form
    have O2 := Lib.hid (o2.mono b1.size)
    have b2 := b1.trans (hb2.mono b1.size)
    clear hb2 o2
    go_wp2_with fail
    go_ret
    exact ⟨_, rfl, by rw [He.out]; exact O2.out, b2⟩
  · have He := Lib.hid (pickOf_no idemB hT)
    clear hT
    go_wp2_with fail
    go_ret
    exact ⟨_, rfl, by rw [He.out]; exact Own.none_, b1⟩
set_option maxRecDepth 100000 in
set_option maxHeartbeats 800000 in
theorem implUnitsOf (q : Int) (A : Option Addr) (n c B : Nat) (xs : List Int) (w : World) (h : Own B w (.slice A n c) 1 n (ints xs)) (_hn : n ≤ 1048576) :
    Calls Try.prog 34 #[tabV q A n c] w fun e w' => ∃ v, e = .returned v ∧ Own w.heap.size w' v 1 (pickOf q xs unitB).length (ints (pickOf q xs unitB)) ∧ Below w.heap.size w w' := by
  have HO := Lib.hid (h.below (bel1 w (.cells #[.int .i64 q, .slice A n c] 27)))
  clear h
  go_enter Try.func34, Try.ntmps34
  go_wp2_with fail
  refine (monoidFrom_any q A n c B xs _ HO.out).mono ?_
  rintro e w1 ⟨hm, hb1⟩
  have b1 := (bel1 w _).trans (hb1.mono (by simp))
  clear hb1 HO
  rcases hm with ⟨N, g, rfl, hT, rfl, -, hM⟩ | ⟨hT, rfl⟩
  · have He := Lib.hid (pickOf_yes unitB hT)
    have HT := Lib.hid hT
    have HM := Lib.hid hM
    clear hT hM
    go_wp2_with fail
    refine (elementsWith_isUnit g N xs _ HM.out HT.out.hi HT.out).mono ?_
    rintro e w2 ⟨v, rfl, o2, hb2⟩
    obtain ⟨A2, c2, rfl⟩ := o2.form
    have O2 := Lib.hid (o2.mono b1.size)
    have b2 := b1.trans (hb2.mono b1.size)
    clear hb2 o2
    go_wp2_with fail
    go_ret
    exact ⟨_, rfl, by rw [He.out]; exact O2.out, b2⟩
  · have He := Lib.hid (pickOf_no unitB hT)
    clear hT
    go_wp2_with fail
    go_ret
    exact ⟨_, rfl, by rw [He.out]; exact Own.none_, b1⟩
set_option maxRecDepth 100000 in
set_option maxHeartbeats 800000 in
theorem implIsCommutative (q : Int) (A : Option Addr) (n c B : Nat) (xs : List Int) (w : World) (h : Own B w (.slice A n c) 1 n (ints xs)) (_hn : n ≤ 1048576) :
    Calls Try.prog 24 #[tabV q A n c] w fun e w' => e = .returned (.bool (commB q xs)) ∧ Below w.heap.size w w' := by
  have HO := Lib.hid (h.below (bel1 w (.cells #[.int .i64 q, .slice A n c] 27)))
  clear h
  go_enter Try.func24, Try.ntmps24
  go_wp2_with fail
  refine (monoidFrom_any q A n c B xs _ HO.out).mono ?_
  rintro e w1 ⟨hm, hb1⟩
  have b1 := (bel1 w _).trans (hb1.mono (by simp))
  clear hb1 HO
  rcases hm with ⟨N, g, rfl, hT, rfl, -, hM⟩ | ⟨hT, rfl⟩
  · have He := Lib.hid (show commB N xs = cdec (∀ i k, k < i → i < N → tmul N xs i k = tmul N xs k i) by unfold commB; rw [tableOk_yes hT, Bool.true_and]; rfl)
    have HT := Lib.hid hT
    have HM := Lib.hid hM
    clear hT hM
    go_wp2_with fail
    refine (isCommutative_any g N xs _ HM.out HT.out.hi HT.out.rng).mono ?_
    rw [← He.out]
    rintro e w2 ⟨rfl, m, rfl⟩
    go_wp2_with fail
    go_ret
    exact ⟨rfl, below_drewN b1 _⟩
  · have He := Lib.hid (show commB q xs = false by unfold commB; rw [hT, Bool.false_and])
    clear hT
    go_wp2_with fail
    go_ret
    exact ⟨ret_bool He.out.symm, b1⟩
set_option maxRecDepth 100000 in
set_option maxHeartbeats 800000 in
theorem implZeroOf (q : Int) (A : Option Addr) (n c B : Nat) (xs : List Int) (w : World) (h : Own B w (.slice A n c) 1 n (ints xs)) (_hn : n ≤ 1048576) :
    Calls Try.prog 32 #[tabV q A n c] w fun e w' => e = .returned (.int .i64 (zeroOf q xs)) ∧ Below w.heap.size w w' := by
  have HO := Lib.hid (h.below (bel1 w (.cells #[.int .i64 q, .slice A n c] 27)))
  clear h
  go_enter Try.func32, Try.ntmps32
  go_wp2_with fail
  refine (monoidFrom_any q A n c B xs _ HO.out).mono ?_
  rintro e w1 ⟨hm, hb1⟩
  have b1 := (bel1 w _).trans (hb1.mono (by simp))
  clear hb1 HO
  rcases hm with ⟨N, g, rfl, hT, rfl, -, hM⟩ | ⟨hT, rfl⟩
  · have He := Lib.hid (show zeroOf N xs = (pick (zeroB N xs) N).head?.getD (-1) by unfold zeroOf; rw [pickOf_yes zeroB hT])
    have hpl := pick_len (zeroB N xs) N
    have h40 := hT.hi
    have HT := Lib.hid hT
    have HM := Lib.hid hM
    clear hT hM
    go_wp2_with fail
    refine (elementsWith_isZero g N xs _ HM.out HT.out.hi HT.out).mono ?_
    rintro e w2 ⟨v, rfl, o2, hb2⟩
    obtain ⟨A2, c2, rfl⟩ := o2.form
    have O2 := Lib.hid o2
    have b2 := b1.trans (hb2.mono b1.size)
    clear hb2 o2
    generalize hPP : pick (zeroB N xs) N = PP at *
    clear hPP
    cases PP with
    | nil =>
      go_wp2_with fail
      refine wp_loop_rounds 1 ?_
      rw [rounds_succ]
      go_wp2_with fail
      go_ret
      exact ⟨ret_i64 He.out.symm, b2⟩
    | cons z PP =>
      obtain ⟨g2, off2, c0, hv⟩ := O2.out.formR (by simp)
      obtain ⟨rfl, rfl⟩ : A2 = some ⟨g2, off2, none⟩ ∧ c2 = c0 := by injection hv with a _ b; exact ⟨a, b⟩
      clear hv
      obtain ⟨s, hs, hx⟩ := O2.out.iget (j := 0) (by simp)
      obtain rfl : z = s := by simpa using hs
      clear hs
      rw [Nat.add_zero] at hx
      have hlen : 0 < (z :: PP).length := by simp
      generalize (z :: PP).length = LL at *
      go_wp2_with fail
      refine wp_loop_rounds 1 ?_
      rw [rounds_succ]
      go_wp2_with fail
      go_ret
      exact ⟨ret_i64 He.out.symm, b2⟩
  · have He := Lib.hid (zeroOf_no hT)
    clear hT
    go_wp2_with fail
    go_ret
    exact ⟨ret_i64 He.out.symm, b1⟩
set_option maxRecDepth 100000 in
set_option maxHeartbeats 1600000 in
theorem implIsGroup (q : Int) (A : Option Addr) (n c B : Nat) (xs : List Int) (w : World) (h : Own B w (.slice A n c) 1 n (ints xs)) (hn : n ≤ 1048576) :
    Calls Try.prog 36 #[tabV q A n c] w fun e w' => e = .returned (.bool (isGroupB q xs)) ∧ Below w.heap.size w w' := by
  have b1 := bel1 w (.cells #[.int .i64 q, .slice A n c] 27)
  have HO := Lib.hid (fun (w' : World) (hb : Below w.heap.size w w') => h.below hb)
  have X1 := Lib.hid (Blk.new1 w #[.int .i64 q, .slice A n c] 27)
  clear h
  go_enter Try.func36, Try.ntmps36
  go_wp2_with fail
  generalize w.alloc (.cells #[.int .i64 q, .slice A n c] 27) = w1 at *
  obtain ⟨q0, q1, -, -, ql⟩ := X1.out.two
  have HW := Lib.hid (fun (w' : World) (hS : w'.cell? ⟨w.heap.size, 0, none⟩ = some (.int .i64 q) ∧ w'.cell? ⟨w.heap.size, 1, none⟩ = some (.slice A n c) ∧ Below w1.heap.size w1 w') => HO.out w' (b1.trans (hS.2.2.mono b1.size)))
  cases hT : tableOk q xs
  · have He := Lib.hid (show isGroupB q xs = false by unfold isGroupB; rw [hT, Bool.false_and])
    have HT := Lib.hid hT
    clear hT
    first | go_region_with ((go_at_call 15; refine (implTableOk q A n c B xs _ (HO.out _ b1.drew) hn).mono ?_; rw [HT.out]; rintro e w9 ⟨rfl, hb9⟩)) | fail
    all_goals go_wp2_with fail
    all_goals (go_ret; exact ⟨ret_bool He.out.symm, b1.trans ((Below.refl _ w1).drew.trans hb9 |>.mono b1.size)⟩)
  · obtain ⟨N, rfl, hTab⟩ := tableOk_iff hT
    have HT := Lib.hid hT
    clear hT
    have hpl := pickOf_len N xs unitB
    go_region_held3 (fun w' => w'.cell? ⟨w.heap.size, 0, none⟩ = some (.int .i64 N) ∧ w'.cell? ⟨w.heap.size, 1, none⟩ = some (.slice A n c) ∧ Below w1.heap.size w1 w')
      (first | exact ⟨q0, q1, (Below.refl _ w1).drew⟩ | exact held2_keep (by assumption) hb9 (Nat.le_refl _) ql)
      ((first | (go_at_call 15; refine (implTableOk N A n c B xs _ (HW.out _ (by assumption)) hn).mono ?_; rw [HT.out]; rintro e w9 ⟨rfl, hb9⟩) | (go_at_call 34; refine (implUnitsOf N A n c B xs _ (HW.out _ (by assumption)) hn).mono ?_; rintro e w9 ⟨v9, rfl, o9, hb9⟩; obtain ⟨A9, c9, rfl⟩ := o9.form)))
    have hS := ‹_ ∧ _ ∧ Below w1.heap.size w1 w9›
    have b9 := hS.2.2
    clear hS
    have He := Lib.hid (show isGroupB N xs = (((pickOf N xs unitB).length : Int) == (N : Int)) by unfold isGroupB; rw [HT.out, Bool.true_and])
    go_wp2_with fail
    go_ret
    exact ⟨ret_bool He.out.symm, b1.trans (b9.mono b1.size)⟩
end Go.Proofs.Ytacmjgmpfbebbaa
