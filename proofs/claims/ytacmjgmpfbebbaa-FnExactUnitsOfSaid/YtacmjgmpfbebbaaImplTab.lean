/- The program's functions of tables. -/
import Derived.Test.YtacmjgmpfbebbaaTabFns
import Derived.Deep.RegionHeld3
namespace Go.Proofs.Ytacmjgmpfbebbaa
open Go.RowKit

theorem allOk_two (q : Int) (xs : List Int) (i k : Int) : allOk q xs [i, k] = (elemOk q xs i && elemOk q xs k) := by
  unfold allOk elemOk
  cases tableOk q xs <;> simp
theorem allOk_one (q : Int) (xs : List Int) (i : Int) : allOk q xs [i] = elemOk q xs i := by
  unfold allOk elemOk
  cases tableOk q xs <;> simp
theorem lit_two (w : World) (o : Obj) (i k : Int) (e : TypeId) : Own (w.heap.size + 1) ((w.alloc o).alloc (.cells #[.int .i64 i, .int .i64 k] e)) (.slice (some ⟨w.heap.size + 1, 0, none⟩) 2 2) 1 2 (ints [i, k]) := by
  have h := Own.new (w.alloc o) #[.int .i64 i, .int .i64 k] 2 e rfl (by unfold maxLen; omega)
  rw [World.size_alloc] at h
  exact h
theorem lit_one (w : World) (o : Obj) (i : Int) (e : TypeId) : Own (w.heap.size + 1) ((w.alloc o).alloc (.cells #[.int .i64 i] e)) (.slice (some ⟨w.heap.size + 1, 0, none⟩) 1 1) 1 1 (ints [i]) := by
  have h := Own.new (w.alloc o) #[.int .i64 i] 1 e rfl (by unfold maxLen; omega)
  rw [World.size_alloc] at h
  exact h
set_option maxRecDepth 100000 in
set_option maxHeartbeats 800000 in
theorem implProductOf (q : Int) (A : Option Addr) (n c B : Nat) (xs : List Int) (i k : Int) (w : World) (h : Own B w (.slice A n c) 1 n (ints xs)) (_hn : n ≤ 1048576) :
    Calls Try.prog 18 #[tabV q A n c, .int .i64 i, .int .i64 k] w fun e w' => e = .returned (.tuple #[.int .i64 (productOf q xs i k).1, .bool (productOf q xs i k).2]) ∧ Below w.heap.size w w' := by
  have HO := Lib.hid (h.below (bel2 w (.cells #[.int .i64 q, .slice A n c] 27) (.cells #[.int .i64 i, .int .i64 k] 3)))
  have HE := Lib.hid (lit_two w (.cells #[.int .i64 q, .slice A n c] 27) i k 3)
  clear h
  go_enter Try.func18, Try.ntmps18
  go_wp2_with fail
  refine (monoidWith_any q A _ n c 2 2 B _ xs [i, k] _ HO.out HE.out (by omega)).mono ?_
  rintro e w1 ⟨hm, hb1⟩
  have b1 := (bel2 w _ _).trans (hb1.mono (by simp; omega))
  clear hb1 HO HE
  rcases hm with ⟨N, g, rfl, hT, ha, rfl, -, hM⟩ | ⟨ha, rfl⟩
  · rw [allOk_two, Bool.and_eq_true] at ha
    obtain ⟨_, i, e1, rfl, -, hi⟩ := elemOk_iff ha.1
    obtain ⟨_, k, e2, rfl, -, hk⟩ := elemOk_iff ha.2
    have hi' : i < N := by omega
    have hk' : k < N := by omega
    have h40 := hT.hi
    have x := hM.num hT.rng hi' hk'
    have He := Lib.hid (productOf_yes hT hi' hk')
    clear hT ha hM e1 e2 hi hk
    go_wp2_with fail
    go_ret2
    exact ⟨ret_ib He.out, b1⟩
  · rw [allOk_two, Bool.and_eq_false_iff] at ha
    have He := Lib.hid (show productOf q xs i k = (0, false) from ha.elim productOf_no1 productOf_no2)
    clear ha
    go_wp2_with fail
    go_ret2
    exact ⟨ret_ib He.out, b1⟩
set_option maxRecDepth 100000 in
set_option maxHeartbeats 800000 in
theorem power_any (g N i k : Nat) (xs : List Int) (w : World) (h : MonAt w g N xs) (hT : TabOk N xs) (hi : i < N) (hk : k ≤ 1000) :
    Calls Try.prog 44 #[.pointer (some ⟨g, 0, none⟩), .int .i64 i, .int .i64 k] w fun e w' => e = .returned (.int .i64 (tpow N xs i k : Nat)) ∧ w = w' := by
  have HM := Lib.hid (fun a b ha hb => h.num hT.rng (i := a) (k := b) ha hb)
  have HT := Lib.hid hT
  have h40 := hT.hi
  clear h hT
  go_enter Try.func44, Try.ntmps44
  go_wp2_with fail
  go_loop [7, 9] (fun x i' => ∃ t : Nat, x = .int .i64 (tpow N xs i t : Nat) ∧ i' = .int .i64 t ∧ t ≤ k) (fun _ i' => k - (intOf i').toNat)
  case atStart => exact ⟨0, rfl, rfl, Nat.zero_le _⟩
  case round =>
    obtain ⟨t, rfl, rfl, ht⟩ := hrel
    by_cases hlt : t < k
    · have hp := HT.out.pow_lt hi t
      have Hs := Lib.hid (show tpow N xs i (t + 1) = tmul N xs (tpow N xs i t) i from rfl)
      generalize tpow N xs i t = P at *
      have x := HM.out P i hp hi
      rw [← Hs.out] at x
      go_wp2_with fail
      go_round
      case rel => exact ⟨t + 1, rfl, by go_num, by omega⟩
      case measure => simp [intOf]; omega
    · obtain rfl : k = t := by omega
      go_wp2_with fail
      go_ret
      exact ⟨rfl, rfl⟩
set_option maxRecDepth 100000 in
set_option maxHeartbeats 800000 in
theorem implPowerOf (q : Int) (A : Option Addr) (n c B : Nat) (xs : List Int) (i k : Int) (w : World) (h : Own B w (.slice A n c) 1 n (ints xs)) (_hn : n ≤ 1048576) :
    Calls Try.prog 20 #[tabV q A n c, .int .i64 i, .int .i64 k] w fun e w' => e = .returned (.tuple #[.int .i64 (powerOf q xs i k).1, .bool (powerOf q xs i k).2]) ∧ Below w.heap.size w w' := by
  have HO := Lib.hid (h.below (bel2 w (.cells #[.int .i64 q, .slice A n c] 27) (.cells #[.int .i64 i] 3)))
  have HE := Lib.hid (lit_one w (.cells #[.int .i64 q, .slice A n c] 27) i 3)
  clear h
  go_enter Try.func20, Try.ntmps20
  go_wp2_with fail
  refine (monoidWith_any q A _ n c 1 1 B _ xs [i] _ HO.out HE.out (by omega)).mono ?_
  rintro e w1 ⟨hm, hb1⟩
  have b1 := (bel2 w _ _).trans (hb1.mono (by simp; omega))
  clear hb1 HO HE
  rcases hm with ⟨N, g, rfl, hT, ha, rfl, -, hM⟩ | ⟨ha, rfl⟩
  · rw [allOk_one] at ha
    obtain ⟨_, i, e1, rfl, -, hi⟩ := elemOk_iff ha
    have hi' : i < N := by omega
    have HT := Lib.hid hT
    have HM := Lib.hid hM
    clear hT ha hM e1 hi
    by_cases hk : 0 ≤ k ∧ k ≤ 1000
    · obtain ⟨k, rfl⟩ : ∃ k' : Nat, k = k' := ⟨k.toNat, by omega⟩
      have hk' : k ≤ 1000 := by omega
      have He := Lib.hid (powerOf_yes HT.out hi' hk')
      clear hk
      go_wp2_with fail
      refine (power_any g N i k xs _ HM.out HT.out hi' hk').mono ?_
      rintro e w2 ⟨rfl, rfl⟩
      go_wp2_with fail
      go_ret2
      exact ⟨ret_ib He.out, b1⟩
    · have He := Lib.hid (powerOf_no2 (q := N) (xs := xs) (i := i) (k := k) (by omega))
      by_cases hk0 : k < 0
      · clear hk
        go_wp2_with fail
        go_ret2
        exact ⟨ret_ib He.out, b1⟩
      · have hk1 : 1000 < k := by omega
        clear hk
        go_wp2_with fail
        go_ret2
        exact ⟨ret_ib He.out, b1⟩
  · rw [allOk_one] at ha
    have He := Lib.hid (powerOf_no1 (k := k) ha)
    clear ha
    go_wp2_with fail
    go_ret2
    exact ⟨ret_ib He.out, b1⟩
theorem isIdem_any (g N i : Nat) (xs : List Int) (w : World) (h : MonAt w g N xs) (h40 : N ≤ 40) (hr : Rng N xs) (hi : i < N) :
    Calls Try.prog 48 #[.pointer (some ⟨g, 0, none⟩), .int .i64 i] w fun e w' => e = .returned (.bool (idemB N xs i)) ∧ ∃ m, w' = w.drewN m :=
  (isIdempotent_any g N i xs w h h40 hr hi).mono fun e w' ⟨he, hw⟩ => ⟨he, 0, by rw [← hw]; rfl⟩
set_option maxRecDepth 100000 in
set_option maxHeartbeats 800000 in
theorem isZero_any (g N i : Nat) (xs : List Int) (w : World) (h : MonAt w g N xs) (h40 : N ≤ 40) (hr : Rng N xs) (hi : i < N) :
    Calls Try.prog 49 #[.pointer (some ⟨g, 0, none⟩), .int .i64 i] w fun e w' => e = .returned (.bool (zeroB N xs i)) ∧ ∃ m, w' = w.drewN m := by
  have x := h.size
  have HM := Lib.hid (fun a b ha hb => h.num hr (i := a) (k := b) ha hb)
  clear h hr
  go_enter Try.func49, Try.ntmps49
  go_wp2_with fail
  go_loop [10] (fun k' => ∃ k : Nat, k' = .int .i64 k ∧ k ≤ N ∧ Hid (∀ a, a < k → tmul N xs i a = i ∧ tmul N xs a i = i)) (fun k' => N - (intOf k').toNat)
  case atStart => exact ⟨0, rfl, Nat.zero_le _, fun a ha => absurd ha (by omega)⟩
  case round =>
    obtain ⟨k, rfl, hk, HI⟩ := hrel
    by_cases hlt : k < N
    · have y := HM.out i k hi hlt
      have z := HM.out k i hlt hi
      by_cases e1 : tmul N xs i k = i
      · by_cases e2 : tmul N xs k i = i
        · rw [e1] at y
          rw [e2] at z
          have HI1 : Hid (∀ a, a < k + 1 → tmul N xs i a = i ∧ tmul N xs a i = i) := fun a ha => by
            by_cases e : a = k
            · subst e; exact ⟨e1, e2⟩
            · exact HI.out a (by omega)
          clear e1 e2
          go_wp2_with fail
          go_round
          case rel => exact ⟨k + 1, by go_num, by omega, HI1⟩
          case measure => simp [intOf]; omega
        · have He := Lib.hid (show zeroB N xs i = false from cdec_no (fun h => e2 (h k hlt).2))
          rw [e1] at y
          generalize tmul N xs k i = U at *
          have e3 : ((U : Int) == (i : Int)) = false := by simp; omega
          have e4 : ((U : Int) != (i : Int)) = true := by simp; omega
          clear e1 e2
          go_wp2_with fail
          go_ret
          exact ⟨ret_bool He.out.symm, 0, rfl⟩
      · have He := Lib.hid (show zeroB N xs i = false from cdec_no (fun h => e1 (h k hlt).1))
        generalize tmul N xs i k = U at *
        have e3 : ((U : Int) == (i : Int)) = false := by simp; omega
        have e4 : ((U : Int) != (i : Int)) = true := by simp; omega
        clear e1
        go_wp2_with fail
        go_ret
        exact ⟨ret_bool He.out.symm, 0, rfl⟩
    · obtain rfl : N = k := by omega
      have He := Lib.hid (show zeroB N xs i = true from cdec_yes (fun a ha => HI.out a ha))
      go_wp2_with fail
      go_ret
      exact ⟨ret_bool He.out.symm, 0, rfl⟩
set_option maxRecDepth 100000 in
set_option maxHeartbeats 800000 in
theorem isUnit_any (g N i : Nat) (xs : List Int) (w : World) (h : MonAt w g N xs) (h40 : N ≤ 40) (hr : Rng N xs) (hi : i < N) :
    Calls Try.prog 51 #[.pointer (some ⟨g, 0, none⟩), .int .i64 i] w fun e w' => e = .returned (.bool (unitB N xs i)) ∧ ∃ m, w' = w.drewN m := by
  have x := h.size
  have HM := Lib.hid (fun a b ha hb => h.num hr (i := a) (k := b) ha hb)
  clear h hr
  go_enter Try.func51, Try.ntmps51
  go_wp2_with fail
  go_loop [10] (fun k' => ∃ k : Nat, k' = .int .i64 k ∧ k ≤ N ∧ Hid (∀ a, a < k → ¬ (tmul N xs i a = 0 ∧ tmul N xs a i = 0))) (fun k' => N - (intOf k').toNat)
  case atStart => exact ⟨0, rfl, Nat.zero_le _, fun a ha => absurd ha (by omega)⟩
  case round =>
    obtain ⟨k, rfl, hk, HI⟩ := hrel
    by_cases hlt : k < N
    · have y := HM.out i k hi hlt
      have z := HM.out k i hlt hi
      obtain ⟨U, hU⟩ : ∃ U : Int, ((tmul N xs i k : Nat) : Int) = U := ⟨_, rfl⟩
      obtain ⟨V, hV⟩ : ∃ V : Int, ((tmul N xs k i : Nat) : Int) = V := ⟨_, rfl⟩
      rw [hU] at y
      rw [hV] at z
      by_cases e1 : U = 0
      · by_cases e2 : V = 0
        · have He := Lib.hid (show unitB N xs i = true from cdec_yes ⟨k, hlt, by omega, by omega⟩)
          subst e1
          subst e2
          clear hU hV
          go_wp2_with fail
          go_ret
          exact ⟨ret_bool He.out.symm, 0, rfl⟩
        · have HI1 : Hid (∀ a, a < k + 1 → ¬ (tmul N xs i a = 0 ∧ tmul N xs a i = 0)) := fun a ha => by
            by_cases e : a = k
            · subst e; omega
            · exact HI.out a (by omega)
          have e3 : (V == 0) = false := by simpa using e2
          subst e1
          clear hU hV e2
          go_wp2_with fail
          go_round
          case rel => exact ⟨k + 1, by go_num, by omega, HI1⟩
          case measure => simp [intOf]; omega
      · have HI1 : Hid (∀ a, a < k + 1 → ¬ (tmul N xs i a = 0 ∧ tmul N xs a i = 0)) := fun a ha => by
          by_cases e : a = k
          · subst e; omega
          · exact HI.out a (by omega)
        have e3 : (U == 0) = false := by simpa using e1
        clear hU hV e1
        go_wp2_with fail
        go_round
        case rel => exact ⟨k + 1, by go_num, by omega, HI1⟩
        case measure => simp [intOf]; omega
    · obtain rfl : N = k := by omega
      have He := Lib.hid (show unitB N xs i = false from cdec_no (fun ⟨a, ha, h⟩ => HI.out a ha h))
      go_wp2_with fail
      go_ret
      exact ⟨ret_bool He.out.symm, 0, rfl⟩
set_option maxRecDepth 100000 in
set_option maxHeartbeats 800000 in
theorem elementsWith_isIdem (g N : Nat) (xs : List Int) (w : World) (h : MonAt w g N xs) (h40 : N ≤ 40) (hT : TabOk N xs) :
    Calls Try.prog 47 #[.pointer (some ⟨g, 0, none⟩), .func (.func 48) #[.pointer (some ⟨g, 0, none⟩)] #[]] w fun e w' => ∃ v, e = .returned v ∧ Own w.heap.size w' v 1 (pick (idemB N xs) N).length (ints (pick (idemB N xs) N)) ∧ Below w.heap.size w w' := by
  obtain ⟨i0, hi0, hz0, hz1, hz2⟩ := infoR_parts infoInt
  have x := h.size
  have HM := Lib.hid h
  have HT := Lib.hid hT
  clear h hT
  go_enter Try.func47, Try.ntmps47
  go_wp2_with fail
  clear x
  go_loopw [5, 11] (fun v i' wr => ∃ i : Nat, i' = .int .i64 i ∧ i ≤ N ∧ Hid (wr.ownsRow w.heap.size 3 1 v (pick (idemB N xs) i).length (ints (pick (idemB N xs) i))) ∧ Below w.heap.size w wr) (fun _ i' _ => N - (intOf i').toNat)
  case atStart => exact ⟨0, rfl, Nat.zero_le _, World.ownsRow_nil _ _ _ _, Below.refl _ _⟩
  case round =>
    obtain ⟨i, rfl, hi, HR, hb⟩ := hrel
    have hbs := hb.size
    by_cases hlt : i < N
    · go_wp2_with fail
      refine (isIdem_any g N i xs _ (HM.out.below hb) h40 HT.out.rng hlt).mono ?_
      cases hp : idemB N xs i
      · rintro e w2 ⟨rfl, m, rfl⟩
        have HX6 : Hid ((wr.drewN m).ownsRow w.heap.size 3 1 u5 (pick (idemB N xs) (i + 1)).length (ints (pick (idemB N xs) (i + 1)))) := by
          show World.ownsRow _ _ _ _ _ _ _
          rw [pick_no hp]; exact HR.out
        have hb2 := below_drewN hb m
        clear hp
        go_wp2_with fail
        go_roundw
        case rel => exact ⟨i + 1, by go_num, by omega, HX6, hb2⟩
        case measure => simp [intOf]; omega
      · rintro e w2 ⟨rfl, m, rfl⟩
        have Hs := Lib.hid (pick_yes (p := idemB N xs) hp)
        have HX2 : Hid ((wr.drewN m).ownsRow w.heap.size 3 1 u5 (pick (idemB N xs) i).length (ints (pick (idemB N xs) i))) := HR
        have hb3 := below_drewN hb m
        have hbs3 := hb3.size
        have hpl := pick_len (idemB N xs) i
        clear hp HR hb
        generalize wr.drewN m = w2 at *
        generalize hPP : pick (idemB N xs) i = PP at *
        have HPP := Lib.hid hPP
        clear hPP
        go_wp2_with (at_builtin; refine wpList_append_own _ rfl _ _ 22 rfl w.heap.size 3 i0 (.int .i64 0) 1 8 Try.underlying22 hi0 hz0 hz1 hz2 rfl (by decide) _ _ _ rfl (HX2.out.alloc _) ⟨w2.heap.size, 0, none⟩ 1 1 [.int .i64 (i : Int)] rfl rfl ?c1 ?c2 ?c3 ?c4 ?c5 ?_)
        case c1 => intro j u hj; match j, hj with | 0, hj => (simp at hj; subst hj; simp [Addr.add])
        case c2 => intro u hu; simp at hu; subst hu; rfl
        case c3 => unfold maxLen; omega
        case c4 => omega
        case c5 => simp; omega
        intro v' w6 hown' hgrow _
        have HX6 : Hid (w6.ownsRow w.heap.size 3 1 v' (pick (idemB N xs) (i + 1)).length (ints (pick (idemB N xs) (i + 1)))) := by
          show World.ownsRow _ _ _ _ _ _ _
          rw [Hs.out]; simpa [ints] using hown'
        have hbw6 : Below w.heap.size w w6 := grown_one HX2.out hgrow hb3 (Nat.le_refl _) hbs3
        clear hown' hgrow HX2
        go_wp2_with fail
        go_roundw
        case rel => exact ⟨i + 1, by go_num, by omega, HX6, hbw6⟩
        case measure => simp [intOf]; omega
    · obtain rfl : N = i := by omega
      obtain ⟨A9, c9, rfl⟩ := (Own.of_row HR.out).form
      go_wp2_with fail
      go_ret
      exact ⟨_, rfl, Own.of_row HR.out, hb⟩
set_option maxRecDepth 100000 in
set_option maxHeartbeats 800000 in
theorem elementsWith_isZero (g N : Nat) (xs : List Int) (w : World) (h : MonAt w g N xs) (h40 : N ≤ 40) (hT : TabOk N xs) :
    Calls Try.prog 47 #[.pointer (some ⟨g, 0, none⟩), .func (.func 49) #[.pointer (some ⟨g, 0, none⟩)] #[]] w fun e w' => ∃ v, e = .returned v ∧ Own w.heap.size w' v 1 (pick (zeroB N xs) N).length (ints (pick (zeroB N xs) N)) ∧ Below w.heap.size w w' := by
  obtain ⟨i0, hi0, hz0, hz1, hz2⟩ := infoR_parts infoInt
  have x := h.size
  have HM := Lib.hid h
  have HT := Lib.hid hT
  clear h hT
  go_enter Try.func47, Try.ntmps47
  go_wp2_with fail
  clear x
  go_loopw [5, 11] (fun v i' wr => ∃ i : Nat, i' = .int .i64 i ∧ i ≤ N ∧ Hid (wr.ownsRow w.heap.size 3 1 v (pick (zeroB N xs) i).length (ints (pick (zeroB N xs) i))) ∧ Below w.heap.size w wr) (fun _ i' _ => N - (intOf i').toNat)
  case atStart => exact ⟨0, rfl, Nat.zero_le _, World.ownsRow_nil _ _ _ _, Below.refl _ _⟩
  case round =>
    obtain ⟨i, rfl, hi, HR, hb⟩ := hrel
    have hbs := hb.size
    by_cases hlt : i < N
    · go_wp2_with fail
      refine (isZero_any g N i xs _ (HM.out.below hb) h40 HT.out.rng hlt).mono ?_
      cases hp : zeroB N xs i
      · rintro e w2 ⟨rfl, m, rfl⟩
        have HX6 : Hid ((wr.drewN m).ownsRow w.heap.size 3 1 u5 (pick (zeroB N xs) (i + 1)).length (ints (pick (zeroB N xs) (i + 1)))) := by
          show World.ownsRow _ _ _ _ _ _ _
          rw [pick_no hp]; exact HR.out
        have hb2 := below_drewN hb m
        clear hp
        go_wp2_with fail
        go_roundw
        case rel => exact ⟨i + 1, by go_num, by omega, HX6, hb2⟩
        case measure => simp [intOf]; omega
      · rintro e w2 ⟨rfl, m, rfl⟩
        have Hs := Lib.hid (pick_yes (p := zeroB N xs) hp)
        have HX2 : Hid ((wr.drewN m).ownsRow w.heap.size 3 1 u5 (pick (zeroB N xs) i).length (ints (pick (zeroB N xs) i))) := HR
        have hb3 := below_drewN hb m
        have hbs3 := hb3.size
        have hpl := pick_len (zeroB N xs) i
        clear hp HR hb
        generalize wr.drewN m = w2 at *
        generalize hPP : pick (zeroB N xs) i = PP at *
        have HPP := Lib.hid hPP
        clear hPP
        go_wp2_with (at_builtin; refine wpList_append_own _ rfl _ _ 22 rfl w.heap.size 3 i0 (.int .i64 0) 1 8 Try.underlying22 hi0 hz0 hz1 hz2 rfl (by decide) _ _ _ rfl (HX2.out.alloc _) ⟨w2.heap.size, 0, none⟩ 1 1 [.int .i64 (i : Int)] rfl rfl ?c1 ?c2 ?c3 ?c4 ?c5 ?_)
        case c1 => intro j u hj; match j, hj with | 0, hj => (simp at hj; subst hj; simp [Addr.add])
        case c2 => intro u hu; simp at hu; subst hu; rfl
        case c3 => unfold maxLen; omega
        case c4 => omega
        case c5 => simp; omega
        intro v' w6 hown' hgrow _
        have HX6 : Hid (w6.ownsRow w.heap.size 3 1 v' (pick (zeroB N xs) (i + 1)).length (ints (pick (zeroB N xs) (i + 1)))) := by
          show World.ownsRow _ _ _ _ _ _ _
          rw [Hs.out]; simpa [ints] using hown'
        have hbw6 : Below w.heap.size w w6 := grown_one HX2.out hgrow hb3 (Nat.le_refl _) hbs3
        clear hown' hgrow HX2
        go_wp2_with fail
        go_roundw
        case rel => exact ⟨i + 1, by go_num, by omega, HX6, hbw6⟩
        case measure => simp [intOf]; omega
    · obtain rfl : N = i := by omega
      obtain ⟨A9, c9, rfl⟩ := (Own.of_row HR.out).form
      go_wp2_with fail
      go_ret
      exact ⟨_, rfl, Own.of_row HR.out, hb⟩
set_option maxRecDepth 100000 in
set_option maxHeartbeats 800000 in
theorem elementsWith_isUnit (g N : Nat) (xs : List Int) (w : World) (h : MonAt w g N xs) (h40 : N ≤ 40) (hT : TabOk N xs) :
    Calls Try.prog 47 #[.pointer (some ⟨g, 0, none⟩), .func (.func 51) #[.pointer (some ⟨g, 0, none⟩)] #[]] w fun e w' => ∃ v, e = .returned v ∧ Own w.heap.size w' v 1 (pick (unitB N xs) N).length (ints (pick (unitB N xs) N)) ∧ Below w.heap.size w w' := by
  obtain ⟨i0, hi0, hz0, hz1, hz2⟩ := infoR_parts infoInt
  have x := h.size
  have HM := Lib.hid h
  have HT := Lib.hid hT
  clear h hT
  go_enter Try.func47, Try.ntmps47
  go_wp2_with fail
  clear x
  go_loopw [5, 11] (fun v i' wr => ∃ i : Nat, i' = .int .i64 i ∧ i ≤ N ∧ Hid (wr.ownsRow w.heap.size 3 1 v (pick (unitB N xs) i).length (ints (pick (unitB N xs) i))) ∧ Below w.heap.size w wr) (fun _ i' _ => N - (intOf i').toNat)
  case atStart => exact ⟨0, rfl, Nat.zero_le _, World.ownsRow_nil _ _ _ _, Below.refl _ _⟩
  case round =>
    obtain ⟨i, rfl, hi, HR, hb⟩ := hrel
    have hbs := hb.size
    by_cases hlt : i < N
    · go_wp2_with fail
      refine (isUnit_any g N i xs _ (HM.out.below hb) h40 HT.out.rng hlt).mono ?_
      cases hp : unitB N xs i
      · rintro e w2 ⟨rfl, m, rfl⟩
        have HX6 : Hid ((wr.drewN m).ownsRow w.heap.size 3 1 u5 (pick (unitB N xs) (i + 1)).length (ints (pick (unitB N xs) (i + 1)))) := by
          show World.ownsRow _ _ _ _ _ _ _
          rw [pick_no hp]; exact HR.out
        have hb2 := below_drewN hb m
        clear hp
        go_wp2_with fail
        go_roundw
        case rel => exact ⟨i + 1, by go_num, by omega, HX6, hb2⟩
        case measure => simp [intOf]; omega
      · rintro e w2 ⟨rfl, m, rfl⟩
        have Hs := Lib.hid (pick_yes (p := unitB N xs) hp)
        have HX2 : Hid ((wr.drewN m).ownsRow w.heap.size 3 1 u5 (pick (unitB N xs) i).length (ints (pick (unitB N xs) i))) := HR
        have hb3 := below_drewN hb m
        have hbs3 := hb3.size
        have hpl := pick_len (unitB N xs) i
        clear hp HR hb
        generalize wr.drewN m = w2 at *
        generalize hPP : pick (unitB N xs) i = PP at *
        have HPP := Lib.hid hPP
        clear hPP
        go_wp2_with (at_builtin; refine wpList_append_own _ rfl _ _ 22 rfl w.heap.size 3 i0 (.int .i64 0) 1 8 Try.underlying22 hi0 hz0 hz1 hz2 rfl (by decide) _ _ _ rfl (HX2.out.alloc _) ⟨w2.heap.size, 0, none⟩ 1 1 [.int .i64 (i : Int)] rfl rfl ?c1 ?c2 ?c3 ?c4 ?c5 ?_)
        case c1 => intro j u hj; match j, hj with | 0, hj => (simp at hj; subst hj; simp [Addr.add])
        case c2 => intro u hu; simp at hu; subst hu; rfl
        case c3 => unfold maxLen; omega
        case c4 => omega
        case c5 => simp; omega
        intro v' w6 hown' hgrow _
        have HX6 : Hid (w6.ownsRow w.heap.size 3 1 v' (pick (unitB N xs) (i + 1)).length (ints (pick (unitB N xs) (i + 1)))) := by
          show World.ownsRow _ _ _ _ _ _ _
          rw [Hs.out]; simpa [ints] using hown'
        have hbw6 : Below w.heap.size w w6 := grown_one HX2.out hgrow hb3 (Nat.le_refl _) hbs3
        clear hown' hgrow HX2
        go_wp2_with fail
        go_roundw
        case rel => exact ⟨i + 1, by go_num, by omega, HX6, hbw6⟩
        case measure => simp [intOf]; omega
    · obtain rfl : N = i := by omega
      obtain ⟨A9, c9, rfl⟩ := (Own.of_row HR.out).form
      go_wp2_with fail
      go_ret
      exact ⟨_, rfl, Own.of_row HR.out, hb⟩
end Go.Proofs.Ytacmjgmpfbebbaa
