/- InverseOf and OrderOf, both sides; the powers of an element. -/
import Derived.Test.YtkiomohpmajjcaaGroupAt
import Derived.Test.YtkiomohpmajjcaaSpecTab3
namespace Go.Proofs.Ytkiomohpmajjcaa
open Go.RowKit

noncomputable def inverseOf (q : Int) (xs : List Int) (i : Int) : Int × Bool := if isGroupB q xs && elemOk q xs i then (((tinv q.toNat xs i.toNat : Nat) : Int), true) else (0, false)
noncomputable def orderOf (q : Int) (xs : List Int) (i : Int) : Int := if isGroupB q xs then (indexPeriod q xs i).2 else 0
theorem inverseOf_yes {N i : Nat} {xs : List Int} (hG : Grp N xs) (hi : i < N) : inverseOf N xs i = (((tinv N xs i : Nat) : Int), true) := by
  unfold inverseOf; rw [isGroup_yes hG, elemOk_yes hG.tab hi]; rfl
theorem inverseOf_no {q : Int} {xs : List Int} {i : Int} (h : ¬ gallOk q xs [i]) : inverseOf q xs i = (0, false) := by
  unfold inverseOf
  rw [if_neg]
  intro h2
  rw [Bool.and_eq_true] at h2
  exact h ⟨h2.1, by rw [allOk_one]; exact h2.2⟩
theorem orderOf_yes {N i k : Nat} {xs : List Int} (hG : Grp N xs) (hi : i < N) (h : IP N xs i 0 k) : orderOf N xs i = k := by
  unfold orderOf; rw [isGroup_yes hG, if_pos rfl, indexPeriod_yes hG.tab hi h]
theorem orderOf_no {q : Int} {xs : List Int} {i : Int} (h : ¬ gallOk q xs [i]) : orderOf q xs i = 0 := by
  unfold orderOf
  cases hg : isGroupB q xs
  · rfl
  · rw [if_pos rfl, indexPeriod_no]
    cases he : elemOk q xs i
    · rfl
    · exact absurd ⟨hg, by rw [allOk_one]; exact he⟩ h
theorem orderOf_le (q : Int) (xs : List Int) (i : Int) : 0 ≤ orderOf q xs i := by
  unfold orderOf
  split
  · unfold indexPeriod
    split
    · exact Int.natCast_nonneg _
    · exact Int.le_refl _
  · exact Int.le_refl _
/-- The powers 1 to k of i. -/
def pow1 (n : Nat) (xs : List Int) (i k : Nat) : List Nat := (List.range k).map fun t => tpow n xs i (t + 1)
theorem pow1_length (n : Nat) (xs : List Int) (i k : Nat) : (pow1 n xs i k).length = k := by simp [pow1]
theorem pow1_succ (n : Nat) (xs : List Int) (i k : Nat) : pow1 n xs i (k + 1) = pow1 n xs i k ++ [tpow n xs i (k + 1)] := by simp [pow1, List.range_succ]
theorem row_new (w : World) (C : Array Value) (m : Nat) (e : TypeId) (hm : C.size = m) (hx : m ≤ maxLen) : (w.alloc (.cells C e)).ownsRow w.heap.size e 1 (.slice (some ⟨w.heap.size, 0, none⟩) m m) m C.toList :=
  ⟨by rw [Array.length_toList]; omega, Or.inr ⟨w.heap.size, m, C, rfl, Nat.le_refl _, heap_alloc_new w _, Nat.le_refl _, hx, by omega, by rw [Nat.mul_one, ← hm]; exact List.take_of_length_le (by rw [Array.length_toList]; exact Nat.le_refl _)⟩⟩
def PowPost (n : Nat) (xs : List Int) (i B : Nat) (e : Ending) (w' : World) : Prop :=
  ∃ v k, e = .returned v ∧ 0 < k ∧ Away n xs i k ∧ tpow n xs i k = 0 ∧ Own B w' v 1 k (ints (nints (pow1 n xs i k)))
set_option maxRecDepth 100000 in
set_option maxHeartbeats 800000 in
theorem powersOf_any (h g N i : Nat) (xs : List Int) (w : World) (H : GrpAt w h g N xs) (hG : Grp N xs) (hi : i < N) :
    Calls Try.prog 44 #[.pointer (some ⟨h, 0, none⟩), .int .i64 i] w fun e w' => PowPost N xs i w.heap.size e w' ∧ Below w.heap.size w w' := by
  obtain ⟨i0, hi0, hz0, hz1, hz2⟩ := infoR_parts infoInt
  have HH := Lib.hid (fun (w' : World) (hb : Below w.heap.size w w') => H.below hb)
  have HG := Lib.hid hG
  have h40 := hG.tab.hi
  have HR0 := Lib.hid (row_new w #[.int .i64 (i : Int)] 1 3 rfl (by unfold maxLen; omega))
  have hb0 := bel1 w (.cells #[.int .i64 (i : Int)] 3)
  have H1 := Lib.hid (tpow_one hG.tab hi)
  clear H hG
  go_enter Try.func44, Try.ntmps44
  go_wp2_with fail
  generalize w.alloc (.cells #[.int .i64 (i : Int)] 3) = wn at *
  go_loopw [5, 6] (fun v p wr => ∃ k : Nat, 0 < k ∧ p = .int .i64 (tpow N xs i k : Nat) ∧ Hid (wr.ownsRow w.heap.size 3 1 v k (ints (nints (pow1 N xs i k)))) ∧ Hid (Away N xs i k) ∧ Below w.heap.size w wr) (fun v _ _ => N - lenOf v)
  case atStart => exact ⟨1, by omega, by rw [H1.out], (by show World.ownsRow _ _ _ _ _ _ _; rw [pow1_succ, nints_snoc, H1.out]; exact HR0.out), Away.one i, hb0⟩
  case round =>
    obtain ⟨k, hk0, rfl, HR, HA, hb⟩ := hrel
    have hbs := hb.size
    have hkN := HA.out.le HG.out hi
    have hpt := HG.out.tab.pow_lt hi k
    obtain ⟨A9, c9, hv⟩ := (Own.of_row HR.out).form
    subst hv
    by_cases e : tpow N xs i k = 0
    · have He := Lib.hid e
      rw [e]
      clear e hpt
      go_wp2_with fail
      go_ret
      exact ⟨⟨_, k, rfl, hk0, HA.out, He.out, Own.of_row HR.out⟩, hb⟩
    · have HA1 := Lib.hid (HA.out.succ e)
      have hkN1 := HA1.out.le HG.out hi
      have x1 := (HH.out _ hb).ptr
      have x2 := (HH.out _ hb).mon.num HG.out.tab.rng hpt hi
      have Hs := Lib.hid (pow1_succ N xs i k)
      have Hp := Lib.hid (show tpow N xs i (k + 1) = tmul N xs (tpow N xs i k) i from rfl)
      have hlm := HG.out.tab.lt hpt hi
      generalize hPT : tpow N xs i k = PT at *
      have HPT := Lib.hid hPT
      generalize hQ : pow1 N xs i k = Q at *
      have HQ := Lib.hid hQ
      generalize hNX : tmul N xs PT i = NX at *
      have HNX := Lib.hid hNX
      have e1 : ((PT : Int) == 0) = false := by simp; omega
      have e2 : ((PT : Int) != 0) = true := by simp; omega
      clear hPT e hQ hNX
      go_wp2_with (at_builtin; refine wpList_append_own _ rfl _ _ 53 rfl w.heap.size 3 i0 (.int .i64 0) 1 8 Try.underlying53 hi0 hz0 hz1 hz2 rfl (by decide) _ _ _ rfl (HR.out.alloc _) ⟨wr.heap.size, 0, none⟩ 1 1 [.int .i64 (NX : Int)] rfl rfl ?c1 ?c2 ?c3 ?c4 ?c5 ?_)
      case c1 => intro j u hj; match j, hj with | 0, hj => (simp at hj; subst hj; simp [Addr.add])
      case c2 => intro u hu; simp at hu; subst hu; rfl
      case c3 => unfold maxLen; omega
      case c4 => omega
      case c5 => simp; omega
      intro v' w6 hown' hgrow _
      have HX6 : Hid (w6.ownsRow w.heap.size 3 1 v' (k + 1) (ints (nints (pow1 N xs i (k + 1))))) := by
        show World.ownsRow _ _ _ _ _ _ _
        rw [Hs.out, nints_snoc, Hp.out]; simpa [ints] using hown'
      have hbw6 : Below w.heap.size w w6 := grown_one HR.out hgrow hb (Nat.le_refl _) hbs
      have hl6 : lenOf v' = k + 1 := by obtain ⟨A8, c8, hv8⟩ := (Own.of_row HX6.out).form; rw [hv8]; rfl
      have HL6 := Lib.hid hl6
      clear hown' hgrow hl6 HR
      go_wp2_with fail
      go_roundw
      case rel => exact ⟨k + 1, by omega, by rw [Hp.out], HX6, HA1, hbw6⟩
      case measure => rw [HL6.out]; simp [lenOf]; omega
set_option maxRecDepth 100000 in
set_option maxHeartbeats 800000 in
theorem implInverseOf (q : Int) (A : Option Addr) (n c B : Nat) (xs : List Int) (i : Int) (w : World) (h : Own B w (.slice A n c) 1 n (ints xs)) (_hn : n ≤ 1048576) :
    Calls Try.prog 15 #[tabV q A n c, .int .i64 i] w fun e w' => e = .returned (.tuple #[.int .i64 (inverseOf q xs i).1, .bool (inverseOf q xs i).2]) ∧ Below w.heap.size w w' := by
  have HO := Lib.hid (h.below (bel2 w (.cells #[.int .i64 q, .slice A n c] 28) (.cells #[.int .i64 i] 3)))
  have HE := Lib.hid (lit_one w (.cells #[.int .i64 q, .slice A n c] 28) i 3)
  clear h
  go_enter Try.func15, Try.ntmps15
  go_wp2_with fail
  refine (groupWith_any q A _ n c 1 1 B _ xs [i] _ HO.out HE.out).mono ?_
  rintro e w1 ⟨hm, hb1⟩
  have b1 := (bel2 w _ _).trans (hb1.mono (by simp; omega))
  clear hb1 HO HE
  rcases hm with ⟨N, h, g, rfl, hG, ha, rfl, hM⟩ | ⟨ha, rfl⟩
  · rw [allOk_one] at ha
    obtain ⟨_, i, e1, rfl, -, hi⟩ := elemOk_iff ha
    have hi' : i < N := by omega
    have h40 := hG.tab.hi
    have x := hM.inv i hi'
    have He := Lib.hid (inverseOf_yes hG hi')
    clear hG ha hM e1 hi
    go_wp2_with fail
    go_ret2
    exact ⟨ret_ib He.out, b1⟩
  · have He := Lib.hid (inverseOf_no ha)
    clear ha
    go_wp2_with fail
    go_ret2
    exact ⟨ret_ib He.out, b1⟩
set_option maxRecDepth 100000 in
set_option maxHeartbeats 800000 in
theorem implOrderOf (q : Int) (A : Option Addr) (n c B : Nat) (xs : List Int) (i : Int) (w : World) (h : Own B w (.slice A n c) 1 n (ints xs)) (_hn : n ≤ 1048576) :
    Calls Try.prog 18 #[tabV q A n c, .int .i64 i] w fun e w' => e = .returned (.int .i64 (orderOf q xs i)) ∧ Below w.heap.size w w' := by
  have HO := Lib.hid (h.below (bel2 w (.cells #[.int .i64 q, .slice A n c] 28) (.cells #[.int .i64 i] 3)))
  have HE := Lib.hid (lit_one w (.cells #[.int .i64 q, .slice A n c] 28) i 3)
  clear h
  go_enter Try.func18, Try.ntmps18
  go_wp2_with fail
  refine (groupWith_any q A _ n c 1 1 B _ xs [i] _ HO.out HE.out).mono ?_
  rintro e w1 ⟨hm, hb1⟩
  have b1 := (bel2 w _ _).trans (hb1.mono (by simp; omega))
  clear hb1 HO HE
  rcases hm with ⟨N, h, g, rfl, hG, ha, rfl, hM⟩ | ⟨ha, rfl⟩
  · rw [allOk_one] at ha
    obtain ⟨_, i, e1, rfl, -, hi⟩ := elemOk_iff ha
    have hi' : i < N := by omega
    have HG := Lib.hid hG
    have HM := Lib.hid hM
    clear hG ha hM e1 hi
    go_wp2_with fail
    refine (powersOf_any h g N i xs _ HM.out HG.out hi').mono ?_
    rintro e w2 ⟨⟨v, k, rfl, hk, hA, h0, o2⟩, hb2⟩
    obtain ⟨A2, c2, rfl⟩ := o2.form
    have He := Lib.hid (orderOf_yes HG.out hi' (hA.order HG.out hi' hk h0))
    have hkN := hA.le HG.out hi'
    have h40 := HG.out.tab.hi
    have b2 := b1.trans (hb2.mono b1.size)
    clear hb2 o2 hA h0
    go_wp2_with fail
    go_ret
    exact ⟨ret_i64 He.out.symm, b2⟩
  · have He := Lib.hid (orderOf_no ha)
    clear ha
    go_wp2_with fail
    go_ret
    exact ⟨ret_i64 He.out.symm, b1⟩
set_option maxRecDepth 100000 in
set_option maxHeartbeats 800000 in
theorem specInverseOf (q : Int) (A : Option Addr) (n c B : Nat) (xs : List Int) (i : Int) (w : World) (h : Own B w (.slice A n c) 1 n (ints xs)) (hn : n ≤ 1048576) :
    Calls Try.prog 13 #[tabV q A n c, .int .i64 i] w fun e w' => e = .returned (.tuple #[.int .i64 (inverseOf q xs i).1, .bool (inverseOf q xs i).2]) ∧ Below w.heap.size w w' := by
  have HO := Lib.hid (h.below (bel1 w (.cells #[.int .i64 q, .slice A n c] 28)))
  clear h
  go_enter Try.func13, Try.ntmps13
  go_wp2_with fail
  refine (specIsGroup q A n c B xs _ HO.out hn).mono ?_
  rintro e w1 ⟨rfl, hb1⟩
  have b1 := (bel1 w _).trans (hb1.mono (by simp))
  have X1 := Lib.hid ((Blk.new1 w _ _).below hb1 (by simp))
  have O1 := Lib.hid (HO.out.below hb1)
  obtain ⟨q0, q1, -, -, ql⟩ := X1.out.two
  clear hb1 HO
  cases hg : isGroupB q xs
  · have He := Lib.hid (inverseOf_no (q := q) (xs := xs) (i := i) (fun h => by rw [h.1] at hg; cases hg))
    clear hg
    go_wp2_with fail
    go_ret2
    exact ⟨ret_ib He.out, b1⟩
  · obtain ⟨N, rfl, hG⟩ := isGroup_iff hg
    have h1 := hG.tab.lo
    have h40 := hG.tab.hi
    have HG := Lib.hid hG
    clear hg hG
    by_cases hi : 0 ≤ i ∧ i ≤ (N : Int) - 1
    · obtain ⟨i, rfl⟩ : ∃ k : Nat, i = k := ⟨i.toNat, by omega⟩
      have hiN : i < N := by omega
      have He := Lib.hid (inverseOf_yes HG.out hiN)
      have HU := Lib.hid (fun k => HG.out.inv_of (k := k) hiN)
      clear hi
      go_wp2_with fail
      refine (l01In_yes _ _ _ _ (by omega) (by omega)).mono ?_
      rintro e w2 ⟨rfl, rfl⟩
      go_wp2_with fail
      refine (l08Inverse_any N i A n c B xs _ O1.out HG.out.tab hiN).mono ?_
      rintro e w2 ⟨hp, hb2⟩
      have b2 := b1.trans (hb2.mono b1.size)
      clear hb2
      rcases hp with ⟨-, k, -, ⟨hk, hk1, -⟩, rfl⟩ | ⟨hno, rfl⟩
      · have hk2 := HU.out k hk hk1
        subst hk2
        go_wp2_with fail
        go_ret2
        exact ⟨ret_ib He.out, b2⟩
      · exact absurd (HG.out.inv i hiN) (not_cdec hno)
    · have He := Lib.hid (inverseOf_no (q := N) (xs := xs) (i := i) (fun h => by have h2 := h.2; rw [allOk_one, elemOk_no (by omega)] at h2; cases h2))
      have Hk := Lib.hid (show i < 0 ∨ (N : Int) - 1 < i by omega)
      clear hi
      go_wp2_with fail
      refine (l01In_no _ _ _ _ Hk.out).mono ?_
      rintro e w2 ⟨rfl, rfl⟩
      go_wp2_with fail
      go_ret2
      exact ⟨ret_ib He.out, b1⟩
set_option maxRecDepth 100000 in
set_option maxHeartbeats 800000 in
theorem specOrderOf (q : Int) (A : Option Addr) (n c B : Nat) (xs : List Int) (i : Int) (w : World) (h : Own B w (.slice A n c) 1 n (ints xs)) (hn : n ≤ 1048576) :
    Calls Try.prog 17 #[tabV q A n c, .int .i64 i] w fun e w' => e = .returned (.int .i64 (orderOf q xs i)) ∧ Below w.heap.size w w' := by
  have HO := Lib.hid (h.below (bel1 w (.cells #[.int .i64 q, .slice A n c] 28)))
  clear h
  go_enter Try.func17, Try.ntmps17
  go_wp2_with fail
  refine (specIsGroup q A n c B xs _ HO.out hn).mono ?_
  rintro e w1 ⟨rfl, hb1⟩
  have b1 := (bel1 w _).trans (hb1.mono (by simp))
  have X1 := Lib.hid ((Blk.new1 w _ _).below hb1 (by simp))
  have O1 := Lib.hid (HO.out.below hb1)
  obtain ⟨q0, q1, -, -, ql⟩ := X1.out.two
  clear hb1 HO
  cases hg : isGroupB q xs
  · have He := Lib.hid (orderOf_no (q := q) (xs := xs) (i := i) (fun h => by rw [h.1] at hg; cases hg))
    clear hg
    go_wp2_with fail
    go_ret
    exact ⟨ret_i64 He.out.symm, b1⟩
  · obtain ⟨N, rfl, hG⟩ := isGroup_iff hg
    have h1 := hG.tab.lo
    have h40 := hG.tab.hi
    have HG := Lib.hid hG
    have He := Lib.hid (show orderOf N xs i = (indexPeriod N xs i).2 by unfold orderOf; rw [hg]; rfl)
    clear hg hG
    by_cases hi : 0 ≤ i ∧ i ≤ (N : Int) - 1
    · obtain ⟨hi0, hi1⟩ := hi
      go_wp2_with fail
      refine (l01In_yes _ _ _ _ (by omega) (by omega)).mono ?_
      rintro e w2 ⟨rfl, rfl⟩
      go_wp2_with fail
      refine (specIndexPeriod N A n c B xs i _ O1.out hn).mono ?_
      rintro e w2 ⟨rfl, hb2⟩
      have b2 := b1.trans (hb2.mono b1.size)
      clear hb2
      go_wp2_with fail
      go_ret
      exact ⟨ret_i64 He.out.symm, b2⟩
    · have He := Lib.hid (orderOf_no (q := N) (xs := xs) (i := i) (fun h => by have h2 := h.2; rw [allOk_one, elemOk_no (by omega)] at h2; cases h2))
      have Hk := Lib.hid (show i < 0 ∨ (N : Int) - 1 < i by omega)
      clear hi
      go_wp2_with fail
      refine (l01In_no _ _ _ _ Hk.out).mono ?_
      rintro e w2 ⟨rfl, rfl⟩
      go_wp2_with fail
      go_ret
      exact ⟨ret_i64 He.out.symm, b1⟩
end Go.Proofs.Ytkiomohpmajjcaa
