/- The model's ConjugatesOf. -/
import Derived.Test.YtkiomohpmajjcaaSortPlain
namespace Go.Proofs.Ytkiomohpmajjcaa
open Go.RowKit

set_option maxRecDepth 100000 in
set_option maxHeartbeats 1600000 in
theorem specConjugatesOf (q : Int) (A : Option Addr) (n c B : Nat) (xs : List Int) (i : Int) (w : World) (h : Own B w (.slice A n c) 1 n (ints xs)) (hn : n ≤ 1048576) :
    Calls Try.prog 32 #[tabV q A n c, .int .i64 i] w fun e w' => ∃ v, e = .returned v ∧ Own w.heap.size w' v 1 (conjOf q xs i).length (ints (conjOf q xs i)) ∧ Below w.heap.size w w' := by
  have HO := Lib.hid (h.below (bel1 w (.cells #[.int .i64 q, .slice A n c] 28)))
  clear h
  go_enter Try.func32, Try.ntmps32
  go_wp2_with fail
  refine (specIsGroup q A n c B xs _ HO.out hn).mono ?_
  rintro e w1 ⟨rfl, hb1⟩
  have b1 := (bel1 w _).trans (hb1.mono (by simp))
  have X1 := Lib.hid ((Blk.new1 w _ _).below hb1 (by simp))
  have O1 := Lib.hid (HO.out.below hb1)
  obtain ⟨q0, q1, -, -, ql⟩ := X1.out.two
  clear hb1 HO
  cases hg : isGroupB q xs
  · have He := Lib.hid (conjOf_no (q := q) (xs := xs) (i := i) (fun h => by rw [h.1] at hg; cases hg))
    clear hg
    go_wp2_with fail
    go_ret
    exact ⟨_, rfl, by rw [He.out]; exact Own.none_, b1⟩
  · obtain ⟨N, rfl, hG⟩ := isGroup_iff hg
    have h1 := hG.tab.lo
    have h40 := hG.tab.hi
    have HG := Lib.hid hG
    clear hg hG
    by_cases hi : 0 ≤ i ∧ i ≤ (N : Int) - 1
    · obtain ⟨i, rfl⟩ : ∃ k : Nat, i = k := ⟨i.toNat, by omega⟩
      have hiN : i < N := by omega
      have He := Lib.hid (conjOf_yes HG.out hiN)
      have hmk := fun u => run_makeBools u N (by omega)
      have HM := Lib.hid (Bits.new w1 N)
      have hbm := bel1 w1 (.cells (madeCells #[.bool false] N) 4)
      clear hi
      go_wp2_with fail
      refine (l01In_yes _ _ _ _ (by omega) (by omega)).mono ?_
      rintro e w2 ⟨rfl, rfl⟩
      go_wp2_with fail
      clear q0 q1 hmk
      have HM0 := Lib.hid (HM.out.congr (f' := fun y => cdec (∃ x, x < 0 ∧ conj N xs x i = y)) (fun j _ => (cdec_no (fun ⟨x, hx, _⟩ => by omega)).symm))
      generalize w1.alloc (.cells (madeCells #[.bool false] N) 4) = wn at *
      have hbs1 := b1.size
      go_loopw [23] (fun k' wr => ∃ k : Nat, k' = .int .i64 k ∧ k ≤ N ∧ Hid (Bits wr w1.heap.size N (fun y => cdec (∃ x, x < k ∧ conj N xs x i = y))) ∧ Below w1.heap.size w1 wr) (fun k' _ => N - (intOf k').toNat)
      case atStart => exact ⟨0, rfl, Nat.zero_le _, HM0, hbm⟩
      case round =>
        obtain ⟨k, rfl, hk, HB, hb⟩ := hrel
        obtain ⟨q0, q1, -, -, -⟩ := (X1.out.below hb X1.out.lt).two
        have hbs := hb.size
        by_cases hkl : k < N
        · go_wp2_with fail
          refine (l10Turn_any N k i A n c B xs _ (O1.out.below hb) HG.out hkl hiN).mono ?_
          rintro e w2 ⟨rfl, hb2⟩
          have hb3 := hb.trans (hb2.mono hbs)
          have HB2 := Lib.hid (HB.out.below hb2)
          have hzN := HG.out.conj_lt hkl hiN
          obtain ⟨z, hz⟩ : ∃ z, conj N xs k i = z := ⟨_, rfl⟩
          have Hz := Lib.hid hz
          rw [hz] at hzN
          rw [hz]
          obtain ⟨x4, x5⟩ := HB2.out.cell hzN
          have HB3 := Lib.hid ((HB2.out.set_ z true).congr (f' := fun y => cdec (∃ x, x < k + 1 ∧ conj N xs x i = y)) (fun j _ => by
            by_cases ej : j = z
            · subst ej; rw [if_pos rfl]; exact (cdec_yes ⟨k, by omega, Hz.out⟩).symm
            · rw [if_neg ej]
              cases hc : cdec (∃ x, x < k ∧ conj N xs x i = j)
              · refine (cdec_no ?_).symm
                rintro ⟨x, hx, e⟩
                by_cases ex : x = k
                · subst ex; exact ej (by rw [← e, Hz.out])
                · exact not_cdec hc ⟨x, by omega, e⟩
              · obtain ⟨x, hx, e⟩ := of_cdec hc
                exact (cdec_yes ⟨x, by omega, e⟩).symm))
          have hb4 := hb3.setCell (p := ⟨w1.heap.size, z, none⟩) (Nat.le_refl _) (.bool true)
          clear hb2 HB HB2 hz q0 q1
          generalize cdec (∃ x, x < k ∧ conj N xs x i = z) = old at *
          go_wp2_with fail
          go_roundw
          case rel => exact ⟨k + 1, by go_num, by omega, HB3, hb4⟩
          case measure => simp [intOf]; omega
        · obtain rfl : N = k := by omega
          have OB := Lib.hid (HB.out.own (by unfold maxLen; omega) (Nat.le_refl _))
          go_wp2_with fail
          refine (l09List_any _ N N _ (conjB N xs i) _ OB.out (by omega)).mono ?_
          rintro e w9 ⟨v9, rfl, o9, hb9⟩
          have O9 := Lib.hid (o9.mono (by omega : w.heap.size ≤ _))
          have b9 := b1.trans ((hb.trans (hb9.mono hbs)).mono hbs1)
          obtain ⟨A9, c9, rfl⟩ := o9.form
          clear hb9 o9
          go_wp2_with fail
          go_ret
          exact ⟨_, rfl, by rw [He.out]; exact O9.out, b9⟩
    · have He := Lib.hid (conjOf_no (q := N) (xs := xs) (i := i) (fun h => by have h2 := h.2; rw [allOk_one, elemOk_no (by omega)] at h2; cases h2))
      have Hk := Lib.hid (show i < 0 ∨ (N : Int) - 1 < i by omega)
      clear hi
      go_wp2_with fail
      refine (l01In_no _ _ _ _ Hk.out).mono ?_
      rintro e w2 ⟨rfl, rfl⟩
      go_wp2_with fail
      go_ret
      exact ⟨_, rfl, by rw [He.out]; exact Own.none_, b1⟩
end Go.Proofs.Ytkiomohpmajjcaa
