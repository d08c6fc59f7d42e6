/- RegularOf, both sides. -/
import Derived.Test.YtdccipnioakpcaaSpecTab2
import Derived.Test.YtdccipnioakpcaaImplTab2
namespace Go.Proofs.Ytdccipnioakpcaa
open Go.RowKit

noncomputable def regB (n : Nat) (xs : List Int) (i : Nat) : Bool := cdec (∃ x, x < n ∧ tmul n xs (tmul n xs i x) i = i)
set_option maxRecDepth 100000 in
set_option maxHeartbeats 800000 in
theorem isRegular_any (g N i : Nat) (xs : List Int) (w : World) (h : MonAt w g N xs) (h40 : N ≤ 40) (hr : Rng N xs) (hi : i < N) :
    Calls Try.prog 51 #[.pointer (some ⟨g, 0, none⟩), .int .i64 i] w fun e w' => e = .returned (.bool (regB N xs i)) ∧ ∃ m, w' = w.drewN m := by
  have x := h.size
  have HM := Lib.hid (fun a b ha hb => h.num hr (i := a) (k := b) ha hb)
  have HR := Lib.hid (fun a b ha hb => hr.lt (i := a) (k := b) ha hb)
  clear h hr
  go_enter Try.func51, Try.ntmps51
  go_wp2_with fail
  go_loopw [10] (fun k' wr => ∃ (k m : Nat), k' = .int .i64 k ∧ k ≤ N ∧ wr = w.drewN m ∧ Hid (∀ a, a < k → ¬ (tmul N xs (tmul N xs i a) i = i))) (fun k' _ => N - (intOf k').toNat)
  case atStart => exact ⟨0, 0, rfl, Nat.zero_le _, rfl, fun a ha => absurd ha (by omega)⟩
  case round =>
    obtain ⟨k, m, rfl, hk, rfl, HI⟩ := hrel
    by_cases hlt : k < N
    · have y := HM.out i k hi hlt
      have hU := HR.out i k hi hlt
      have z := HM.out _ i hU hi
      have Hc := Lib.hid (show ∀ a, a = k → tmul N xs (tmul N xs i a) i = tmul N xs (tmul N xs i k) i from fun a e => by rw [e])
      have Hd : Hid (tmul N xs (tmul N xs i k) i = i → regB N xs i = true) := fun e => cdec_yes ⟨k, hlt, e⟩
      generalize hV : tmul N xs (tmul N xs i k) i = V at *
      generalize tmul N xs i k = U at *
      clear hV
      by_cases e1 : V = i
      · have He := Lib.hid (Hd.out e1)
        subst e1
        clear Hd Hc HI
        go_wp2_with fail
        go_quiet (fail)
        all_goals go_wp2_with fail
        go_ret
        exact ⟨ret_bool He.out.symm, _, World.drewN_drewN _ _ _⟩
      · have HI1 : Hid (∀ a, a < k + 1 → ¬ (tmul N xs (tmul N xs i a) i = i)) := fun a ha => by
          by_cases e : a = k
          · rw [Hc.out a e]; exact e1
          · exact HI.out a (by omega)
        have e3 : ((V : Int) == (i : Int)) = false := by simp; omega
        clear Hd Hc HI
        go_wp2_with fail
        go_quiet (fail)
        all_goals go_wp2_with fail
        go_roundw
        case rel => exact ⟨k + 1, _, by go_num, by omega, rfl, HI1⟩
        case measure => simp [intOf]; omega
    · obtain rfl : N = k := by omega
      have He := Lib.hid (show regB N xs i = false from cdec_no (fun ⟨a, ha, h⟩ => HI.out a ha h))
      go_wp2_with fail
      go_ret
      exact ⟨ret_bool He.out.symm, _, rfl⟩
set_option maxRecDepth 100000 in
set_option maxHeartbeats 800000 in
theorem elementsWith_isRegular (g N : Nat) (xs : List Int) (w : World) (h : MonAt w g N xs) (h40 : N ≤ 40) (hT : TabOk N xs) :
    Calls Try.prog 50 #[.pointer (some ⟨g, 0, none⟩), .func (.func 51) #[.pointer (some ⟨g, 0, none⟩)] #[]] w fun e w' => ∃ v, e = .returned v ∧ Own w.heap.size w' v 1 (pick (regB N xs) N).length (ints (pick (regB N xs) N)) ∧ Below w.heap.size w w' := by
  obtain ⟨i0, hi0, hz0, hz1, hz2⟩ := infoR_parts infoInt
  have x := h.size
  have HM := Lib.hid h
  have HT := Lib.hid hT
  clear h hT
  go_enter Try.func50, Try.ntmps50
  go_wp2_with fail
  clear x
  go_loopw [5, 11] (fun v i' wr => ∃ i : Nat, i' = .int .i64 i ∧ i ≤ N ∧ Hid (wr.ownsRow w.heap.size 3 1 v (pick (regB N xs) i).length (ints (pick (regB N xs) i))) ∧ Below w.heap.size w wr) (fun _ i' _ => N - (intOf i').toNat)
  case atStart => exact ⟨0, rfl, Nat.zero_le _, World.ownsRow_nil _ _ _ _, Below.refl _ _⟩
  case round =>
    obtain ⟨i, rfl, hi, HR, hb⟩ := hrel
    have hbs := hb.size
    by_cases hlt : i < N
    · go_wp2_with fail
      refine (isRegular_any g N i xs _ (HM.out.below hb) h40 HT.out.rng hlt).mono ?_
      cases hp : regB N xs i
      · rintro e w2 ⟨rfl, m, rfl⟩
        have HX6 : Hid ((wr.drewN m).ownsRow w.heap.size 3 1 u5 (pick (regB N xs) (i + 1)).length (ints (pick (regB N xs) (i + 1)))) := by
          show World.ownsRow _ _ _ _ _ _ _
          rw [pick_no hp]; exact HR.out
        have hb2 := below_drewN hb m
        clear hp
        go_wp2_with fail
        go_roundw
        case rel => exact ⟨i + 1, by go_num, by omega, HX6, hb2⟩
        case measure => simp [intOf]; omega
      · rintro e w2 ⟨rfl, m, rfl⟩
        have Hs := Lib.hid (pick_yes (p := regB N xs) hp)
        have HX2 : Hid ((wr.drewN m).ownsRow w.heap.size 3 1 u5 (pick (regB N xs) i).length (ints (pick (regB N xs) i))) := HR
        have hb3 := below_drewN hb m
        have hbs3 := hb3.size
        have hpl := pick_len (regB N xs) i
        clear hp HR hb
        generalize wr.drewN m = w2 at *
        generalize hPP : pick (regB N xs) i = PP at *
        have HPP := Lib.hid hPP
        clear hPP
        go_wp2_with (at_builtin; refine wpList_append_own _ rfl _ _ 22 rfl w.heap.size 3 i0 (.int .i64 0) 1 8 Try.underlying22 hi0 hz0 hz1 hz2 rfl (by decide) _ _ _ rfl (HX2.out.alloc _) ⟨w2.heap.size, 0, none⟩ 1 1 [.int .i64 (i : Int)] rfl rfl ?c1 ?c2 ?c3 ?c4 ?c5 ?_)
        case c1 => intro j u hj; match j, hj with | 0, hj => (simp at hj; subst hj; simp [Addr.add])
        case c2 => intro u hu; simp at hu; subst hu; rfl
        case c3 => unfold maxLen; omega
        case c4 => omega
        case c5 => simp; omega
        intro v' w6 hown' hgrow _
        have HX6 : Hid (w6.ownsRow w.heap.size 3 1 v' (pick (regB N xs) (i + 1)).length (ints (pick (regB N xs) (i + 1)))) := by
          show World.ownsRow _ _ _ _ _ _ _
          rw [Hs.out]; simpa [ints] using hown'
        have hbw6 : Below w.heap.size w w6 := grown_one HX2.out hgrow hb3 (Nat.le_refl _) hbs3
        clear hown' hgrow HX2
        go_wp2_with fail
        go_roundw
        case rel => exact ⟨i + 1, by go_num, by omega, HX6, hbw6⟩
        case measure => simp [intOf]; omega
    · obtain rfl : N = i := by omega
      obtain ⟨A9, c9, rfl⟩ := (Own.of_row HR.out).form
      go_wp2_with fail
      go_ret
      exact ⟨_, rfl, Own.of_row HR.out, hb⟩
set_option maxRecDepth 100000 in
set_option maxHeartbeats 800000 in
theorem implRegularOf (q : Int) (A : Option Addr) (n c B : Nat) (xs : List Int) (w : World) (h : Own B w (.slice A n c) 1 n (ints xs)) (_hn : n ≤ 1048576) :
    Calls Try.prog 27 #[tabV q A n c] w fun e w' => ∃ v, e = .returned v ∧ Own w.heap.size w' v 1 (pickOf q xs regB).length (ints (pickOf q xs regB)) ∧ Below w.heap.size w w' := by
  have HO := Lib.hid (h.below (bel1 w (.cells #[.int .i64 q, .slice A n c] 27)))
  clear h
  go_enter Try.func27, Try.ntmps27
  go_wp2_with fail
  refine (monoidFrom_any q A n c B xs _ HO.out).mono ?_
  rintro e w1 ⟨hm, hb1⟩
  have b1 := (bel1 w _).trans (hb1.mono (by simp))
  clear hb1 HO
  rcases hm with ⟨N, g, rfl, hT, rfl, -, hM⟩ | ⟨hT, rfl⟩
  · have He := Lib.hid (pickOf_yes regB hT)
    have HT := Lib.hid hT
    have HM := Lib.hid hM
    clear hT hM
    go_wp2_with fail
    refine (elementsWith_isRegular g N xs _ HM.out HT.out.hi HT.out).mono ?_
    rintro e w2 ⟨v, rfl, o2, hb2⟩
    obtain ⟨A2, c2, rfl⟩ := o2.form
    have O2 := Lib.hid (o2.mono b1.size)
    have b2 := b1.trans (hb2.mono b1.size)
    clear hb2 o2
    go_wp2_with fail
    go_ret
    exact ⟨_, rfl, by rw [He.out]; exact O2.out, b2⟩
  · have He := Lib.hid (pickOf_no regB hT)
    clear hT
    go_wp2_with fail
    go_ret
    exact ⟨_, rfl, by rw [He.out]; exact Own.none_, b1⟩
end Go.Proofs.Ytdccipnioakpcaa
