/- The program's CenterOf. -/
import Derived.Test.YtkiomohpmajjcaaSpecCenter
import Derived.Test.YtkiomohpmajjcaaImplConj
import Derived.Test.YtkiomohpmajjcaaImplCom
namespace Go.Proofs.Ytkiomohpmajjcaa
open Go.RowKit

set_option maxRecDepth 100000 in
set_option maxHeartbeats 800000 in
theorem isCentral_any (h g N i : Nat) (xs : List Int) (w : World) (H : GrpAt w h g N xs) (hG : Grp N xs) (hi : i < N) :
    Calls Try.prog 54 #[.pointer (some ⟨h, 0, none⟩), .int .i64 i] w fun e w' => e = .returned (.bool (centB N xs i)) ∧ Below w.heap.size w w' := by
  have HH := Lib.hid H
  have HG := Lib.hid hG
  have Hc := Lib.hid (cent_len hG hi)
  have hpl := pick_len (conjB N xs i) N
  have h40 := hG.tab.hi
  clear H hG
  go_enter Try.func54, Try.ntmps54
  go_wp2_with fail
  refine (conjugatesOf_any h g N i xs _ HH.out HG.out hi).mono ?_
  rintro e w2 ⟨v, rfl, o2, hb2⟩
  obtain ⟨A2, c2, rfl⟩ := o2.form
  clear o2
  generalize (pick (conjB N xs i) N).length = LL at *
  go_wp2_with fail
  go_ret
  exact ⟨ret_bool Hc.out, hb2⟩
set_option maxRecDepth 100000 in
set_option maxHeartbeats 800000 in
theorem elementsWith_isCentral (h g N : Nat) (xs : List Int) (w : World) (H : GrpAt w h g N xs) (hG : Grp N xs) :
    Calls Try.prog 48 #[.pointer (some ⟨g, 0, none⟩), .func (.func 54) #[.pointer (some ⟨h, 0, none⟩)] #[]] w fun e w' => ∃ v, e = .returned v ∧ Own w.heap.size w' v 1 (pick (centB N xs) N).length (ints (pick (centB N xs) N)) ∧ Below w.heap.size w w' := by
  obtain ⟨i0, hi0, hz0, hz1, hz2⟩ := infoR_parts infoInt
  have x := H.mon.size
  have h40 := hG.tab.hi
  have HH := Lib.hid (fun (w' : World) (hb : Below w.heap.size w w') => H.below hb)
  have HG := Lib.hid hG
  clear H hG
  go_enter Try.func48, Try.ntmps48
  go_wp2_with fail
  clear x
  go_loopw [5, 11] (fun v i' wr => ∃ i : Nat, i' = .int .i64 i ∧ i ≤ N ∧ Hid (wr.ownsRow w.heap.size 3 1 v (pick (centB N xs) i).length (ints (pick (centB N xs) i))) ∧ Below w.heap.size w wr) (fun _ i' _ => N - (intOf i').toNat)
  case atStart => exact ⟨0, rfl, Nat.zero_le _, World.ownsRow_nil _ _ _ _, Below.refl _ _⟩
  case round =>
    obtain ⟨i, rfl, hi, HR, hb⟩ := hrel
    have hbs := hb.size
    by_cases hlt : i < N
    · go_wp2_with fail
      refine (isCentral_any h g N i xs _ (HH.out _ hb) HG.out hlt).mono ?_
      cases hp : centB N xs i
      · rintro e w2 ⟨rfl, hb2⟩
        have HX6 : Hid (w2.ownsRow w.heap.size 3 1 u5 (pick (centB N xs) (i + 1)).length (ints (pick (centB N xs) (i + 1)))) := by
          show World.ownsRow _ _ _ _ _ _ _
          rw [pick_no hp]; exact row_below HR.out hb2
        have hb3 := hb.trans (hb2.mono hbs)
        clear hp hb2
        go_wp2_with fail
        go_roundw
        case rel => exact ⟨i + 1, by go_num, by omega, HX6, hb3⟩
        case measure => simp [intOf]; omega
      · rintro e w2 ⟨rfl, hb2⟩
        have Hs := Lib.hid (pick_yes (p := centB N xs) hp)
        have HX2 := Lib.hid (row_below HR.out hb2)
        have hb3 := hb.trans (hb2.mono hbs)
        have hbs3 := hb3.size
        have hpl := pick_len (centB N xs) i
        clear hp HR hb hb2
        generalize hPP : pick (centB N xs) i = PP at *
        have HPP := Lib.hid hPP
        clear hPP
        go_wp2_with (at_builtin; refine wpList_append_own _ rfl _ _ 22 rfl w.heap.size 3 i0 (.int .i64 0) 1 8 Try.underlying22 hi0 hz0 hz1 hz2 rfl (by decide) _ _ _ rfl (HX2.out.alloc _) ⟨w2.heap.size, 0, none⟩ 1 1 [.int .i64 (i : Int)] rfl rfl ?c1 ?c2 ?c3 ?c4 ?c5 ?_)
        case c1 => intro j u hj; match j, hj with | 0, hj => (simp at hj; subst hj; simp [Addr.add])
        case c2 => intro u hu; simp at hu; subst hu; rfl
        case c3 => unfold maxLen; omega
        case c4 => omega
        case c5 => simp; omega
        intro v' w6 hown' hgrow _
        have HX6 : Hid (w6.ownsRow w.heap.size 3 1 v' (pick (centB N xs) (i + 1)).length (ints (pick (centB N xs) (i + 1)))) := by
          show World.ownsRow _ _ _ _ _ _ _
          rw [Hs.out]; simpa [ints] using hown'
        have hbw6 : Below w.heap.size w w6 := grown_one HX2.out hgrow hb3 (Nat.le_refl _) hbs3
        clear hown' hgrow HX2
        go_wp2_with fail
        go_roundw
        case rel => exact ⟨i + 1, by go_num, by omega, HX6, hbw6⟩
        case measure => simp [intOf]; omega
    · obtain rfl : N = i := by omega
      obtain ⟨A9, c9, rfl⟩ := (Own.of_row HR.out).form
      go_wp2_with fail
      go_ret
      exact ⟨_, rfl, Own.of_row HR.out, hb⟩
set_option maxRecDepth 100000 in
set_option maxHeartbeats 800000 in
theorem implCenterOf (q : Int) (A : Option Addr) (n c B : Nat) (xs : List Int) (w : World) (h : Own B w (.slice A n c) 1 n (ints xs)) (_hn : n ≤ 1048576) :
    Calls Try.prog 31 #[tabV q A n c] w fun e w' => ∃ v, e = .returned v ∧ Own w.heap.size w' v 1 (centOf q xs).length (ints (centOf q xs)) ∧ Below w.heap.size w w' := by
  have HO := Lib.hid (h.below (bel1 w (.cells #[.int .i64 q, .slice A n c] 28)))
  clear h
  go_enter Try.func31, Try.ntmps31
  go_wp2_with fail
  refine (groupWith_none q A n c B xs _ HO.out).mono ?_
  rintro e w1 ⟨hmm, hb1⟩
  have b1 := (bel1 w _).trans (hb1.mono (by simp))
  clear hb1 HO
  rcases hmm with ⟨N, h, g, rfl, hG, -, rfl, hM⟩ | ⟨ha, rfl⟩
  · have He := Lib.hid (centOf_yes hG)
    have HG := Lib.hid hG
    have HM := Lib.hid hM
    have x1 := hM.ptr
    have hbs := b1.size
    clear hG hM
    go_wp2_with fail
    refine (elementsWith_isCentral h g N xs _ HM.out HG.out).mono ?_
    rintro e w9 ⟨v9, rfl, o9, hb9⟩
    obtain ⟨A9, c9, rfl⟩ := o9.form
    have O9 := Lib.hid (o9.mono hbs)
    have b9 := b1.trans (hb9.mono hbs)
    clear hb9 o9
    go_wp2_with fail
    go_ret
    exact ⟨_, rfl, by rw [He.out]; exact O9.out, b9⟩
  · have He := Lib.hid (centOf_no (group_not ha))
    clear ha
    go_wp2_with fail
    go_ret
    exact ⟨_, rfl, by rw [He.out]; exact Own.none_, b1⟩
end Go.Proofs.Ytkiomohpmajjcaa
