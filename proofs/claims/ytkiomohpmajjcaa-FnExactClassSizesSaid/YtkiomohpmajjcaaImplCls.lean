/- The program's ClassSizes. -/
import Derived.Test.YtkiomohpmajjcaaSpecCls
import Derived.Test.YtkiomohpmajjcaaImplCom
namespace Go.Proofs.Ytkiomohpmajjcaa
open Go.RowKit

set_option maxRecDepth 100000 in
set_option maxHeartbeats 1600000 in
theorem implClassSizes (q : Int) (A : Option Addr) (n c B : Nat) (xs : List Int) (w : World) (h : Own B w (.slice A n c) 1 n (ints xs)) (_hn : n ≤ 1048576) :
    Calls Try.prog 37 #[tabV q A n c] w fun e w' => ∃ v, e = .returned v ∧ Own w.heap.size w' v 1 (sizesOf q xs).length (ints (sizesOf q xs)) ∧ Below w.heap.size w w' := by
  obtain ⟨i0, hi0, hz0, hz1, hz2⟩ := infoR_parts infoInt
  have HO := Lib.hid (h.below (bel1 w (.cells #[.int .i64 q, .slice A n c] 28)))
  clear h
  go_enter Try.func37, Try.ntmps37
  go_wp2_with fail
  refine (groupWith_none q A n c B xs _ HO.out).mono ?_
  rintro e w1 ⟨hmm, hb1⟩
  have b1 := (bel1 w _).trans (hb1.mono (by simp))
  clear hb1 HO
  rcases hmm with ⟨N, h, g, rfl, hG, -, rfl, hM⟩ | ⟨ha, rfl⟩
  · have He := Lib.hid (sizesOf_yes hG)
    have HG := Lib.hid hG
    have HM := Lib.hid (fun (w' : World) (hb : Below w1.heap.size w1 w') => hM.below hb)
    have x1 := hM.ptr
    have x2 := hM.mon.size
    have hbs := b1.size
    have h40 := hG.tab.hi
    have h1 := hG.tab.lo
    have Hfirst := Lib.hid (show 0 < (clsL N xs N).length by
      have hr : clsR N xs 0 = true := by
        unfold clsR
        rw [decide_eq_true_iff]
        have hi0 : ((0 : Nat) : Int) ∈ pick (conjB N xs 0) N := mem_pick.2 ⟨0, by omega, cdec_yes ⟨0, by omega, hG.conj_zero' (by omega)⟩, rfl⟩
        obtain ⟨a, l, hal⟩ : ∃ a l, pick (conjB N xs 0) N = a :: l := by
          cases hp : pick (conjB N xs 0) N with
          | nil => rw [hp] at hi0; cases hi0
          | cons a l => exact ⟨a, l, rfl⟩
        have hst := pick_strict (conjB N xs 0) N
        have hge : ∀ y ∈ pick (conjB N xs 0) N, (0 : Int) ≤ y := fun y hy => by obtain ⟨k, _, _, rfl⟩ := mem_pick.1 hy; omega
        rw [hal] at hi0 hst hge ⊢
        obtain ⟨ha1, -⟩ := List.pairwise_cons.1 hst
        have ha0 := hge a (List.mem_cons_self ..)
        rcases List.mem_cons.1 hi0 with e | e
        · rw [List.getElem?_cons_zero, ← e]
        · have := ha1 _ e; omega
      unfold clsL
      rw [List.length_map]
      exact List.length_pos_of_mem (a := 0) (List.mem_filter.2 ⟨List.mem_range.2 (by omega), hr⟩))
    clear hG hM
    go_wp2_with fail
    clear x1 x2
    go_loopw [5, 22] (fun v i' wr => ∃ (i L : Nat), L = (clsL N xs i).length ∧ i' = .int .i64 i ∧ i ≤ N ∧ Hid (wr.ownsRow w1.heap.size 3 1 v L (ints (nints (clsL N xs i)))) ∧ Below w1.heap.size w1 wr) (fun _ i' _ => N - (intOf i').toNat)
    case atStart => exact ⟨0, 0, by simp [clsL], rfl, Nat.zero_le _, World.ownsRow_nil _ _ _ _, Below.refl _ _⟩
    case round =>
      obtain ⟨i, L, hL, rfl, hiN, HR, hb⟩ := hrel
      have HL := Lib.hid hL
      have hLi : L ≤ i := by rw [hL]; exact clsL_len N xs i
      have hbs2 := hb.size
      clear hL
      by_cases hlt : i < N
      · go_wp2_with fail
        refine (conjugatesOf_any h g N i xs _ (HM.out _ hb) HG.out hlt).mono ?_
        rintro e w2 ⟨v2, rfl, o2, hb2⟩
        have hb3 := hb.trans (hb2.mono hbs2)
        have hbs3 := hb3.size
        have HR2 := Lib.hid (row_below HR.out hb2)
        have hpos := cls_pos HG.out hlt
        have hple := pick_len (conjB N xs i) N
        obtain ⟨g2, off2, c2, rfl⟩ := o2.formR hpos
        obtain ⟨s0, hs0, x0⟩ := o2.iget hpos
        rw [Nat.add_zero] at x0
        have Hcls := Lib.hid (show clsN N xs i = (pick (conjB N xs i) N).length from rfl)
        have HcR := Lib.hid (show clsR N xs i = decide (s0 = (i : Int)) by unfold clsR; rw [hs0]; simp)
        generalize (pick (conjB N xs i) N).length = K at *
        clear hb2 HR hs0 o2 hb hbs2
        by_cases hsi : s0 = (i : Int)
        · subst hsi
          have HcR2 : Hid (clsR N xs i = true) := by show _ = _; rw [HcR.out]; simp
          have Hnext := Lib.hid (show nints (clsL N xs (i + 1)) = nints (clsL N xs i) ++ [(K : Int)] by rw [clsL_yes HcR2.out, nints_snoc, Hcls.out])
          have Hlen := Lib.hid (show L + 1 = (clsL N xs (i + 1)).length by rw [clsL_yes HcR2.out, List.length_append, HL.out]; rfl)
          go_wp2_with (at_builtin; refine wpList_append_own _ rfl _ _ 22 rfl w1.heap.size 3 i0 (.int .i64 0) 1 8 Try.underlying22 hi0 hz0 hz1 hz2 rfl (by decide) _ _ _ rfl (HR2.out.alloc _) ⟨w2.heap.size, 0, none⟩ 1 1 [.int .i64 (K : Int)] rfl rfl ?c1 ?c2 ?c3 ?c4 ?c5 ?_)
          case c1 => intro j u hj; match j, hj with | 0, hj => (simp at hj; subst hj; simp [Addr.add])
          case c2 => intro u hu; simp at hu; subst hu; rfl
          case c3 => unfold maxLen; omega
          case c4 => omega
          case c5 => simp; omega
          intro v' w6 hown' hgrow _
          have HX6 : Hid (w6.ownsRow w1.heap.size 3 1 v' (L + 1) (ints (nints (clsL N xs (i + 1))))) := by
            show World.ownsRow _ _ _ _ _ _ _
            rw [Hnext.out]; simpa [ints] using hown'
          have hbw6 : Below w1.heap.size w1 w6 := grown_one HR2.out hgrow hb3 (Nat.le_refl _) hbs3
          clear hown' hgrow HR2
          go_wp2_with fail
          go_roundw
          case rel => exact ⟨i + 1, L + 1, Hlen.out, by go_num, by omega, HX6, hbw6⟩
          case measure => simp [intOf]; omega
        · have HcR2 : Hid (clsR N xs i = false) := by show _ = _; rw [HcR.out]; simpa using hsi
          have HX6 : Hid (w2.ownsRow w1.heap.size 3 1 u5 L (ints (nints (clsL N xs (i + 1))))) := by
            show World.ownsRow _ _ _ _ _ _ _; rw [clsL_no HcR2.out]; exact HR2.out
          have Hlen := Lib.hid (show L = (clsL N xs (i + 1)).length by rw [clsL_no HcR2.out, HL.out])
          have e1 : (s0 == (i : Int)) = false := by simpa using hsi
          clear hsi
          go_wp2_with fail
          go_roundw
          case rel => exact ⟨i + 1, L, Hlen.out, by go_num, by omega, HX6, hb3⟩
          case measure => simp [intOf]; omega
      · obtain rfl : N = i := by omega
        have hLpos : 0 < L := by rw [HL.out]; exact Hfirst.out
        obtain ⟨gc, cap, rfl, hgc, -⟩ := row_form HR.out hLpos
        go_wp2_with fail
        refine (sortInt_any gc cap L w1.heap.size _ _ HR.out (by omega)).mono ?_
        rintro e w2 ⟨rfl, hr2, hg2⟩
        have HO2 := Lib.hid ((Own.of_row hr2).mono hbs)
        have hb2 := b1.trans ((below_own hb hg2 hgc).mono hbs)
        have Hl := Lib.hid (show (sortI (nints (clsL N xs N))).length = L by rw [sortI_length, nints_length, HL.out])
        clear hr2 hg2 HR hb
        go_wp2_with fail
        go_ret
        exact ⟨_, rfl, by rw [He.out, Hl.out]; exact HO2.out, hb2⟩
  · have He := Lib.hid (sizesOf_no (group_not ha))
    clear ha
    go_wp2_with fail
    go_ret
    exact ⟨_, rfl, by rw [He.out]; exact Own.none_, b1⟩
end Go.Proofs.Ytkiomohpmajjcaa
