/- The model's ClassSizes. -/
import Derived.Test.YtkiomohpmajjcaaClsPlain
import Derived.Test.YtkiomohpmajjcaaImplConj
namespace Go.Proofs.Ytkiomohpmajjcaa
open Go.RowKit

set_option maxRecDepth 100000 in
set_option maxHeartbeats 1600000 in
theorem specClassSizes (q : Int) (A : Option Addr) (n c B : Nat) (xs : List Int) (w : World) (h : Own B w (.slice A n c) 1 n (ints xs)) (hn : n ≤ 1048576) :
    Calls Try.prog 36 #[tabV q A n c] w fun e w' => ∃ v, e = .returned v ∧ Own w.heap.size w' v 1 (sizesOf q xs).length (ints (sizesOf q xs)) ∧ Below w.heap.size w w' := by
  obtain ⟨i0, hi0, hz0, hz1, hz2⟩ := infoR_parts infoInt
  have HO := Lib.hid (h.below (bel1 w (.cells #[.int .i64 q, .slice A n c] 28)))
  clear h
  go_enter Try.func36, Try.ntmps36
  go_wp2_with fail
  refine (specIsGroup q A n c B xs _ HO.out hn).mono ?_
  rintro e w1 ⟨rfl, hb1⟩
  have b1 := (bel1 w _).trans (hb1.mono (by simp))
  have X1 := Lib.hid ((Blk.new1 w _ _).below hb1 (by simp))
  have O1 := Lib.hid (HO.out.below hb1)
  obtain ⟨q0, q1, -, -, ql⟩ := X1.out.two
  clear hb1 HO
  cases hg : isGroupB q xs
  · have He := Lib.hid (sizesOf_no hg)
    clear hg
    go_wp2_with fail
    go_ret
    exact ⟨_, rfl, by rw [He.out]; exact Own.none_, b1⟩
  · obtain ⟨N, rfl, hG⟩ := isGroup_iff hg
    have He := Lib.hid (sizesOf_yes hG)
    have h1 := hG.tab.lo
    have h40 := hG.tab.hi
    have HG := Lib.hid hG
    clear hg hG
    go_wp2_with fail
    have HR0 := Lib.hid (row_empty w1 3)
    have hbn := bel1 w1 (.cells #[] 3)
    have hbs1 := b1.size
    clear q0 q1
    generalize w1.alloc (.cells #[] 3) = wn at *
    go_loopw [3, 4] (fun v i' wr => ∃ (i L : Nat) (S : List Int) (g cp : Nat), v = .slice (some ⟨g, 0, none⟩) L cp ∧ i' = .int .i64 i ∧ i ≤ N ∧ L ≤ i ∧ Hid (S = sortI (nints (clsL N xs i))) ∧ Hid (wr.ownsRow w1.heap.size 3 1 v L (ints S)) ∧ Below w1.heap.size w1 wr) (fun _ i' _ => N - (intOf i').toNat)
    case atStart => exact ⟨0, 0, [], w1.heap.size, 0, rfl, rfl, Nat.zero_le _, Nat.le_refl _, (by show _ = _; simp [clsL, nints, sortI]), HR0, hbn⟩
    case round =>
      obtain ⟨i, L, S, g, cp, rfl, rfl, hiN, hL, HS, HR, hb⟩ := hrel
      obtain ⟨q0, q1, -, -, -⟩ := (X1.out.below hb X1.out.lt).two
      have hbs := hb.size
      by_cases hlt : i < N
      · go_wp2_with fail
        refine (specConjugatesOf N A n c B xs i _ (O1.out.below hb) hn).mono ?_
        rw [conjOf_yes HG.out hlt]
        rintro e w2 ⟨v2, rfl, o2, hb2⟩
        have hb3 := hb.trans (hb2.mono hbs)
        have hbs3 := hb3.size
        have HR2 := Lib.hid (row_below HR.out hb2)
        have hpos := cls_pos HG.out hlt
        have hple := pick_len (conjB N xs i) N
        obtain ⟨g2, off2, c2, rfl⟩ := o2.formR hpos
        obtain ⟨s0, hs0, x0⟩ := o2.iget hpos
        rw [Nat.add_zero] at x0
        have Hcls := Lib.hid (show clsN N xs i = (pick (conjB N xs i) N).length from rfl)
        have HcR := Lib.hid (show clsR N xs i = decide (s0 = (i : Int)) by unfold clsR; rw [hs0]; simp)
        generalize (pick (conjB N xs i) N).length = K at *
        clear hb2 HR hs0 o2 q0 q1 hb
        have hwr := hbs
        clear hbs
        by_cases hsi : s0 = (i : Int)
        · subst hsi
          have HcR2 : Hid (clsR N xs i = true) := by show _ = _; rw [HcR.out]; simp
          have Hnext := Lib.hid (show nints (clsL N xs (i + 1)) = nints (clsL N xs i) ++ [(K : Int)] by rw [clsL_yes HcR2.out, nints_snoc, Hcls.out])
          have hSl := (Own.of_row HR2.out).ilen
          have HSl := Lib.hid hSl
          have HCell := Lib.hid (fun j (hj : j < L) => (Own.of_row HR2.out).iget hj)
          have hcb := (Own.of_row HR2.out).bound
          unfold maxLen at hcb
          clear hSl
          go_wp2_with fail
          clear x0
          go_loop [6] (fun k' => ∃ k : Nat, k' = .int .i64 k ∧ k ≤ L ∧ Hid (∀ j y, j < k → S[j]? = some y → y ≤ (K : Int))) (fun k' => L - (intOf k').toNat)
          case atStart => exact ⟨0, rfl, Nat.zero_le _, fun j y hj => absurd hj (by omega)⟩
          case round =>
            obtain ⟨k, rfl, hk, HI⟩ := hrel
            have key : (∃ s, k < L ∧ S[k]? = some s ∧ s ≤ (K : Int) ∧ w2.cell? ⟨g, 0 + k, none⟩ = some (.int .i64 s)) ∨ (Hid (∀ y, S[k]? = some y → (K : Int) < y) ∧ (k = L ∨ ∃ s, k < L ∧ (K : Int) < s ∧ w2.cell? ⟨g, 0 + k, none⟩ = some (.int .i64 s))) := by
              by_cases hkl : k < L
              · obtain ⟨s, hs, hx⟩ := HCell.out k hkl
                by_cases hle : s ≤ (K : Int)
                · exact .inl ⟨s, hkl, hs, hle, hx⟩
                · exact .inr ⟨(fun y hy => by rw [hs] at hy; obtain rfl := Option.some.inj hy; omega), .inr ⟨s, hkl, by omega, hx⟩⟩
              · exact .inr ⟨(fun y hy => by have := (List.getElem?_eq_some_iff.1 hy).1; have := HSl.out; omega), .inl (by omega)⟩
            rcases key with ⟨s, hkl, hs, hle, hx⟩ | ⟨HE, hend⟩
            · have HI1 : Hid (∀ j y, j < k + 1 → S[j]? = some y → y ≤ (K : Int)) := fun j y hj hy => by
                by_cases ej : j = k
                · subst ej; rw [hs] at hy; obtain rfl := Option.some.inj hy; exact hle
                · exact HI.out j y (by omega) hy
              rw [Nat.zero_add] at hx
              clear hs
              go_wp2_with fail
              go_round
              case rel => exact ⟨k + 1, by go_num, by omega, HI1⟩
              case measure => simp [intOf]; omega
            · have Hins := Lib.hid (show S.take k ++ [(K : Int)] ++ S.drop k = sortI (nints (clsL N xs (i + 1))) by
                rw [Hnext.out]
                have hS := HS.out
                subst hS
                exact sort_insert (by have := HSl.out; omega) (fun j y hj hy => HI.out j y hj hy) (fun y hy => HE.out y hy))
              rcases hend with hkL | ⟨s, hkl, hgt, hx⟩
              · subst hkL
                by_cases hcp : cp = k
                · subst hcp
                  go_wp2_with (at_builtin; refine wpList_append_own _ rfl _ _ 22 rfl w2.heap.size 3 i0 (.int .i64 0) 1 8 Try.underlying22 hi0 hz0 hz1 hz2 rfl (by decide) _ _ _ rfl (row_empty w2 3) ⟨g, 0, none⟩ cp cp (ints (S.take cp)) rfl ?a1 ?a2 ?a3 ?a4 ?a5 ?a6 ?_)
                  case a1 => rw [ints_length, List.length_take]; have := HSl.out; omega
                  case a2 =>
                    intro j u hj
                    have hjn : j < cp := by have := (List.getElem?_eq_some_iff.1 hj).1; rw [ints_length, List.length_take] at this; omega
                    (first | rw [Addr.add_lit] | skip)
                    refine Lib.cell?_alloc_some _ ?_
                    obtain ⟨s9, hs9, hx9⟩ := HCell.out j (by omega)
                    (first | rw [hx9] | (rw [Nat.zero_add] at hx9; rw [hx9]))
                    simp only [ints, List.getElem?_map, List.getElem?_take_of_lt hjn, hs9] at hj
                    exact hj
                  case a3 => intro u hu; obtain ⟨x, _, rfl⟩ := List.mem_map.1 hu; rfl
                  case a4 => unfold maxLen; omega
                  case a5 => omega
                  intro v4 w4 hown4 hgrow4 _
                  have HR4 := Lib.hid (show w4.ownsRow w2.heap.size 3 1 v4 cp (ints (S.take cp)) by simpa using hown4)
                  have b4 : Below w2.heap.size w2 w4 := ((Below.refl _ w2).alloc (Nat.le_refl _) _).grown hgrow4 (by simp) (by intro k hk; simp [Value.ownBlock] at hk; omega)
                  have hbs4 := b4.size
                  obtain ⟨A4, c4, rfl⟩ := (Own.of_row HR4.out).form
                  have HRo4 := Lib.hid (row_below HR2.out b4)
                  clear hown4 hgrow4
                  go_wp2_with (at_builtin; refine wpList_append_own _ rfl _ _ 22 rfl w2.heap.size 3 i0 (.int .i64 0) 1 8 Try.underlying22 hi0 hz0 hz1 hz2 rfl (by decide) _ _ _ rfl (HR4.out.alloc _) ⟨w4.heap.size, 0, none⟩ 1 1 [.int .i64 (K : Int)] rfl rfl ?c1 ?c2 ?c3 ?c4 ?c5 ?_)
                  case c1 => intro j u hj; match j, hj with | 0, hj => (simp at hj; subst hj; simp [Addr.add])
                  case c2 => intro u hu; simp at hu; subst hu; rfl
                  case c3 => unfold maxLen; omega
                  case c4 => omega
                  case c5 => simp; omega
                  intro v5 w5 hown5 hgrow5 _
                  have HR5 : Hid (w5.ownsRow w2.heap.size 3 1 v5 (cp + 1) (ints (S.take cp ++ [(K : Int)]))) := by
                    show World.ownsRow _ _ _ _ _ _ _
                    simpa [ints] using hown5
                  have b5 : Below w2.heap.size w2 w5 := grown_one HR4.out hgrow5 b4 (Nat.le_refl _) hbs4
                  have hbs5 := b5.size
                  have HRo5 := Lib.hid (fun j (hj : j < cp) => (Own.of_row (row_below HR2.out b5)).iget hj)
                  obtain ⟨A5, c5, rfl⟩ := (Own.of_row HR5.out).form
                  clear hown5 hgrow5 HR4
                  go_wp2_with (at_builtin; refine wpList_append_own _ rfl _ _ 22 rfl w2.heap.size 3 i0 (.int .i64 0) 1 8 Try.underlying22 hi0 hz0 hz1 hz2 rfl (by decide) _ _ _ rfl HR5.out ⟨g, 0, none⟩ (cp - cp) (cp - cp) (ints (S.drop cp)) (by first | rfl | (simp [Act.eval])) ?d1 ?d2 ?d3 ?d4 ?d5 ?d6 ?_)
                  case d1 => rw [ints_length, List.length_drop]; have := HSl.out; omega
                  case d2 =>
                    intro j u hj
                    have hjn : cp + j < cp := by have := (List.getElem?_eq_some_iff.1 hj).1; rw [ints_length, List.length_drop] at this; have := HSl.out; omega
                    (first | rw [Addr.add_lit] | skip)
                    obtain ⟨s9, hs9, hx9⟩ := HRo5.out (cp + j) hjn
                    simp only [ints, List.getElem?_map, List.getElem?_drop, hs9] at hj
                    have e9 : some (Value.int .i64 s9) = some u := hj
                    obtain rfl := Option.some.inj e9
                    first | (rw [Nat.zero_add] at hx9; exact hx9) | omega
                  case d3 => intro u hu; obtain ⟨x, _, rfl⟩ := List.mem_map.1 hu; rfl
                  case d4 => unfold maxLen; omega
                  case d5 => omega
                  case d6 => omega
                  intro v6 w6 hown6 hgrow6 _
                  have HR6 : Hid (w6.ownsRow w2.heap.size 3 1 v6 (cp + 1) (ints (S.take cp ++ [(K : Int)] ++ S.drop cp))) := by
                    show World.ownsRow _ _ _ _ _ _ _
                    rw [show cp + 1 = cp + 1 + (cp - cp) by omega]
                    have e : ints (S.take cp ++ [(K : Int)] ++ S.drop cp) = ints (S.take cp ++ [(K : Int)]) ++ ints (S.drop cp) := by simp [ints]
                    rw [e]; first | exact hown6 | (simp only [Nat.sub_self, Nat.add_zero]; exact hown6)
                  have b6 : Below w2.heap.size w2 w6 := b5.grown hgrow6 hbs5 (fun i e => ownsRow_ge HR5.out e.symm)
                  have HR7 := Lib.hid (row_mono HR6.out (show w1.heap.size ≤ w2.heap.size by omega))
                  have b7 := hb3.trans (b6.mono hbs3)
                  obtain ⟨g6, c6, rfl, -, -⟩ := row_form HR7.out (by omega)
                  clear hown6 hgrow6 HR5 HR6
                  go_wp2_with fail
                  go_roundw
                  case rel => exact ⟨i + 1, cp + 1, _, g6, c6, rfl, by go_num, by omega, by omega, Hins.out, HR7, b7⟩
                  case measure => simp [intOf]; omega
                · go_wp2_with (at_builtin; refine wpList_append_own _ rfl _ _ 22 rfl w2.heap.size 3 i0 (.int .i64 0) 1 8 Try.underlying22 hi0 hz0 hz1 hz2 rfl (by decide) _ _ _ rfl (row_empty w2 3) ⟨g, 0, none⟩ k cp (ints (S.take k)) rfl ?a1 ?a2 ?a3 ?a4 ?a5 ?a6 ?_)
                  case a1 => rw [ints_length, List.length_take]; have := HSl.out; omega
                  case a2 =>
                    intro j u hj
                    have hjn : j < k := by have := (List.getElem?_eq_some_iff.1 hj).1; rw [ints_length, List.length_take] at this; omega
                    (first | rw [Addr.add_lit] | skip)
                    refine Lib.cell?_alloc_some _ ?_
                    obtain ⟨s9, hs9, hx9⟩ := HCell.out j (by omega)
                    (first | rw [hx9] | (rw [Nat.zero_add] at hx9; rw [hx9]))
                    simp only [ints, List.getElem?_map, List.getElem?_take_of_lt hjn, hs9] at hj
                    exact hj
                  case a3 => intro u hu; obtain ⟨x, _, rfl⟩ := List.mem_map.1 hu; rfl
                  case a4 => unfold maxLen; omega
                  case a5 => omega
                  intro v4 w4 hown4 hgrow4 _
                  have HR4 := Lib.hid (show w4.ownsRow w2.heap.size 3 1 v4 k (ints (S.take k)) by simpa using hown4)
                  have b4 : Below w2.heap.size w2 w4 := ((Below.refl _ w2).alloc (Nat.le_refl _) _).grown hgrow4 (by simp) (by intro k hk; simp [Value.ownBlock] at hk; omega)
                  have hbs4 := b4.size
                  obtain ⟨A4, c4, rfl⟩ := (Own.of_row HR4.out).form
                  have HRo4 := Lib.hid (row_below HR2.out b4)
                  clear hown4 hgrow4
                  go_wp2_with (at_builtin; refine wpList_append_own _ rfl _ _ 22 rfl w2.heap.size 3 i0 (.int .i64 0) 1 8 Try.underlying22 hi0 hz0 hz1 hz2 rfl (by decide) _ _ _ rfl (HR4.out.alloc _) ⟨w4.heap.size, 0, none⟩ 1 1 [.int .i64 (K : Int)] rfl rfl ?c1 ?c2 ?c3 ?c4 ?c5 ?_)
                  case c1 => intro j u hj; match j, hj with | 0, hj => (simp at hj; subst hj; simp [Addr.add])
                  case c2 => intro u hu; simp at hu; subst hu; rfl
                  case c3 => unfold maxLen; omega
                  case c4 => omega
                  case c5 => simp; omega
                  intro v5 w5 hown5 hgrow5 _
                  have HR5 : Hid (w5.ownsRow w2.heap.size 3 1 v5 (k + 1) (ints (S.take k ++ [(K : Int)]))) := by
                    show World.ownsRow _ _ _ _ _ _ _
                    simpa [ints] using hown5
                  have b5 : Below w2.heap.size w2 w5 := grown_one HR4.out hgrow5 b4 (Nat.le_refl _) hbs4
                  have hbs5 := b5.size
                  have HRo5 := Lib.hid (fun j (hj : j < k) => (Own.of_row (row_below HR2.out b5)).iget hj)
                  obtain ⟨A5, c5, rfl⟩ := (Own.of_row HR5.out).form
                  clear hown5 hgrow5 HR4
                  go_wp2_with (at_builtin; refine wpList_append_own _ rfl _ _ 22 rfl w2.heap.size 3 i0 (.int .i64 0) 1 8 Try.underlying22 hi0 hz0 hz1 hz2 rfl (by decide) _ _ _ rfl HR5.out ⟨g, k, none⟩ (k - k) (cp - k) (ints (S.drop k)) (by first | rfl | (simp [Act.eval])) ?d1 ?d2 ?d3 ?d4 ?d5 ?d6 ?_)
                  case d1 => rw [ints_length, List.length_drop]; have := HSl.out; omega
                  case d2 =>
                    intro j u hj
                    have hjn : k + j < k := by have := (List.getElem?_eq_some_iff.1 hj).1; rw [ints_length, List.length_drop] at this; have := HSl.out; omega
                    (first | rw [Addr.add_lit] | skip)
                    obtain ⟨s9, hs9, hx9⟩ := HRo5.out (k + j) hjn
                    simp only [ints, List.getElem?_map, List.getElem?_drop, hs9] at hj
                    have e9 : some (Value.int .i64 s9) = some u := hj
                    obtain rfl := Option.some.inj e9
                    first | (rw [Nat.zero_add] at hx9; exact hx9) | omega
                  case d3 => intro u hu; obtain ⟨x, _, rfl⟩ := List.mem_map.1 hu; rfl
                  case d4 => unfold maxLen; omega
                  case d5 => omega
                  case d6 => omega
                  intro v6 w6 hown6 hgrow6 _
                  have HR6 : Hid (w6.ownsRow w2.heap.size 3 1 v6 (k + 1) (ints (S.take k ++ [(K : Int)] ++ S.drop k))) := by
                    show World.ownsRow _ _ _ _ _ _ _
                    rw [show k + 1 = k + 1 + (k - k) by omega]
                    have e : ints (S.take k ++ [(K : Int)] ++ S.drop k) = ints (S.take k ++ [(K : Int)]) ++ ints (S.drop k) := by simp [ints]
                    rw [e]; first | exact hown6 | (simp only [Nat.sub_self, Nat.add_zero]; exact hown6)
                  have b6 : Below w2.heap.size w2 w6 := b5.grown hgrow6 hbs5 (fun i e => ownsRow_ge HR5.out e.symm)
                  have HR7 := Lib.hid (row_mono HR6.out (show w1.heap.size ≤ w2.heap.size by omega))
                  have b7 := hb3.trans (b6.mono hbs3)
                  obtain ⟨g6, c6, rfl, -, -⟩ := row_form HR7.out (by omega)
                  clear hown6 hgrow6 HR5 HR6
                  go_wp2_with fail
                  go_roundw
                  case rel => exact ⟨i + 1, k + 1, _, g6, c6, rfl, by go_num, by omega, by omega, Hins.out, HR7, b7⟩
                  case measure => simp [intOf]; omega
              · have hcp : ¬ cp = k := by omega
                rw [Nat.zero_add] at hx
                go_wp2_with (at_builtin; refine wpList_append_own _ rfl _ _ 22 rfl w2.heap.size 3 i0 (.int .i64 0) 1 8 Try.underlying22 hi0 hz0 hz1 hz2 rfl (by decide) _ _ _ rfl (row_empty w2 3) ⟨g, 0, none⟩ k cp (ints (S.take k)) rfl ?a1 ?a2 ?a3 ?a4 ?a5 ?a6 ?_)
                case a1 => rw [ints_length, List.length_take]; have := HSl.out; omega
                case a2 =>
                  intro j u hj
                  have hjn : j < k := by have := (List.getElem?_eq_some_iff.1 hj).1; rw [ints_length, List.length_take] at this; omega
                  (first | rw [Addr.add_lit] | skip)
                  refine Lib.cell?_alloc_some _ ?_
                  obtain ⟨s9, hs9, hx9⟩ := HCell.out j (by omega)
                  (first | rw [hx9] | (rw [Nat.zero_add] at hx9; rw [hx9]))
                  simp only [ints, List.getElem?_map, List.getElem?_take_of_lt hjn, hs9] at hj
                  exact hj
                case a3 => intro u hu; obtain ⟨x, _, rfl⟩ := List.mem_map.1 hu; rfl
                case a4 => unfold maxLen; omega
                case a5 => omega
                intro v4 w4 hown4 hgrow4 _
                have HR4 := Lib.hid (show w4.ownsRow w2.heap.size 3 1 v4 k (ints (S.take k)) by simpa using hown4)
                have b4 : Below w2.heap.size w2 w4 := ((Below.refl _ w2).alloc (Nat.le_refl _) _).grown hgrow4 (by simp) (by intro k hk; simp [Value.ownBlock] at hk; omega)
                have hbs4 := b4.size
                obtain ⟨A4, c4, rfl⟩ := (Own.of_row HR4.out).form
                have HRo4 := Lib.hid (row_below HR2.out b4)
                clear hown4 hgrow4
                go_wp2_with (at_builtin; refine wpList_append_own _ rfl _ _ 22 rfl w2.heap.size 3 i0 (.int .i64 0) 1 8 Try.underlying22 hi0 hz0 hz1 hz2 rfl (by decide) _ _ _ rfl (HR4.out.alloc _) ⟨w4.heap.size, 0, none⟩ 1 1 [.int .i64 (K : Int)] rfl rfl ?c1 ?c2 ?c3 ?c4 ?c5 ?_)
                case c1 => intro j u hj; match j, hj with | 0, hj => (simp at hj; subst hj; simp [Addr.add])
                case c2 => intro u hu; simp at hu; subst hu; rfl
                case c3 => unfold maxLen; omega
                case c4 => omega
                case c5 => simp; omega
                intro v5 w5 hown5 hgrow5 _
                have HR5 : Hid (w5.ownsRow w2.heap.size 3 1 v5 (k + 1) (ints (S.take k ++ [(K : Int)]))) := by
                  show World.ownsRow _ _ _ _ _ _ _
                  simpa [ints] using hown5
                have b5 : Below w2.heap.size w2 w5 := grown_one HR4.out hgrow5 b4 (Nat.le_refl _) hbs4
                have hbs5 := b5.size
                have HRo5 := Lib.hid (fun j (hj : j < L) => (Own.of_row (row_below HR2.out b5)).iget hj)
                obtain ⟨A5, c5, rfl⟩ := (Own.of_row HR5.out).form
                clear hown5 hgrow5 HR4
                go_wp2_with (at_builtin; refine wpList_append_own _ rfl _ _ 22 rfl w2.heap.size 3 i0 (.int .i64 0) 1 8 Try.underlying22 hi0 hz0 hz1 hz2 rfl (by decide) _ _ _ rfl HR5.out ⟨g, k, none⟩ (L - k) (cp - k) (ints (S.drop k)) (by first | rfl | (simp [Act.eval])) ?d1 ?d2 ?d3 ?d4 ?d5 ?d6 ?_)
                case d1 => rw [ints_length, List.length_drop]; have := HSl.out; omega
                case d2 =>
                  intro j u hj
                  have hjn : k + j < L := by have := (List.getElem?_eq_some_iff.1 hj).1; rw [ints_length, List.length_drop] at this; have := HSl.out; omega
                  (first | rw [Addr.add_lit] | skip)
                  obtain ⟨s9, hs9, hx9⟩ := HRo5.out (k + j) hjn
                  simp only [ints, List.getElem?_map, List.getElem?_drop, hs9] at hj
                  have e9 : some (Value.int .i64 s9) = some u := hj
                  obtain rfl := Option.some.inj e9
                  first | (rw [Nat.zero_add] at hx9; exact hx9) | omega
                case d3 => intro u hu; obtain ⟨x, _, rfl⟩ := List.mem_map.1 hu; rfl
                case d4 => unfold maxLen; omega
                case d5 => omega
                case d6 => omega
                intro v6 w6 hown6 hgrow6 _
                have HR6 : Hid (w6.ownsRow w2.heap.size 3 1 v6 (L + 1) (ints (S.take k ++ [(K : Int)] ++ S.drop k))) := by
                  show World.ownsRow _ _ _ _ _ _ _
                  rw [show L + 1 = k + 1 + (L - k) by omega]
                  have e : ints (S.take k ++ [(K : Int)] ++ S.drop k) = ints (S.take k ++ [(K : Int)]) ++ ints (S.drop k) := by simp [ints]
                  rw [e]; first | exact hown6 | (simp only [Nat.sub_self, Nat.add_zero]; exact hown6)
                have b6 : Below w2.heap.size w2 w6 := b5.grown hgrow6 hbs5 (fun i e => ownsRow_ge HR5.out e.symm)
                have HR7 := Lib.hid (row_mono HR6.out (show w1.heap.size ≤ w2.heap.size by omega))
                have b7 := hb3.trans (b6.mono hbs3)
                obtain ⟨g6, c6, rfl, -, -⟩ := row_form HR7.out (by omega)
                clear hown6 hgrow6 HR5 HR6
                go_wp2_with fail
                go_roundw
                case rel => exact ⟨i + 1, L + 1, _, g6, c6, rfl, by go_num, by omega, by omega, Hins.out, HR7, b7⟩
                case measure => simp [intOf]; omega
        · have HcR2 : Hid (clsR N xs i = false) := by show _ = _; rw [HcR.out]; simpa using hsi
          have HS2 : Hid (S = sortI (nints (clsL N xs (i + 1)))) := by show _ = _; rw [clsL_no HcR2.out]; exact HS.out
          have e1 : (s0 == (i : Int)) = false := by simpa using hsi
          have e2 : (s0 != (i : Int)) = true := by simpa using hsi
          clear hsi
          go_wp2_with fail
          go_roundw
          case rel => exact ⟨i + 1, L, S, g, cp, rfl, by go_num, by omega, by omega, HS2, HR2, hb3⟩
          case measure => simp [intOf]; omega
      · obtain rfl : N = i := by omega
        have hll := (Own.of_row HR.out).ilen
        have Hll := Lib.hid hll
        clear hll
        go_wp2_with fail
        go_ret
        exact ⟨_, rfl, by rw [He.out, ← HS.out, Hll.out]; exact (Own.of_row HR.out).mono hbs1, b1.trans (hb.mono hbs1)⟩
end Go.Proofs.Ytkiomohpmajjcaa
