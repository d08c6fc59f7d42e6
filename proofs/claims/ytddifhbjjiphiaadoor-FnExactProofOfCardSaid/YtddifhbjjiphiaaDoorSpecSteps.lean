/- The model's StepsOf. -/
import Derived.Test.YtddifhbjjiphiaaDoorStepsPlain
namespace Go.Proofs.YtddifhbjjiphiaaDoor
open Go.RowKit

theorem row_mono {w : World} {b b' : Nat} {e : TypeId} {size : Nat} {v : Value} {n : Nat} {xs : List Value} (h : w.ownsRow b e size v n xs) (hb : b' ≤ b) : w.ownsRow b' e size v n xs := by
  obtain ⟨h1, h2⟩ := h
  refine ⟨h1, ?_⟩
  rcases h2 with h2 | ⟨g, cap, cur, rfl, hg, r⟩
  · exact .inl h2
  · exact .inr ⟨g, cap, cur, rfl, by omega, r⟩
set_option maxRecDepth 100000 in
set_option maxHeartbeats 1600000 in
theorem specStepsRow (k : Int) (A : Option Addr) (n c B : Nat) (l : List R) (s : ByteArray) (w : World) (h : Own B w (.slice A n c) 2 n (rulesC l)) (hsm : smallR l) (hs : s.size ≤ 1048576) :
    Calls Tryd.prog 85 #[.agg #[.int .i64 k, .slice A n c], .string s] w fun e w' => ∃ v, e = .returned v ∧ w'.ownsRow w.heap.size 102 2 v (stepsOf k l s).length (stepsC (stepsOf k l s)) ∧ Below w.heap.size w w' := by
  obtain ⟨i0, hi, hz0, hz1, hz2⟩ := infoR_parts infoStep
  have hmax := h.bound
  have hlen := h.rlen
  unfold maxLen at hmax
  have HO := Lib.hid h
  have Hlen := Lib.hid hlen
  clear h hlen
  go_enter Tryd.func85, Tryd.ntmps85
  go_wp2_with fail
  refine (specRulesOk k _ _ _ B l _ (HO.out.below (bel1 _ _)) hsm).mono ?_
  rintro e w1 ⟨rfl, hb1⟩
  have HB1 := Lib.hid ((Blk.new1 w _ _).below hb1 (by simp))
  have hbw1 := (bel1 w _).trans (hb1.mono (by simp))
  have HO1 := Lib.hid ((HO.out.below (bel1 _ _)).below hb1)
  clear hb1 hsm
  obtain ⟨q0, q1, -, -, ql⟩ := HB1.out.two
  cases h1 : rulesOk k l
  · have He := Lib.hid (stepsOf_no (l := l) s h1)
    clear h1
    go_wp2_with fail
    go_ret
    exact ⟨_, rfl, by rw [He.out]; exact World.ownsRow_nil _ _ _ _, hbw1⟩
  · have Hk := Lib.hid h1
    have hn12 : n ≤ 12 := by rw [← Hlen.out]; exact rulesOk_len h1
    clear h1
    have He := Lib.hid (stepsOf_yes (l := l) s Hk.out)
    go_wp2_with fail
    have HR0 : Hid ((w1.alloc (.cells #[] 102)).ownsRow w1.heap.size 102 2 (.slice (some ⟨w1.heap.size, 0, none⟩) 0 0) (rowsTo l s 0 0).length (stepsC (rowsTo l s 0 0))) :=
      ⟨rfl, Or.inr ⟨w1.heap.size, 0, #[], rfl, Nat.le_refl _, heap_alloc_new w1 _, Nat.le_refl _, by unfold maxLen; omega, rfl, rfl⟩⟩
    have hbn := bel1 w1 (.cells #[] 102)
    have hln := hbn.size
    clear q0 q1 ql
    generalize w1.alloc (.cells #[] 102) = wn at *
    go_loopw [5, 6] (fun v i wr => ∃ q : Nat, i = .int .i64 q ∧ q ≤ s.size ∧ Hid (wr.ownsRow w1.heap.size 102 2 v (rowsTo l s 0 q).length (stepsC (rowsTo l s 0 q))) ∧ Below w1.heap.size w1 wr) (fun _ i _ => s.size - (intOf i).toNat)
    case atStart => exact ⟨0, rfl, Nat.zero_le _, HR0, hbn⟩
    case round =>
      obtain ⟨q, rfl, hq, HR, hb⟩ := hrel
      have hbs := hb.size
      obtain ⟨q0, q1, -, -, ql⟩ := (HB1.out.below hb HB1.out.lt).two
      by_cases hqs : q < s.size
      · go_wp2_with fail
        obtain ⟨w0, rfl⟩ : ∃ x : World, x = wr := ⟨_, rfl⟩
        have hrl : (rowsTo l s 0 q).length ≤ 12582912 := by
          have h1 := rowsTo_len l s 0 q
          have h2 : q * l.length ≤ 1048576 * 12 := Nat.mul_le_mul (by omega) (by rw [Hlen.out]; exact hn12)
          omega
        generalize hRQ : rowsTo l s 0 q = RQ at *
        have HRQ := Lib.hid hRQ
        clear hRQ
        go_loopw [5, 22] (fun v i wx => ∃ j : Nat, i = .int .i64 j ∧ j ≤ n ∧ Hid (wx.ownsRow w1.heap.size 102 2 v (RQ ++ rowTo l s q j).length (stepsC (RQ ++ rowTo l s q j))) ∧ Below w1.heap.size w1 wx) (fun _ i _ => n - (intOf i).toNat)
        case atStart => exact ⟨0, rfl, Nat.zero_le _, by rw [rowTo, List.append_nil]; exact HR, hb⟩
        case round =>
          obtain ⟨j, rfl, hj, HX, hb2⟩ := hrel
          have hbs2 := hb2.size
          by_cases hlt : j < n
          · obtain ⟨g, off, c0, hv⟩ := HO1.out.formR (by omega)
            obtain ⟨rfl, rfl⟩ : A = some ⟨g, off, none⟩ ∧ c = c0 := by injection hv with a _ b; exact ⟨a, b⟩
            clear hv
            obtain ⟨-, hgl, ⟨u, v⟩, hr, x0, x1, -, -⟩ := (HO1.out.below hb2).rule hlt
            have Hr := Lib.hid hr
            clear hr
            go_wp2_with fail
            have hus := (rulesOk_mem Hk.out (List.mem_of_getElem? Hr.out)).1
            dsimp only at hus
            obtain ⟨z0, z1, -, -, zl⟩ := (Blk.new1 wr #[.string u, .string v] 63).two
            have hb3 := hb2.alloc hbs2 (.cells #[.string u, .string v] 63)
            have HX3 := Lib.hid (HX.out.alloc (.cells #[.string u, .string v] 63))
            have Hst := Lib.hid (rowTo_step l s q j _ Hr.out)
            generalize hRJ : rowTo l s q j = RJ at *
            have hjl : RJ.length ≤ j := by rw [← hRJ]; exact rowTo_len l s q j
            clear hRJ x0 x1 HX hb2 q0 q1 ql hb
            generalize wr.alloc (.cells #[.string u, .string v] 63) = w2 at *
            have e1 : IntKind.i64.wrap ((s.size : Int) - (q : Int)) = (s.size : Int) - (q : Int) := IntWalk.i64_in _ (by omega)
            by_cases hfit : q + u.size ≤ s.size
            · have e2 : decide ((u.size : Int) ≤ (s.size : Int) - (q : Int)) = true := decide_eq_true (by omega)
              have e3 : IntKind.i64.wrap ((q : Int) + (u.size : Int)) = ((q + u.size : Nat) : Int) := by rw [IntWalk.i64_in _ (by omega)]; omega
              cases hq2 : ((s.extract q (q + u.size)).toList == u.toList)
              · have Hat := Lib.hid (show atP s u q = false by unfold atP; rw [hq2, Bool.and_false])
                go_quiet (fail)
                all_goals go_wp2_with fail
                have HX4 : Hid (w2.ownsRow w1.heap.size 102 2 u5 (RQ ++ rowTo l s q (j + 1)).length (stepsC (RQ ++ rowTo l s q (j + 1)))) := by
                  show World.ownsRow _ _ _ _ _ _ _
                  rw [Hst.out, Hat.out, if_neg (by simp), List.append_nil]; exact HX3.out
                go_roundw
                case rel => exact ⟨j + 1, by go_num, by omega, HX4, below_drewN hb3 _⟩
                case measure => simp [intOf]; omega
              · have Hat := Lib.hid (show atP s u q = true by unfold atP; rw [hq2, Bool.and_true, decide_eq_true hfit])
                go_quiet (fail)
                have HX5 : Hid ((w2.drewN nq).ownsRow w1.heap.size 102 2 u5 (RQ ++ RJ).length (stepsC (RQ ++ RJ))) := HX3
                have hb5 := below_drewN hb3 nq
                have hbs5 := hb5.size
                have hL : (RQ ++ RJ).length = RQ.length + RJ.length := List.length_append
                clear z0 z1 zl HX3 hb3
                generalize w2.drewN nq = w3 at *
                go_wp2_with (at_builtin; refine wpList_append_own _ rfl _ _ 76 rfl w1.heap.size 102 i0 (.agg #[.int .i64 0, .int .i64 0]) 2 16 Tryd.underlying76 hi hz0 hz1 hz2 rfl (by decide) _ _ _ rfl (HX5.out.alloc _) ⟨w3.heap.size, 0, none⟩ 1 1 [.int .i64 (j : Int), .int .i64 (q : Int)] rfl rfl ?c1 ?c2 ?c3 ?c4 ?c5 ?_)
                case c2 => exact ⟨rfl, rfl⟩
                case c3 => unfold maxLen; omega
                case c4 => omega
                case c5 => omega
                intro v' w6 hown' hgrow _
                have hown2 : w6.ownsRow w1.heap.size 102 2 v' (RQ ++ rowTo l s q (j + 1)).length (stepsC (RQ ++ rowTo l s q (j + 1))) := by
                  rw [Hst.out, Hat.out, if_pos rfl, ← List.append_assoc, stepsC_append (RQ ++ RJ), show ((RQ ++ RJ) ++ [((j : Int), (q : Int))]).length = (RQ ++ RJ).length + 1 from List.length_append, hL]
                  exact hown'
                have hbw6 : Below w1.heap.size w1 w6 := grown_one HX5.out hgrow hb5 (Nat.le_refl _) hbs5
                have HX6 := Lib.hid hown2
                clear hown' hgrow hown2
                go_wp2_with fail
                go_roundw
                case rel => exact ⟨j + 1, by go_num, by omega, HX6, hbw6⟩
                case measure => simp [intOf]; omega
            · have Hat := Lib.hid (show atP s u q = false by unfold atP; rw [decide_eq_false hfit, Bool.false_and])
              have e2 : decide ((u.size : Int) ≤ (s.size : Int) - (q : Int)) = false := decide_eq_false (by omega)
              go_quiet (fail)
              all_goals go_wp2_with fail
              have HX4 : Hid (w2.ownsRow w1.heap.size 102 2 u5 (RQ ++ rowTo l s q (j + 1)).length (stepsC (RQ ++ rowTo l s q (j + 1)))) := by
                show World.ownsRow _ _ _ _ _ _ _
                rw [Hst.out, Hat.out, if_neg (by simp), List.append_nil]; exact HX3.out
              go_roundw
              case rel => exact ⟨j + 1, by go_num, by omega, HX4, below_drewN hb3 _⟩
              case measure => simp [intOf]; omega
          · obtain rfl : j = n := by omega
            have HX4 : Hid (wr.ownsRow w1.heap.size 102 2 u5 (rowsTo l s 0 (q + 1)).length (stepsC (rowsTo l s 0 (q + 1)))) := by
              show World.ownsRow _ _ _ _ _ _ _
              rw [rowsTo, HRQ.out, Hlen.out]; exact HX.out
            go_wp2_with fail
            go_roundw
            case rel => exact ⟨q + 1, by go_num, by omega, HX4, hb2⟩
            case measure => simp [intOf]; omega
      · obtain rfl : q = s.size := by omega
        have HX4 := HR
        obtain ⟨A9, c9, rfl⟩ := (Own.of_row HR.out).form
        have hw1 := hbw1.size
        go_wp2_with fail
        go_ret
        exact ⟨_, rfl, by rw [He.out]; exact row_mono HX4.out hw1, hbw1.trans (hb.mono hw1)⟩
theorem specStepsOf (k : Int) (A : Option Addr) (n c B : Nat) (l : List R) (s : ByteArray) (w : World) (h : Own B w (.slice A n c) 2 n (rulesC l)) (hsm : smallR l) (hs : s.size ≤ 1048576) :
    Calls Tryd.prog 85 #[.agg #[.int .i64 k, .slice A n c], .string s] w fun e w' => ∃ v, e = .returned v ∧ Own w.heap.size w' v 2 (stepsOf k l s).length (stepsC (stepsOf k l s)) ∧ Below w.heap.size w w' :=
  (specStepsRow k A n c B l s w h hsm hs).mono fun _ _ ⟨v, he, ho, hb⟩ => ⟨v, he, Own.of_row ho, hb⟩
end Go.Proofs.YtddifhbjjiphiaaDoor
