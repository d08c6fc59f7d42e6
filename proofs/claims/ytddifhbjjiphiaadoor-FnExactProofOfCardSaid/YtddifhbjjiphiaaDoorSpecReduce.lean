/- The model's reductions: l04Trace, NormalForm, TraceOf, FarForm. -/
import Derived.Test.YtddifhbjjiphiaaDoorRedsPlain
namespace Go.Proofs.YtddifhbjjiphiaaDoor
open Go.RowKit

def rankV : Value → Nat
  | .string s => rank s
  | _ => 0
theorem head_cases (l : List R) (s : ByteArray) (d : Int) : (stepsD l s d).head? = none ∨ ∃ i p : Nat, (stepsD l s d).head? = some ((i : Int), (p : Int)) ∧ isStepB l s ((i : Int), (p : Int)) = true := by
  cases hh : (stepsD l s d).head? with
  | none => exact .inl rfl
  | some x =>
    right
    have hx := head_step hh
    obtain ⟨i, p, rfl, -⟩ := isStepB_parts hx
    exact ⟨i, p, rfl, hx⟩
theorem canRed_size {k : Int} {l : List R} {s : ByteArray} (h : canRed k l s = true) : s.size ≤ 16 := ((wordOk_iff k s).1 (canRed_word h)).2.2.1

set_option maxRecDepth 100000 in
set_option maxHeartbeats 1600000 in
theorem specTrace (k : Int) (A : Option Addr) (n c B : Nat) (l : List R) (s : ByteArray) (w : World) (h : Own B w (.slice A n c) 2 n (rulesC l)) (hsm : smallR l) (hcan : canRed k l s = true) :
    Calls Tryd.prog 70 #[.agg #[.int .i64 k, .slice A n c], .string s] w fun e w' => ∃ v, e = .returned (.tuple #[v, .string (formOf l 0 s)]) ∧ Own w.heap.size w' v 2 (traceOf l s).length (stepsC (traceOf l s)) ∧ Below w.heap.size w w' := by
  obtain ⟨i0, hi, hz0, hz1, hz2⟩ := infoR_parts infoStep
  have HO := Lib.hid h
  have Hcan := Lib.hid hcan
  have Htl := Lib.hid (traceOf_len hcan)
  clear h hcan
  go_enter Tryd.func70, Tryd.ntmps70
  go_wp2_with fail
  have HB0 := Lib.hid ((Blk.new1 w #[.int .i64 k, .slice A n c] 32).alloc (.cells #[] 102))
  have b0 := bel2 w (.cells #[.int .i64 k, .slice A n c] 32) (.cells #[] 102)
  have HW0 : Hid (((w.alloc (.cells #[.int .i64 k, .slice A n c] 32)).alloc (.cells #[] 102)).ownsRow (w.heap.size + 1) 102 2 (.slice (some ⟨w.heap.size + 1, 0, none⟩) 0 0) ([] : List ST).length (stepsC [])) := by
    refine ⟨rfl, Or.inr ⟨w.heap.size + 1, 0, #[], rfl, Nat.le_refl _, ?_, Nat.le_refl _, by unfold maxLen; omega, rfl, rfl⟩⟩
    exact Blk.new2 w _ #[] 102
  have hs0 : w.heap.size + 1 ≤ ((w.alloc (.cells #[.int .i64 k, .slice A n c] 32)).alloc (.cells #[] 102)).heap.size := by simp
  generalize (w.alloc (.cells #[.int .i64 k, .slice A n c] 32)).alloc (.cells #[] 102) = w0 at *
  go_loopw [1, 6] (fun v o wr => ∃ (cur : ByteArray) (dn : List ST), v = .string cur ∧ cur.size ≤ 1048576 ∧ Hid (canRed k l cur = true) ∧ Hid (traceOf l s = dn ++ traceOf l cur) ∧ Hid (formOf l 0 s = formOf l 0 cur) ∧ Hid (wr.ownsRow (w.heap.size + 1) 102 2 o dn.length (stepsC dn)) ∧ Hid (Blk wr w.heap.size 32 #[.int .i64 k, .slice A n c]) ∧ Below w.heap.size w wr ∧ w.heap.size + 1 ≤ wr.heap.size) (fun v _ _ => rankV v)
  case atStart => exact ⟨s, [], rfl, by have := canRed_size Hcan.out; omega, Hcan, rfl, rfl, HW0, HB0, b0, hs0⟩
  case round =>
    obtain ⟨cur, dn, rfl, hcs, HC, HT, HF, HW, HB, hb, hbs⟩ := hrel
    obtain ⟨q0, q1, -, -, ql⟩ := HB.out.two
    go_wp2_with fail
    refine (specFirstStep k A n c B l cur _ (HO.out.below hb) hsm hcs).mono ?_
    rintro e w1 ⟨rfl, hb1⟩
    have b1 := hb.trans (hb1.mono hb.size)
    have hbs1 := hb1.size
    have HW1 := Lib.hid (ownsRow_below HW.out hb1)
    have HB1 := Lib.hid (HB.out.below hb1 HB.out.lt)
    clear hb1 HB HW hb q0 q1 ql
    obtain ⟨q0, q1, -, -, ql⟩ := HB1.out.two
    rcases head_cases l cur 0 with hh | ⟨i, p, hh, hx⟩
    · rw [side_none HC.out hh]
      have HT2 : Hid (traceOf l s = dn) := by show _ = _; rw [HT.out, traceOf_none hh, List.append_nil]
      have HF2 : Hid (formOf l 0 s = cur) := by show _ = _; rw [HF.out, formOf_none hh]
      have b2 := Lib.hid (fun o => b1.alloc b1.size o)
      have HW2 := Lib.hid (fun o => HW1.out.alloc o)
      have HO2 := Lib.hid (fun o => Own.of_row (HW2.out o))
      obtain ⟨A6, c6, rfl⟩ := (HO2.out (.cells #[] 0)).form
      clear hh
      go_wp2_with fail
      go_ret2
      exact ⟨.slice A6 dn.length c6, by rw [HF2.out]; rfl, by rw [HT2.out]; exact (HO2.out _).mono (by omega), b2.out _⟩
    · rw [side_some HC.out hh]
      have Hap := Lib.hid (apply_step HC.out hx)
      obtain ⟨ha1, ha2, ha3, ha4⟩ := step_props HC.out hx
      have Hrk := Lib.hid (step_rank HC.out hx)
      have HT2 : Hid (traceOf l s = (dn ++ [((i : Int), (p : Int))]) ++ traceOf l (afterS l cur ((i : Int), (p : Int))).1) := by
        show _ = _; rw [HT.out, traceOf_some HC.out hh, List.append_assoc]; rfl
      have HF2 : Hid (formOf l 0 s = formOf l 0 (afterS l cur ((i : Int), (p : Int))).1) := by show _ = _; rw [HF.out, formOf_some HC.out hh]
      have hdl : dn.length + 1 ≤ 5726623060 := by
        have h1 := Htl.out
        rw [HT2.out] at h1
        simp at h1
        omega
      have HC2 := Lib.hid ha2
      have Ha1 := Lib.hid ha1
      clear hh hx ha1 ha2 ha3
      have b2 := b1.alloc b1.size (.cells #[.int .i64 i, .int .i64 p] 102)
      have HW2 := Lib.hid (HW1.out.alloc (.cells #[.int .i64 i, .int .i64 p] 102))
      have HB2 := Lib.hid (HB1.out.alloc (.cells #[.int .i64 i, .int .i64 p] 102))
      have HX2 := Lib.hid (Blk.new1 w1 #[.int .i64 i, .int .i64 p] 102)
      have hbs2 : w1.heap.size + 1 = (w1.alloc (.cells #[.int .i64 i, .int .i64 p] 102)).heap.size := by simp
      clear q0 q1 ql
      obtain ⟨q0, q1, -, -, ql⟩ := HB2.out.two
      obtain ⟨x0, x1, -, -, xl⟩ := HX2.out.two
      go_wp2_with fail
      generalize w1.alloc (.cells #[.int .i64 i, .int .i64 p] 102) = w2 at *
      refine (specApplyStep k A n c B l cur i p _ (HO.out.below b2) hsm hcs).mono ?_
      rintro e w3 ⟨rfl, hb3⟩
      rw [Hap.out, Ha1.out]
      have b3 := b2.trans (hb3.mono b2.size)
      have hbs3 := hb3.size
      have HW3 := Lib.hid (ownsRow_below HW2.out hb3)
      have HB3 := Lib.hid (HB2.out.below hb3 HB2.out.lt)
      have HX3 := Lib.hid (HX2.out.below hb3 HX2.out.lt)
      clear hb3 HW2 HB2 HX2 b2 q0 q1 ql x0 x1 xl HW1 HB1 b1 Hap Ha1
      generalize (afterS l cur ((i : Int), (p : Int))).1 = y at *
      obtain ⟨x0, x1, -, -, xl⟩ := HX3.out.two
      go_wp2_with (at_builtin; refine wpList_append_own _ rfl _ _ 76 rfl (w.heap.size + 1) 102 i0 (.agg #[.int .i64 0, .int .i64 0]) 2 16 Tryd.underlying76 hi hz0 hz1 hz2 rfl (by decide) _ _ _ rfl (HW3.out.alloc _) ⟨w3.heap.size, 0, none⟩ 1 1 [.int .i64 (i : Int), .int .i64 (p : Int)] rfl rfl ?c1 ?c2 ?c3 ?c4 ?c5 ?_)
      case c1 =>
        intro j u hj
        match j, hj with
        | 0, hj => simp at hj; subst hj; simp [Addr.add]
        | 1, hj => simp at hj; subst hj; simp [Addr.add]
      case c2 => intro u hu; simp at hu; rcases hu with rfl | rfl <;> rfl
      case c3 => unfold maxLen; omega
      case c4 => omega
      case c5 => simp; omega
      intro v' w6 hown' hgrow _
      have hown2 : w6.ownsRow (w.heap.size + 1) 102 2 v' (dn ++ [((i : Int), (p : Int))]).length (stepsC (dn ++ [((i : Int), (p : Int))])) := by
        rw [stepsC_append, List.length_append]
        exact hown'
      have hbw6 : Below w.heap.size w w6 := grown_one HW3.out hgrow b3 (by omega) (by omega)
      have HB6 : Hid (Blk w6 w.heap.size 32 #[.int .i64 k, .slice A n c]) := (grown_block HW3.out hgrow (by omega) (by omega)).trans HB3.out
      have hs6 := hgrow.size
      simp at hs6
      have HW6 := Lib.hid hown2
      clear hown' hgrow hown2 HW3 HB3 HX3
      go_wp2_with fail
      go_roundw
      case rel => exact ⟨y, _, rfl, by omega, HC2, HT2, HF2, HW6, HB6, hbw6, by omega⟩
      case measure => exact Hrk.out

set_option maxRecDepth 100000 in
set_option maxHeartbeats 800000 in
theorem specNormalForm (k : Int) (A : Option Addr) (n c B : Nat) (l : List R) (s : ByteArray) (w : World) (h : Own B w (.slice A n c) 2 n (rulesC l)) (hsm : smallR l) (hs : s.size ≤ 1048576) :
    Calls Tryd.prog 50 #[.agg #[.int .i64 k, .slice A n c], .string s] w fun e w' => e = .returned (.tuple #[.string (formS k l s 0).1, .bool (formS k l s 0).2]) ∧ Below w.heap.size w w' := by
  have HO := Lib.hid h
  clear h
  go_enter Tryd.func50, Tryd.ntmps50
  go_wp2_with fail
  refine (specOk k A n c B l s _ (HO.out.below (bel1 _ _)) hsm hs).mono ?_
  rintro e w1 ⟨rfl, hb1⟩
  have b1 := (bel1 w _).trans (hb1.mono (by simp))
  obtain ⟨q0, q1, -, -, ql⟩ := ((Blk.new1 w _ _).below hb1 (by simp)).two
  clear hb1
  cases h1 : canRed k l s
  · have HF : Hid (formS k l s 0 = (⟨#[]⟩, false)) := by show _ = _; rw [formS, h1]; rfl
    clear h1
    go_wp2_with fail
    go_ret2
    exact ⟨ret_sb HF.out.symm, b1⟩
  · have HF : Hid (formS k l s 0 = (formOf l 0 s, true)) := by show _ = _; rw [formS, if_pos h1]
    have Hcan := Lib.hid h1
    clear h1
    go_wp2_with fail
    refine (specTrace k A n c B l s _ (HO.out.below b1) hsm Hcan.out).mono ?_
    rintro e w2 ⟨v, rfl, o2, hb2⟩
    have b2 := b1.trans (hb2.mono b1.size)
    obtain ⟨A2, c2, rfl⟩ := o2.form
    clear hb2 o2
    generalize (traceOf l s).length = m at *
    generalize formOf l 0 s = y at *
    go_wp2_with fail
    go_ret2
    exact ⟨ret_sb HF.out.symm, b2⟩

set_option maxRecDepth 100000 in
set_option maxHeartbeats 800000 in
theorem specTraceOf (k : Int) (A : Option Addr) (n c B : Nat) (l : List R) (s : ByteArray) (w : World) (h : Own B w (.slice A n c) 2 n (rulesC l)) (hsm : smallR l) (hs : s.size ≤ 1048576) :
    Calls Tryd.prog 49 #[.agg #[.int .i64 k, .slice A n c], .string s] w fun e w' => ∃ v, e = .returned (.tuple #[v, .bool (canRed k l s)]) ∧ Own w.heap.size w' v 2 (traceS k l s).length (stepsC (traceS k l s)) ∧ Below w.heap.size w w' := by
  have HO := Lib.hid h
  clear h
  go_enter Tryd.func49, Tryd.ntmps49
  go_wp2_with fail
  refine (specOk k A n c B l s _ (HO.out.below (bel1 _ _)) hsm hs).mono ?_
  rintro e w1 ⟨rfl, hb1⟩
  have b1 := (bel1 w _).trans (hb1.mono (by simp))
  obtain ⟨q0, q1, -, -, ql⟩ := ((Blk.new1 w _ _).below hb1 (by simp)).two
  clear hb1
  cases h1 : canRed k l s
  · have HF : Hid (traceS k l s = []) := by show _ = _; rw [traceS, h1]; rfl
    have Hc := Lib.hid h1
    clear h1
    go_wp2_with fail
    go_ret2
    exact ⟨.slice none 0 0, by rw [Hc.out]; rfl, by rw [HF.out]; exact Own.none_, b1⟩
  · have HF : Hid (traceS k l s = traceOf l s) := by show _ = _; rw [traceS, if_pos h1]
    have Hcan := Lib.hid h1
    clear h1
    go_wp2_with fail
    refine (specTrace k A n c B l s _ (HO.out.below b1) hsm Hcan.out).mono ?_
    rintro e w2 ⟨v, rfl, o2, hb2⟩
    have b2 := b1.trans (hb2.mono b1.size)
    obtain ⟨A2, c2, rfl⟩ := o2.form
    have O2 := Lib.hid (o2.mono b1.size)
    clear hb2 o2
    generalize formOf l 0 s = y at *
    go_wp2_with fail
    go_ret2
    exact ⟨.slice A2 (traceOf l s).length c2, by rw [Hcan.out]; rfl, by rw [HF.out]; exact O2.out, b2⟩

end Go.Proofs.YtddifhbjjiphiaaDoor
