/- For every two systems, impl.SameSystem answers as its model and leaves both as they are: FnExactSameSystem returns true. No condition. -/
import Derived.Test.YtpmghdecfpfahaaSameSystem
import Derived.Test.YtpmghdecfpfahaaArgs
import Derived.Deep.RegionHeld3
namespace Go.Proofs.Ytpmghdecfpfahaa.fnExactSameSystem
open Go.ChangeShapes Go.WideShapes Go.ChangeAt Go.RowKit
open Go.ChangeMaps (open_string)
set_option maxRecDepth 100000 in
set_option maxHeartbeats 3200000 in
theorem walk (k : Int) (_wk : (Lit.int .i64 k).wf = true) (A : Option Addr) (n c : Nat) (xs : List R) (k' : Int) (_wk' : (Lit.int .i64 k').wf = true) (A' : Option Addr) (n' c' : Nat) (ys : List R) (w : World) (hI : InR w A n c xs) (hI' : InR w A' n' c' ys) :
    Calls Try.prog 6 #[.agg #[.int .i64 k, .slice A n c], .agg #[.int .i64 k', .slice A' n' c']] w fun e w' => e = .returned (.bool true) ∧ Below w.heap.size w w' := by
  have HI := Lib.hid (fun (w' : World) (hb : Below w.heap.size w w') => hI.keep hb)
  have HI' := Lib.hid (fun (w' : World) (hb : Below w.heap.size w w') => hI'.keep hb)
  clear hI hI'
  go_enter Try.func6, Try.ntmps6
  go_wp2_with fail
  refine (szSystem_any k A n c xs 1048576 _ (HI.out _ (bel2 _ _ _)) (Nat.le_refl _)).mono ?_
  rintro e w1 ⟨q, rfl, hq, hb1⟩
  have b1 := (bel2 w _ _).trans (hb1.mono (by simp; omega))
  have B1 := Lib.hid (((Blk.new1 w _ _).alloc _).below hb1 (by simp; omega))
  have R1 := Lib.hid ((Blk.new2 w _ _ _).below hb1 (by simp))
  obtain ⟨q0, q1, -, -, ql⟩ := B1.out.two
  obtain ⟨r0, r1, -, -, rl⟩ := R1.out.two
  clear hb1
  by_cases hq0 : q < 0
  · go_wp2_with fail
    go_ret
    exact ⟨rfl, b1⟩
  have Hsz : Hid (n + rulesSz xs ≤ 1048576) := by rcases hq with h | h <;> (show _ ≤ _; omega)
  have hq9 : q ≤ 1048576 := by rcases hq with h | h <;> omega
  have Hn : Hid (n ≤ 1048576) := by have := Hsz.out; show _ ≤ _; omega
  have Hsm : Hid (smallR xs) := small_of xs (by have := Hsz.out; omega)
  clear hq
  obtain ⟨q, rfl⟩ : ∃ z : Nat, q = z := ⟨q.toNat, by omega⟩
  go_wp2_with fail
  refine (szSystem_any k' A' n' c' ys q _ (HI'.out _ b1) (by omega)).mono ?_
  rintro e w2 ⟨q2, rfl, hq2, hb2⟩
  have b2 := b1.trans (hb2.mono b1.size)
  have B2 := Lib.hid (B1.out.below hb2 B1.out.lt)
  have R2 := Lib.hid (R1.out.below hb2 R1.out.lt)
  clear hb2 q0 q1 r0 r1 ql rl
  obtain ⟨q0, q1, -, -, ql⟩ := B2.out.two
  obtain ⟨r0, r1, -, -, rl⟩ := R2.out.two
  by_cases hq3 : q2 < 0
  · go_wp2_with fail
    go_ret
    exact ⟨rfl, b2⟩
  have Hsz' : Hid (n' + rulesSz ys ≤ 1048576) := by rcases hq2 with h | h <;> (show _ ≤ _; omega)
  have Hn' : Hid (n' ≤ 1048576) := by have := Hsz'.out; show _ ≤ _; omega
  have Hsm' : Hid (smallR ys) := small_of ys (by have := Hsz'.out; omega)
  clear hq2
  go_wp2_with fail
  go_region_held3 (fun w' => w'.cell? ⟨w.heap.size, 0, none⟩ = some (.int .i64 k) ∧ w'.cell? ⟨w.heap.size, 1, none⟩ = some (.slice A n c) ∧ w'.cell? ⟨w.heap.size + 1, 0, none⟩ = some (.int .i64 k') ∧ w'.cell? ⟨w.heap.size + 1, 1, none⟩ = some (.slice A' n' c') ∧ Below w2.heap.size w2 w')
    (first | exact ⟨q0, q1, r0, r1, (Below.refl _ w2).drew⟩ | exact held4_keep (by assumption) hb3 (Nat.le_refl _) ql rl | exact held4_keep (by assumption) hb4 (Nat.le_refl _) ql rl | exact held4_keep (by assumption) hb5 (Nat.le_refl _) ql rl)
    ((first
      | (go_at_call_of 10 (Value.agg #[.int .i64 k, .slice A n c]); refine (toSystem_any k A n c xs _ (HI.out _ ?_) Hn.out).mono ?_; (first | exact b2.drew | exact b2.trans ((by assumption : _ ∧ _ ∧ _ ∧ _ ∧ Below w2.heap.size w2 _).2.2.2.2.mono b2.size)); rintro e w3 ⟨v3, rfl, o3, hb3⟩; obtain ⟨A3, c3, rfl⟩ := o3.form)
      | (go_at_call_of 10 (Value.agg #[.int .i64 k', .slice A' n' c']); refine (toSystem_any k' A' n' c' ys _ (HI'.out _ ?_) Hn'.out).mono ?_; (first | exact b2.drew | exact b2.trans ((by assumption : _ ∧ _ ∧ _ ∧ _ ∧ Below w2.heap.size w2 _).2.2.2.2.mono b2.size)); rintro e w4 ⟨v4, rfl, o4, hb4⟩; obtain ⟨A4, c4, rfl⟩ := o4.form)
      | (go_at_call 18; refine (specSameSystem k k' _ _ n n' _ _ _ _ xs ys _ (o3.below hb4) o4).mono ?_; rintro e w5 ⟨rfl, hb5⟩)))
  have hS := ‹_ ∧ _ ∧ _ ∧ _ ∧ Below w2.heap.size w2 w5›
  have b5 := b2.trans (hS.2.2.2.2.mono b2.size)
  have B5 := Lib.hid (B2.out.below hS.2.2.2.2 ql)
  have R5 := Lib.hid (R2.out.below hS.2.2.2.2 rl)
  clear hS
  clear q0 q1 r0 r1 ql rl
  obtain ⟨q0, q1, -, -, ql⟩ := B5.out.two
  obtain ⟨r0, r1, -, -, rl⟩ := R5.out.two
  go_wp2_with fail
  refine (toSystem_any k A n c xs _ (HI.out _ b5) Hn.out).mono ?_
  rintro e w6 ⟨v6, rfl, o6, hb6⟩
  obtain ⟨A6, c6, rfl⟩ := o6.form
  have b6 := b5.trans (hb6.mono b5.size)
  have b7 := b6.alloc b6.size (.cells #[.int .i64 k, .slice A6 n c6] 32)
  have B7 := Lib.hid ((B5.out.below hb6 ql).alloc (.cells #[.int .i64 k, .slice A6 n c6] 32))
  have R7 := Lib.hid ((R5.out.below hb6 rl).alloc (.cells #[.int .i64 k, .slice A6 n c6] 32))
  have X7 := Lib.hid (Blk.new1 w6 #[.int .i64 k, .slice A6 n c6] 32)
  have O7 := Lib.hid (o6.below (bel1 w6 (.cells #[.int .i64 k, .slice A6 n c6] 32)))
  clear q0 q1 r0 r1 ql rl o6 hb6 b6
  obtain ⟨r0, r1, -, -, rl⟩ := R7.out.two
  go_wp2_with fail
  clear r0 r1 rl
  generalize w6.alloc (.cells #[.int .i64 k, .slice A6 n c6] 32) = w7 at *
  refine (toSystem_any k' A' n' c' ys _ (HI'.out _ b7) Hn'.out).mono ?_
  rintro e w8 ⟨v8, rfl, o8, hb8⟩
  obtain ⟨A8, c8, rfl⟩ := o8.form
  have b8 := b7.trans (hb8.mono b7.size)
  have b9 := b8.alloc b8.size (.cells #[.int .i64 k', .slice A8 n' c8] 32)
  have B9 := Lib.hid ((B7.out.below hb8 B7.out.lt).alloc (.cells #[.int .i64 k', .slice A8 n' c8] 32))
  have R9 := Lib.hid ((R7.out.below hb8 R7.out.lt).alloc (.cells #[.int .i64 k', .slice A8 n' c8] 32))
  have X9 := Lib.hid ((X7.out.below hb8 X7.out.lt).alloc (.cells #[.int .i64 k', .slice A8 n' c8] 32))
  have Y9 := Lib.hid (Blk.new1 w8 #[.int .i64 k', .slice A8 n' c8] 32)
  have O9 := Lib.hid ((O7.out.below hb8).below (bel1 w8 (.cells #[.int .i64 k', .slice A8 n' c8] 32)))
  have P9 := Lib.hid (o8.below (bel1 w8 (.cells #[.int .i64 k', .slice A8 n' c8] 32)))
  clear O7 o8 hb8 b8
  obtain ⟨x0, x1, -, -, xl⟩ := X9.out.two
  obtain ⟨y0, y1, -, -, yl⟩ := Y9.out.two
  go_wp2_with fail
  refine (implSameSystem k k' A6 A8 n n' c6 c8 _ _ xs ys _ O9.out P9.out Hsm.out Hsm'.out Hn.out Hn'.out).mono ?_
  rintro e w10 ⟨rfl, hb10⟩
  have b10 := b9.trans (hb10.mono b9.size)
  have B10 := Lib.hid (B9.out.below hb10 B9.out.lt)
  have R10 := Lib.hid (R9.out.below hb10 R9.out.lt)
  have X10 := Lib.hid (X9.out.below hb10 X9.out.lt)
  have Y10 := Lib.hid (Y9.out.below hb10 Y9.out.lt)
  have O10 := Lib.hid (O9.out.below hb10)
  have P10 := Lib.hid (P9.out.below hb10)
  clear x0 x1 y0 y1 xl yl hb10 O9 P9
  obtain ⟨x0, x1, -, -, xl⟩ := X10.out.two
  obtain ⟨q0, q1, -, -, ql⟩ := B10.out.two
  have O10d : Hid (Own w5.heap.size w10.drew (.slice A6 n c6) 2 n (rulesC xs)) := O10
  go_wp2_with fail
  go_region_held3 (fun w' => w'.cell? ⟨w6.heap.size, 0, none⟩ = some (.int .i64 k) ∧ w'.cell? ⟨w6.heap.size, 1, none⟩ = some (.slice A6 n c6) ∧ w'.cell? ⟨w.heap.size, 0, none⟩ = some (.int .i64 k) ∧ w'.cell? ⟨w.heap.size, 1, none⟩ = some (.slice A n c) ∧ Below w10.heap.size w10 w')
    (first | exact ⟨x0, x1, q0, q1, (Below.refl _ w10).drew⟩ | exact held4_keep (by assumption) hb11 (Nat.le_refl _) xl ql | exact held4_keep (by assumption) hb12 (Nat.le_refl _) xl ql)
    ((first
      | (go_at_call 10; refine (toSystem_any k A n c xs _ (HI.out _ b10.drew) Hn.out).mono ?_; rintro e w11 ⟨v11, rfl, o11, hb11⟩; obtain ⟨A11, c11, rfl⟩ := o11.form)
      | (go_at_call 13; refine (eqSystem_yes k A6 _ n c6 _ _ _ xs _ (O10d.out.below hb11) o11).mono ?_; rintro e w12 ⟨rfl, hb12⟩)))
  have hS := ‹_ ∧ _ ∧ _ ∧ _ ∧ Below w10.heap.size w10 w12›
  have b12 := b10.trans (hS.2.2.2.2.mono b10.size)
  have R12 := Lib.hid (R10.out.below hS.2.2.2.2 R10.out.lt)
  have Y12 := Lib.hid (Y10.out.below hS.2.2.2.2 Y10.out.lt)
  have P12 := Lib.hid (P10.out.below hS.2.2.2.2)
  clear hS x0 x1 q0 q1 xl ql
  obtain ⟨y0, y1, -, -, yl⟩ := Y12.out.two
  obtain ⟨r0, r1, -, -, rl⟩ := R12.out.two
  have P12d : Hid (Own w7.heap.size w12.drew (.slice A8 n' c8) 2 n' (rulesC ys)) := P12
  go_wp2_with fail
  go_region_held3 (fun w' => w'.cell? ⟨w8.heap.size, 0, none⟩ = some (.int .i64 k') ∧ w'.cell? ⟨w8.heap.size, 1, none⟩ = some (.slice A8 n' c8) ∧ w'.cell? ⟨w.heap.size + 1, 0, none⟩ = some (.int .i64 k') ∧ w'.cell? ⟨w.heap.size + 1, 1, none⟩ = some (.slice A' n' c') ∧ Below w12.heap.size w12 w')
    (first | exact ⟨y0, y1, r0, r1, (Below.refl _ w12).drew⟩ | exact held4_keep (by assumption) hb13 (Nat.le_refl _) yl rl | exact held4_keep (by assumption) hb14 (Nat.le_refl _) yl rl)
    ((first
      | (go_at_call 10; refine (toSystem_any k' A' n' c' ys _ (HI'.out _ b12.drew) Hn'.out).mono ?_; rintro e w13 ⟨v13, rfl, o13, hb13⟩; obtain ⟨A13, c13, rfl⟩ := o13.form)
      | (go_at_call 13; refine (eqSystem_yes k' A8 _ n' c8 _ _ _ ys _ (P12d.out.below hb13) o13).mono ?_; rintro e w14 ⟨rfl, hb14⟩)))
  all_goals go_wp2
  go_ret
  have hS := ‹_ ∧ _ ∧ _ ∧ _ ∧ Below w12.heap.size w12 w14›
  exact ⟨rfl, b12.trans (hS.2.2.2.2.mono b12.size)⟩
set_option maxRecDepth 100000 in
theorem contract (H : Type) (enc : TypeId × Value → H) (W : World) (base : Nat) (args : Array Value) (ds gs : List (DataW H)) (before : List MemPlace)
    (hval : ∀ (j : Nat) t v, Try.f6.params[j]? = some t → args[j]? = some v → Value.okWide Try.prog W .any base t v)
    (hW : DataW.Whole enc Try.prog Try.f6.params.toList Rows.fnExactSameSystemSpec.vars false W args.toList ds gs before) :
    Calls Try.prog 6 args W fun e W' => ∃ v, e = .returned v ∧ Rows.fnExactSameSystemSpec.post enc Try.prog Try.f6 false true false false W args v W' := by
  have hW' := hW
  obtain ⟨p, q, hA0, hV, rfl, hfz, hnd⟩ := hW
  have hA : DataW.TrodAll enc Try.prog W 0 (fun _ => true) true Try.f6.params.toList args.toList ds p := hA0
  rw [Try.params6] at hA hval
  obtain ⟨v0, vs0, d0, ds0, p0, q0, hargs, rfl, rfl, h0, r0⟩ := trodAll_cons hA
  obtain ⟨v1, vs1, d1, ds1, p1, q1, rfl, rfl, rfl, h1, r1⟩ := trodAll_cons r0
  obtain ⟨rfl, rfl, rfl⟩ := trodAll_nil r1
  obtain rfl : args = #[v0, v1] := by first | exact Array.toList_inj.1 hargs | exact Array.toList_inj.1 hargs.symm | (cases args; simp_all)
  obtain ⟨k0, A0, n0, c0, xs0, rfl, wk0, I0⟩ := open_system Try.underlying24 (by kernel_rfl) (by kernel_rfl) Try.underlying3 Try.underlying22 Try.underlying26 (by kernel_rfl) (by kernel_rfl) Try.underlying9 Try.underlying9 (hval 0 24 v0 rfl rfl) h0
  obtain ⟨k1, A1, n1, c1, xs1, rfl, wk1, I1⟩ := open_system Try.underlying24 (by kernel_rfl) (by kernel_rfl) Try.underlying3 Try.underlying22 Try.underlying26 (by kernel_rfl) (by kernel_rfl) Try.underlying9 Try.underlying9 (hval 1 24 v1 rfl rfl) h1
  refine (walk k0 wk0 A0 n0 c0 xs0 k1 wk1 A1 n1 c1 xs1 W I0 I1).mono fun e W' ⟨he, hb⟩ => ?_
  subst he
  exact ⟨_, rfl, law_post hW' rfl rfl rfl Try.underlying4 laidOut (by kernel_rfl) hb⟩

set_option maxRecDepth 100000 in
theorem lifted (os : Os) (started : os.Started) (H : Type) (enc : TypeId × Value → H) :
    ReturnsInHanded {} Try.checked os 6 .any (Rows.fnExactSameSystemSpec.pre6 enc Try.prog Try.f6 Rows.fnExactSameSystemRow.domain false) (Rows.fnExactSameSystemSpec.post enc Try.prog Try.f6 false true false false) := by
  refine returnsInHanded_of_change (C := Try.checked) own started (by kernel_rfl) Try.func6
    (ChangeSpec.witness6 (enc := enc) (C := Try.checked) false ⟨#[], #[.agg #[.int .i64 0, .slice none 0 0], .agg #[.int .i64 0, .slice none 0 0]], []⟩ 8 (by kernel_rfl) (by kernel_rfl) (by kernel_rfl) (by kernel_rfl)) ?_
  intro W base args ds gs before hval hW _ _
  exact contract H enc W base args ds gs before hval hW

theorem proved : Rows.FnExactSameSystemSaid :=
  OpenClaim.holds_of_wide 6 Try.f6 rfl rfl rfl rfl rfl rfl rfl ⟨rfl, rfl, rfl, rfl, rfl⟩ rfl rfl rfl rfl rfl (by kernel_rfl) Try.func6 (by kernel_rfl)
    (of_decide_eq_true (by kernel_rfl)) (by unfold Func.isWrapper; first | (rw [if_pos (by decide +kernel)]; kernel_rfl) | (rw [if_neg (by decide +kernel)]; exact ⟨rfl, rfl⟩))
    (fun os started H enc _ => lifted os started H enc)
end Go.Proofs.Ytpmghdecfpfahaa.fnExactSameSystem
