/- For every system, impl.HasRule answers as its model: FnExactHasRule returns true. No condition. -/
import Derived.Test.YtpmghdecfpfahaaHasRule
import Derived.Test.YtpmghdecfpfahaaArgs
import Derived.Deep.RegionHeld3
namespace Go.Proofs.Ytpmghdecfpfahaa.fnExactHasRule
open Go.ChangeShapes Go.WideShapes Go.ChangeAt Go.RowKit
open Go.ChangeMaps (open_string)
set_option maxRecDepth 100000 in
set_option maxHeartbeats 1600000 in
theorem walk (k : Int) (_wk : (Lit.int .i64 k).wf = true) (A : Option Addr) (n c : Nat) (xs : List R) (s t : ByteArray) (hs : s.size ≤ maxLen) (ht : t.size ≤ maxLen) (w : World) (hI : InR w A n c xs) :
    Calls Try.prog 3 #[.agg #[.int .i64 k, .slice A n c], .agg #[.string s, .string t]] w fun e w' => e = .returned (.bool true) ∧ Below w.heap.size w w' := by
  have HI := Lib.hid (fun (w' : World) (hb : Below w.heap.size w w') => hI.keep hb)
  clear hI
  go_enter Try.func3, Try.ntmps3
  go_wp2_with fail
  refine (szSystem_any k A n c xs 1048576 _ (HI.out _ (bel2 _ _ _)) (Nat.le_refl _)).mono ?_
  rintro e w1 ⟨q, rfl, hq, hb1⟩
  have b1 := (bel2 w _ _).trans (hb1.mono (by simp; omega))
  have B1 := Lib.hid (((Blk.new1 w _ _).alloc _).below hb1 (by simp; omega))
  have R1 := Lib.hid ((Blk.new2 w _ _ _).below hb1 (by simp))
  obtain ⟨q0, q1, -, -, ql⟩ := B1.out.two
  obtain ⟨r0, r1, -, -, rl⟩ := R1.out.two
  clear hb1
  by_cases hq0 : q < 0
  · go_wp2_with fail
    go_ret
    exact ⟨rfl, b1⟩
  have Hsz : Hid (n + rulesSz xs ≤ 1048576) := by rcases hq with h | h <;> (show _ ≤ _; omega)
  have hq9 : q ≤ 1048576 := by rcases hq with h | h <;> omega
  have Hn : Hid (n ≤ 1048576) := by have := Hsz.out; show _ ≤ _; omega
  clear hq
  obtain ⟨q, rfl⟩ : ∃ z : Nat, q = z := ⟨q.toNat, by omega⟩
  go_wp2_with fail
  refine (szRule_any s t q _ hs ht (by omega)).mono ?_
  rintro e w2 ⟨q2, rfl, hq2, hb2⟩
  have b2 := b1.trans (hb2.mono b1.size)
  have B2 := Lib.hid (B1.out.below hb2 B1.out.lt)
  have R2 := Lib.hid (R1.out.below hb2 R1.out.lt)
  clear hb2 q0 q1 r0 r1 ql rl hs ht
  obtain ⟨q0, q1, -, -, ql⟩ := B2.out.two
  obtain ⟨r0, r1, -, -, rl⟩ := R2.out.two
  by_cases hq3 : q2 < 0
  · go_wp2_with fail
    go_ret
    exact ⟨rfl, b2⟩
  clear hq2
  go_wp2_with fail
  go_region_held3 (fun w' => w'.cell? ⟨w.heap.size, 0, none⟩ = some (.int .i64 k) ∧ w'.cell? ⟨w.heap.size, 1, none⟩ = some (.slice A n c) ∧ w'.cell? ⟨w.heap.size + 1, 0, none⟩ = some (.string s) ∧ w'.cell? ⟨w.heap.size + 1, 1, none⟩ = some (.string t) ∧ Below w2.heap.size w2 w')
    (first | exact ⟨q0, q1, r0, r1, (Below.refl _ w2).drew⟩ | exact held4_keep (by assumption) hb3 (Nat.le_refl _) ql rl | exact held4_keep (by assumption) hb4 (Nat.le_refl _) ql rl | exact held4_keep (by assumption) hb5 (Nat.le_refl _) ql rl)
    ((first | (go_at_call 10; refine (toSystem_any k A n c xs _ (HI.out _ ?_) Hn.out).mono ?_; (first | exact b2.drew | exact b2.trans ((by assumption : _ ∧ _ ∧ _ ∧ _ ∧ Below w2.heap.size w2 _).2.2.2.2.mono b2.size)); rintro e w3 ⟨v3, rfl, o3, hb3⟩; obtain ⟨A3, c3, rfl⟩ := o3.form) | (go_at_call 11; refine (toRule_any s t _).mono ?_; rintro e w4 ⟨rfl, hb4⟩) | (go_at_call 9; (first | have o9 := o3.below hb4 | have o9 := o3); refine (specHasRule k _ n _ _ xs s t _ o9).mono ?_; rintro e w5 ⟨rfl, hb5⟩)))
  have hS := ‹_ ∧ _ ∧ _ ∧ _ ∧ Below w2.heap.size w2 w5›
  have b5 := b2.trans (hS.2.2.2.2.mono b2.size)
  have B5 := Lib.hid (B2.out.below hS.2.2.2.2 ql)
  have R5 := Lib.hid (R2.out.below hS.2.2.2.2 rl)
  clear hS
  clear q0 q1 r0 r1 ql rl
  obtain ⟨q0, q1, -, -, ql⟩ := B5.out.two
  obtain ⟨r0, r1, -, -, rl⟩ := R5.out.two
  go_wp2_with fail
  refine (toSystem_any k A n c xs _ (HI.out _ b5) Hn.out).mono ?_
  rintro e w6 ⟨v6, rfl, o6, hb6⟩
  obtain ⟨A6, c6, rfl⟩ := o6.form
  go_wp2_with fail
  have b7 := (b5.trans (hb6.mono b5.size)).alloc (b5.trans (hb6.mono b5.size)).size (.cells #[.int .i64 k, .slice A6 n c6] 32)
  have B7 := Lib.hid ((B5.out.below hb6 ql).alloc (.cells #[.int .i64 k, .slice A6 n c6] 32))
  have R7 := Lib.hid ((R5.out.below hb6 rl).alloc (.cells #[.int .i64 k, .slice A6 n c6] 32))
  have X7 := Lib.hid (Blk.new1 w6 #[.int .i64 k, .slice A6 n c6] 32)
  have O7 := Lib.hid (o6.below (bel1 w6 (.cells #[.int .i64 k, .slice A6 n c6] 32)))
  clear q0 q1 r0 r1 ql rl o6 hb6
  generalize w6.alloc (.cells #[.int .i64 k, .slice A6 n c6] 32) = w7 at *
  obtain ⟨q0, q1, -, -, ql⟩ := B7.out.two
  obtain ⟨r0, r1, -, -, rl⟩ := R7.out.two
  obtain ⟨x0, x1, -, -, xl⟩ := X7.out.two
  have O7d : Hid (Own w5.heap.size w7.drew (.slice A6 n c6) 2 n (rulesC xs)) := O7
  go_region_held3 (fun w' => w'.cell? ⟨w6.heap.size, 0, none⟩ = some (.int .i64 k) ∧ w'.cell? ⟨w6.heap.size, 1, none⟩ = some (.slice A6 n c6) ∧ w'.cell? ⟨w.heap.size + 1, 0, none⟩ = some (.string s) ∧ w'.cell? ⟨w.heap.size + 1, 1, none⟩ = some (.string t) ∧ Below w7.heap.size w7 w')
    (first | exact ⟨x0, x1, r0, r1, (Below.refl _ w7).drew⟩ | exact held4_keep (by assumption) hb8 (Nat.le_refl _) xl rl | exact held4_keep (by assumption) hb9 (Nat.le_refl _) xl rl)
    ((first | (go_at_call 11; refine (toRule_any s t _).mono ?_; rintro e w8 ⟨rfl, hb8⟩) | (go_at_call 12; refine (implHasRule k A6 n c6 _ xs s t _ (O7d.out.below hb8)).mono ?_; rintro e w9 ⟨rfl, hb9⟩)))
  have hS := ‹_ ∧ _ ∧ _ ∧ _ ∧ Below w7.heap.size w7 w9›
  have b9 := b7.trans (hS.2.2.2.2.mono b7.size)
  have B9 := Lib.hid (B7.out.below hS.2.2.2.2 ql)
  have X9 := Lib.hid (X7.out.below hS.2.2.2.2 xl)
  have O9 := Lib.hid (O7.out.below hS.2.2.2.2)
  clear hS
  clear q0 q1 r0 r1 x0 x1 ql rl xl
  obtain ⟨q0, q1, -, -, ql⟩ := B9.out.two
  obtain ⟨x0, x1, -, -, xl⟩ := X9.out.two
  have O9d : Hid (Own w5.heap.size w9.drew (.slice A6 n c6) 2 n (rulesC xs)) := O9
  go_wp2_with fail
  go_region_held3 (fun w' => w'.cell? ⟨w6.heap.size, 0, none⟩ = some (.int .i64 k) ∧ w'.cell? ⟨w6.heap.size, 1, none⟩ = some (.slice A6 n c6) ∧ w'.cell? ⟨w.heap.size, 0, none⟩ = some (.int .i64 k) ∧ w'.cell? ⟨w.heap.size, 1, none⟩ = some (.slice A n c) ∧ Below w9.heap.size w9 w')
    (first | exact ⟨x0, x1, q0, q1, (Below.refl _ w9).drew⟩ | exact held4_keep (by assumption) hb10 (Nat.le_refl _) xl ql | exact held4_keep (by assumption) hb11 (Nat.le_refl _) xl ql)
    ((first | (go_at_call 10; refine (toSystem_any k A n c xs _ (HI.out _ b9.drew) Hn.out).mono ?_; rintro e w10 ⟨v10, rfl, o10, hb10⟩; obtain ⟨A10, c10, rfl⟩ := o10.form) | (go_at_call 13; refine (eqSystem_yes k A6 _ n c6 _ _ _ xs _ (O9d.out.below hb10) o10).mono ?_; rintro e w11 ⟨rfl, hb11⟩)))
  all_goals go_wp2
  go_ret
  have hS := ‹_ ∧ _ ∧ _ ∧ _ ∧ Below w9.heap.size w9 w11›
  exact ⟨rfl, b9.trans (hS.2.2.2.2.mono b9.size)⟩
set_option maxRecDepth 100000 in
theorem contract (H : Type) (enc : TypeId × Value → H) (W : World) (base : Nat) (args : Array Value) (ds gs : List (DataW H)) (before : List MemPlace)
    (hval : ∀ (j : Nat) t v, Try.f3.params[j]? = some t → args[j]? = some v → Value.okWide Try.prog W .any base t v)
    (hW : DataW.Whole enc Try.prog Try.f3.params.toList Rows.fnExactHasRuleSpec.vars false W args.toList ds gs before) :
    Calls Try.prog 3 args W fun e W' => ∃ v, e = .returned v ∧ Rows.fnExactHasRuleSpec.post enc Try.prog Try.f3 false true false false W args v W' := by
  have hW' := hW
  obtain ⟨p, q, hA0, hV, rfl, hfz, hnd⟩ := hW
  have hA : DataW.TrodAll enc Try.prog W 0 (fun _ => true) true Try.f3.params.toList args.toList ds p := hA0
  rw [Try.params3] at hA hval
  obtain ⟨v0, vs0, d0, ds0, p0, q0, hargs, rfl, rfl, h0, r0⟩ := trodAll_cons hA
  obtain ⟨v1, vs1, d1, ds1, p1, q1, rfl, rfl, rfl, h1, r1⟩ := trodAll_cons r0
  obtain ⟨rfl, rfl, rfl⟩ := trodAll_nil r1
  obtain rfl : args = #[v0, v1] := by first | exact Array.toList_inj.1 hargs | exact Array.toList_inj.1 hargs.symm | (cases args; simp_all)
  obtain ⟨k0, A0, n0, c0, xs0, rfl, wk0, I0⟩ := open_system Try.underlying24 (by kernel_rfl) (by kernel_rfl) Try.underlying3 Try.underlying22 Try.underlying26 (by kernel_rfl) (by kernel_rfl) Try.underlying9 Try.underlying9 (hval 0 24 v0 rfl rfl) h0
  obtain ⟨a1, b1, rfl, sa1, sb1⟩ := open_rule Try.underlying26 (by kernel_rfl) (by kernel_rfl) Try.underlying9 Try.underlying9 (hval 1 26 v1 rfl rfl) h1
  refine (walk k0 wk0 A0 n0 c0 xs0 a1 b1 sa1 sb1 W I0).mono fun e W' ⟨he, hb⟩ => ?_
  subst he
  exact ⟨_, rfl, law_post hW' rfl rfl rfl Try.underlying4 laidOut (by kernel_rfl) hb⟩

set_option maxRecDepth 100000 in
theorem lifted (os : Os) (started : os.Started) (H : Type) (enc : TypeId × Value → H) :
    ReturnsInHanded {} Try.checked os 3 .any (Rows.fnExactHasRuleSpec.pre6 enc Try.prog Try.f3 Rows.fnExactHasRuleRow.domain false) (Rows.fnExactHasRuleSpec.post enc Try.prog Try.f3 false true false false) := by
  refine returnsInHanded_of_change (C := Try.checked) own started (by kernel_rfl) Try.func3
    (ChangeSpec.witness6 (enc := enc) (C := Try.checked) false ⟨#[], #[.agg #[.int .i64 0, .slice none 0 0], .agg #[.string .empty, .string .empty]], []⟩ 8 (by kernel_rfl) (by kernel_rfl) (by kernel_rfl) (by kernel_rfl)) ?_
  intro W base args ds gs before hval hW _ _
  exact contract H enc W base args ds gs before hval hW

theorem proved : Rows.FnExactHasRuleSaid :=
  OpenClaim.holds_of_wide 3 Try.f3 rfl rfl rfl rfl rfl rfl rfl ⟨rfl, rfl, rfl, rfl, rfl⟩ rfl rfl rfl rfl rfl (by kernel_rfl) Try.func3 (by kernel_rfl)
    (of_decide_eq_true (by kernel_rfl)) (by unfold Func.isWrapper; first | (rw [if_pos (by decide +kernel)]; kernel_rfl) | (rw [if_neg (by decide +kernel)]; exact ⟨rfl, rfl⟩))
    (fun os started H enc _ => lifted os started H enc)
end Go.Proofs.Ytpmghdecfpfahaa.fnExactHasRule
