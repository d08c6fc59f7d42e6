/- For every number and rule, impl.OrientRule answers as its model: FnExactOrientRule returns true. The table of letters is tied to the program's text. -/
import Derived.Test.YtpmghdecfpfahaaDoorOrient
import Derived.Test.YtpmghdecfpfahaaDoorArgs
import Derived.Test.YtpmghdecfpfahaaDoorWorld
namespace Go.Proofs.YtpmghdecfpfahaaDoor.fnExactOrientRule
open Go.ChangeShapes Go.WideShapes Go.ChangeAt Go.RowKit
open Go.ChangeMaps (open_string)
set_option maxRecDepth 100000 in
set_option maxHeartbeats 800000 in
theorem walk (k : Int) (_wk : (Lit.int .i64 k).wf = true) (u v : ByteArray) (hu : u.size ≤ maxLen) (hv : v.size ≤ maxLen) (w : World) (h : Let w) :
    Calls Tryd.prog 6 #[.int .i64 k, .agg #[.string u, .string v]] w fun e w' => e = .returned (.bool true) ∧ Below w.heap.size w w' := by
  have HL := Lib.hid (fun (w' : World) (hb : Below w.heap.size w w') => h.keep hb (Nat.le_refl _))
  clear h
  go_enter Tryd.func6, Tryd.ntmps6
  go_wp2_with fail
  refine (szRule_any u v 1048576 _ hu hv (Nat.le_refl _)).mono ?_
  rintro e w1 ⟨q, rfl, hq, hb1⟩
  clear hu hv
  have b1 := (bel1 w _).trans (hb1.mono (by simp))
  have B1 := Lib.hid ((Blk.new1 w _ _).below hb1 (by simp))
  obtain ⟨q0, q1, -, -, ql⟩ := B1.out.two
  clear hb1
  by_cases hq0 : q < 0
  · go_wp2_with fail
    go_ret
    exact ⟨rfl, b1⟩
  have Hu : Hid (u.size ≤ 1048576) := by rcases hq with h | h <;> (show _ ≤ _; omega)
  have Hv : Hid (v.size ≤ 1048576) := by rcases hq with h | h <;> (show _ ≤ _; omega)
  clear hq
  go_wp2_with fail
  refine (toRule_any u v _).mono ?_
  rintro e w2 ⟨rfl, hb2⟩
  have b2 := b1.trans (hb2.mono b1.size)
  have B2 := Lib.hid (B1.out.below hb2 (by omega))
  go_wp2_with fail
  refine (specOrientRule k u v _ Hu.out Hv.out).mono ?_
  rintro e w3 ⟨rfl, hb3⟩
  have b3 := b2.trans (hb3.mono b2.size)
  have B3 := Lib.hid (B2.out.below hb3 B2.out.lt)
  clear hb2 hb3 q0 q1 ql
  obtain ⟨q0, q1, -, -, ql⟩ := B3.out.two
  generalize hoo : orientOf k (u, v) = oo
  generalize hcc : canOrient k (u, v) = cc
  have Hoo := Lib.hid hoo
  have Hcc := Lib.hid hcc
  clear hoo hcc
  obtain ⟨a, b⟩ := oo
  go_wp2_with fail
  refine (toRule_any u v _).mono ?_
  rintro e w4 ⟨rfl, hb4⟩
  have b4 := (b3.alloc b3.size _).trans (hb4.mono (by have := b3.size; simp; omega))
  have X4 := Lib.hid ((Blk.new1 w3 _ _).below hb4 (by simp))
  clear hb4 q0 q1 ql
  go_wp2_with fail
  refine (implOrientRule k u v _ Hu.out Hv.out (HL.out _ b4)).mono ?_
  rintro e w5 ⟨rfl, hb5⟩
  rw [Hoo.out, Hcc.out]
  have b5 := b4.trans (hb5.mono b4.size)
  have X5 := Lib.hid (X4.out.below hb5 X4.out.lt)
  clear hb5
  obtain ⟨x0, x1, -, -, xl⟩ := X5.out.two
  go_wp2_with fail
  refine (eqRule_any a b a b _).mono ?_
  rintro e w6 ⟨rfl, hb6⟩
  have b6 := (b5.alloc b5.size _).trans (hb6.mono (by have := b5.size; simp; omega))
  clear hb6
  go_wp2
  go_ret
  exact ⟨rfl, b6⟩
set_option maxRecDepth 100000 in
theorem contract (H : Type) (enc : TypeId × Value → H) (W : World) (base : Nat) (args : Array Value) (ds gs : List (DataW H)) (before : List MemPlace)
    (hval : ∀ (j : Nat) t v, Tryd.f6.params[j]? = some t → args[j]? = some v → Value.okWide Tryd.prog W .any base t v)
    (hW : DataW.Whole enc Tryd.prog Tryd.f6.params.toList Rows.fnExactOrientRuleSpec.vars false W args.toList ds gs before) (hL : laidMetH Tryd.prog Rows.fnExactOrientRuleRow.laid W) :
    Calls Tryd.prog 6 args W fun e W' => ∃ v, e = .returned v ∧ Rows.fnExactOrientRuleSpec.post enc Tryd.prog Tryd.f6 false true false false W args v W' := by
  have hW' := hW
  have hL' : laidMet Tryd.prog [("loop.example/g03201/impl.letters", Rows.laid_loop_example_g03201_impl_letters)] W := hL
  obtain ⟨p, q, hA0, hV, rfl, hfz, hnd⟩ := hW
  obtain ⟨g0, rfl⟩ := vars_len1 (trodVars_len hV)
  have hA : DataW.TrodAll enc Tryd.prog W 0 (fun _ => true) true Tryd.f6.params.toList args.toList ds p := hA0
  rw [Tryd.params6] at hA hval
  obtain ⟨v0, vs0, d0, ds0, p0, q0, hargs, rfl, rfl, h0, r0⟩ := trodAll_cons hA
  obtain ⟨v1, vs1, d1, ds1, p1, q1, rfl, rfl, rfl, h1, r1⟩ := trodAll_cons r0
  obtain ⟨rfl, rfl, rfl⟩ := trodAll_nil r1
  obtain rfl : args = #[v0, v1] := by first | exact Array.toList_inj.1 hargs | exact Array.toList_inj.1 hargs.symm | (cases args; simp_all)
  obtain ⟨a0, rfl, rfl, rfl, b0⟩ := open_int Tryd.underlying3 (hval 0 3 v0 rfl rfl) h0
  obtain ⟨a1, b1, rfl, sa1, sb1⟩ := open_rule Tryd.underlying23 (by kernel_rfl) (by kernel_rfl) Tryd.underlying9 Tryd.underlying9 (hval 1 23 v1 rfl rfl) h1
  refine (walk a0 b0 a1 b1 sa1 sb1 W (let_of hL')).mono fun e W' ⟨he, hb⟩ => ?_
  subst he
  exact ⟨_, rfl, law_postV hW' rfl rfl Tryd.underlying4 laidOut (by kernel_rfl) (by kernel_rfl) hb⟩

theorem laid_met (os : Os) : laidMet Tryd.prog Rows.fnExactOrientRuleRow.laid ((laidWorld os).forCall (fun _ _ => 0) ⟨#[], #[.int .i64 0, .agg #[.string .empty, .string .empty]], []⟩).memory :=
  laidMet_of_run' 8 (by kernel_rfl) (by kernel_rfl)
theorem reads (os : Os) {H : Type} (enc : TypeId × Value → H) : ∃ places, DataW.whole enc Tryd.prog ((laidWorld os).forCall (fun _ _ => 0) ⟨#[], #[.int .i64 0, .agg #[.string .empty, .string .empty]], []⟩).memory Tryd.f6.params.toList Rows.fnExactOrientRuleSpec.vars false (#[.int .i64 0, .agg #[.string .empty, .string .empty]] : Array Value).toList 8 = some ([.lit (.int .i64 0), .agg [.lit (.string []), .lit (.string [])]], [Rows.laid_loop_example_g03201_impl_letters], places) :=
  ⟨MemPlace.row ⟨0, 0, none⟩ 4, by kernel_rfl⟩
set_option maxRecDepth 100000 in
theorem lifted (os : Os) (started : os.Started) (H : Type) (enc : TypeId × Value → H) (F : Stop.Interp) :
    ReturnsInHanded {} Tryd.checked os 6 .any ((OpenSpec.ofChange Rows.fnExactOrientRuleSpec).preRow enc Tryd.prog Tryd.f6 Rows.fnExactOrientRuleRow.domain false Rows.fnExactOrientRuleRow.laid) (((OpenSpec.ofChange Rows.fnExactOrientRuleSpec).at F).post enc Tryd.prog Tryd.f6 false true false false) := by
  obtain ⟨places, hx⟩ := reads os enc
  refine returnsInHanded_of_row (C := Tryd.checked) (s := OpenSpec.ofChange Rows.fnExactOrientRuleSpec) own started (by kernel_rfl) Tryd.func6
    (witness_row_atRef (enc := enc) (C := Tryd.checked) false (laidWorld os) #[.int .i64 0, .agg #[.string .empty, .string .empty]] rfl (by kernel_rfl) (by kernel_rfl) (by kernel_rfl)
      (OpenSpec.preRow_of_cond 8 hx (by kernel_rfl) (fun k hk => by cases hk) (by kernel_rfl) (laid_met os))) ?_
  intro W base args ds gs before hval hW _ _ _ hL _ _
  exact contract H enc W base args ds gs before hval hW hL
theorem said : Rows.FnExactOrientRuleSaid :=
  OpenClaim.holds_of_cond 6 Tryd.f6 rfl rfl rfl rfl rfl rfl rfl ⟨rfl, rfl, rfl, rfl, rfl⟩ rfl rfl rfl rfl rfl (by kernel_rfl) Tryd.func6 (by kernel_rfl)
    (of_decide_eq_true (by kernel_rfl)) (by unfold Func.isWrapper; first | (rw [if_pos (by decide +kernel)]; kernel_rfl) | (rw [if_neg (by decide +kernel)]; exact ⟨rfl, rfl⟩))
    (fun os started H enc _ F => by rw [OpenClaim.pre_eq_preRow]; exact lifted os started H enc F)
theorem plain (f : FuncId) (fn : Func) (hf : Tryd.pinned.checked.prog.funcNamed Rows.fnExactOrientRuleRow.func = some f) (hfn : Tryd.pinned.checked.prog.funcs[f]? = some fn) :
    true = Tryd.pinned.checked.prog.looks [] ∧ ∀ (j : Nat) t, fn.params[j]? = some t → Tryd.pinned.checked.prog.wantsStandIn t = false := by
  obtain rfl : f = 6 := Option.some.inj ((show Tryd.prog.funcNamed Rows.fnExactOrientRuleRow.func = some 6 by kernel_rfl).symm.trans hf) |>.symm
  obtain rfl : fn = Tryd.f6 := (Option.some.inj (Tryd.func6.symm.trans hfn)).symm
  refine ⟨by kernel_rfl, fun j t ht => ?_⟩
  rw [Tryd.params6] at ht
  match j, ht with
  | 0, ht => (simp at ht; subst ht; exact (show Tryd.prog.wantsStandIn 3 = false by kernel_rfl))
  | 1, ht => (simp at ht; subst ht; exact (show Tryd.prog.wantsStandIn 23 = false by kernel_rfl))
  | n + 2, ht => simp at ht
theorem proved : Rows.FnExactOrientRuleCardSaid :=
  Claim7.holds_tied_plain_at .later [] _ _ _ _ said (fun _ h => by cases h) (by kernel_rfl) (fun _ h => by cases h) fnExactOrientRule_row_tie rfl ⟨rfl, rfl⟩ (by kernel_rfl) rfl plain (by kernel_rfl)
end Go.Proofs.YtpmghdecfpfahaaDoor.fnExactOrientRule
