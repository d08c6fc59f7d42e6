/- For every string, impl.ParseRule answers as its model: FnExactParseRule returns true. The table of letters is tied to the program's text. -/
import Derived.Test.YtpmghdecfpfahaaDoorParseRule
import Derived.Test.YtpmghdecfpfahaaDoorWorld
namespace Go.Proofs.YtpmghdecfpfahaaDoor.fnExactParseRule
open Go.ChangeShapes Go.WideShapes Go.ChangeAt Go.RowKit
open Go.ChangeMaps (open_string)
set_option maxRecDepth 100000 in
set_option maxHeartbeats 800000 in
theorem walk (s : ByteArray) (_hs : s.size ≤ maxLen) (w : World) (h : Let w) :
    Calls Tryd.prog 8 #[.string s] w fun e w' => e = .returned (.bool true) ∧ Below w.heap.size w w' := by
  have HL := Lib.hid (fun (w' : World) (hb : Below w.heap.size w w') => h.keep hb (Nat.le_refl _))
  clear h
  by_cases hbig : 1048576 < s.size
  · go_enter Tryd.func8, Tryd.ntmps8
    go_wp2_with fail
    go_ret
    exact ⟨rfl, Below.refl _ _⟩
  have Hs : Hid (s.size ≤ 1048576) := Nat.le_of_not_lt hbig
  go_enter Tryd.func8, Tryd.ntmps8
  go_wp2_with fail
  refine (specParseRule s _ Hs.out).mono ?_
  rintro e w1 ⟨rfl, b1⟩
  generalize hoo : parseR s = oo
  have Hoo := Lib.hid hoo
  clear hoo
  obtain ⟨⟨a, b⟩, cc⟩ := oo
  go_wp2_with fail
  have b2 := b1.alloc b1.size (.cells #[.string a, .string b] 26)
  refine (implParseRule s _ Hs.out (HL.out _ b2)).mono ?_
  rintro e w3 ⟨rfl, hb3⟩
  rw [Hoo.out]
  have b3 := b2.trans (hb3.mono b2.size)
  obtain ⟨x0, x1, -, -, xl⟩ := ((Blk.new1 w1 _ _).below hb3 (by simp)).two
  clear hb3
  go_wp2_with fail
  refine (eqRule_any a b a b _).mono ?_
  rintro e w4 ⟨rfl, hb4⟩
  have b4 := (b3.alloc b3.size _).trans (hb4.mono (by have := b3.size; simp; omega))
  clear hb4
  go_wp2
  go_ret
  exact ⟨rfl, b4⟩
set_option maxRecDepth 100000 in
theorem contract (H : Type) (enc : TypeId × Value → H) (W : World) (base : Nat) (args : Array Value) (ds gs : List (DataW H)) (before : List MemPlace)
    (hval : ∀ (j : Nat) t v, Tryd.f8.params[j]? = some t → args[j]? = some v → Value.okWide Tryd.prog W .any base t v)
    (hW : DataW.Whole enc Tryd.prog Tryd.f8.params.toList Rows.fnExactParseRuleSpec.vars false W args.toList ds gs before) (hL : laidMetH Tryd.prog Rows.fnExactParseRuleRow.laid W) :
    Calls Tryd.prog 8 args W fun e W' => ∃ v, e = .returned v ∧ Rows.fnExactParseRuleSpec.post enc Tryd.prog Tryd.f8 false true false false W args v W' := by
  have hW' := hW
  have hL' : laidMet Tryd.prog [("loop.example/g03201/impl.letters", Rows.laid_loop_example_g03201_impl_letters)] W := hL
  obtain ⟨p, q, hA0, hV, rfl, hfz, hnd⟩ := hW
  obtain ⟨g0, rfl⟩ := vars_len1 (trodVars_len hV)
  have hA : DataW.TrodAll enc Tryd.prog W 0 (fun _ => true) true Tryd.f8.params.toList args.toList ds p := hA0
  rw [Tryd.params8] at hA hval
  obtain ⟨v0, vs0, d0, ds0, p0, q0, hargs, rfl, rfl, h0, r0⟩ := trodAll_cons hA
  obtain ⟨rfl, rfl, rfl⟩ := trodAll_nil r0
  obtain rfl : args = #[v0] := by first | exact Array.toList_inj.1 hargs | exact Array.toList_inj.1 hargs.symm | (cases args; simp_all)
  obtain ⟨a0, rfl, rfl, rfl, b0⟩ := open_string Tryd.underlying9 (hval 0 9 v0 rfl rfl) h0
  refine (walk a0 b0 W (let_of hL')).mono fun e W' ⟨he, hb⟩ => ?_
  subst he
  exact ⟨_, rfl, law_postV hW' rfl rfl Tryd.underlying4 laidOut (by kernel_rfl) (by kernel_rfl) hb⟩

theorem laid_met (os : Os) : laidMet Tryd.prog Rows.fnExactParseRuleRow.laid ((laidWorld os).forCall (fun _ _ => 0) ⟨#[], #[.string .empty], []⟩).memory :=
  laidMet_of_run' 8 (by kernel_rfl) (by kernel_rfl)
theorem reads (os : Os) {H : Type} (enc : TypeId × Value → H) : ∃ places, DataW.whole enc Tryd.prog ((laidWorld os).forCall (fun _ _ => 0) ⟨#[], #[.string .empty], []⟩).memory Tryd.f8.params.toList Rows.fnExactParseRuleSpec.vars false (#[.string .empty] : Array Value).toList 8 = some ([.lit (.string [])], [Rows.laid_loop_example_g03201_impl_letters], places) :=
  ⟨MemPlace.row ⟨0, 0, none⟩ 4, by kernel_rfl⟩
set_option maxRecDepth 100000 in
theorem lifted (os : Os) (started : os.Started) (H : Type) (enc : TypeId × Value → H) (F : Stop.Interp) :
    ReturnsInHanded {} Tryd.checked os 8 .any ((OpenSpec.ofChange Rows.fnExactParseRuleSpec).preRow enc Tryd.prog Tryd.f8 Rows.fnExactParseRuleRow.domain false Rows.fnExactParseRuleRow.laid) (((OpenSpec.ofChange Rows.fnExactParseRuleSpec).at F).post enc Tryd.prog Tryd.f8 false true false false) := by
  obtain ⟨places, hx⟩ := reads os enc
  refine returnsInHanded_of_row (C := Tryd.checked) (s := OpenSpec.ofChange Rows.fnExactParseRuleSpec) own started (by kernel_rfl) Tryd.func8
    (witness_row_atRef (enc := enc) (C := Tryd.checked) false (laidWorld os) #[.string .empty] rfl (by kernel_rfl) (by kernel_rfl) (by kernel_rfl)
      (OpenSpec.preRow_of_cond 8 hx (by kernel_rfl) (fun k hk => by cases hk) (by kernel_rfl) (laid_met os))) ?_
  intro W base args ds gs before hval hW _ _ _ hL _ _
  exact contract H enc W base args ds gs before hval hW hL
theorem said : Rows.FnExactParseRuleSaid :=
  OpenClaim.holds_of_cond 8 Tryd.f8 rfl rfl rfl rfl rfl rfl rfl ⟨rfl, rfl, rfl, rfl, rfl⟩ rfl rfl rfl rfl rfl (by kernel_rfl) Tryd.func8 (by kernel_rfl)
    (of_decide_eq_true (by kernel_rfl)) (by unfold Func.isWrapper; first | (rw [if_pos (by decide +kernel)]; kernel_rfl) | (rw [if_neg (by decide +kernel)]; exact ⟨rfl, rfl⟩))
    (fun os started H enc _ F => by rw [OpenClaim.pre_eq_preRow]; exact lifted os started H enc F)
theorem plain (f : FuncId) (fn : Func) (hf : Tryd.pinned.checked.prog.funcNamed Rows.fnExactParseRuleRow.func = some f) (hfn : Tryd.pinned.checked.prog.funcs[f]? = some fn) :
    true = Tryd.pinned.checked.prog.looks [] ∧ ∀ (j : Nat) t, fn.params[j]? = some t → Tryd.pinned.checked.prog.wantsStandIn t = false := by
  obtain rfl : f = 8 := Option.some.inj ((show Tryd.prog.funcNamed Rows.fnExactParseRuleRow.func = some 8 by kernel_rfl).symm.trans hf) |>.symm
  obtain rfl : fn = Tryd.f8 := (Option.some.inj (Tryd.func8.symm.trans hfn)).symm
  refine ⟨by kernel_rfl, fun j t ht => ?_⟩
  rw [Tryd.params8] at ht
  match j, ht with
  | 0, ht => (simp at ht; subst ht; exact (show Tryd.prog.wantsStandIn 9 = false by kernel_rfl))
  | n + 1, ht => simp at ht
theorem proved : Rows.FnExactParseRuleCardSaid :=
  Claim7.holds_tied_plain_at .later [] _ _ _ _ said (fun _ h => by cases h) (by kernel_rfl) (fun _ h => by cases h) fnExactParseRule_row_tie rfl ⟨rfl, rfl⟩ (by kernel_rfl) rfl plain (by kernel_rfl)
end Go.Proofs.YtpmghdecfpfahaaDoor.fnExactParseRule
