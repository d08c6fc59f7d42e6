/- For all numbers, impl.WordsOf answers as its model, in memory of its own: FnExactWordsOf returns true. The table of letters is tied to the program's text. -/
import Derived.Test.YtpgfjcnbgomagaaDoorSpecWords
import Derived.Test.YtpgfjcnbgomagaaDoorWorld
import Derived.Lib.SmallJoins
namespace Go.Proofs.YtpgfjcnbgomagaaDoor.fnExactWordsOf
open Go.Joins Go.ChangeShapes Go.WideShapes Go.ChangeAt Go.RowKit
theorem i64_of {n : Int} (h : (Lit.int .i64 n).wf = true) : -9223372036854775808 ≤ n ∧ n ≤ 9223372036854775807 := by
  simp only [Lit.wf, IntKind.min, IntKind.max, IntKind.signed, IntKind.bits] at h
  simp at h; omega
set_option maxHeartbeats 800000 in
set_option maxRecDepth 100000 in
theorem walk (k : Int) (_hk : (Lit.int .i64 k).wf = true) (n : Int) (hn : (Lit.int .i64 n).wf = true) (w : World) (h : Let w) :
    Calls Tryd.prog 6 #[.int .i64 k, .int .i64 n] w fun e w' => e = .returned (.bool true) ∧ Below w.heap.size w w' := by
  have H := Lib.hid h
  have hn0 := (i64_of hn).1
  clear h hn
  go_enter Tryd.func6, Tryd.ntmps6
  go_wp2_with (go_at_call 13; refine (specWordsOf k n _ hn0).mono ?_)
  rintro e w1 ⟨v0, L, ok, rfl, hr0, o0, hlen, b0⟩
  have HR := Lib.hid hr0
  clear hr0
  have s0 := b0.size
  obtain ⟨A0, c0, rfl⟩ := o0.form
  go_wp2_with (go_at_call 14; refine (implWordsOf k n _ hn0 (H.out.keep b0 (Nat.le_refl _))).mono ?_)
  rintro e w2 ⟨v1, L1, ok1, rfl, hr1, o1, -, b1⟩
  obtain ⟨rfl, rfl⟩ := HR.out.one hr1
  clear hr1
  have s1 := b1.size
  obtain ⟨A1, c1, rfl⟩ := o1.form
  have o0' := o0.below b1
  go_wp2_with (go_at_call 15; refine (eqStringS_yes _ _ _ _ _ _ _ L _ o1 o0' (by omega)).mono ?_)
  rintro e w3 ⟨rfl, m3, rfl⟩
  go_wp2_with (go_at_call 16; refine (markStringS_any _ _ _ _ _ L _ (o1.drewN m3) (by simp; omega) (by omega) (by omega)).mono ?_)
  rintro e w4 ⟨rfl, o1m, b3⟩
  have s3 : w2.heap.size ≤ w4.heap.size := b3.size
  go_wp2_with (go_at_call 17; refine (heldStringS_yes _ _ _ _ _ _ o1m (by omega) (by omega)).mono ?_)
  rintro e w5 ⟨rfl, b4⟩
  have s4 := b4.size
  have b25 : Below w1.heap.size w2 w5 := ((below_draws _ w2 m3).trans b3).trans (b4.mono (by omega))
  have b15 : Below w1.heap.size w1 w5 := b1.trans b25
  have b05 : Below w.heap.size w w5 := b0.trans (b15.mono s0)
  go_wp2_with (go_at_call 14; refine (implWordsOf k n _ hn0 (H.out.keep b05 (Nat.le_refl _))).mono ?_)
  rintro e w6 ⟨v2, L2, ok2, rfl, hr2, o2, -, b5⟩
  obtain ⟨rfl, rfl⟩ := HR.out.one hr2
  clear hr2
  obtain ⟨A2, c2, rfl⟩ := o2.form
  have s5 := b5.size
  have o0'' := o0.below (b15.trans (b5.mono (by omega)))
  have o1m' := (o1m.below b4).below b5
  go_wp2_with (go_at_call 15; refine (eqStringS_yes _ _ _ _ _ _ _ L _ o2 o0'' (by omega)).mono ?_)
  rintro e w7 ⟨rfl, m7, rfl⟩
  go_wp2_with (go_at_call 17; refine (heldStringS_yes _ _ _ _ _ _ (o1m'.drewN m7) (by omega) (by omega)).mono ?_)
  rintro e w8 ⟨rfl, b8⟩
  go_wp2_with fail
  go_ret
  exact ⟨rfl, b05.trans ((b5.mono (by omega)).trans ((below_draws _ w6 m7).trans (b8.mono (show w.heap.size ≤ w6.heap.size by omega))))⟩
theorem contract (H : Type) (enc : TypeId × Value → H) (W : World) (base : Nat) (args : Array Value) (ds gs : List (DataW H)) (before : List MemPlace)
    (hval : ∀ (j : Nat) t v, Tryd.f6.params[j]? = some t → args[j]? = some v → Value.okWide Tryd.prog W .any base t v)
    (hW : DataW.Whole enc Tryd.prog Tryd.f6.params.toList Rows.fnExactWordsOfSpec.vars false W args.toList ds gs before) (hL : laidMetH Tryd.prog Rows.fnExactWordsOfRow.laid W) :
    Calls Tryd.prog 6 args W fun e W' => ∃ v, e = .returned v ∧ Rows.fnExactWordsOfSpec.post enc Tryd.prog Tryd.f6 false true false false W args v W' := by
  have hW' := hW
  have hL' : laidMet Tryd.prog [("loop.example/g03201/impl.letters", Rows.laid_loop_example_g03201_impl_letters)] W := hL
  obtain ⟨p, q, hA0, hV, rfl, hfz, hnd⟩ := hW
  obtain ⟨g0, rfl⟩ := vars_len1 (trodVars_len hV)
  have hA : DataW.TrodAll enc Tryd.prog W 0 (fun _ => true) true Tryd.f6.params.toList args.toList ds p := hA0
  rw [Tryd.params6] at hA hval
  obtain ⟨v0, vs0, d0, ds0, p0, q0, hargs, rfl, rfl, h0, r0⟩ := trodAll_cons hA
  obtain ⟨v1, vs1, d1, ds1, p1, q1, rfl, rfl, rfl, h1, r1⟩ := trodAll_cons r0
  obtain ⟨rfl, rfl, rfl⟩ := trodAll_nil r1
  obtain rfl : args = #[v0, v1] := by cases args; simp_all
  obtain ⟨a0, rfl, rfl, rfl, b0⟩ := open_int Tryd.underlying3 (hval 0 3 v0 rfl rfl) h0
  obtain ⟨a1, rfl, rfl, rfl, b1⟩ := open_int Tryd.underlying3 (hval 1 3 v1 rfl rfl) h1
  refine (walk a0 b0 a1 b1 W (let_of hL')).mono fun e W' ⟨he, hb⟩ => ?_
  subst he
  exact ⟨_, rfl, law_postV hW' rfl rfl Tryd.underlying4 laidOut (by kernel_rfl) (by kernel_rfl) hb⟩

theorem laid_met (os : Os) : laidMet Tryd.prog Rows.fnExactWordsOfRow.laid ((laidWorld os).forCall (fun _ _ => 0) ⟨#[], #[.int .i64 0, .int .i64 0], []⟩).memory :=
  laidMet_of_run' 8 (by kernel_rfl) (by kernel_rfl)
theorem reads (os : Os) {H : Type} (enc : TypeId × Value → H) : ∃ places, DataW.whole enc Tryd.prog ((laidWorld os).forCall (fun _ _ => 0) ⟨#[], #[.int .i64 0, .int .i64 0], []⟩).memory Tryd.f6.params.toList Rows.fnExactWordsOfSpec.vars false (#[.int .i64 0, .int .i64 0] : Array Value).toList 8 = some ([.lit (.int .i64 0), .lit (.int .i64 0)], [Rows.laid_loop_example_g03201_impl_letters], places) :=
  ⟨MemPlace.row ⟨0, 0, none⟩ 4, by kernel_rfl⟩
set_option maxRecDepth 100000 in
theorem lifted (os : Os) (started : os.Started) (H : Type) (enc : TypeId × Value → H) (F : Stop.Interp) :
    ReturnsInHanded {} Tryd.checked os 6 .any ((OpenSpec.ofChange Rows.fnExactWordsOfSpec).preRow enc Tryd.prog Tryd.f6 Rows.fnExactWordsOfRow.domain false Rows.fnExactWordsOfRow.laid) (((OpenSpec.ofChange Rows.fnExactWordsOfSpec).at F).post enc Tryd.prog Tryd.f6 false true false false) := by
  obtain ⟨places, hx⟩ := reads os enc
  refine returnsInHanded_of_row (C := Tryd.checked) (s := OpenSpec.ofChange Rows.fnExactWordsOfSpec) own started (by kernel_rfl) Tryd.func6
    (witness_row_at (enc := enc) (C := Tryd.checked) false (laidWorld os) #[.int .i64 0, .int .i64 0] rfl (by kernel_rfl) (by kernel_rfl) (by kernel_rfl)
      (OpenSpec.preRow_of_cond 8 hx (by kernel_rfl) (fun k hk => by cases hk) (by kernel_rfl) (laid_met os))) ?_
  intro W base args ds gs before hval hW _ _ _ hL _ _
  exact contract H enc W base args ds gs before hval hW hL
theorem said : Rows.FnExactWordsOfSaid :=
  OpenClaim.holds_of_cond 6 Tryd.f6 rfl rfl rfl rfl rfl rfl rfl ⟨rfl, rfl, rfl, rfl, rfl⟩ rfl rfl rfl rfl rfl (by kernel_rfl) Tryd.func6 (by kernel_rfl)
    (of_decide_eq_true (by kernel_rfl)) (by unfold Func.isWrapper; first | (rw [if_pos (by decide +kernel)]; kernel_rfl) | (rw [if_neg (by decide +kernel)]; exact ⟨rfl, rfl⟩))
    (fun os started H enc _ F => by rw [OpenClaim.pre_eq_preRow]; exact lifted os started H enc F)
theorem plain (f : FuncId) (fn : Func) (hf : Tryd.pinned.checked.prog.funcNamed Rows.fnExactWordsOfRow.func = some f) (hfn : Tryd.pinned.checked.prog.funcs[f]? = some fn) :
    false = Tryd.pinned.checked.prog.looks [] ∧ ∀ (j : Nat) t, fn.params[j]? = some t → Tryd.pinned.checked.prog.wantsStandIn t = false := by
  obtain rfl : f = 6 := Option.some.inj ((show Tryd.prog.funcNamed Rows.fnExactWordsOfRow.func = some 6 by kernel_rfl).symm.trans hf) |>.symm
  obtain rfl : fn = Tryd.f6 := (Option.some.inj (Tryd.func6.symm.trans hfn)).symm
  refine ⟨by kernel_rfl, fun j t ht => ?_⟩
  rw [Tryd.params6] at ht
  match j, ht with
  | 0, ht => (simp at ht; subst ht; exact (show Tryd.prog.wantsStandIn 3 = false by kernel_rfl))
  | 1, ht => (simp at ht; subst ht; exact (show Tryd.prog.wantsStandIn 3 = false by kernel_rfl))
  | n + 2, ht => simp at ht
theorem proved : Rows.FnExactWordsOfCardSaid :=
  Claim7.holds_tied_plain_at .later [] _ _ _ _ said (fun _ h => by cases h) (by kernel_rfl) (fun _ h => by cases h) fnExactWordsOf_row_tie rfl ⟨rfl, rfl⟩ (by kernel_rfl) rfl plain (by kernel_rfl)
end Go.Proofs.YtpgfjcnbgomagaaDoor.fnExactWordsOf
