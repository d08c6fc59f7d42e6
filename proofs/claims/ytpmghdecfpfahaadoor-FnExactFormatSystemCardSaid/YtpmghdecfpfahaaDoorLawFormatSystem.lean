/- For every system, impl.FormatSystem answers as its model: FnExactFormatSystem returns true. The tables of letters and of powers of ten are tied to the program's text. -/
import Derived.Test.YtpmghdecfpfahaaDoorFormatSystem
import Derived.Test.YtpmghdecfpfahaaDoorArgs
import Derived.Test.YtpmghdecfpfahaaDoorWorld
import Derived.Deep.RegionHeld3
namespace Go.Proofs.YtpmghdecfpfahaaDoor.fnExactFormatSystem
open Go.ChangeShapes Go.WideShapes Go.ChangeAt Go.RowKit
open Go.ChangeMaps (open_string)
set_option maxRecDepth 100000 in
set_option maxHeartbeats 1600000 in
theorem walk (k : Int) (_wk : (Lit.int .i64 k).wf = true) (A : Option Addr) (n c : Nat) (xs : List R) (w : World) (hI : InR w A n c xs) (hp : Pow w) (h : Let w) :
    Calls Tryd.prog 9 #[.agg #[.int .i64 k, .slice A n c]] w fun e w' => e = .returned (.bool true) ∧ Below w.heap.size w w' := by
  have HL := Lib.hid (fun (w' : World) (hb : Below w.heap.size w w') => h.keep hb (Nat.le_refl _))
  have HP := Lib.hid (fun (w' : World) (hb : Below w.heap.size w w') => hp.keep hb (Nat.le_refl _))
  have HI := Lib.hid (fun (w' : World) (hb : Below w.heap.size w w') => hI.keep hb)
  clear h hI hp
  go_enter Tryd.func9, Tryd.ntmps9
  go_wp2_with fail
  refine (szSystem_any k A n c xs 1048576 _ (HI.out _ (bel1 _ _)) (Nat.le_refl _)).mono ?_
  rintro e w1 ⟨q, rfl, hq, hb1⟩
  have b1 := (bel1 w _).trans (hb1.mono (by simp))
  have B1 := Lib.hid ((Blk.new1 w _ _).below hb1 (by simp))
  obtain ⟨q0, q1, -, -, ql⟩ := B1.out.two
  clear hb1
  by_cases hq0 : q < 0
  · go_wp2_with fail
    go_ret
    exact ⟨rfl, b1⟩
  have Hsz : Hid (n + rulesSz xs ≤ 1048576) := by rcases hq with h | h <;> (show _ ≤ _; omega)
  have Hn : Hid (n ≤ 1048576) := by have := Hsz.out; show _ ≤ _; omega
  have Hsm : Hid (smallR xs) := small_of xs (by have := Hsz.out; omega)
  clear hq
  go_wp2_with fail
  refine (toSystem_any k A n c xs _ (HI.out _ b1) Hn.out).mono ?_
  rintro e w2 ⟨v2, rfl, o2, hb2⟩
  have b2 := b1.trans (hb2.mono b1.size)
  have B2 := Lib.hid (B1.out.below hb2 (by omega))
  obtain ⟨A2, c2, rfl⟩ := o2.form
  go_wp2_with fail
  refine (specFormatSystem k A2 n c2 _ xs _ o2 Hsm.out).mono ?_
  rintro e w3 ⟨rfl, hb3⟩
  have b3 := b2.trans (hb3.mono b2.size)
  have B3 := Lib.hid (B2.out.below hb3 B2.out.lt)
  clear hb2 hb3 q0 q1 ql o2
  obtain ⟨q0, q1, -, -, ql⟩ := B3.out.two
  go_wp2_with fail
  refine (toSystem_any k A n c xs _ (HI.out _ b3) Hn.out).mono ?_
  rintro e w4 ⟨v4, rfl, o4, hb4⟩
  have b4 := b3.trans (hb4.mono b3.size)
  have B4 := Lib.hid (B3.out.below hb4 (by omega))
  obtain ⟨A4, c4, rfl⟩ := o4.form
  have O4 := Lib.hid o4
  clear hb4 o4 q0 q1
  go_wp2_with fail
  refine (implFormatSystem k A4 n c4 _ xs _ (O4.out.below (bel1 _ _)) Hsm.out (HP.out _ (b4.alloc b4.size _)) (HL.out _ (b4.alloc b4.size _))).mono ?_
  rintro e w5 ⟨rfl, hb5⟩
  have b5 := (b4.alloc b4.size _).trans (hb5.mono (by have := b4.size; simp; omega))
  have B5 := Lib.hid ((B4.out.alloc _).below hb5 (by have := B4.out.lt; simp; omega))
  have X5 := Lib.hid ((Blk.new1 w4 _ _).below hb5 (by simp))
  have O5 := Lib.hid ((O4.out.below (bel1 _ _)).below hb5)
  have O5d : Hid (Own w3.heap.size w5.drew (.slice A4 n c4) 2 n (rulesC xs)) := O5
  clear hb5
  obtain ⟨q0, q1, -, -, ql⟩ := B5.out.two
  obtain ⟨x0, x1, -, -, xl⟩ := X5.out.two
  go_wp2_with fail
  go_region_held3 (fun w' => w'.cell? ⟨w4.heap.size, 0, none⟩ = some (.int .i64 k) ∧ w'.cell? ⟨w4.heap.size, 1, none⟩ = some (.slice A4 n c4) ∧ w'.cell? ⟨w.heap.size, 0, none⟩ = some (.int .i64 k) ∧ w'.cell? ⟨w.heap.size, 1, none⟩ = some (.slice A n c) ∧ Below w5.heap.size w5 w')
    (first | exact ⟨x0, x1, q0, q1, (Below.refl _ w5).drew⟩ | exact held4_keep (by assumption) hb6 (Nat.le_refl _) xl ql | exact held4_keep (by assumption) hb7 (Nat.le_refl _) xl ql)
    ((first | (go_at_call 17; refine (toSystem_any k A n c xs _ (HI.out _ b5.drew) Hn.out).mono ?_; rintro e w6 ⟨v6, rfl, o6, hb6⟩; obtain ⟨A6, c6, rfl⟩ := o6.form) | (go_at_call 19; refine (eqSystem_yes k A4 _ n c4 _ _ _ xs _ (O5d.out.below hb6) o6).mono ?_; rintro e w7 ⟨rfl, hb7⟩)))
  all_goals go_wp2
  go_ret
  have hS := ‹_ ∧ _ ∧ _ ∧ _ ∧ Below w5.heap.size w5 w7›
  exact ⟨rfl, b5.trans (hS.2.2.2.2.mono b5.size)⟩
set_option maxRecDepth 100000 in
theorem contract (H : Type) (enc : TypeId × Value → H) (W : World) (base : Nat) (args : Array Value) (ds gs : List (DataW H)) (before : List MemPlace)
    (hval : ∀ (j : Nat) t v, Tryd.f9.params[j]? = some t → args[j]? = some v → Value.okWide Tryd.prog W .any base t v)
    (hW : DataW.Whole enc Tryd.prog Tryd.f9.params.toList Rows.fnExactFormatSystemSpec.vars false W args.toList ds gs before) (hL : laidMetH Tryd.prog Rows.fnExactFormatSystemRow.laid W) :
    Calls Tryd.prog 9 args W fun e W' => ∃ v, e = .returned v ∧ Rows.fnExactFormatSystemSpec.post enc Tryd.prog Tryd.f9 false true false false W args v W' := by
  have hW' := hW
  have hL' : laidMet Tryd.prog [("math/bits.deBruijn32tab", Rows.laid_math_bits_deBruijn32tab), ("math/bits.deBruijn64tab", Rows.laid_math_bits_deBruijn64tab), ("internal/strconv.uint64pow10", Rows.laid_internal_strconv_uint64pow10), ("loop.example/g03201/impl.letters", Rows.laid_loop_example_g03201_impl_letters)] W := hL
  obtain ⟨p, q, hA0, hV, rfl, hfz, hnd⟩ := hW
  obtain ⟨g0, rfl⟩ := vars_len1 (trodVars_len hV)
  have hA : DataW.TrodAll enc Tryd.prog W 0 (fun _ => true) true Tryd.f9.params.toList args.toList ds p := hA0
  rw [Tryd.params9] at hA hval
  obtain ⟨v0, vs0, d0, ds0, p0, q0, hargs, rfl, rfl, h0, r0⟩ := trodAll_cons hA
  obtain ⟨rfl, rfl, rfl⟩ := trodAll_nil r0
  obtain rfl : args = #[v0] := by first | exact Array.toList_inj.1 hargs | exact Array.toList_inj.1 hargs.symm | (cases args; simp_all)
  obtain ⟨k0, A0, n0, c0, xs0, rfl, wk0, I0⟩ := open_system Tryd.underlying31 (by kernel_rfl) (by kernel_rfl) Tryd.underlying3 Tryd.underlying29 Tryd.underlying23 (by kernel_rfl) (by kernel_rfl) Tryd.underlying9 Tryd.underlying9 (hval 0 31 v0 rfl rfl) h0
  refine (walk k0 wk0 A0 n0 c0 xs0 W I0 (pow_of hL'.tail.tail) (let_of hL'.tail.tail.tail)).mono fun e W' ⟨he, hb⟩ => ?_
  subst he
  exact ⟨_, rfl, law_postV hW' rfl rfl Tryd.underlying4 laidOut (by kernel_rfl) (by kernel_rfl) hb⟩

theorem laid_met (os : Os) : laidMet Tryd.prog Rows.fnExactFormatSystemRow.laid ((laidWorld os).forCall (fun _ _ => 0) ⟨#[], #[.agg #[.int .i64 0, .slice none 0 0]], []⟩).memory :=
  laidMet_of_run' 8 (by kernel_rfl) (by kernel_rfl)
theorem reads (os : Os) {H : Type} (enc : TypeId × Value → H) : ∃ places, DataW.whole enc Tryd.prog ((laidWorld os).forCall (fun _ _ => 0) ⟨#[], #[.agg #[.int .i64 0, .slice none 0 0]], []⟩).memory Tryd.f9.params.toList Rows.fnExactFormatSystemSpec.vars false (#[.agg #[.int .i64 0, .slice none 0 0]] : Array Value).toList 8 = some ([.agg [.lit (.int .i64 0), .nil]], [Rows.laid_loop_example_g03201_impl_letters], places) :=
  ⟨MemPlace.row ⟨0, 0, none⟩ 4, by kernel_rfl⟩
set_option maxRecDepth 100000 in
theorem lifted (os : Os) (started : os.Started) (H : Type) (enc : TypeId × Value → H) (F : Stop.Interp) :
    ReturnsInHanded {} Tryd.checked os 9 .any ((OpenSpec.ofChange Rows.fnExactFormatSystemSpec).preRow enc Tryd.prog Tryd.f9 Rows.fnExactFormatSystemRow.domain false Rows.fnExactFormatSystemRow.laid) (((OpenSpec.ofChange Rows.fnExactFormatSystemSpec).at F).post enc Tryd.prog Tryd.f9 false true false false) := by
  obtain ⟨places, hx⟩ := reads os enc
  refine returnsInHanded_of_row (C := Tryd.checked) (s := OpenSpec.ofChange Rows.fnExactFormatSystemSpec) own started (by kernel_rfl) Tryd.func9
    (witness_row_atRef (enc := enc) (C := Tryd.checked) false (laidWorld os) #[.agg #[.int .i64 0, .slice none 0 0]] rfl (by kernel_rfl) (by kernel_rfl) (by kernel_rfl)
      (OpenSpec.preRow_of_cond 8 hx (by kernel_rfl) (fun k hk => by cases hk) (by kernel_rfl) (laid_met os))) ?_
  intro W base args ds gs before hval hW _ _ _ hL _ _
  exact contract H enc W base args ds gs before hval hW hL
theorem said : Rows.FnExactFormatSystemSaid :=
  OpenClaim.holds_of_cond 9 Tryd.f9 rfl rfl rfl rfl rfl rfl rfl ⟨rfl, rfl, rfl, rfl, rfl⟩ rfl rfl rfl rfl rfl (by kernel_rfl) Tryd.func9 (by kernel_rfl)
    (of_decide_eq_true (by kernel_rfl)) (by unfold Func.isWrapper; first | (rw [if_pos (by decide +kernel)]; kernel_rfl) | (rw [if_neg (by decide +kernel)]; exact ⟨rfl, rfl⟩))
    (fun os started H enc _ F => by rw [OpenClaim.pre_eq_preRow]; exact lifted os started H enc F)
theorem plain (f : FuncId) (fn : Func) (hf : Tryd.pinned.checked.prog.funcNamed Rows.fnExactFormatSystemRow.func = some f) (hfn : Tryd.pinned.checked.prog.funcs[f]? = some fn) :
    true = Tryd.pinned.checked.prog.looks [] ∧ ∀ (j : Nat) t, fn.params[j]? = some t → Tryd.pinned.checked.prog.wantsStandIn t = false := by
  obtain rfl : f = 9 := Option.some.inj ((show Tryd.prog.funcNamed Rows.fnExactFormatSystemRow.func = some 9 by kernel_rfl).symm.trans hf) |>.symm
  obtain rfl : fn = Tryd.f9 := (Option.some.inj (Tryd.func9.symm.trans hfn)).symm
  refine ⟨by kernel_rfl, fun j t ht => ?_⟩
  rw [Tryd.params9] at ht
  match j, ht with
  | 0, ht => (simp at ht; subst ht; exact (show Tryd.prog.wantsStandIn 31 = false by kernel_rfl))
  | n + 1, ht => simp at ht
theorem proved : Rows.FnExactFormatSystemCardSaid :=
  Claim7.holds_tied_plain_at .later [] _ _ _ _ said (fun _ h => by cases h) (by kernel_rfl) (fun _ h => by cases h) fnExactFormatSystem_row_tie rfl ⟨rfl, rfl⟩ (by kernel_rfl) rfl plain (by kernel_rfl)
end Go.Proofs.YtpmghdecfpfahaaDoor.fnExactFormatSystem
