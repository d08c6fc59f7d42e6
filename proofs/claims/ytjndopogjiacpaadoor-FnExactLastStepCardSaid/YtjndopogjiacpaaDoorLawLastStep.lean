/- For every system and string, impl.LastStep answers as its model: FnExactLastStep returns true. The table of letters is tied to the program's text. -/
import Derived.Test.YtjndopogjiacpaaDoorLastStep
import Derived.Test.YtjndopogjiacpaaDoorArgs
import Derived.Test.YtjndopogjiacpaaDoorWorld
import Derived.Deep.RegionHeld3
namespace Go.Proofs.YtjndopogjiacpaaDoor.fnExactLastStep
open Go.ChangeShapes Go.WideShapes Go.ChangeAt Go.RowKit
open Go.ChangeMaps (open_string)
set_option maxRecDepth 100000 in
set_option maxHeartbeats 1600000 in
theorem walk (k : Int) (_wk : (Lit.int .i64 k).wf = true) (A : Option Addr) (n c : Nat) (xs : List R) (s : ByteArray) (hss : s.size ≤ maxLen) (w : World) (hI : InR w A n c xs) (h : Let w) :
    Calls Tryd.prog 7 #[.agg #[.int .i64 k, .slice A n c], .string s] w fun e w' => e = .returned (.bool true) ∧ Below w.heap.size w w' := by
  have HL := Lib.hid (fun (w' : World) (hb : Below w.heap.size w w') => h.keep hb (Nat.le_refl _))
  have HI := Lib.hid (fun (w' : World) (hb : Below w.heap.size w w') => hI.keep hb)
  unfold maxLen at hss
  clear h hI
  by_cases hbig : 1048576 < s.size
  · go_enter Tryd.func7, Tryd.ntmps7
    go_wp2_with fail
    go_ret
    exact ⟨rfl, bel1 _ _⟩
  have hs : s.size ≤ 1048576 := by omega
  go_enter Tryd.func7, Tryd.ntmps7
  go_wp2_with fail
  refine (szSystem_any k A n c xs 1048576 _ (HI.out _ (bel1 _ _)) (Nat.le_refl _)).mono ?_
  rintro e w1 ⟨q, rfl, hq, hb1⟩
  have b1 := (bel1 w _).trans (hb1.mono (by simp))
  have B1 := Lib.hid ((Blk.new1 w _ _).below hb1 (by simp))
  obtain ⟨q0, q1, -, -, ql⟩ := B1.out.two
  clear hb1
  by_cases hq0 : q < 0
  · go_wp2_with fail
    go_ret
    exact ⟨rfl, b1⟩
  have Hsz : Hid (n + rulesSz xs ≤ 1048576) := by rcases hq with h | h <;> (show _ ≤ _; omega)
  have Hn : Hid (n ≤ 1048576) := by have := Hsz.out; show _ ≤ _; omega
  have Hsm : Hid (smallR xs) := small_of xs (by have := Hsz.out; omega)
  clear hq
  go_wp2_with fail
  refine (toSystem_any k A n c xs _ (HI.out _ b1) Hn.out).mono ?_
  rintro e w2 ⟨v2, rfl, o2, hb2⟩
  have b2 := b1.trans (hb2.mono b1.size)
  have B2 := Lib.hid (B1.out.below hb2 B1.out.lt)
  obtain ⟨A2, c2, rfl⟩ := o2.form
  clear hb2 q0 q1 ql B1
  obtain ⟨q0, q1, -, -, ql⟩ := B2.out.two
  go_wp2_with fail
  refine (specLastStep k A2 n c2 _ xs s _ o2 Hsm.out hs).mono ?_
  rintro e w3 ⟨rfl, hb3⟩
  have b3 := b2.trans (hb3.mono b2.size)
  have B3 := Lib.hid (B2.out.below hb3 B2.out.lt)
  clear hb3 o2 q0 q1 ql B2
  obtain ⟨rr, hrr⟩ : ∃ rr, sideStep k xs s 1 = rr := ⟨_, rfl⟩
  have Hrr := Lib.hid hrr
  rw [hrr]
  clear hrr
  obtain ⟨⟨x, y⟩, ok⟩ := rr
  obtain ⟨q0, q1, -, -, ql⟩ := B3.out.two
  go_wp2_with fail
  have b4 := b3.alloc b3.size (.cells #[.int .i64 x, .int .i64 y] 37)
  have B4 := Lib.hid (B3.out.alloc (.cells #[.int .i64 x, .int .i64 y] 37))
  have E4 := Lib.hid (Blk.new1 w3 #[.int .i64 x, .int .i64 y] 37)
  clear b3 B3 q0 q1 ql
  generalize w3.alloc (.cells #[.int .i64 x, .int .i64 y] 37) = w4 at *
  obtain ⟨q0, q1, -, -, ql⟩ := B4.out.two
  refine (toSystem_any k A n c xs _ (HI.out _ b4) Hn.out).mono ?_
  rintro e w5 ⟨v5, rfl, o5, hb5⟩
  have b5 := b4.trans (hb5.mono b4.size)
  have B5 := Lib.hid (B4.out.below hb5 B4.out.lt)
  have E5 := Lib.hid (E4.out.below hb5 E4.out.lt)
  clear E4
  obtain ⟨A5, c5, rfl⟩ := o5.form
  have O5 := Lib.hid o5
  clear hb5 o5 q0 q1 ql B4
  go_wp2_with fail
  have b6 := b5.alloc b5.size (.cells #[.int .i64 k, .slice A5 n c5] 25)
  have B6 := Lib.hid (B5.out.alloc (.cells #[.int .i64 k, .slice A5 n c5] 25))
  have E6 := Lib.hid (E5.out.alloc (.cells #[.int .i64 k, .slice A5 n c5] 25))
  clear E5
  have X6 := Lib.hid (Blk.new1 w5 #[.int .i64 k, .slice A5 n c5] 25)
  have O6 := Lib.hid (O5.out.below (bel1 w5 (.cells #[.int .i64 k, .slice A5 n c5] 25)))
  clear b5 B5 O5
  generalize w5.alloc (.cells #[.int .i64 k, .slice A5 n c5] 25) = w6 at *
  refine (implLastStep k A5 n c5 _ xs s _ O6.out Hsm.out hs (HL.out _ b6)).mono ?_
  rw [Hrr.out]
  rintro e w7 ⟨rfl, hb7⟩
  have b7 := b6.trans (hb7.mono b6.size)
  have B7 := Lib.hid (B6.out.below hb7 B6.out.lt)
  have X7 := Lib.hid (X6.out.below hb7 X6.out.lt)
  have O7 := Lib.hid (O6.out.below hb7)
  have E7 := Lib.hid (E6.out.below hb7 E6.out.lt)
  clear E6
  clear hb7 B6 X6 O6
  have bx := bel1 w7 (.cells #[.int .i64 x, .int .i64 y] 37)
  have b7a := b7.trans (bx.mono b7.size)
  have B7a := Lib.hid (B7.out.below bx B7.out.lt)
  have X7a := Lib.hid (X7.out.below bx X7.out.lt)
  have O7a := Lib.hid (O7.out.below bx)
  have E7a := Lib.hid (E7.out.below bx E7.out.lt)
  have G7a := Lib.hid (Blk.new1 w7 #[.int .i64 x, .int .i64 y] 37)
  obtain ⟨e0, e1, -, -, el⟩ := E7a.out.two
  obtain ⟨g0, g1, -, -, gl⟩ := G7a.out.two
  clear b7 B7 X7 O7 E7 bx
  go_wp2_with fail
  generalize w7.alloc (.cells #[.int .i64 x, .int .i64 y] 37) = w7a at *
  refine (eqStep_yes x y _).mono ?_
  rintro e w8 ⟨rfl, hb8⟩
  have b8 := b7a.trans (hb8.mono b7a.size)
  have B8 := Lib.hid (B7a.out.below hb8 B7a.out.lt)
  have X8 := Lib.hid (X7a.out.below hb8 X7a.out.lt)
  have O8 := Lib.hid (O7a.out.below hb8)
  clear hb8 B7a X7a O7a E7a G7a e0 e1 el g0 g1 gl b7a
  have O8d : Hid (Own w4.heap.size w8.drew (.slice A5 n c5) 2 n (rulesC xs)) := O8
  obtain ⟨q0, q1, -, -, ql⟩ := B8.out.two
  obtain ⟨x0, x1, -, -, xl⟩ := X8.out.two
  go_wp2_with fail
  go_region_held3 (fun w' => w'.cell? ⟨w5.heap.size, 0, none⟩ = some (.int .i64 k) ∧ w'.cell? ⟨w5.heap.size, 1, none⟩ = some (.slice A5 n c5) ∧ w'.cell? ⟨w.heap.size, 0, none⟩ = some (.int .i64 k) ∧ w'.cell? ⟨w.heap.size, 1, none⟩ = some (.slice A n c) ∧ Below w8.heap.size w8 w')
    (first | exact ⟨x0, x1, q0, q1, (Below.refl _ w8).drew⟩ | exact held4_keep (by assumption) hb9 (Nat.le_refl _) xl ql | exact held4_keep (by assumption) hb10 (Nat.le_refl _) xl ql)
    ((first | (go_at_call 28; refine (toSystem_any k A n c xs _ (HI.out _ b8.drew) Hn.out).mono ?_; rintro e w9 ⟨v9, rfl, o9, hb9⟩; obtain ⟨A9, c9, rfl⟩ := o9.form) | (go_at_call 30; refine (eqSystem_yes k A5 _ n c5 _ _ _ xs _ (O8d.out.below hb9) o9).mono ?_; rintro e w10 ⟨rfl, hb10⟩)))
  have hS := (‹_ ∧ _ ∧ _ ∧ _ ∧ Below w8.heap.size w8 w10›).2.2.2.2
  go_wp2_with fail
  go_ret
  exact ⟨rfl, b8.trans (hS.mono b8.size)⟩
set_option maxRecDepth 100000 in
theorem contract (H : Type) (enc : TypeId × Value → H) (W : World) (base : Nat) (args : Array Value) (ds gs : List (DataW H)) (before : List MemPlace)
    (hval : ∀ (j : Nat) t v, Tryd.f7.params[j]? = some t → args[j]? = some v → Value.okWide Tryd.prog W .any base t v)
    (hW : DataW.Whole enc Tryd.prog Tryd.f7.params.toList Rows.fnExactLastStepSpec.vars false W args.toList ds gs before) (hL : laidMetH Tryd.prog Rows.fnExactLastStepRow.laid W) :
    Calls Tryd.prog 7 args W fun e W' => ∃ v, e = .returned v ∧ Rows.fnExactLastStepSpec.post enc Tryd.prog Tryd.f7 false true false false W args v W' := by
  have hW' := hW
  have hL' : laidMet Tryd.prog [("loop.example/g03201/impl.letters", Rows.laid_loop_example_g03201_impl_letters)] W := hL
  obtain ⟨p, q, hA0, hV, rfl, hfz, hnd⟩ := hW
  obtain ⟨g0, rfl⟩ := vars_len1 (trodVars_len hV)
  have hA : DataW.TrodAll enc Tryd.prog W 0 (fun _ => true) true Tryd.f7.params.toList args.toList ds p := hA0
  rw [Tryd.params7] at hA hval
  obtain ⟨v0, vs0, d0, ds0, p0, q0, hargs, rfl, rfl, h0, r0⟩ := trodAll_cons hA
  obtain ⟨v1, vs1, d1, ds1, p1, q1, rfl, rfl, rfl, h1, r1⟩ := trodAll_cons r0
  obtain ⟨rfl, rfl, rfl⟩ := trodAll_nil r1
  obtain rfl : args = #[v0, v1] := by first | exact Array.toList_inj.1 hargs | exact Array.toList_inj.1 hargs.symm | (cases args; simp_all)
  obtain ⟨k0, A0, n0, c0, xs0, rfl, wk0, I0⟩ := open_system Tryd.underlying45 (by kernel_rfl) (by kernel_rfl) Tryd.underlying3 Tryd.underlying43 Tryd.underlying110 (by kernel_rfl) (by kernel_rfl) Tryd.underlying9 Tryd.underlying9 (hval 0 45 v0 rfl rfl) h0
  obtain ⟨a1, rfl, rfl, rfl, b1⟩ := open_string Tryd.underlying9 (hval 1 9 v1 rfl rfl) h1
  refine (walk k0 wk0 A0 n0 c0 xs0 a1 b1 W I0 (let_of hL')).mono fun e W' ⟨he, hb⟩ => ?_
  subst he
  exact ⟨_, rfl, law_postV hW' rfl rfl Tryd.underlying4 laidOut (by kernel_rfl) (by kernel_rfl) hb⟩

theorem laid_met (os : Os) : laidMet Tryd.prog Rows.fnExactLastStepRow.laid ((laidWorld os).forCall (fun _ _ => 0) ⟨#[], #[.agg #[.int .i64 0, .slice none 0 0], .string .empty], []⟩).memory :=
  laidMet_of_run' 8 (by kernel_rfl) (by kernel_rfl)
theorem reads (os : Os) {H : Type} (enc : TypeId × Value → H) : ∃ places, DataW.whole enc Tryd.prog ((laidWorld os).forCall (fun _ _ => 0) ⟨#[], #[.agg #[.int .i64 0, .slice none 0 0], .string .empty], []⟩).memory Tryd.f7.params.toList Rows.fnExactLastStepSpec.vars false (#[.agg #[.int .i64 0, .slice none 0 0], .string .empty] : Array Value).toList 8 = some ([.agg [.lit (.int .i64 0), .nil], .lit (.string [])], [Rows.laid_loop_example_g03201_impl_letters], places) :=
  ⟨MemPlace.row ⟨0, 0, none⟩ 4, by kernel_rfl⟩
set_option maxRecDepth 100000 in
theorem lifted (os : Os) (started : os.Started) (H : Type) (enc : TypeId × Value → H) (F : Stop.Interp) :
    ReturnsInHanded {} Tryd.checked os 7 .any ((OpenSpec.ofChange Rows.fnExactLastStepSpec).preRow enc Tryd.prog Tryd.f7 Rows.fnExactLastStepRow.domain false Rows.fnExactLastStepRow.laid) (((OpenSpec.ofChange Rows.fnExactLastStepSpec).at F).post enc Tryd.prog Tryd.f7 false true false false) := by
  obtain ⟨places, hx⟩ := reads os enc
  refine returnsInHanded_of_row (C := Tryd.checked) (s := OpenSpec.ofChange Rows.fnExactLastStepSpec) own started (by kernel_rfl) Tryd.func7
    (witness_row_at (enc := enc) (C := Tryd.checked) false (laidWorld os) #[.agg #[.int .i64 0, .slice none 0 0], .string .empty] rfl (by kernel_rfl) (by kernel_rfl) (by kernel_rfl)
      (OpenSpec.preRow_of_cond 8 hx (by kernel_rfl) (fun k hk => by cases hk) (by kernel_rfl) (laid_met os))) ?_
  intro W base args ds gs before hval hW _ _ _ hL _ _
  exact contract H enc W base args ds gs before hval hW hL
theorem said : Rows.FnExactLastStepSaid :=
  OpenClaim.holds_of_cond 7 Tryd.f7 rfl rfl rfl rfl rfl rfl rfl ⟨rfl, rfl, rfl, rfl, rfl⟩ rfl rfl rfl rfl rfl (by kernel_rfl) Tryd.func7 (by kernel_rfl)
    (of_decide_eq_true (by kernel_rfl)) (by unfold Func.isWrapper; first | (rw [if_pos (by decide +kernel)]; kernel_rfl) | (rw [if_neg (by decide +kernel)]; exact ⟨rfl, rfl⟩))
    (fun os started H enc _ F => by rw [OpenClaim.pre_eq_preRow]; exact lifted os started H enc F)
theorem plain (f : FuncId) (fn : Func) (hf : Tryd.pinned.checked.prog.funcNamed Rows.fnExactLastStepRow.func = some f) (hfn : Tryd.pinned.checked.prog.funcs[f]? = some fn) :
    false = Tryd.pinned.checked.prog.looks [] ∧ ∀ (j : Nat) t, fn.params[j]? = some t → Tryd.pinned.checked.prog.wantsStandIn t = false := by
  obtain rfl : f = 7 := Option.some.inj ((show Tryd.prog.funcNamed Rows.fnExactLastStepRow.func = some 7 by kernel_rfl).symm.trans hf) |>.symm
  obtain rfl : fn = Tryd.f7 := (Option.some.inj (Tryd.func7.symm.trans hfn)).symm
  refine ⟨by kernel_rfl, fun j t ht => ?_⟩
  rw [Tryd.params7] at ht
  match j, ht with
  | 0, ht => (simp at ht; subst ht; exact (show Tryd.prog.wantsStandIn 45 = false by kernel_rfl))
  | 1, ht => (simp at ht; subst ht; exact (show Tryd.prog.wantsStandIn 9 = false by kernel_rfl))
  | n + 2, ht => simp at ht
theorem proved : Rows.FnExactLastStepCardSaid :=
  Claim7.holds_tied_plain_at .later [] _ _ _ _ said (fun _ h => by cases h) (by kernel_rfl) (fun _ h => by cases h) fnExactLastStep_row_tie rfl ⟨rfl, rfl⟩ (by kernel_rfl) rfl plain (by kernel_rfl)
end Go.Proofs.YtjndopogjiacpaaDoor.fnExactLastStep
