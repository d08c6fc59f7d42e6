/- For every system, impl.CountAll answers as its model: FnExactCountAll returns true. The table of letters is tied to the program's text. -/
import Derived.Test.YthfchalhobmleaaDoorSpecAll
import Derived.Test.YthfchalhobmleaaDoorImplAll
import Derived.Test.YthfchalhobmleaaDoorArgs
import Derived.Test.YthfchalhobmleaaDoorWorld
import Derived.Deep.RegionHeld3
namespace Go.Proofs.YthfchalhobmleaaDoor.fnExactCountAll
open Go.ChangeShapes Go.WideShapes Go.ChangeAt Go.RowKit
open Go.ChangeMaps (open_string)
set_option maxRecDepth 100000 in
set_option maxHeartbeats 1600000 in
theorem walk (k : Int) (_wk : (Lit.int .i64 k).wf = true) (A : Option Addr) (n c : Nat) (xs : List R) (w : World) (hI : InR w A n c xs) (h : Let w) :
    Calls Tryd.prog 9 #[.agg #[.int .i64 k, .slice A n c]] w fun e w' => e = .returned (.bool true) ∧ Below w.heap.size w w' := by
  have HL := Lib.hid (fun (w' : World) (hb : Below w.heap.size w w') => h.keep hb (Nat.le_refl _))
  have HI := Lib.hid (fun (w' : World) (hb : Below w.heap.size w w') => hI.keep hb)
  clear h hI
  go_enter Tryd.func9, Tryd.ntmps9
  go_wp2_with fail
  refine (szSystem_any k A n c xs 1048576 _ (HI.out _ (bel1 _ _)) (Nat.le_refl _)).mono ?_
  rintro e w1 ⟨q, rfl, hq, hb1⟩
  have b1 := (bel1 w _).trans (hb1.mono (by simp))
  have B1 := Lib.hid ((Blk.new1 w _ _).below hb1 (by simp))
  obtain ⟨q0, q1, -, -, ql⟩ := B1.out.two
  clear hb1
  by_cases hq0 : q < 0
  · go_wp2_with fail
    go_ret
    exact ⟨rfl, b1⟩
  have Hsz : Hid (n + rulesSz xs ≤ 1048576) := by rcases hq with h | h <;> (show _ ≤ _; omega)
  have Hn : Hid (n ≤ 1048576) := by have := Hsz.out; show _ ≤ _; omega
  have Hsm : Hid (smallR xs) := small_of xs (by have := Hsz.out; omega)
  clear hq
  go_wp2_with fail
  refine (toSystem_any k A n c xs _ (HI.out _ b1) Hn.out).mono ?_
  rintro e w2 ⟨v2, rfl, o2, hb2⟩
  have b2 := b1.trans (hb2.mono b1.size)
  have B2 := Lib.hid (B1.out.below hb2 B1.out.lt)
  obtain ⟨A2, c2, rfl⟩ := o2.form
  clear hb2 q0 q1 ql B1
  obtain ⟨q0, q1, -, -, ql⟩ := B2.out.two
  go_wp2_with fail
  refine (specCountAll k A2 n c2 _ xs _ o2 Hsm.out).mono ?_
  rintro e w3 ⟨rr, rfl, Hrr, hb3⟩
  have b3 := b2.trans (hb3.mono b2.size)
  have B3 := Lib.hid (B2.out.below hb3 B2.out.lt)
  clear hb3 o2 q0 q1 ql B2
  obtain ⟨q0, q1, -, -, ql⟩ := B3.out.two
  have b4 := b3
  have B4 := B3
  obtain ⟨w4, rfl⟩ : ∃ x : World, x = w3 := ⟨_, rfl⟩
  clear b3 B3
  go_wp2_with fail
  refine (toSystem_any k A n c xs _ (HI.out _ b4) Hn.out).mono ?_
  rintro e w5 ⟨v5, rfl, o5, hb5⟩
  have b5 := b4.trans (hb5.mono b4.size)
  have B5 := Lib.hid (B4.out.below hb5 B4.out.lt)
  obtain ⟨A5, c5, rfl⟩ := o5.form
  have O5 := Lib.hid o5
  clear hb5 o5 q0 q1 ql B4
  go_wp2_with fail
  have b6 := b5.alloc b5.size (.cells #[.int .i64 k, .slice A5 n c5] 25)
  have B6 := Lib.hid (B5.out.alloc (.cells #[.int .i64 k, .slice A5 n c5] 25))
  have X6 := Lib.hid (Blk.new1 w5 #[.int .i64 k, .slice A5 n c5] 25)
  have O6 := Lib.hid (O5.out.below (bel1 w5 (.cells #[.int .i64 k, .slice A5 n c5] 25)))
  clear b5 B5 O5
  generalize w5.alloc (.cells #[.int .i64 k, .slice A5 n c5] 25) = w6 at *
  refine (implCountAll k A5 n c5 _ xs _ O6.out Hsm.out (HL.out _ b6)).mono ?_
  rintro e w7 ⟨r2, rfl, Hr2, hb7⟩
  obtain rfl : r2 = rr := Hr2.out.one Hrr.out
  clear Hr2 Hrr
  have b7 := b6.trans (hb7.mono b6.size)
  have B7 := Lib.hid (B6.out.below hb7 B6.out.lt)
  have X7 := Lib.hid (X6.out.below hb7 X6.out.lt)
  have O7 := Lib.hid (O6.out.below hb7)
  clear hb7 B6 X6 O6
  have b8 := b7
  have B8 := B7
  have X8 := X7
  have O8 := O7
  obtain ⟨w8, rfl⟩ : ∃ x : World, x = w7 := ⟨_, rfl⟩
  clear b7 B7 X7 O7
  have O8d : Hid (Own w4.heap.size w8.drew (.slice A5 n c5) 2 n (rulesC xs)) := O8
  obtain ⟨q0, q1, -, -, ql⟩ := B8.out.two
  obtain ⟨x0, x1, -, -, xl⟩ := X8.out.two
  go_wp2_with fail
  go_region_held3 (fun w' => w'.cell? ⟨w5.heap.size, 0, none⟩ = some (.int .i64 k) ∧ w'.cell? ⟨w5.heap.size, 1, none⟩ = some (.slice A5 n c5) ∧ w'.cell? ⟨w.heap.size, 0, none⟩ = some (.int .i64 k) ∧ w'.cell? ⟨w.heap.size, 1, none⟩ = some (.slice A n c) ∧ Below w8.heap.size w8 w')
    (first | exact ⟨x0, x1, q0, q1, (Below.refl _ w8).drew⟩ | exact held4_keep (by assumption) hb9 (Nat.le_refl _) xl ql | exact held4_keep (by assumption) hb10 (Nat.le_refl _) xl ql)
    ((first | (go_at_call 26; refine (toSystem_any k A n c xs _ (HI.out _ b8.drew) Hn.out).mono ?_; rintro e w9 ⟨v9, rfl, o9, hb9⟩; obtain ⟨A9, c9, rfl⟩ := o9.form) | (go_at_call 28; refine (eqSystem_yes k A5 _ n c5 _ _ _ xs _ (O8d.out.below hb9) o9).mono ?_; rintro e w10 ⟨rfl, hb10⟩)))
  have hS := (‹_ ∧ _ ∧ _ ∧ _ ∧ Below w8.heap.size w8 w10›).2.2.2.2
  go_wp2_with fail
  go_ret
  exact ⟨rfl, b8.trans (hS.mono b8.size)⟩
set_option maxRecDepth 100000 in
theorem contract (H : Type) (enc : TypeId × Value → H) (W : World) (base : Nat) (args : Array Value) (ds gs : List (DataW H)) (before : List MemPlace)
    (hval : ∀ (j : Nat) t v, Tryd.f9.params[j]? = some t → args[j]? = some v → Value.okWide Tryd.prog W .any base t v)
    (hW : DataW.Whole enc Tryd.prog Tryd.f9.params.toList Rows.fnExactCountAllSpec.vars false W args.toList ds gs before) (hL : laidMetH Tryd.prog Rows.fnExactCountAllRow.laid W) :
    Calls Tryd.prog 9 args W fun e W' => ∃ v, e = .returned v ∧ Rows.fnExactCountAllSpec.post enc Tryd.prog Tryd.f9 false true false false W args v W' := by
  have hW' := hW
  have hL' : laidMet Tryd.prog [("loop.example/g03201/impl.letters", Rows.laid_loop_example_g03201_impl_letters)] W := hL
  obtain ⟨p, q, hA0, hV, rfl, hfz, hnd⟩ := hW
  obtain ⟨g0, rfl⟩ := vars_len1 (trodVars_len hV)
  have hA : DataW.TrodAll enc Tryd.prog W 0 (fun _ => true) true Tryd.f9.params.toList args.toList ds p := hA0
  rw [Tryd.params9] at hA hval
  obtain ⟨v0, vs0, d0, ds0, p0, q0, hargs, rfl, rfl, h0, r0⟩ := trodAll_cons hA
  obtain ⟨rfl, rfl, rfl⟩ := trodAll_nil r0
  obtain rfl : args = #[v0] := by first | exact Array.toList_inj.1 hargs | exact Array.toList_inj.1 hargs.symm | (cases args; simp_all)
  obtain ⟨k0, A0, n0, c0, xs0, rfl, wk0, I0⟩ := open_system Tryd.underlying44 (by kernel_rfl) (by kernel_rfl) Tryd.underlying3 Tryd.underlying42 Tryd.underlying127 (by kernel_rfl) (by kernel_rfl) Tryd.underlying9 Tryd.underlying9 (hval 0 44 v0 rfl rfl) h0
  refine (walk k0 wk0 A0 n0 c0 xs0 W I0 (let_of hL')).mono fun e W' ⟨he, hb⟩ => ?_
  subst he
  exact ⟨_, rfl, law_postV hW' rfl rfl Tryd.underlying4 laidOut (by kernel_rfl) (by kernel_rfl) hb⟩

theorem laid_met (os : Os) : laidMet Tryd.prog Rows.fnExactCountAllRow.laid ((laidWorld os).forCall (fun _ _ => 0) ⟨#[], #[.agg #[.int .i64 0, .slice none 0 0]], []⟩).memory :=
  laidMet_of_run' 8 (by kernel_rfl) (by kernel_rfl)
theorem reads (os : Os) {H : Type} (enc : TypeId × Value → H) : ∃ places, DataW.whole enc Tryd.prog ((laidWorld os).forCall (fun _ _ => 0) ⟨#[], #[.agg #[.int .i64 0, .slice none 0 0]], []⟩).memory Tryd.f9.params.toList Rows.fnExactCountAllSpec.vars false (#[.agg #[.int .i64 0, .slice none 0 0]] : Array Value).toList 8 = some ([.agg [.lit (.int .i64 0), .nil]], [Rows.laid_loop_example_g03201_impl_letters], places) :=
  ⟨MemPlace.row ⟨0, 0, none⟩ 4, by kernel_rfl⟩
set_option maxRecDepth 100000 in
theorem lifted (os : Os) (started : os.Started) (H : Type) (enc : TypeId × Value → H) (F : Stop.Interp) :
    ReturnsInHanded {} Tryd.checked os 9 .any ((OpenSpec.ofChange Rows.fnExactCountAllSpec).preRow enc Tryd.prog Tryd.f9 Rows.fnExactCountAllRow.domain false Rows.fnExactCountAllRow.laid) (((OpenSpec.ofChange Rows.fnExactCountAllSpec).at F).post enc Tryd.prog Tryd.f9 false true false false) := by
  obtain ⟨places, hx⟩ := reads os enc
  refine returnsInHanded_of_row (C := Tryd.checked) (s := OpenSpec.ofChange Rows.fnExactCountAllSpec) own started (by kernel_rfl) Tryd.func9
    (witness_row_at (enc := enc) (C := Tryd.checked) false (laidWorld os) #[.agg #[.int .i64 0, .slice none 0 0]] rfl (by kernel_rfl) (by kernel_rfl) (by kernel_rfl)
      (OpenSpec.preRow_of_cond 8 hx (by kernel_rfl) (fun k hk => by cases hk) (by kernel_rfl) (laid_met os))) ?_
  intro W base args ds gs before hval hW _ _ _ hL _ _
  exact contract H enc W base args ds gs before hval hW hL
theorem said : Rows.FnExactCountAllSaid :=
  OpenClaim.holds_of_cond 9 Tryd.f9 rfl rfl rfl rfl rfl rfl rfl ⟨rfl, rfl, rfl, rfl, rfl⟩ rfl rfl rfl rfl rfl (by kernel_rfl) Tryd.func9 (by kernel_rfl)
    (of_decide_eq_true (by kernel_rfl)) (by unfold Func.isWrapper; first | (rw [if_pos (by decide +kernel)]; kernel_rfl) | (rw [if_neg (by decide +kernel)]; exact ⟨rfl, rfl⟩))
    (fun os started H enc _ F => by rw [OpenClaim.pre_eq_preRow]; exact lifted os started H enc F)
theorem plain (f : FuncId) (fn : Func) (hf : Tryd.pinned.checked.prog.funcNamed Rows.fnExactCountAllRow.func = some f) (hfn : Tryd.pinned.checked.prog.funcs[f]? = some fn) :
    false = Tryd.pinned.checked.prog.looks [] ∧ ∀ (j : Nat) t, fn.params[j]? = some t → Tryd.pinned.checked.prog.wantsStandIn t = false := by
  obtain rfl : f = 9 := Option.some.inj ((show Tryd.prog.funcNamed Rows.fnExactCountAllRow.func = some 9 by kernel_rfl).symm.trans hf) |>.symm
  obtain rfl : fn = Tryd.f9 := (Option.some.inj (Tryd.func9.symm.trans hfn)).symm
  refine ⟨by kernel_rfl, fun j t ht => ?_⟩
  rw [Tryd.params9] at ht
  match j, ht with
  | 0, ht => (simp at ht; subst ht; exact (show Tryd.prog.wantsStandIn 44 = false by kernel_rfl))
  | n + 1, ht => simp at ht
theorem proved : Rows.FnExactCountAllCardSaid :=
  Claim7.holds_tied_plain_at .later [] _ _ _ _ said (fun _ h => by cases h) (by kernel_rfl) (fun _ h => by cases h) fnExactCountAll_row_tie rfl ⟨rfl, rfl⟩ (by kernel_rfl) rfl plain (by kernel_rfl)
end Go.Proofs.YthfchalhobmleaaDoor.fnExactCountAll
