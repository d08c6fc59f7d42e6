/- For every system and table, impl.CountMaps answers as its model: FnExactCountMaps returns true. The table of letters is tied to the program's text. -/
import Derived.Test.YtlgaihofaiigcaaDoorImplCount
import Derived.Test.YtlgaihofaiigcaaDoorSpecMaps
import Derived.Test.YtlgaihofaiigcaaDoorArgs
import Derived.Test.YtlgaihofaiigcaaDoorWorld
import Derived.Deep.RegionHeld3
namespace Go.Proofs.YtlgaihofaiigcaaDoor.fnExactCountMaps
open Go.ChangeShapes Go.WideShapes Go.ChangeAt Go.RowKit
open Go.ChangeMaps (open_string)
set_option maxRecDepth 100000 in
set_option maxHeartbeats 3200000 in
theorem walk (k : Int) (_wk : (Lit.int .i64 k).wf = true) (Z : Option Addr) (nz cz : Nat) (l : List R) (t : Int) (_wt : (Lit.int .i64 t).wf = true) (A : Option Addr) (n c : Nat) (xs : List Int) (w : World) (hR : InR w Z nz cz l) (hI : InI w A n c xs) (hlet : Let w) :
    Calls Tryd.prog 5 #[.agg #[.int .i64 k, .slice Z nz cz], tabV t A n c] w fun e w' => e = .returned (.bool true) ∧ Below w.heap.size w w' := by
  have HL := Lib.hid (fun (w' : World) (hb : Below w.heap.size w w') => hlet.keep hb (Nat.le_refl _))
  have HR := Lib.hid (fun (w' : World) (hb : Below w.heap.size w w') => hR.keep hb)
  have HI := Lib.hid (fun (w' : World) (hb : Below w.heap.size w w') => hI.keep hb)
  have hmx := Nat.le_trans hI.2.1 hI.2.2.1
  clear hI hR hlet
  have b0 := bel2 w (.cells #[.int .i64 k, .slice Z nz cz] 36) (.cells #[.int .i64 t, .slice A n c] 24)
  have X0 := Lib.hid ((Blk.new1 w #[.int .i64 k, .slice Z nz cz] 36).alloc (.cells #[.int .i64 t, .slice A n c] 24))
  have Y0 := Lib.hid (Blk.new2 w (.cells #[.int .i64 k, .slice Z nz cz] 36) #[.int .i64 t, .slice A n c] 24)
  go_enter Tryd.func5, Tryd.ntmps5
  go_wp2_with fail
  generalize (w.alloc (.cells #[.int .i64 k, .slice Z nz cz] 36)).alloc (.cells #[.int .i64 t, .slice A n c] 24) = w0 at *
  refine (szSystem_any k Z nz cz l 1048576 _ (HR.out _ b0) (Nat.le_refl _)).mono ?_
  rintro e w1 ⟨q, rfl, hq, hb1⟩
  have b1 := b0.trans (hb1.mono b0.size)
  have X1 := Lib.hid (X0.out.below hb1 X0.out.lt)
  have Y1 := Lib.hid (Y0.out.below hb1 Y0.out.lt)
  clear hb1 X0 Y0
  by_cases hq0 : q < 0
  · go_wp2_with fail
    go_ret
    exact ⟨rfl, b1⟩
  have hq2 : q + (nz + rulesSz l : Nat) = (1048576 : Nat) := by rcases hq with h | h <;> omega
  have Hsz : Hid (nz + rulesSz l ≤ 1048576) := by show _ ≤ _; omega
  have Hnz : Hid (nz ≤ 1048576) := by have := Hsz.out; show _ ≤ _; omega
  have Hsm : Hid (smallR l) := small_of l (by have := Hsz.out; omega)
  obtain ⟨q', rfl⟩ : ∃ q' : Nat, q = q' := ⟨q.toNat, by omega⟩
  have hq' : q' ≤ 1048576 := by omega
  clear hq hq2
  obtain ⟨y0, y1, -, -, yl⟩ := Y1.out.two
  go_wp2_with fail
  clear y0 y1 yl
  refine (szTable_any t A n c q' _ hmx hq').mono ?_
  rintro e w2 ⟨p, rfl, hp, hb2⟩
  have b2 := b1.trans (hb2.mono b1.size)
  have X2 := Lib.hid (X1.out.below hb2 X1.out.lt)
  have Y2 := Lib.hid (Y1.out.below hb2 Y1.out.lt)
  clear hb2 X1 Y1
  by_cases hp0 : p < 0
  · go_wp2_with fail
    go_ret
    exact ⟨rfl, b2⟩
  have Hn : Hid (n ≤ 1048576) := by rcases hp with h | h <;> (show _ ≤ _; omega)
  clear hp
  obtain ⟨x0, x1, -, -, xl⟩ := X2.out.two
  obtain ⟨y0, y1, -, -, yl⟩ := Y2.out.two
  go_wp2_with fail
  go_region_held3 (fun w' => w'.cell? ⟨w.heap.size, 0, none⟩ = some (.int .i64 k) ∧ w'.cell? ⟨w.heap.size, 1, none⟩ = some (.slice Z nz cz) ∧ w'.cell? ⟨w.heap.size + 1, 0, none⟩ = some (.int .i64 t) ∧ w'.cell? ⟨w.heap.size + 1, 1, none⟩ = some (.slice A n c) ∧ Below w2.heap.size w2 w')
    (first | exact ⟨x0, x1, y0, y1, (Below.refl _ w2).drew⟩ | exact held4_keep (by assumption) hb3 (Nat.le_refl _) xl yl | exact held4_keep (by assumption) hb4 (Nat.le_refl _) xl yl | exact held4_keep (by assumption) hb6 (Nat.le_refl _) xl yl)
    ((first
      | (go_at_call 18; refine (toSystem_any k Z nz cz l _ (HR.out _ ?_) Hnz.out).mono ?_; (first | exact b2.drew | exact b2.trans ((by assumption : _ ∧ _ ∧ _ ∧ _ ∧ Below w2.heap.size w2 _).2.2.2.2.mono b2.size)); rintro e w3 ⟨v3, rfl, o3, hb3⟩; obtain ⟨A3, c3, rfl⟩ := o3.form)
      | (go_at_call 11; refine (toTable_any t A n c xs _ (HI.out _ ?_) Hn.out).mono ?_; (first | exact b2.drew | exact b2.trans ((by assumption : _ ∧ _ ∧ _ ∧ _ ∧ Below w2.heap.size w2 _).2.2.2.2.mono b2.size)); rintro e w4 ⟨A4, c4, rfl, o4, hb4⟩)
      | (go_at_call 21; refine (specCountMaps k A3 nz c3 _ l t A4 n c4 _ xs _ (o3.below hb4) Hsm.out o4 Hn.out).mono ?_; rintro e w6 ⟨rfl, hb6⟩)))
  have hS := (‹_ ∧ _ ∧ _ ∧ _ ∧ Below w2.heap.size w2 w6›).2.2.2.2
  have b6 := b2.trans (hS.mono b2.size)
  have X6 := Lib.hid (X2.out.below hS X2.out.lt)
  have Y6 := Lib.hid (Y2.out.below hS Y2.out.lt)
  clear hS hb3 hb4 hb6 o3 o4 x0 x1 xl y0 y1 yl X2 Y2
  obtain ⟨rr, hrr⟩ : ∃ rr, countMaps k l t xs = rr := ⟨_, rfl⟩
  have Hrr := Lib.hid hrr
  rw [hrr]
  clear hrr
  obtain ⟨x0, x1, -, -, xl⟩ := X6.out.two
  obtain ⟨wb, rfl⟩ : ∃ x : World, x = w6 := ⟨_, rfl⟩
  go_wp2_with fail
  refine (toSystem_any k Z nz cz l _ (HR.out _ b6) Hnz.out).mono ?_
  rintro e w7 ⟨v7, rfl, o7, hb7⟩
  obtain ⟨A7, c7, rfl⟩ := o7.form
  have b8 := (b6.trans (hb7.mono b6.size)).alloc (by have := b6.size; have := hb7.size; omega) (.cells #[.int .i64 k, .slice A7 nz c7] 41)
  have X8 := Lib.hid ((X6.out.below hb7 xl).alloc (.cells #[.int .i64 k, .slice A7 nz c7] 41))
  have Y8 := Lib.hid ((Y6.out.below hb7 Y6.out.lt).alloc (.cells #[.int .i64 k, .slice A7 nz c7] 41))
  have S8 := Lib.hid (Blk.new1 w7 #[.int .i64 k, .slice A7 nz c7] 41)
  have O8 := Lib.hid (o7.below (bel1 w7 (.cells #[.int .i64 k, .slice A7 nz c7] 41)))
  clear hb7 o7 x0 x1 xl X6 Y6
  obtain ⟨y0, y1, -, -, yl⟩ := Y8.out.two
  go_wp2_with fail
  generalize w7.alloc (.cells #[.int .i64 k, .slice A7 nz c7] 41) = w8 at *
  refine (toTable_any t A n c xs _ (HI.out _ b8) Hn.out).mono ?_
  rintro e w9 ⟨A9, c9, rfl, o9, hb9⟩
  have b10 := (b8.trans (hb9.mono b8.size)).alloc (by have := b8.size; have := hb9.size; omega) (.cells #[.int .i64 t, .slice A9 n c9] 28)
  have X10 := Lib.hid ((X8.out.below hb9 X8.out.lt).alloc (.cells #[.int .i64 t, .slice A9 n c9] 28))
  have Y10 := Lib.hid ((Y8.out.below hb9 Y8.out.lt).alloc (.cells #[.int .i64 t, .slice A9 n c9] 28))
  have S10 := Lib.hid ((S8.out.below hb9 S8.out.lt).alloc (.cells #[.int .i64 t, .slice A9 n c9] 28))
  have T10 := Lib.hid (Blk.new1 w9 #[.int .i64 t, .slice A9 n c9] 28)
  have P10 := Lib.hid ((O8.out.below hb9).below (bel1 w9 (.cells #[.int .i64 t, .slice A9 n c9] 28)))
  have O10 := Lib.hid (o9.below (bel1 w9 (.cells #[.int .i64 t, .slice A9 n c9] 28)))
  clear hb9 o9 y0 y1 yl X8 Y8 S8 O8
  obtain ⟨s0, s1, -, -, sl⟩ := S10.out.two
  obtain ⟨t0, t1, -, -, tl⟩ := T10.out.two
  go_wp2_with fail
  generalize w9.alloc (.cells #[.int .i64 t, .slice A9 n c9] 28) = w10 at *
  refine (implCountMaps k A7 nz c7 _ l t A9 n c9 _ xs _ P10.out Hsm.out O10.out (HL.out _ b10)).mono ?_
  rw [Hrr.out]
  rintro e w12 ⟨rfl, hb12⟩
  have b12 := b10.trans (hb12.mono b10.size)
  have X12 := Lib.hid (X10.out.below hb12 X10.out.lt)
  have Y12 := Lib.hid (Y10.out.below hb12 Y10.out.lt)
  have S12 := Lib.hid (S10.out.below hb12 sl)
  have T12 := Lib.hid (T10.out.below hb12 tl)
  have P12 := Lib.hid (P10.out.below hb12)
  have O12 := Lib.hid (O10.out.below hb12)
  clear hb12 s0 s1 sl t0 t1 tl X10 Y10 S10 T10 P10 O10
  obtain ⟨x0, x1, -, -, xl⟩ := X12.out.two
  obtain ⟨s0, s1, -, -, sl⟩ := S12.out.two
  have P12d : Hid (Own wb.heap.size w12.drew (.slice A7 nz c7) 2 nz (rulesC l)) := P12
  go_wp2_with fail
  go_region_held3 (fun w' => w'.cell? ⟨w7.heap.size, 0, none⟩ = some (.int .i64 k) ∧ w'.cell? ⟨w7.heap.size, 1, none⟩ = some (.slice A7 nz c7) ∧ w'.cell? ⟨w.heap.size, 0, none⟩ = some (.int .i64 k) ∧ w'.cell? ⟨w.heap.size, 1, none⟩ = some (.slice Z nz cz) ∧ Below w12.heap.size w12 w')
    (first | exact ⟨s0, s1, x0, x1, (Below.refl _ w12).drew⟩ | exact held4_keep (by assumption) hb13 (Nat.le_refl _) sl xl | exact held4_keep (by assumption) hb14 (Nat.le_refl _) sl xl)
    ((first | (go_at_call 18; refine (toSystem_any k Z nz cz l _ (HR.out _ b12.drew) Hnz.out).mono ?_; rintro e w13 ⟨v13, rfl, o13, hb13⟩; obtain ⟨A13, c13, rfl⟩ := o13.form) | (go_at_call 20; refine (eqSystem_yes k A7 _ nz c7 _ _ _ l _ (P12d.out.below hb13) o13).mono ?_; rintro e w14 ⟨rfl, hb14⟩)))
  have hS := (‹_ ∧ _ ∧ _ ∧ _ ∧ Below w12.heap.size w12 w14›).2.2.2.2
  have b14 := b12.trans (hS.mono b12.size)
  have Y14 := Lib.hid (Y12.out.below hS Y12.out.lt)
  have T14 := Lib.hid (T12.out.below hS T12.out.lt)
  have O14 := Lib.hid (O12.out.below hS)
  clear hS hb13 hb14 o13 x0 x1 xl s0 s1 sl X12 Y12 S12 T12 P12 O12 P12d
  obtain ⟨y0, y1, -, -, yl⟩ := Y14.out.two
  obtain ⟨t0, t1, -, -, tl⟩ := T14.out.two
  have O14d : Hid (Own w8.heap.size w14.drew (.slice A9 n c9) 1 n (ints xs)) := O14
  go_wp2_with fail
  go_region_held3 (fun w' => w'.cell? ⟨w9.heap.size, 0, none⟩ = some (.int .i64 t) ∧ w'.cell? ⟨w9.heap.size, 1, none⟩ = some (.slice A9 n c9) ∧ w'.cell? ⟨w.heap.size + 1, 0, none⟩ = some (.int .i64 t) ∧ w'.cell? ⟨w.heap.size + 1, 1, none⟩ = some (.slice A n c) ∧ Below w14.heap.size w14 w')
    (first | exact ⟨t0, t1, y0, y1, (Below.refl _ w14).drew⟩ | exact held4_keep (by assumption) hb15 (Nat.le_refl _) tl yl | exact held4_keep (by assumption) hb16 (Nat.le_refl _) tl yl)
    ((first | (go_at_call 11; refine (toTable_any t A n c xs _ (HI.out _ b14.drew) Hn.out).mono ?_; rintro e w15 ⟨A15, c15, rfl, o15, hb15⟩) | (go_at_call 14; refine (eqTable_yes t A9 _ n c9 _ _ _ xs _ (O14d.out.below hb15) o15 Hn.out).mono ?_; rintro e w16 ⟨rfl, hb16⟩)))
  have hS := (‹_ ∧ _ ∧ _ ∧ _ ∧ Below w14.heap.size w14 w16›).2.2.2.2
  have b16 := b14.trans (hS.mono b14.size)
  clear hS hb15 hb16 o15 y0 y1 yl t0 t1 tl Y14 T14 O14 O14d
  go_wp2_with fail
  go_ret
  exact ⟨rfl, b16⟩
set_option maxRecDepth 100000 in
theorem contract (H : Type) (enc : TypeId × Value → H) (W : World) (base : Nat) (args : Array Value) (ds gs : List (DataW H)) (before : List MemPlace)
    (hval : ∀ (j : Nat) t v, Tryd.f5.params[j]? = some t → args[j]? = some v → Value.okWide Tryd.prog W .any base t v)
    (hW : DataW.Whole enc Tryd.prog Tryd.f5.params.toList Rows.fnExactCountMapsSpec.vars false W args.toList ds gs before) (hL : laidMetH Tryd.prog Rows.fnExactCountMapsRow.laid W) :
    Calls Tryd.prog 5 args W fun e W' => ∃ v, e = .returned v ∧ Rows.fnExactCountMapsSpec.post enc Tryd.prog Tryd.f5 false true false false W args v W' := by
  have hW' := hW
  have hL' : laidMet Tryd.prog [("loop.example/g03201/impl.letters", Rows.laid_loop_example_g03201_impl_letters)] W := hL
  obtain ⟨p, q, hA0, hV, rfl, hfz, hnd⟩ := hW
  obtain ⟨g0, rfl⟩ := vars_len1 (trodVars_len hV)
  have hA : DataW.TrodAll enc Tryd.prog W 0 (fun _ => true) true Tryd.f5.params.toList args.toList ds p := hA0
  rw [Tryd.params5] at hA hval
  obtain ⟨v0, vs0, d0, ds0, p0, q0, hargs, rfl, rfl, h0, r0⟩ := trodAll_cons hA
  obtain ⟨v1, vs1, d1, ds1, p1, q1, rfl, rfl, rfl, h1, r1⟩ := trodAll_cons r0
  obtain ⟨rfl, rfl, rfl⟩ := trodAll_nil r1
  obtain rfl : args = #[v0, v1] := by first | exact Array.toList_inj.1 hargs | exact Array.toList_inj.1 hargs.symm | (cases args; simp_all)
  obtain ⟨k0, A0, n0, c0, xs0, rfl, wk0, I0⟩ := open_system Tryd.underlying36 (by kernel_rfl) (by kernel_rfl) Tryd.underlying3 Tryd.underlying34 Tryd.underlying99 (by kernel_rfl) (by kernel_rfl) Tryd.underlying9 Tryd.underlying9 (hval 0 36 v0 rfl rfl) h0
  obtain ⟨k1, A1, n1, c1, xs1, rfl, wk1, I1⟩ := open_table Tryd.underlying24 (by kernel_rfl) (by kernel_rfl) Tryd.underlying3 Tryd.underlying22 Tryd.underlying3 (by kernel_rfl) (hval 1 24 v1 rfl rfl) h1
  refine (walk k0 wk0 A0 n0 c0 xs0 k1 wk1 A1 n1 c1 xs1 W I0 I1 (let_of hL')).mono fun e W' ⟨he, hb⟩ => ?_
  subst he
  exact ⟨_, rfl, law_postV hW' rfl rfl Tryd.underlying4 laidOut (by kernel_rfl) (by kernel_rfl) hb⟩

theorem laid_met (os : Os) : laidMet Tryd.prog Rows.fnExactCountMapsRow.laid ((laidWorld os).forCall (fun _ _ => 0) ⟨#[], #[.agg #[.int .i64 0, .slice none 0 0], .agg #[.int .i64 0, .slice none 0 0]], []⟩).memory :=
  laidMet_of_run' 8 (by kernel_rfl) (by kernel_rfl)
theorem reads (os : Os) {H : Type} (enc : TypeId × Value → H) : ∃ places, DataW.whole enc Tryd.prog ((laidWorld os).forCall (fun _ _ => 0) ⟨#[], #[.agg #[.int .i64 0, .slice none 0 0], .agg #[.int .i64 0, .slice none 0 0]], []⟩).memory Tryd.f5.params.toList Rows.fnExactCountMapsSpec.vars false (#[.agg #[.int .i64 0, .slice none 0 0], .agg #[.int .i64 0, .slice none 0 0]] : Array Value).toList 8 = some ([.agg [.lit (.int .i64 0), .nil], .agg [.lit (.int .i64 0), .nil]], [Rows.laid_loop_example_g03201_impl_letters], places) :=
  ⟨MemPlace.row ⟨0, 0, none⟩ 4, by kernel_rfl⟩
set_option maxRecDepth 100000 in
theorem lifted (os : Os) (started : os.Started) (H : Type) (enc : TypeId × Value → H) (F : Stop.Interp) :
    ReturnsInHanded {} Tryd.checked os 5 .any ((OpenSpec.ofChange Rows.fnExactCountMapsSpec).preRow enc Tryd.prog Tryd.f5 Rows.fnExactCountMapsRow.domain false Rows.fnExactCountMapsRow.laid) (((OpenSpec.ofChange Rows.fnExactCountMapsSpec).at F).post enc Tryd.prog Tryd.f5 false true false false) := by
  obtain ⟨places, hx⟩ := reads os enc
  refine returnsInHanded_of_row (C := Tryd.checked) (s := OpenSpec.ofChange Rows.fnExactCountMapsSpec) own started (by kernel_rfl) Tryd.func5
    (witness_row_at (enc := enc) (C := Tryd.checked) false (laidWorld os) #[.agg #[.int .i64 0, .slice none 0 0], .agg #[.int .i64 0, .slice none 0 0]] rfl (by kernel_rfl) (by kernel_rfl) (by kernel_rfl)
      (OpenSpec.preRow_of_cond 8 hx (by kernel_rfl) (fun k hk => by cases hk) (by kernel_rfl) (laid_met os))) ?_
  intro W base args ds gs before hval hW _ _ _ hL _ _
  exact contract H enc W base args ds gs before hval hW hL
theorem said : Rows.FnExactCountMapsSaid :=
  OpenClaim.holds_of_cond 5 Tryd.f5 rfl rfl rfl rfl rfl rfl rfl ⟨rfl, rfl, rfl, rfl, rfl⟩ rfl rfl rfl rfl rfl (by kernel_rfl) Tryd.func5 (by kernel_rfl)
    (of_decide_eq_true (by kernel_rfl)) (by unfold Func.isWrapper; first | (rw [if_pos (by decide +kernel)]; kernel_rfl) | (rw [if_neg (by decide +kernel)]; exact ⟨rfl, rfl⟩))
    (fun os started H enc _ F => by rw [OpenClaim.pre_eq_preRow]; exact lifted os started H enc F)
theorem plain (f : FuncId) (fn : Func) (hf : Tryd.pinned.checked.prog.funcNamed Rows.fnExactCountMapsRow.func = some f) (hfn : Tryd.pinned.checked.prog.funcs[f]? = some fn) :
    false = Tryd.pinned.checked.prog.looks [] ∧ ∀ (j : Nat) t, fn.params[j]? = some t → Tryd.pinned.checked.prog.wantsStandIn t = false := by
  obtain rfl : f = 5 := Option.some.inj ((show Tryd.prog.funcNamed Rows.fnExactCountMapsRow.func = some 5 by kernel_rfl).symm.trans hf) |>.symm
  obtain rfl : fn = Tryd.f5 := (Option.some.inj (Tryd.func5.symm.trans hfn)).symm
  refine ⟨by kernel_rfl, fun j t ht => ?_⟩
  rw [Tryd.params5] at ht
  match j, ht with
  | 0, ht => (simp at ht; subst ht; exact (show Tryd.prog.wantsStandIn 36 = false by kernel_rfl))
  | 1, ht => (simp at ht; subst ht; exact (show Tryd.prog.wantsStandIn 24 = false by kernel_rfl))
  | n + 2, ht => simp at ht
theorem proved : Rows.FnExactCountMapsCardSaid :=
  Claim7.holds_tied_plain_at .later [] _ _ _ _ said (fun _ h => by cases h) (by kernel_rfl) (fun _ h => by cases h) fnExactCountMaps_row_tie rfl ⟨rfl, rfl⟩ (by kernel_rfl) rfl plain (by kernel_rfl)
end Go.Proofs.YtlgaihofaiigcaaDoor.fnExactCountMaps
