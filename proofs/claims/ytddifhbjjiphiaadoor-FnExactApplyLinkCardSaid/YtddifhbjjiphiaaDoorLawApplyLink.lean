/- For every system, string and link, impl.ApplyLink answers as its model: FnExactApplyLink returns true. The table of letters is tied to the program's text. -/
import Derived.Test.YtddifhbjjiphiaaDoorLinkStep
import Derived.Test.YtddifhbjjiphiaaDoorArgsLink
import Derived.Test.YtddifhbjjiphiaaDoorWorld
import Derived.Deep.RegionHeld3
namespace Go.Proofs.YtddifhbjjiphiaaDoor.fnExactApplyLink
open Go.ChangeShapes Go.WideShapes Go.ChangeAt Go.RowKit
open Go.ChangeMaps (open_string)
set_option maxRecDepth 100000 in
set_option maxHeartbeats 1600000 in
theorem walk (k : Int) (_wk : (Lit.int .i64 k).wf = true) (A : Option Addr) (n c : Nat) (xs : List R) (s : ByteArray) (hss : s.size ≤ maxLen) (x y : Int) (b : Bool) (_wx : (Lit.int .i64 x).wf = true) (_wy : (Lit.int .i64 y).wf = true) (w : World) (hI : InR w A n c xs) (h : Let w) :
    Calls Tryd.prog 3 #[.agg #[.int .i64 k, .slice A n c], .string s, .agg #[.int .i64 x, .int .i64 y, .bool b]] w fun e w' => e = .returned (.bool true) ∧ Below w.heap.size w w' := by
  have HL := Lib.hid (fun (w' : World) (hb : Below w.heap.size w w') => h.keep hb (Nat.le_refl _))
  have HI := Lib.hid (fun (w' : World) (hb : Below w.heap.size w w') => hI.keep hb)
  unfold maxLen at hss
  clear h hI
  by_cases hbig : 1048576 < s.size
  · go_enter Tryd.func3, Tryd.ntmps3
    go_wp2_with fail
    go_ret
    exact ⟨rfl, bel2 _ _ _⟩
  have hs : s.size ≤ 1048576 := by omega
  go_enter Tryd.func3, Tryd.ntmps3
  go_wp2_with fail
  refine (szSystem_any k A n c xs 1048576 _ (HI.out _ (bel2 _ _ _)) (Nat.le_refl _)).mono ?_
  rintro e w1 ⟨q, rfl, hq, hb1⟩
  have b1 := (bel2 w _ _).trans (hb1.mono (by simp; omega))
  have B1 := Lib.hid (((Blk.new1 w _ _).alloc _).below hb1 (by simp; omega))
  have Z1 := Lib.hid ((Blk.new2 w _ _ _).below hb1 (by simp))
  obtain ⟨q0, q1, -, -, ql⟩ := B1.out.two
  have z0 := Z1.out.cell 0
  have z1 := Z1.out.cell 1
  have z2 := Z1.out.cell 2
  have zl := Z1.out.lt
  clear hb1
  by_cases hq0 : q < 0
  · go_wp2_with fail
    go_ret
    exact ⟨rfl, b1⟩
  have Hsz : Hid (n + rulesSz xs ≤ 1048576) := by rcases hq with h | h <;> (show _ ≤ _; omega)
  have Hn : Hid (n ≤ 1048576) := by have := Hsz.out; show _ ≤ _; omega
  have Hsm : Hid (smallR xs) := small_of xs (by have := Hsz.out; omega)
  clear hq
  go_wp2_with fail
  go_region_held3 (fun w' => w'.cell? ⟨w.heap.size, 0, none⟩ = some (.int .i64 k) ∧ w'.cell? ⟨w.heap.size, 1, none⟩ = some (.slice A n c) ∧ w'.cell? ⟨w.heap.size + 1, 0, none⟩ = some (.int .i64 x) ∧ w'.cell? ⟨w.heap.size + 1, 1, none⟩ = some (.int .i64 y) ∧ w'.cell? ⟨w.heap.size + 1, 2, none⟩ = some (.bool b) ∧ Below w1.heap.size w1 w')
    (first | exact ⟨q0, q1, z0, z1, z2, (Below.refl _ w1).drew⟩ | exact held5_keepL (by assumption) hb2 (Nat.le_refl _) ql ql zl zl zl | exact held5_keepL (by assumption) hb3 (Nat.le_refl _) ql ql zl zl zl | exact held5_keepL (by assumption) hb4 (Nat.le_refl _) ql ql zl zl zl)
    ((first | (go_at_call 11; refine (toSystem_any k A n c xs _ (HI.out _ b1.drew) Hn.out).mono ?_; rintro e w2 ⟨v2, rfl, o2, hb2⟩; obtain ⟨A2, c2, rfl⟩ := o2.form) | (go_at_call 12; refine (toLink_any x y b _).mono ?_; rintro e w3 ⟨rfl, hb3⟩) | (go_at_call 10; refine (specApplyLink k A2 n c2 _ xs s x y b _ (o2.below hb3) Hsm.out hs).mono ?_; rintro e w4 ⟨rfl, hb4⟩)))
  have hS := (‹_ ∧ _ ∧ _ ∧ _ ∧ _ ∧ Below w1.heap.size w1 w4›).2.2.2.2.2
  have b4 := b1.trans (hS.mono b1.size)
  have B4 := Lib.hid (B1.out.below hS B1.out.lt)
  have Z4 := Lib.hid (Z1.out.below hS Z1.out.lt)
  clear hb2 hb3 hb4 o2 hS q0 q1 ql z0 z1 z2 zl
  obtain ⟨rr, hrr⟩ : ∃ rr, linkS k xs s (x, y, b) = rr := ⟨_, rfl⟩
  have Hrr := Lib.hid hrr
  rw [hrr]
  clear hrr
  obtain ⟨r1, r2⟩ := rr
  obtain ⟨q0, q1, -, -, ql⟩ := B4.out.two
  go_wp2_with fail
  refine (toSystem_any k A n c xs _ (HI.out _ b4) Hn.out).mono ?_
  rintro e w5 ⟨v5, rfl, o5, hb5⟩
  have b5 := b4.trans (hb5.mono b4.size)
  have B5 := Lib.hid (B4.out.below hb5 B4.out.lt)
  have Z5 := Lib.hid (Z4.out.below hb5 Z4.out.lt)
  obtain ⟨A5, c5, rfl⟩ := o5.form
  have O5 := Lib.hid o5
  clear hb5 o5 q0 q1 ql
  go_wp2_with fail
  have b6 := b5.alloc b5.size (.cells #[.int .i64 k, .slice A5 n c5] 32)
  have B6 := Lib.hid (B5.out.alloc (.cells #[.int .i64 k, .slice A5 n c5] 32))
  have Z6 := Lib.hid (Z5.out.alloc (.cells #[.int .i64 k, .slice A5 n c5] 32))
  have X6 := Lib.hid (Blk.new1 w5 #[.int .i64 k, .slice A5 n c5] 32)
  have O6 := Lib.hid (O5.out.below (bel1 w5 (.cells #[.int .i64 k, .slice A5 n c5] 32)))
  clear b5 B5 Z5 O5
  generalize w5.alloc (.cells #[.int .i64 k, .slice A5 n c5] 32) = w6 at *
  obtain ⟨x0, x1, -, -, xl⟩ := X6.out.two
  have z0 := Z6.out.cell 0
  have z1 := Z6.out.cell 1
  have z2 := Z6.out.cell 2
  have zl := Z6.out.lt
  have O6d : Hid (Own w4.heap.size w6.drew (.slice A5 n c5) 2 n (rulesC xs)) := O6
  go_region_held3 (fun w' => w'.cell? ⟨w5.heap.size, 0, none⟩ = some (.int .i64 k) ∧ w'.cell? ⟨w5.heap.size, 1, none⟩ = some (.slice A5 n c5) ∧ w'.cell? ⟨w.heap.size + 1, 0, none⟩ = some (.int .i64 x) ∧ w'.cell? ⟨w.heap.size + 1, 1, none⟩ = some (.int .i64 y) ∧ w'.cell? ⟨w.heap.size + 1, 2, none⟩ = some (.bool b) ∧ Below w6.heap.size w6 w')
    (first | exact ⟨x0, x1, z0, z1, z2, (Below.refl _ w6).drew⟩ | exact held5_keepL (by assumption) hb7 (Nat.le_refl _) xl xl zl zl zl | exact held5_keepL (by assumption) hb8 (Nat.le_refl _) xl xl zl zl zl)
    ((first | (go_at_call 12; refine (toLink_any x y b _).mono ?_; rintro e w7 ⟨rfl, hb7⟩) | (go_at_call 13; refine (implApplyLink k A5 n c5 _ xs s x y b _ (O6d.out.below hb7) Hsm.out hs (HL.out _ (b6.drew.trans (hb7.mono b6.size)))).mono ?_; rw [Hrr.out]; rintro e w8 ⟨rfl, hb8⟩)))
  have hS := (‹_ ∧ _ ∧ _ ∧ _ ∧ _ ∧ Below w6.heap.size w6 w8›).2.2.2.2.2
  have b8 := b6.trans (hS.mono b6.size)
  have B8 := Lib.hid (B6.out.below hS B6.out.lt)
  have X8 := Lib.hid (X6.out.below hS X6.out.lt)
  have O8 := Lib.hid (O6.out.below hS)
  have O8d : Hid (Own w4.heap.size w8.drew (.slice A5 n c5) 2 n (rulesC xs)) := O8
  clear hb7 hb8 hS x0 x1 xl z0 z1 z2 zl O6d O6 Z6 b6
  obtain ⟨q0, q1, -, -, ql⟩ := B8.out.two
  obtain ⟨x0, x1, -, -, xl⟩ := X8.out.two
  go_wp2_with fail
  go_region_held3 (fun w' => w'.cell? ⟨w5.heap.size, 0, none⟩ = some (.int .i64 k) ∧ w'.cell? ⟨w5.heap.size, 1, none⟩ = some (.slice A5 n c5) ∧ w'.cell? ⟨w.heap.size, 0, none⟩ = some (.int .i64 k) ∧ w'.cell? ⟨w.heap.size, 1, none⟩ = some (.slice A n c) ∧ Below w8.heap.size w8 w')
    (first | exact ⟨x0, x1, q0, q1, (Below.refl _ w8).drew⟩ | exact held4_keep (by assumption) hb9 (Nat.le_refl _) xl ql | exact held4_keep (by assumption) hb10 (Nat.le_refl _) xl ql)
    ((first | (go_at_call 11; refine (toSystem_any k A n c xs _ (HI.out _ b8.drew) Hn.out).mono ?_; rintro e w9 ⟨v9, rfl, o9, hb9⟩; obtain ⟨A9, c9, rfl⟩ := o9.form) | (go_at_call 14; refine (eqSystem_yes k A5 _ n c5 _ _ _ xs _ (O8d.out.below hb9) o9).mono ?_; rintro e w10 ⟨rfl, hb10⟩)))
  have hS := (‹_ ∧ _ ∧ _ ∧ _ ∧ Below w8.heap.size w8 w10›).2.2.2.2
  go_wp2_with fail
  go_ret
  exact ⟨rfl, b8.trans (hS.mono b8.size)⟩
set_option maxRecDepth 100000 in
theorem contract (H : Type) (enc : TypeId × Value → H) (W : World) (base : Nat) (args : Array Value) (ds gs : List (DataW H)) (before : List MemPlace)
    (hval : ∀ (j : Nat) t v, Tryd.f3.params[j]? = some t → args[j]? = some v → Value.okWide Tryd.prog W .any base t v)
    (hW : DataW.Whole enc Tryd.prog Tryd.f3.params.toList Rows.fnExactApplyLinkSpec.vars false W args.toList ds gs before) (hL : laidMetH Tryd.prog Rows.fnExactApplyLinkRow.laid W) :
    Calls Tryd.prog 3 args W fun e W' => ∃ v, e = .returned v ∧ Rows.fnExactApplyLinkSpec.post enc Tryd.prog Tryd.f3 false true false false W args v W' := by
  have hW' := hW
  have hL' : laidMet Tryd.prog [("loop.example/g03201/impl.letters", Rows.laid_loop_example_g03201_impl_letters)] W := hL
  obtain ⟨p, q, hA0, hV, rfl, hfz, hnd⟩ := hW
  obtain ⟨g0, rfl⟩ := vars_len1 (trodVars_len hV)
  have hA : DataW.TrodAll enc Tryd.prog W 0 (fun _ => true) true Tryd.f3.params.toList args.toList ds p := hA0
  rw [Tryd.params3] at hA hval
  obtain ⟨v0, vs0, d0, ds0, p0, q0, hargs, rfl, rfl, h0, r0⟩ := trodAll_cons hA
  obtain ⟨v1, vs1, d1, ds1, p1, q1, rfl, rfl, rfl, h1, r1⟩ := trodAll_cons r0
  obtain ⟨v2, vs2, d2, ds2, p2, q2, rfl, rfl, rfl, h2, r2⟩ := trodAll_cons r1
  obtain ⟨rfl, rfl, rfl⟩ := trodAll_nil r2
  obtain rfl : args = #[v0, v1, v2] := by first | exact Array.toList_inj.1 hargs | exact Array.toList_inj.1 hargs.symm | (cases args; simp_all)
  obtain ⟨k0, A0, n0, c0, xs0, rfl, wk0, I0⟩ := open_system Tryd.underlying24 (by kernel_rfl) (by kernel_rfl) Tryd.underlying3 Tryd.underlying22 Tryd.underlying91 (by kernel_rfl) (by kernel_rfl) Tryd.underlying9 Tryd.underlying9 (hval 0 24 v0 rfl rfl) h0
  obtain ⟨a1, rfl, rfl, rfl, b1⟩ := open_string Tryd.underlying9 (hval 1 9 v1 rfl rfl) h1
  obtain ⟨a2, b2, z2, rfl, sa2, sb2⟩ := open_link Tryd.underlying26 (by kernel_rfl) (by kernel_rfl) Tryd.underlying3 Tryd.underlying3 Tryd.underlying4 (hval 2 26 v2 rfl rfl) h2
  refine (walk k0 wk0 A0 n0 c0 xs0 a1 b1 a2 b2 z2 sa2 sb2 W I0 (let_of hL')).mono fun e W' ⟨he, hb⟩ => ?_
  subst he
  exact ⟨_, rfl, law_postV hW' rfl rfl Tryd.underlying4 laidOut (by kernel_rfl) (by kernel_rfl) hb⟩

theorem laid_met (os : Os) : laidMet Tryd.prog Rows.fnExactApplyLinkRow.laid ((laidWorld os).forCall (fun _ _ => 0) ⟨#[], #[.agg #[.int .i64 0, .slice none 0 0], .string .empty, .agg #[.int .i64 0, .int .i64 0, .bool false]], []⟩).memory :=
  laidMet_of_run' 8 (by kernel_rfl) (by kernel_rfl)
theorem reads (os : Os) {H : Type} (enc : TypeId × Value → H) : ∃ places, DataW.whole enc Tryd.prog ((laidWorld os).forCall (fun _ _ => 0) ⟨#[], #[.agg #[.int .i64 0, .slice none 0 0], .string .empty, .agg #[.int .i64 0, .int .i64 0, .bool false]], []⟩).memory Tryd.f3.params.toList Rows.fnExactApplyLinkSpec.vars false (#[.agg #[.int .i64 0, .slice none 0 0], .string .empty, .agg #[.int .i64 0, .int .i64 0, .bool false]] : Array Value).toList 8 = some ([.agg [.lit (.int .i64 0), .nil], .lit (.string []), .agg [.lit (.int .i64 0), .lit (.int .i64 0), .lit (.bool false)]], [Rows.laid_loop_example_g03201_impl_letters], places) :=
  ⟨MemPlace.row ⟨0, 0, none⟩ 4, by kernel_rfl⟩
set_option maxRecDepth 100000 in
theorem lifted (os : Os) (started : os.Started) (H : Type) (enc : TypeId × Value → H) (F : Stop.Interp) :
    ReturnsInHanded {} Tryd.checked os 3 .any ((OpenSpec.ofChange Rows.fnExactApplyLinkSpec).preRow enc Tryd.prog Tryd.f3 Rows.fnExactApplyLinkRow.domain false Rows.fnExactApplyLinkRow.laid) (((OpenSpec.ofChange Rows.fnExactApplyLinkSpec).at F).post enc Tryd.prog Tryd.f3 false true false false) := by
  obtain ⟨places, hx⟩ := reads os enc
  refine returnsInHanded_of_row (C := Tryd.checked) (s := OpenSpec.ofChange Rows.fnExactApplyLinkSpec) own started (by kernel_rfl) Tryd.func3
    (witness_row_at (enc := enc) (C := Tryd.checked) false (laidWorld os) #[.agg #[.int .i64 0, .slice none 0 0], .string .empty, .agg #[.int .i64 0, .int .i64 0, .bool false]] rfl (by kernel_rfl) (by kernel_rfl) (by kernel_rfl)
      (OpenSpec.preRow_of_cond 8 hx (by kernel_rfl) (fun k hk => by cases hk) (by kernel_rfl) (laid_met os))) ?_
  intro W base args ds gs before hval hW _ _ _ hL _ _
  exact contract H enc W base args ds gs before hval hW hL
theorem said : Rows.FnExactApplyLinkSaid :=
  OpenClaim.holds_of_cond 3 Tryd.f3 rfl rfl rfl rfl rfl rfl rfl ⟨rfl, rfl, rfl, rfl, rfl⟩ rfl rfl rfl rfl rfl (by kernel_rfl) Tryd.func3 (by kernel_rfl)
    (of_decide_eq_true (by kernel_rfl)) (by unfold Func.isWrapper; first | (rw [if_pos (by decide +kernel)]; kernel_rfl) | (rw [if_neg (by decide +kernel)]; exact ⟨rfl, rfl⟩))
    (fun os started H enc _ F => by rw [OpenClaim.pre_eq_preRow]; exact lifted os started H enc F)
theorem plain (f : FuncId) (fn : Func) (hf : Tryd.pinned.checked.prog.funcNamed Rows.fnExactApplyLinkRow.func = some f) (hfn : Tryd.pinned.checked.prog.funcs[f]? = some fn) :
    false = Tryd.pinned.checked.prog.looks [] ∧ ∀ (j : Nat) t, fn.params[j]? = some t → Tryd.pinned.checked.prog.wantsStandIn t = false := by
  obtain rfl : f = 3 := Option.some.inj ((show Tryd.prog.funcNamed Rows.fnExactApplyLinkRow.func = some 3 by kernel_rfl).symm.trans hf) |>.symm
  obtain rfl : fn = Tryd.f3 := (Option.some.inj (Tryd.func3.symm.trans hfn)).symm
  refine ⟨by kernel_rfl, fun j t ht => ?_⟩
  rw [Tryd.params3] at ht
  match j, ht with
  | 0, ht => (simp at ht; subst ht; exact (show Tryd.prog.wantsStandIn 24 = false by kernel_rfl))
  | 1, ht => (simp at ht; subst ht; exact (show Tryd.prog.wantsStandIn 9 = false by kernel_rfl))
  | 2, ht => (simp at ht; subst ht; exact (show Tryd.prog.wantsStandIn 26 = false by kernel_rfl))
  | n + 3, ht => simp at ht
theorem proved : Rows.FnExactApplyLinkCardSaid :=
  Claim7.holds_tied_plain_at .later [] _ _ _ _ said (fun _ h => by cases h) (by kernel_rfl) (fun _ h => by cases h) fnExactApplyLink_row_tie rfl ⟨rfl, rfl⟩ (by kernel_rfl) rfl plain (by kernel_rfl)
end Go.Proofs.YtddifhbjjiphiaaDoor.fnExactApplyLink
