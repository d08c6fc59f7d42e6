/- For every work, impl.WorkOk answers as its model: FnExactWorkOk returns true. The table of letters is tied to the program's text. -/
import Derived.Test.YtnhcaahngmimcaaDoorWorkOk
import Derived.Test.YtnhcaahngmimcaaDoorWorld
import Derived.Deep.RegionHeld3
namespace Go.Proofs.YtnhcaahngmimcaaDoor.fnExactWorkOk
open Go.ChangeShapes Go.WideShapes Go.ChangeAt Go.RowKit
open Go.ChangeMaps (open_string)
set_option maxRecDepth 100000 in
set_option maxHeartbeats 1600000 in
theorem walk (k : Int) (A : Option Addr) (n c : Nat) (xs : List R) (Q : Option Addr) (m d : Nat) (qs : List R) (t : Int) (w : World) (hI : InR w A n c xs) (hJ : InR w Q m d qs) (h : Let w) :
    Calls Tryd.prog 8 #[workV k A n c Q m d t] w fun e w' => e = .returned (.bool true) ∧ Below w.heap.size w w' := by
  have HL := Lib.hid (fun (w' : World) (hb : Below w.heap.size w w') => h.keep hb (Nat.le_refl _))
  have HI := Lib.hid (fun (w' : World) (hb : Below w.heap.size w w') => hI.keep hb)
  have HJ := Lib.hid (fun (w' : World) (hb : Below w.heap.size w w') => hJ.keep hb)
  clear h hI hJ
  go_enter Tryd.func8, Tryd.ntmps8
  go_wp2_with fail
  refine (szWork_any k t A Q n c m d xs qs 1048576 _ (HI.out _ (bel1 _ _)) (HJ.out _ (bel1 _ _)) (Nat.le_refl _)).mono ?_
  rintro e w1 ⟨q, rfl, hq, hb1⟩
  have b1 := (bel1 w _).trans (hb1.mono (by simp))
  have B1 := Lib.hid ((Blk.new1 w _ _).below hb1 (by simp))
  obtain ⟨q0, q1, q2, q3, -, -, -, -, ql⟩ := B1.out.four
  clear hb1
  by_cases hq0 : q < 0
  · go_wp2_with fail
    go_ret
    exact ⟨rfl, b1⟩
  have Hsz : Hid (n + rulesSz xs + (m + rulesSz qs) ≤ 1048576) := by rcases hq with h | h <;> (show _ ≤ _; omega)
  have Hn : Hid (n ≤ 1048576) := by have := Hsz.out; show _ ≤ _; omega
  have Hm : Hid (m ≤ 1048576) := by have := Hsz.out; show _ ≤ _; omega
  have Hsm : Hid (smallR xs) := small_of xs (by have := Hsz.out; omega)
  have Hsq : Hid (smallR qs) := small_of qs (by have := Hsz.out; omega)
  clear hq
  go_wp2_with fail
  refine (toWork_any k t A Q n c m d xs qs _ (HI.out _ b1) (HJ.out _ b1) Hn.out Hm.out).mono ?_
  rintro e w2 ⟨A2, c2, Q2, d2, rfl, o2, p2, -, hb2⟩
  have b2 := b1.trans (hb2.mono b1.size)
  have B2 := Lib.hid (B1.out.below hb2 (by omega))
  go_wp2_with fail
  refine (specWorkOk k t A2 Q2 n c2 m d2 _ _ xs qs _ o2 p2 Hsm.out Hsq.out).mono ?_
  rintro e w3 ⟨rfl, hb3⟩
  have b3 := b2.trans (hb3.mono b2.size)
  have B3 := Lib.hid (B2.out.below hb3 B2.out.lt)
  clear hb2 hb3 q0 q1 q2 q3 ql o2 p2
  obtain ⟨q0, q1, q2, q3, -, -, -, -, ql⟩ := B3.out.four
  go_wp2_with fail
  refine (toWork_any k t A Q n c m d xs qs _ (HI.out _ b3) (HJ.out _ b3) Hn.out Hm.out).mono ?_
  rintro e w4 ⟨A4, c4, Q4, d4, rfl, o4, p4, -, hb4⟩
  have b4 := b3.trans (hb4.mono b3.size)
  have B4 := Lib.hid (B3.out.below hb4 (by omega))
  have O4 := Lib.hid o4
  have P4 := Lib.hid p4
  clear hb4 o4 p4 q0 q1 q2 q3
  go_wp2_with fail
  refine (implWorkOk k t A4 Q4 n c4 m d4 _ _ xs qs _ (O4.out.below (bel1 _ _)) (P4.out.below (bel1 _ _)) Hsm.out Hsq.out (HL.out _ (b4.alloc b4.size _))).mono ?_
  rintro e w5 ⟨rfl, hb5⟩
  have b5 := (b4.alloc b4.size _).trans (hb5.mono (by have := b4.size; simp; omega))
  have B5 := Lib.hid ((B4.out.alloc _).below hb5 (by have := B4.out.lt; simp; omega))
  have X5 := Lib.hid ((Blk.new1 w4 _ _).below hb5 (by simp))
  have O5 := Lib.hid ((O4.out.below (bel1 _ _)).below hb5)
  have P5 := Lib.hid ((P4.out.below (bel1 _ _)).below hb5)
  have O5d : Hid (Own w3.heap.size w5.drew (.slice A4 n c4) 2 n (rulesC xs)) := O5
  have P5d : Hid (Own w3.heap.size w5.drew (.slice Q4 m d4) 2 m (rulesC qs)) := P5
  clear hb5
  obtain ⟨q0, q1, q2, q3, -, -, -, -, ql⟩ := B5.out.four
  obtain ⟨x0, x1, x2, x3, -, -, -, -, xl⟩ := X5.out.four
  go_wp2_with fail
  go_region_held3 (fun w' => w'.cell? ⟨w4.heap.size, 0, none⟩ = some (.int .i64 k) ∧ w'.cell? ⟨w4.heap.size, 1, none⟩ = some (.slice A4 n c4) ∧ w'.cell? ⟨w4.heap.size, 2, none⟩ = some (.slice Q4 m d4) ∧ w'.cell? ⟨w4.heap.size, 3, none⟩ = some (.int .i64 t) ∧ w'.cell? ⟨w.heap.size, 0, none⟩ = some (.int .i64 k) ∧ w'.cell? ⟨w.heap.size, 1, none⟩ = some (.slice A n c) ∧ w'.cell? ⟨w.heap.size, 2, none⟩ = some (.slice Q m d) ∧ w'.cell? ⟨w.heap.size, 3, none⟩ = some (.int .i64 t) ∧ Below w5.heap.size w5 w')
    (first | exact ⟨x0, x1, x2, x3, q0, q1, q2, q3, (Below.refl _ w5).drew⟩ | exact held8_keep (by assumption) hb6 (Nat.le_refl _) xl ql | exact held8_keep (by assumption) hb7 (Nat.le_refl _) xl ql)
    ((first | (go_at_call 35; refine (toWork_any k t A Q n c m d xs qs _ (HI.out _ b5.drew) (HJ.out _ b5.drew) Hn.out Hm.out).mono ?_; rintro e w6 ⟨A6, c6, Q6, d6, rfl, o6, p6, -, hb6⟩) | (go_at_call 36; refine (eqWork_yes k t A4 _ Q4 _ n c4 _ m d4 _ _ _ _ _ xs qs _ (O5d.out.below hb6) o6 (P5d.out.below hb6) p6).mono ?_; rintro e w7 ⟨rfl, hb7⟩)))
  all_goals go_wp2
  go_ret
  have hS := ‹_ ∧ _ ∧ _ ∧ _ ∧ _ ∧ _ ∧ _ ∧ _ ∧ Below w5.heap.size w5 w7›
  exact ⟨rfl, b5.trans (hS.2.2.2.2.2.2.2.2.mono b5.size)⟩
set_option maxRecDepth 100000 in
theorem contract (H : Type) (enc : TypeId × Value → H) (W : World) (base : Nat) (args : Array Value) (ds gs : List (DataW H)) (before : List MemPlace)
    (hval : ∀ (j : Nat) t v, Tryd.f8.params[j]? = some t → args[j]? = some v → Value.okWide Tryd.prog W .any base t v)
    (hW : DataW.Whole enc Tryd.prog Tryd.f8.params.toList Rows.fnExactWorkOkSpec.vars false W args.toList ds gs before) (hL : laidMetH Tryd.prog Rows.fnExactWorkOkRow.laid W) :
    Calls Tryd.prog 8 args W fun e W' => ∃ v, e = .returned v ∧ Rows.fnExactWorkOkSpec.post enc Tryd.prog Tryd.f8 false true false false W args v W' := by
  have hW' := hW
  have hL' : laidMet Tryd.prog [("loop.example/g03201/impl.letters", Rows.laid_loop_example_g03201_impl_letters)] W := hL
  obtain ⟨p, q, hA0, hV, rfl, hfz, hnd⟩ := hW
  obtain ⟨g0, rfl⟩ := vars_len1 (trodVars_len hV)
  have hA : DataW.TrodAll enc Tryd.prog W 0 (fun _ => true) true Tryd.f8.params.toList args.toList ds p := hA0
  rw [Tryd.params8] at hA hval
  obtain ⟨v0, vs0, d0, ds0, p0, q0, hargs, rfl, rfl, h0, r0⟩ := trodAll_cons hA
  obtain ⟨rfl, rfl, rfl⟩ := trodAll_nil r0
  obtain rfl : args = #[v0] := by first | exact Array.toList_inj.1 hargs | exact Array.toList_inj.1 hargs.symm | (cases args; simp_all)
  obtain ⟨k0, A0, n0, c0, xs0, Q0, m0, e0, qs0, t0, rfl, I0, J0⟩ := open_work Tryd.underlying54 (by kernel_rfl) (by kernel_rfl) Tryd.underlying41 (by kernel_rfl) Tryd.underlying3 Tryd.underlying39 Tryd.underlying39 Tryd.underlying3 Tryd.underlying102 (by kernel_rfl) (by kernel_rfl) Tryd.underlying9 Tryd.underlying9 (hval 0 54 v0 rfl rfl) h0
  refine (walk k0 A0 n0 c0 xs0 Q0 m0 e0 qs0 t0 W I0 J0 (let_of hL')).mono fun e W' ⟨he, hb⟩ => ?_
  subst he
  exact ⟨_, rfl, law_postV hW' rfl rfl Tryd.underlying4 laidOut (by kernel_rfl) (by kernel_rfl) hb⟩

theorem laid_met (os : Os) : laidMet Tryd.prog Rows.fnExactWorkOkRow.laid ((laidWorld os).forCall (fun _ _ => 0) ⟨#[], #[.agg #[.int .i64 0, .slice none 0 0, .slice none 0 0, .int .i64 0]], []⟩).memory :=
  laidMet_of_run' 8 (by kernel_rfl) (by kernel_rfl)
theorem reads (os : Os) {H : Type} (enc : TypeId × Value → H) : ∃ places, DataW.whole enc Tryd.prog ((laidWorld os).forCall (fun _ _ => 0) ⟨#[], #[.agg #[.int .i64 0, .slice none 0 0, .slice none 0 0, .int .i64 0]], []⟩).memory Tryd.f8.params.toList Rows.fnExactWorkOkSpec.vars false (#[.agg #[.int .i64 0, .slice none 0 0, .slice none 0 0, .int .i64 0]] : Array Value).toList 8 = some ([.agg [.agg [.lit (.int .i64 0), .nil], .nil, .lit (.int .i64 0)]], [Rows.laid_loop_example_g03201_impl_letters], places) :=
  ⟨MemPlace.row ⟨0, 0, none⟩ 4, by kernel_rfl⟩
set_option maxRecDepth 100000 in
theorem lifted (os : Os) (started : os.Started) (H : Type) (enc : TypeId × Value → H) (F : Stop.Interp) :
    ReturnsInHanded {} Tryd.checked os 8 .any ((OpenSpec.ofChange Rows.fnExactWorkOkSpec).preRow enc Tryd.prog Tryd.f8 Rows.fnExactWorkOkRow.domain false Rows.fnExactWorkOkRow.laid) (((OpenSpec.ofChange Rows.fnExactWorkOkSpec).at F).post enc Tryd.prog Tryd.f8 false true false false) := by
  obtain ⟨places, hx⟩ := reads os enc
  refine returnsInHanded_of_row (C := Tryd.checked) (s := OpenSpec.ofChange Rows.fnExactWorkOkSpec) own started (by kernel_rfl) Tryd.func8
    (witness_row_at (enc := enc) (C := Tryd.checked) false (laidWorld os) #[.agg #[.int .i64 0, .slice none 0 0, .slice none 0 0, .int .i64 0]] rfl (by kernel_rfl) (by kernel_rfl) (by kernel_rfl)
      (OpenSpec.preRow_of_cond 8 hx (by kernel_rfl) (fun k hk => by cases hk) (by kernel_rfl) (laid_met os))) ?_
  intro W base args ds gs before hval hW _ _ _ hL _ _
  exact contract H enc W base args ds gs before hval hW hL
theorem said : Rows.FnExactWorkOkSaid :=
  OpenClaim.holds_of_cond 8 Tryd.f8 rfl rfl rfl rfl rfl rfl rfl ⟨rfl, rfl, rfl, rfl, rfl⟩ rfl rfl rfl rfl rfl (by kernel_rfl) Tryd.func8 (by kernel_rfl)
    (of_decide_eq_true (by kernel_rfl)) (by unfold Func.isWrapper; first | (rw [if_pos (by decide +kernel)]; kernel_rfl) | (rw [if_neg (by decide +kernel)]; exact ⟨rfl, rfl⟩))
    (fun os started H enc _ F => by rw [OpenClaim.pre_eq_preRow]; exact lifted os started H enc F)
theorem plain (f : FuncId) (fn : Func) (hf : Tryd.pinned.checked.prog.funcNamed Rows.fnExactWorkOkRow.func = some f) (hfn : Tryd.pinned.checked.prog.funcs[f]? = some fn) :
    false = Tryd.pinned.checked.prog.looks [] ∧ ∀ (j : Nat) t, fn.params[j]? = some t → Tryd.pinned.checked.prog.wantsStandIn t = false := by
  obtain rfl : f = 8 := Option.some.inj ((show Tryd.prog.funcNamed Rows.fnExactWorkOkRow.func = some 8 by kernel_rfl).symm.trans hf) |>.symm
  obtain rfl : fn = Tryd.f8 := (Option.some.inj (Tryd.func8.symm.trans hfn)).symm
  refine ⟨by kernel_rfl, fun j t ht => ?_⟩
  rw [Tryd.params8] at ht
  match j, ht with
  | 0, ht => (simp at ht; subst ht; exact (show Tryd.prog.wantsStandIn 54 = false by kernel_rfl))
  | n + 1, ht => simp at ht
theorem proved : Rows.FnExactWorkOkCardSaid :=
  Claim7.holds_tied_plain_at .later [] _ _ _ _ said (fun _ h => by cases h) (by kernel_rfl) (fun _ h => by cases h) fnExactWorkOk_row_tie rfl ⟨rfl, rfl⟩ (by kernel_rfl) rfl plain (by kernel_rfl)
end Go.Proofs.YtnhcaahngmimcaaDoor.fnExactWorkOk
