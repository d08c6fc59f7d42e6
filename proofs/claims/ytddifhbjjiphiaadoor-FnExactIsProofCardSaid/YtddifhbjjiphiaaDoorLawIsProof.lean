/- For every system, two strings and list of links, impl.IsProof answers as its model: FnExactIsProof returns true. The table of letters is tied to the program's text. -/
import Derived.Test.YtddifhbjjiphiaaDoorPeak
import Derived.Test.YtddifhbjjiphiaaDoorArgsLink
import Derived.Test.YtddifhbjjiphiaaDoorWorld
import Derived.Deep.RegionHeld3
namespace Go.Proofs.YtddifhbjjiphiaaDoor.fnExactIsProof
open Go.ChangeShapes Go.WideShapes Go.ChangeAt Go.RowKit
open Go.ChangeMaps (open_string)
set_option maxRecDepth 100000 in
set_option maxHeartbeats 1600000 in
theorem walk (k : Int) (_wk : (Lit.int .i64 k).wf = true) (A : Option Addr) (n c : Nat) (xs : List R) (s : ByteArray) (hss : s.size ≤ maxLen) (v : ByteArray) (hvv : v.size ≤ maxLen) (A' : Option Addr) (m c' : Nat) (ys : List LK) (w : World) (hI : InR w A n c xs) (hJ : InK w A' m c' ys) (h : Let w) :
    Calls Tryd.prog 5 #[.agg #[.int .i64 k, .slice A n c], .string s, .string v, .slice A' m c'] w fun e w' => e = .returned (.bool true) ∧ Below w.heap.size w w' := by
  have HL := Lib.hid (fun (w' : World) (hb : Below w.heap.size w w') => h.keep hb (Nat.le_refl _))
  have HI := Lib.hid (fun (w' : World) (hb : Below w.heap.size w w') => hI.keep hb)
  have HJ := Lib.hid (fun (w' : World) (hb : Below w.heap.size w w') => hJ.keep hb)
  have hmm : m ≤ maxLen := Nat.le_trans hJ.2.1 hJ.2.2.1
  have Hmm := Lib.hid hmm
  unfold maxLen at hss hvv
  clear h hI hJ hmm
  by_cases hbig : 1048576 < s.size
  · go_enter Tryd.func5, Tryd.ntmps5
    go_wp2_with fail
    go_ret
    exact ⟨rfl, bel1 _ _⟩
  have hs : s.size ≤ 1048576 := by omega
  by_cases hbigv : 1048576 < v.size
  · go_enter Tryd.func5, Tryd.ntmps5
    go_wp2_with fail
    go_ret
    exact ⟨rfl, bel1 _ _⟩
  have hv : v.size ≤ 1048576 := by omega
  go_enter Tryd.func5, Tryd.ntmps5
  go_wp2_with fail
  refine (szSystem_any k A n c xs 1048576 _ (HI.out _ (bel1 _ _)) (Nat.le_refl _)).mono ?_
  rintro e w1 ⟨q, rfl, hq, hb1⟩
  have b1 := (bel1 w _).trans (hb1.mono (by simp))
  have B1 := Lib.hid ((Blk.new1 w _ _).below hb1 (by simp))
  obtain ⟨q0, q1, -, -, ql⟩ := B1.out.two
  clear hb1
  by_cases hq0 : q < 0
  · go_wp2_with fail
    go_ret
    exact ⟨rfl, b1⟩
  have Hsz : Hid (n + rulesSz xs ≤ 1048576) := by rcases hq with h | h <;> (show _ ≤ _; omega)
  have Hn : Hid (n ≤ 1048576) := by have := Hsz.out; show _ ≤ _; omega
  have Hsm : Hid (smallR xs) := small_of xs (by have := Hsz.out; omega)
  obtain ⟨q', rfl⟩ : ∃ q' : Nat, q = q' := ⟨q.toNat, by omega⟩
  have hq' : q' ≤ 1048576 := by rcases hq with h | h <;> omega
  clear hq
  go_wp2_with fail
  refine (szLinkS_any A' m c' q' _ Hmm.out hq').mono ?_
  rintro e w1 ⟨q2, rfl, hqq, rfl⟩
  by_cases hq20 : q2 < 0
  · go_wp2_with fail
    go_ret
    exact ⟨rfl, b1⟩
  have Hm : Hid (m ≤ 1048576) := by rcases hqq with h | h <;> (show _ ≤ _; omega)
  clear hqq
  go_wp2_with fail
  refine (toSystem_any k A n c xs _ (HI.out _ b1) Hn.out).mono ?_
  rintro e w2 ⟨v2, rfl, o2, hb2⟩
  have b2 := b1.trans (hb2.mono b1.size)
  have B2 := Lib.hid (B1.out.below hb2 B1.out.lt)
  obtain ⟨A2, c2, rfl⟩ := o2.form
  have O2 := Lib.hid o2
  clear hb2 o2
  go_wp2_with fail
  refine (toLinkS_any A' m c' ys _ (HJ.out _ b2) Hm.out).mono ?_
  rintro e w3 ⟨v3, rfl, o3, hb3⟩
  have b3 := b2.trans (hb3.mono b2.size)
  have B3 := Lib.hid (B2.out.below hb3 B2.out.lt)
  have O3 := Lib.hid (O2.out.below hb3)
  obtain ⟨A3, c3, rfl⟩ := o3.form
  have Y3 := Lib.hid o3
  clear hb3 o3 O2 B2
  go_wp2_with fail
  refine (specIsProof k A2 A3 n c2 _ m c3 _ xs s v ys _ O3.out Hsm.out hs Y3.out).mono ?_
  rintro e w4 ⟨rfl, hb4⟩
  have b4 := b3.trans (hb4.mono b3.size)
  have B4 := Lib.hid (B3.out.below hb4 B3.out.lt)
  clear hb4 O3 Y3 B3 q0 q1 ql
  obtain ⟨rr, hrr⟩ : ∃ rr, proofS k xs s v ys = rr := ⟨_, rfl⟩
  have Hrr := Lib.hid hrr
  rw [hrr]
  clear hrr
  obtain ⟨q0, q1, -, -, ql⟩ := B4.out.two
  go_wp2_with fail
  refine (toSystem_any k A n c xs _ (HI.out _ b4) Hn.out).mono ?_
  rintro e w5 ⟨v5, rfl, o5, hb5⟩
  have b5 := b4.trans (hb5.mono b4.size)
  have B5 := Lib.hid (B4.out.below hb5 B4.out.lt)
  obtain ⟨A5, c5, rfl⟩ := o5.form
  have O5 := Lib.hid o5
  clear hb5 o5 q0 q1 ql B4
  go_wp2_with fail
  have b6 := b5.alloc b5.size (.cells #[.int .i64 k, .slice A5 n c5] 32)
  have B6 := Lib.hid (B5.out.alloc (.cells #[.int .i64 k, .slice A5 n c5] 32))
  have X6 := Lib.hid (Blk.new1 w5 #[.int .i64 k, .slice A5 n c5] 32)
  have O6 := Lib.hid (O5.out.below (bel1 w5 (.cells #[.int .i64 k, .slice A5 n c5] 32)))
  clear b5 B5 O5
  generalize w5.alloc (.cells #[.int .i64 k, .slice A5 n c5] 32) = w6 at *
  refine (toLinkS_any A' m c' ys _ (HJ.out _ b6) Hm.out).mono ?_
  rintro e w7 ⟨v7, rfl, o7, hb7⟩
  have b7 := b6.trans (hb7.mono b6.size)
  have B7 := Lib.hid (B6.out.below hb7 B6.out.lt)
  have X7 := Lib.hid (X6.out.below hb7 X6.out.lt)
  have O7 := Lib.hid (O6.out.below hb7)
  obtain ⟨A7, c7, rfl⟩ := o7.form
  have Y7 := Lib.hid o7
  clear hb7 o7 O6 X6 B6
  obtain ⟨x0, x1, -, -, xl⟩ := X7.out.two
  go_wp2_with fail
  refine (implIsProof k A5 A7 n c5 _ m c7 _ xs s v ys _ O7.out Hsm.out hs Y7.out (HL.out _ b7)).mono ?_
  rw [Hrr.out]
  rintro e w8 ⟨rfl, hb8⟩
  have b8 := b7.trans (hb8.mono b7.size)
  have B8 := Lib.hid (B7.out.below hb8 B7.out.lt)
  have X8 := Lib.hid (X7.out.below hb8 X7.out.lt)
  have O8 := Lib.hid (O7.out.below hb8)
  have Y8 := Lib.hid (Y7.out.below hb8)
  have O8d : Hid (Own w4.heap.size w8.drew (.slice A5 n c5) 2 n (rulesC xs)) := O8
  clear hb8 x0 x1 xl O7 X7 B7 Y7
  obtain ⟨q0, q1, -, -, ql⟩ := B8.out.two
  obtain ⟨x0, x1, -, -, xl⟩ := X8.out.two
  go_wp2_with fail
  go_region_held3 (fun w' => w'.cell? ⟨w5.heap.size, 0, none⟩ = some (.int .i64 k) ∧ w'.cell? ⟨w5.heap.size, 1, none⟩ = some (.slice A5 n c5) ∧ w'.cell? ⟨w.heap.size, 0, none⟩ = some (.int .i64 k) ∧ w'.cell? ⟨w.heap.size, 1, none⟩ = some (.slice A n c) ∧ Below w8.heap.size w8 w')
    (first | exact ⟨x0, x1, q0, q1, (Below.refl _ w8).drew⟩ | exact held4_keep (by assumption) hb9 (Nat.le_refl _) xl ql | exact held4_keep (by assumption) hb10 (Nat.le_refl _) xl ql)
    ((first | (go_at_call 11; refine (toSystem_any k A n c xs _ (HI.out _ b8.drew) Hn.out).mono ?_; rintro e w9 ⟨v9, rfl, o9, hb9⟩; obtain ⟨A9, c9, rfl⟩ := o9.form) | (go_at_call 14; refine (eqSystem_yes k A5 _ n c5 _ _ _ xs _ (O8d.out.below hb9) o9).mono ?_; rintro e w10 ⟨rfl, hb10⟩)))
  have hS := (‹_ ∧ _ ∧ _ ∧ _ ∧ Below w8.heap.size w8 w10›).2.2.2.2
  have b10 := b8.trans (hS.mono b8.size)
  have Y10 := Lib.hid (Y8.out.below hS)
  clear hb9 hb10 hS o9 q0 q1 ql x0 x1 xl
  go_wp2_with fail
  refine (toLinkS_any A' m c' ys _ (HJ.out _ b10) Hm.out).mono ?_
  rintro e w11 ⟨v11, rfl, o11, hb11⟩
  have b11 := b10.trans (hb11.mono b10.size)
  obtain ⟨A11, c11, rfl⟩ := o11.form
  have Y11 := Lib.hid (Y10.out.below hb11)
  have V11 := Lib.hid o11
  clear hb11 o11 Y10
  go_wp2_with fail
  refine (eqLinkS_yes A7 A11 m c7 c11 _ _ ys _ Y11.out V11.out).mono ?_
  rintro e w12 ⟨rfl, hb12⟩
  have b12 := b11.trans (hb12.mono b11.size)
  clear hb12
  go_wp2_with fail
  go_ret
  exact ⟨rfl, b12⟩
set_option maxRecDepth 100000 in
theorem contract (H : Type) (enc : TypeId × Value → H) (W : World) (base : Nat) (args : Array Value) (ds gs : List (DataW H)) (before : List MemPlace)
    (hval : ∀ (j : Nat) t v, Tryd.f5.params[j]? = some t → args[j]? = some v → Value.okWide Tryd.prog W .any base t v)
    (hW : DataW.Whole enc Tryd.prog Tryd.f5.params.toList Rows.fnExactIsProofSpec.vars false W args.toList ds gs before) (hL : laidMetH Tryd.prog Rows.fnExactIsProofRow.laid W) :
    Calls Tryd.prog 5 args W fun e W' => ∃ v, e = .returned v ∧ Rows.fnExactIsProofSpec.post enc Tryd.prog Tryd.f5 false true false false W args v W' := by
  have hW' := hW
  have hL' : laidMet Tryd.prog [("loop.example/g03201/impl.letters", Rows.laid_loop_example_g03201_impl_letters)] W := hL
  obtain ⟨p, q, hA0, hV, rfl, hfz, hnd⟩ := hW
  obtain ⟨g0, rfl⟩ := vars_len1 (trodVars_len hV)
  have hA : DataW.TrodAll enc Tryd.prog W 0 (fun _ => true) true Tryd.f5.params.toList args.toList ds p := hA0
  rw [Tryd.params5] at hA hval
  obtain ⟨v0, vs0, d0, ds0, p0, q0, hargs, rfl, rfl, h0, r0⟩ := trodAll_cons hA
  obtain ⟨v1, vs1, d1, ds1, p1, q1, rfl, rfl, rfl, h1, r1⟩ := trodAll_cons r0
  obtain ⟨v2, vs2, d2, ds2, p2, q2, rfl, rfl, rfl, h2, r2⟩ := trodAll_cons r1
  obtain ⟨v3, vs3, d3, ds3, p3, q3, rfl, rfl, rfl, h3, r3⟩ := trodAll_cons r2
  obtain ⟨rfl, rfl, rfl⟩ := trodAll_nil r3
  obtain rfl : args = #[v0, v1, v2, v3] := by first | exact Array.toList_inj.1 hargs | exact Array.toList_inj.1 hargs.symm | (cases args; simp_all)
  obtain ⟨k0, A0, n0, c0, xs0, rfl, wk0, I0⟩ := open_system Tryd.underlying24 (by kernel_rfl) (by kernel_rfl) Tryd.underlying3 Tryd.underlying22 Tryd.underlying91 (by kernel_rfl) (by kernel_rfl) Tryd.underlying9 Tryd.underlying9 (hval 0 24 v0 rfl rfl) h0
  obtain ⟨a1, rfl, rfl, rfl, b1⟩ := open_string Tryd.underlying9 (hval 1 9 v1 rfl rfl) h1
  obtain ⟨a2, rfl, rfl, rfl, b2⟩ := open_string Tryd.underlying9 (hval 2 9 v2 rfl rfl) h2
  obtain ⟨A3, n3, c3, xs3, rfl, B3⟩ := open_links Tryd.underlying38 Tryd.underlying26 (by kernel_rfl) (by kernel_rfl) Tryd.underlying3 Tryd.underlying3 Tryd.underlying4 (hval 3 38 v3 rfl rfl) h3
  refine (walk k0 wk0 A0 n0 c0 xs0 a1 b1 a2 b2 A3 n3 c3 xs3 W I0 B3 (let_of hL')).mono fun e W' ⟨he, hb⟩ => ?_
  subst he
  exact ⟨_, rfl, law_postV hW' rfl rfl Tryd.underlying4 laidOut (by kernel_rfl) (by kernel_rfl) hb⟩

theorem laid_met (os : Os) : laidMet Tryd.prog Rows.fnExactIsProofRow.laid ((laidWorld os).forCall (fun _ _ => 0) ⟨#[], #[.agg #[.int .i64 0, .slice none 0 0], .string .empty, .string .empty, .slice none 0 0], []⟩).memory :=
  laidMet_of_run' 8 (by kernel_rfl) (by kernel_rfl)
theorem reads (os : Os) {H : Type} (enc : TypeId × Value → H) : ∃ places, DataW.whole enc Tryd.prog ((laidWorld os).forCall (fun _ _ => 0) ⟨#[], #[.agg #[.int .i64 0, .slice none 0 0], .string .empty, .string .empty, .slice none 0 0], []⟩).memory Tryd.f5.params.toList Rows.fnExactIsProofSpec.vars false (#[.agg #[.int .i64 0, .slice none 0 0], .string .empty, .string .empty, .slice none 0 0] : Array Value).toList 8 = some ([.agg [.lit (.int .i64 0), .nil], .lit (.string []), .lit (.string []), .nil], [Rows.laid_loop_example_g03201_impl_letters], places) :=
  ⟨MemPlace.row ⟨0, 0, none⟩ 4, by kernel_rfl⟩
set_option maxRecDepth 100000 in
theorem lifted (os : Os) (started : os.Started) (H : Type) (enc : TypeId × Value → H) (F : Stop.Interp) :
    ReturnsInHanded {} Tryd.checked os 5 .any ((OpenSpec.ofChange Rows.fnExactIsProofSpec).preRow enc Tryd.prog Tryd.f5 Rows.fnExactIsProofRow.domain false Rows.fnExactIsProofRow.laid) (((OpenSpec.ofChange Rows.fnExactIsProofSpec).at F).post enc Tryd.prog Tryd.f5 false true false false) := by
  obtain ⟨places, hx⟩ := reads os enc
  refine returnsInHanded_of_row (C := Tryd.checked) (s := OpenSpec.ofChange Rows.fnExactIsProofSpec) own started (by kernel_rfl) Tryd.func5
    (witness_row_at (enc := enc) (C := Tryd.checked) false (laidWorld os) #[.agg #[.int .i64 0, .slice none 0 0], .string .empty, .string .empty, .slice none 0 0] rfl (by kernel_rfl) (by kernel_rfl) (by kernel_rfl)
      (OpenSpec.preRow_of_cond 8 hx (by kernel_rfl) (fun k hk => by cases hk) (by kernel_rfl) (laid_met os))) ?_
  intro W base args ds gs before hval hW _ _ _ hL _ _
  exact contract H enc W base args ds gs before hval hW hL
theorem said : Rows.FnExactIsProofSaid :=
  OpenClaim.holds_of_cond 5 Tryd.f5 rfl rfl rfl rfl rfl rfl rfl ⟨rfl, rfl, rfl, rfl, rfl⟩ rfl rfl rfl rfl rfl (by kernel_rfl) Tryd.func5 (by kernel_rfl)
    (of_decide_eq_true (by kernel_rfl)) (by unfold Func.isWrapper; first | (rw [if_pos (by decide +kernel)]; kernel_rfl) | (rw [if_neg (by decide +kernel)]; exact ⟨rfl, rfl⟩))
    (fun os started H enc _ F => by rw [OpenClaim.pre_eq_preRow]; exact lifted os started H enc F)
theorem plain (f : FuncId) (fn : Func) (hf : Tryd.pinned.checked.prog.funcNamed Rows.fnExactIsProofRow.func = some f) (hfn : Tryd.pinned.checked.prog.funcs[f]? = some fn) :
    false = Tryd.pinned.checked.prog.looks [] ∧ ∀ (j : Nat) t, fn.params[j]? = some t → Tryd.pinned.checked.prog.wantsStandIn t = false := by
  obtain rfl : f = 5 := Option.some.inj ((show Tryd.prog.funcNamed Rows.fnExactIsProofRow.func = some 5 by kernel_rfl).symm.trans hf) |>.symm
  obtain rfl : fn = Tryd.f5 := (Option.some.inj (Tryd.func5.symm.trans hfn)).symm
  refine ⟨by kernel_rfl, fun j t ht => ?_⟩
  rw [Tryd.params5] at ht
  match j, ht with
  | 0, ht => (simp at ht; subst ht; exact (show Tryd.prog.wantsStandIn 24 = false by kernel_rfl))
  | 1, ht => (simp at ht; subst ht; exact (show Tryd.prog.wantsStandIn 9 = false by kernel_rfl))
  | 2, ht => (simp at ht; subst ht; exact (show Tryd.prog.wantsStandIn 9 = false by kernel_rfl))
  | 3, ht => (simp at ht; subst ht; exact (show Tryd.prog.wantsStandIn 38 = false by kernel_rfl))
  | n + 4, ht => simp at ht
theorem proved : Rows.FnExactIsProofCardSaid :=
  Claim7.holds_tied_plain_at .later [] _ _ _ _ said (fun _ h => by cases h) (by kernel_rfl) (fun _ h => by cases h) fnExactIsProof_row_tie rfl ⟨rfl, rfl⟩ (by kernel_rfl) rfl plain (by kernel_rfl)
end Go.Proofs.YtddifhbjjiphiaaDoor.fnExactIsProof
