/- For every system and two strings, impl.ProofOf answers as its model, and its answer owns its memory: FnExactProofOf returns true. The table of letters is tied to the program's text. -/
import Derived.Test.YtddifhbjjiphiaaDoorProofOf
import Derived.Test.YtddifhbjjiphiaaDoorArgs
import Derived.Test.YtddifhbjjiphiaaDoorWorld
import Derived.Deep.RegionHeld3
namespace Go.Proofs.YtddifhbjjiphiaaDoor.fnExactProofOf
open Go.ChangeShapes Go.WideShapes Go.ChangeAt Go.RowKit
open Go.ChangeMaps (open_string)
set_option maxRecDepth 100000 in
set_option maxHeartbeats 1600000 in
theorem walk (k : Int) (_wk : (Lit.int .i64 k).wf = true) (A : Option Addr) (n c : Nat) (xs : List R) (s : ByteArray) (hss : s.size ≤ maxLen) (v : ByteArray) (hvv : v.size ≤ maxLen) (w : World) (hI : InR w A n c xs) (h : Let w) :
    Calls Tryd.prog 6 #[.agg #[.int .i64 k, .slice A n c], .string s, .string v] w fun e w' => e = .returned (.bool true) ∧ Below w.heap.size w w' := by
  have HL := Lib.hid (fun (w' : World) (hb : Below w.heap.size w w') => h.keep hb (Nat.le_refl _))
  have HI := Lib.hid (fun (w' : World) (hb : Below w.heap.size w w') => hI.keep hb)
  unfold maxLen at hss hvv
  clear h hI
  by_cases hbig : 1048576 < s.size
  · go_enter Tryd.func6, Tryd.ntmps6
    go_wp2_with fail
    go_ret
    exact ⟨rfl, bel1 _ _⟩
  have hs : s.size ≤ 1048576 := by omega
  by_cases hbigv : 1048576 < v.size
  · go_enter Tryd.func6, Tryd.ntmps6
    go_wp2_with fail
    go_ret
    exact ⟨rfl, bel1 _ _⟩
  have hv : v.size ≤ 1048576 := by omega
  go_enter Tryd.func6, Tryd.ntmps6
  go_wp2_with fail
  refine (szSystem_any k A n c xs 1048576 _ (HI.out _ (bel1 _ _)) (Nat.le_refl _)).mono ?_
  rintro e w1 ⟨q, rfl, hq, hb1⟩
  have b1 := (bel1 w _).trans (hb1.mono (by simp))
  have B1 := Lib.hid ((Blk.new1 w _ _).below hb1 (by simp))
  obtain ⟨q0, q1, -, -, ql⟩ := B1.out.two
  clear hb1
  by_cases hq0 : q < 0
  · go_wp2_with fail
    go_ret
    exact ⟨rfl, b1⟩
  have Hsz : Hid (n + rulesSz xs ≤ 1048576) := by rcases hq with h | h <;> (show _ ≤ _; omega)
  have Hn : Hid (n ≤ 1048576) := by have := Hsz.out; show _ ≤ _; omega
  have Hsm : Hid (smallR xs) := small_of xs (by have := Hsz.out; omega)
  clear hq
  go_wp2_with fail
  refine (toSystem_any k A n c xs _ (HI.out _ b1) Hn.out).mono ?_
  rintro e w2 ⟨v2, rfl, o2, hb2⟩
  have b2 := b1.trans (hb2.mono b1.size)
  have B2 := Lib.hid (B1.out.below hb2 B1.out.lt)
  obtain ⟨A2, c2, rfl⟩ := o2.form
  clear hb2 q0 q1 ql B1
  obtain ⟨q0, q1, -, -, ql⟩ := B2.out.two
  go_wp2_with fail
  have HLN := Lib.hid (proofL_len k xs s v)
  have HM := Lib.hid (fun A5 c5 B5 w5 (o5 : Own B5 w5 (.slice A5 n c5) 2 n (rulesC xs)) (b5 : Below w.heap.size w w5) => implProofOf k A5 n c5 B5 xs s v w5 o5 Hsm.out hs hv (HL.out _ b5))
  refine (specProofOf k A2 n c2 _ xs s v _ o2 Hsm.out hs hv).mono ?_
  rintro e w3 ⟨v3, rfl, o3, hb3⟩
  have b3 := b2.trans (hb3.mono b2.size)
  have B3 := Lib.hid (B2.out.below hb3 B2.out.lt)
  have R3 := Lib.hid o3
  have hlt3 := B3.out.lt
  obtain ⟨A3, c3, rfl⟩ := o3.form
  have h23 := hb3.size
  clear hb3 o2 o3 q0 q1 ql B2
  generalize (proofL k xs s v).1 = L at *
  generalize (proofL k xs s v).2 = ok at *
  generalize hN : L.length = N at *
  have hNb : N ≤ 200 := HLN.out
  have hR3 := Lib.hid (fun hn : 0 < N => R3.out.blk_lt hn)
  obtain ⟨q0, q1, -, -, ql⟩ := B3.out.two
  go_wp2_with fail
  refine (toSystem_any k A n c xs _ (HI.out _ b3) Hn.out).mono ?_
  rintro e w4 ⟨v4, rfl, o4, hb4⟩
  obtain ⟨A5, c5, rfl⟩ := o4.form
  have hP4 := Lib.hid (fun hn : 0 < n => o4.blk_lt hn)
  have b5 := (b3.trans (hb4.mono b3.size)).alloc (by have := b3.size; have := hb4.size; omega) (.cells #[.int .i64 k, .slice A5 n c5] 32)
  have x5 := bel1 w4 (.cells #[.int .i64 k, .slice A5 n c5] 32)
  have B5 := Lib.hid ((B3.out.below hb4 B3.out.lt).alloc (.cells #[.int .i64 k, .slice A5 n c5] 32))
  have X5 := Lib.hid (Blk.new1 w4 #[.int .i64 k, .slice A5 n c5] 32)
  have P5 := Lib.hid (o4.below x5)
  have R5 := Lib.hid ((R3.out.below hb4).below x5)
  have h34 := hb4.size
  have h45 : w4.heap.size < (w4.alloc (.cells #[.int .i64 k, .slice A5 n c5] 32)).heap.size := by simp
  clear hb4 o4 q0 q1 ql B3 x5 R3
  go_wp2_with fail
  generalize w4.alloc (.cells #[.int .i64 k, .slice A5 n c5] 32) = w5 at *
  refine (HM.out A5 c5 _ _ P5.out b5).mono ?_
  rintro e w6 ⟨v6, rfl, o6, hb6⟩
  obtain ⟨A6, c6, rfl⟩ := o6.form
  have Q6 := Lib.hid o6
  have hQ6 := Lib.hid (fun hn : 0 < N => o6.blk_lt hn)
  have b6 := b5.trans (hb6.mono b5.size)
  have B6 := Lib.hid (B5.out.below hb6 B5.out.lt)
  have X6 := Lib.hid (X5.out.below hb6 X5.out.lt)
  have P6 := Lib.hid (P5.out.below hb6)
  have R6 := Lib.hid (R5.out.below hb6)
  have h56 := hb6.size
  clear hb6 o6 B5 X5 P5 R5 b5
  go_wp2_with fail
  refine (eqLinkS_yes A6 A3 N c6 c3 _ _ L _ Q6.out R6.out).mono ?_
  rintro e w7 ⟨rfl, hb7⟩
  have b7 := b6.trans (hb7.mono b6.size)
  have B7 := Lib.hid (B6.out.below hb7 B6.out.lt)
  have X7 := Lib.hid (X6.out.below hb7 X6.out.lt)
  have P7 := Lib.hid (P6.out.below hb7)
  have Q7 := Lib.hid (Q6.out.below hb7)
  have R7 := Lib.hid (R6.out.below hb7)
  have h67 := hb7.size
  clear hb7 B6 X6 P6 Q6 R6 b6
  obtain ⟨q0, q1, -, -, ql⟩ := B7.out.two
  obtain ⟨x0, x1, -, -, xl⟩ := X7.out.two
  have P7d : Hid (Own w3.heap.size w7.drew (.slice A5 n c5) 2 n (rulesC xs)) := P7
  go_wp2_with fail
  go_region_held3 (fun w' => w'.cell? ⟨w4.heap.size, 0, none⟩ = some (.int .i64 k) ∧ w'.cell? ⟨w4.heap.size, 1, none⟩ = some (.slice A5 n c5) ∧ w'.cell? ⟨w.heap.size, 0, none⟩ = some (.int .i64 k) ∧ w'.cell? ⟨w.heap.size, 1, none⟩ = some (.slice A n c) ∧ Below w7.heap.size w7 w')
    (first | exact ⟨x0, x1, q0, q1, (Below.refl _ w7).drew⟩ | exact held4_keep (by assumption) hb8 (Nat.le_refl _) xl ql | exact held4_keep (by assumption) hb9 (Nat.le_refl _) xl ql)
    ((first | (go_at_call 11; refine (toSystem_any k A n c xs _ (HI.out _ b7.drew) Hn.out).mono ?_; rintro e w8 ⟨v8, rfl, o8, hb8⟩; obtain ⟨A8, c8, rfl⟩ := o8.form) | (go_at_call 14; refine (eqSystem_yes k A5 _ n c5 _ _ _ xs _ (P7d.out.below hb8) o8).mono ?_; rintro e w9 ⟨rfl, hb9⟩)))
  have hS := (‹_ ∧ _ ∧ _ ∧ _ ∧ Below w7.heap.size w7 w9›).2.2.2.2
  have b9 := b7.trans (hS.mono b7.size)
  have B9 := Lib.hid (B7.out.below hS B7.out.lt)
  have X9 := Lib.hid (X7.out.below hS X7.out.lt)
  have P9 := Lib.hid (P7.out.below hS)
  have Q9 := Lib.hid (Q7.out.below hS)
  have R9 := Lib.hid (R7.out.below hS)
  have h79 := hS.size
  clear hb8 hb9 hS o8 B7 X7 P7 Q7 R7 P7d b7 q0 q1 ql x0 x1 xl
  obtain ⟨x0, x1, -, -, xl⟩ := X9.out.two
  have hnb := Hn.out
  have hw3 := b3.size
  have hwx := B9.out.lt
  go_wp2_with fail
  refine (markSystem_any k 1 A5 n c5 _ xs _ P9.out (by omega) (by omega) (by omega)).mono ?_
  rintro e w10 ⟨rfl, -, hb10, k10⟩
  have h910 := hb10.size
  have b10 := b9.trans (hb10.mono hw3)
  have B10 := Lib.hid (k10.blk B9.out (fun hn => by have := (hP4.out hn).1; omega))
  have Q10 := Lib.hid (Own.keptA Q9.out k10 h910 (fun h1 h2 => by have := (hQ6.out h1).1; have := (hP4.out h2).2; omega))
  have R10 := Lib.hid (Own.keptA R9.out k10 h910 (fun h1 h2 => by have := (hR3.out h1).2; have := (hP4.out h2).1; omega))
  clear hb10 k10 B9 X9 P9 Q9 R9 x0 x1 xl b9
  go_wp2_with fail
  refine (eqLinkS_yes A6 A3 N c6 c3 _ _ L _ Q10.out R10.out).mono ?_
  rintro e w11 ⟨rfl, hb11⟩
  have b11 := b10.trans (hb11.mono b10.size)
  have B11 := Lib.hid (B10.out.below hb11 B10.out.lt)
  have Q11 := Lib.hid (Q10.out.below hb11)
  have R11 := Lib.hid (R10.out.below hb11)
  have h1011 := hb11.size
  clear hb11 B10 Q10 R10 b10
  go_wp2_with fail
  refine (markLinkS_any A6 N c6 _ 1 L _ Q11.out (by omega) (by omega)).mono ?_
  rintro e w12 ⟨rfl, o12, hb12, k12⟩
  have h1112 := hb12.size
  have b12 := b11.trans (hb12.mono (by omega))
  have B12 := Lib.hid (k12.blk B11.out (fun hn => by have := (hQ6.out hn).1; omega))
  have R12 := Lib.hid (Own.keptA R11.out k12 h1112 (fun h1 h2 => by have := (hR3.out h1).2; have := (hQ6.out h2).1; omega))
  have Q12 := Lib.hid o12
  clear hb12 k12 o12 B11 Q11 R11 b11
  go_wp2_with fail
  refine (heldLinkS_yes A6 N c6 _ 1 _ Q12.out (by omega) (by omega)).mono ?_
  rintro e w13 ⟨rfl, hb13⟩
  have b13 := b12.trans (hb13.mono b12.size)
  have B13 := Lib.hid (B12.out.below hb13 B12.out.lt)
  have Q13 := Lib.hid (Q12.out.below hb13)
  have R13 := Lib.hid (R12.out.below hb13)
  clear hb13 B12 Q12 R12 b12
  obtain ⟨q0, q1, -, -, ql⟩ := B13.out.two
  go_wp2_with fail
  refine (toSystem_any k A n c xs _ (HI.out _ b13) Hn.out).mono ?_
  rintro e w14 ⟨v14, rfl, o14, hb14⟩
  obtain ⟨A14, c14, rfl⟩ := o14.form
  have b14 := b13.trans (hb14.mono b13.size)
  have Q14 := Lib.hid (Q13.out.below hb14)
  have R14 := Lib.hid (R13.out.below hb14)
  clear hb14 B13 Q13 R13 b13 q0 q1 ql
  go_wp2_with fail
  refine (HM.out A14 c14 _ _ o14 b14).mono ?_
  rintro e w15 ⟨v15, rfl, o15, hb15⟩
  obtain ⟨A15, c15, rfl⟩ := o15.form
  have b15 := b14.trans (hb15.mono b14.size)
  have Q15 := Lib.hid (Q14.out.below hb15)
  have R15 := Lib.hid (R14.out.below hb15)
  have V15 := Lib.hid o15
  clear hb15 Q14 R14 b14 o14 o15
  go_wp2_with fail
  refine (eqLinkS_yes A15 A3 N c15 c3 _ _ L _ V15.out R15.out).mono ?_
  rintro e w16 ⟨rfl, hb16⟩
  have b16 := b15.trans (hb16.mono b15.size)
  have Q16 := Lib.hid (Q15.out.below hb16)
  clear hb16 Q15 R15 V15 b15
  go_wp2_with fail
  refine (heldLinkS_yes A6 N c6 _ 1 _ Q16.out (by omega) (by omega)).mono ?_
  rintro e w17 ⟨rfl, hb17⟩
  have b17 := b16.trans (hb17.mono b16.size)
  clear hb17
  go_wp2_with fail
  go_ret
  exact ⟨rfl, b17⟩
set_option maxRecDepth 100000 in
theorem contract (H : Type) (enc : TypeId × Value → H) (W : World) (base : Nat) (args : Array Value) (ds gs : List (DataW H)) (before : List MemPlace)
    (hval : ∀ (j : Nat) t v, Tryd.f6.params[j]? = some t → args[j]? = some v → Value.okWide Tryd.prog W .any base t v)
    (hW : DataW.Whole enc Tryd.prog Tryd.f6.params.toList Rows.fnExactProofOfSpec.vars false W args.toList ds gs before) (hL : laidMetH Tryd.prog Rows.fnExactProofOfRow.laid W) :
    Calls Tryd.prog 6 args W fun e W' => ∃ v, e = .returned v ∧ Rows.fnExactProofOfSpec.post enc Tryd.prog Tryd.f6 false true false false W args v W' := by
  have hW' := hW
  have hL' : laidMet Tryd.prog [("loop.example/g03201/impl.letters", Rows.laid_loop_example_g03201_impl_letters)] W := hL
  obtain ⟨p, q, hA0, hV, rfl, hfz, hnd⟩ := hW
  obtain ⟨g0, rfl⟩ := vars_len1 (trodVars_len hV)
  have hA : DataW.TrodAll enc Tryd.prog W 0 (fun _ => true) true Tryd.f6.params.toList args.toList ds p := hA0
  rw [Tryd.params6] at hA hval
  obtain ⟨v0, vs0, d0, ds0, p0, q0, hargs, rfl, rfl, h0, r0⟩ := trodAll_cons hA
  obtain ⟨v1, vs1, d1, ds1, p1, q1, rfl, rfl, rfl, h1, r1⟩ := trodAll_cons r0
  obtain ⟨v2, vs2, d2, ds2, p2, q2, rfl, rfl, rfl, h2, r2⟩ := trodAll_cons r1
  obtain ⟨rfl, rfl, rfl⟩ := trodAll_nil r2
  obtain rfl : args = #[v0, v1, v2] := by first | exact Array.toList_inj.1 hargs | exact Array.toList_inj.1 hargs.symm | (cases args; simp_all)
  obtain ⟨k0, A0, n0, c0, xs0, rfl, wk0, I0⟩ := open_system Tryd.underlying24 (by kernel_rfl) (by kernel_rfl) Tryd.underlying3 Tryd.underlying22 Tryd.underlying91 (by kernel_rfl) (by kernel_rfl) Tryd.underlying9 Tryd.underlying9 (hval 0 24 v0 rfl rfl) h0
  obtain ⟨a1, rfl, rfl, rfl, b1⟩ := open_string Tryd.underlying9 (hval 1 9 v1 rfl rfl) h1
  obtain ⟨a2, rfl, rfl, rfl, b2⟩ := open_string Tryd.underlying9 (hval 2 9 v2 rfl rfl) h2
  refine (walk k0 wk0 A0 n0 c0 xs0 a1 b1 a2 b2 W I0 (let_of hL')).mono fun e W' ⟨he, hb⟩ => ?_
  subst he
  exact ⟨_, rfl, law_postV hW' rfl rfl Tryd.underlying4 laidOut (by kernel_rfl) (by kernel_rfl) hb⟩

theorem laid_met (os : Os) : laidMet Tryd.prog Rows.fnExactProofOfRow.laid ((laidWorld os).forCall (fun _ _ => 0) ⟨#[], #[.agg #[.int .i64 0, .slice none 0 0], .string .empty, .string .empty], []⟩).memory :=
  laidMet_of_run' 8 (by kernel_rfl) (by kernel_rfl)
theorem reads (os : Os) {H : Type} (enc : TypeId × Value → H) : ∃ places, DataW.whole enc Tryd.prog ((laidWorld os).forCall (fun _ _ => 0) ⟨#[], #[.agg #[.int .i64 0, .slice none 0 0], .string .empty, .string .empty], []⟩).memory Tryd.f6.params.toList Rows.fnExactProofOfSpec.vars false (#[.agg #[.int .i64 0, .slice none 0 0], .string .empty, .string .empty] : Array Value).toList 8 = some ([.agg [.lit (.int .i64 0), .nil], .lit (.string []), .lit (.string [])], [Rows.laid_loop_example_g03201_impl_letters], places) :=
  ⟨MemPlace.row ⟨0, 0, none⟩ 4, by kernel_rfl⟩
set_option maxRecDepth 100000 in
theorem lifted (os : Os) (started : os.Started) (H : Type) (enc : TypeId × Value → H) (F : Stop.Interp) :
    ReturnsInHanded {} Tryd.checked os 6 .any ((OpenSpec.ofChange Rows.fnExactProofOfSpec).preRow enc Tryd.prog Tryd.f6 Rows.fnExactProofOfRow.domain false Rows.fnExactProofOfRow.laid) (((OpenSpec.ofChange Rows.fnExactProofOfSpec).at F).post enc Tryd.prog Tryd.f6 false true false false) := by
  obtain ⟨places, hx⟩ := reads os enc
  refine returnsInHanded_of_row (C := Tryd.checked) (s := OpenSpec.ofChange Rows.fnExactProofOfSpec) own started (by kernel_rfl) Tryd.func6
    (witness_row_at (enc := enc) (C := Tryd.checked) false (laidWorld os) #[.agg #[.int .i64 0, .slice none 0 0], .string .empty, .string .empty] rfl (by kernel_rfl) (by kernel_rfl) (by kernel_rfl)
      (OpenSpec.preRow_of_cond 8 hx (by kernel_rfl) (fun k hk => by cases hk) (by kernel_rfl) (laid_met os))) ?_
  intro W base args ds gs before hval hW _ _ _ hL _ _
  exact contract H enc W base args ds gs before hval hW hL
theorem said : Rows.FnExactProofOfSaid :=
  OpenClaim.holds_of_cond 6 Tryd.f6 rfl rfl rfl rfl rfl rfl rfl ⟨rfl, rfl, rfl, rfl, rfl⟩ rfl rfl rfl rfl rfl (by kernel_rfl) Tryd.func6 (by kernel_rfl)
    (of_decide_eq_true (by kernel_rfl)) (by unfold Func.isWrapper; first | (rw [if_pos (by decide +kernel)]; kernel_rfl) | (rw [if_neg (by decide +kernel)]; exact ⟨rfl, rfl⟩))
    (fun os started H enc _ F => by rw [OpenClaim.pre_eq_preRow]; exact lifted os started H enc F)
theorem plain (f : FuncId) (fn : Func) (hf : Tryd.pinned.checked.prog.funcNamed Rows.fnExactProofOfRow.func = some f) (hfn : Tryd.pinned.checked.prog.funcs[f]? = some fn) :
    false = Tryd.pinned.checked.prog.looks [] ∧ ∀ (j : Nat) t, fn.params[j]? = some t → Tryd.pinned.checked.prog.wantsStandIn t = false := by
  obtain rfl : f = 6 := Option.some.inj ((show Tryd.prog.funcNamed Rows.fnExactProofOfRow.func = some 6 by kernel_rfl).symm.trans hf) |>.symm
  obtain rfl : fn = Tryd.f6 := (Option.some.inj (Tryd.func6.symm.trans hfn)).symm
  refine ⟨by kernel_rfl, fun j t ht => ?_⟩
  rw [Tryd.params6] at ht
  match j, ht with
  | 0, ht => (simp at ht; subst ht; exact (show Tryd.prog.wantsStandIn 24 = false by kernel_rfl))
  | 1, ht => (simp at ht; subst ht; exact (show Tryd.prog.wantsStandIn 9 = false by kernel_rfl))
  | 2, ht => (simp at ht; subst ht; exact (show Tryd.prog.wantsStandIn 9 = false by kernel_rfl))
  | n + 3, ht => simp at ht
theorem proved : Rows.FnExactProofOfCardSaid :=
  Claim7.holds_tied_plain_at .later [] _ _ _ _ said (fun _ h => by cases h) (by kernel_rfl) (fun _ h => by cases h) fnExactProofOf_row_tie rfl ⟨rfl, rfl⟩ (by kernel_rfl) rfl plain (by kernel_rfl)
end Go.Proofs.YtddifhbjjiphiaaDoor.fnExactProofOf
