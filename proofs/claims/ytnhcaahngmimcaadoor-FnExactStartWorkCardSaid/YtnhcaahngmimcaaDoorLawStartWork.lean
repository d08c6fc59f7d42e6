/- For every count of letters and all equations, impl.StartWork answers as its model, in memory of its own: FnExactStartWork returns true. The table of letters is tied to the program's text. -/
import Derived.Test.YtnhcaahngmimcaaDoorStartWork
import Derived.Test.YtnhcaahngmimcaaDoorMarkWork
import Derived.Test.YtnhcaahngmimcaaDoorWorld
namespace Go.Proofs.YtnhcaahngmimcaaDoor.fnExactStartWork
open Go.ChangeShapes Go.WideShapes Go.ChangeAt Go.RowKit
open Go.ChangeMaps (open_string)
theorem startOf_len (k : Int) (l : List R) : (startOf k l).2.1.length ≤ l.length := by
  unfold startOf
  split
  · exact Nat.le_refl _
  · exact Nat.zero_le _
set_option maxRecDepth 100000 in
set_option maxHeartbeats 6400000 in
theorem walk (k : Int) (_wk : (Lit.int .i64 k).wf = true) (A : Option Addr) (n c : Nat) (xs : List R) (w : World) (hI : InR w A n c xs) (h : Let w) :
    Calls Tryd.prog 9 #[.int .i64 k, .slice A n c] w fun e w' => e = .returned (.bool true) ∧ Below w.heap.size w w' := by
  have HL := Lib.hid (fun (w' : World) (hb : Below w.heap.size w w') => h.keep hb (Nat.le_refl _))
  have HI := Lib.hid (fun (w' : World) (hb : Below w.heap.size w w') => hI.keep hb)
  have hxl := hI.1
  clear h
  go_enter Tryd.func9, Tryd.ntmps9
  go_wp2_with fail
  refine (szRuleS_any A n c xs 1048576 _ hI (Nat.le_refl _)).mono ?_
  rintro e w1 ⟨q, rfl, hq, b1⟩
  clear hI
  by_cases hq0 : q < 0
  · go_wp2_with fail
    go_ret
    exact ⟨rfl, b1⟩
  have Hsz : Hid (n + rulesSz xs ≤ 1048576) := by rcases hq with h | h <;> (show _ ≤ _; omega)
  have Hn : Hid (n ≤ 1048576) := by have := Hsz.out; show _ ≤ _; omega
  have Hsm : Hid (smallR xs) := small_of xs (by have := Hsz.out; omega)
  have hlenM := startOf_len k xs
  clear hq
  go_wp2_with fail
  refine (toRuleS_any A n c xs _ (HI.out _ b1) Hn.out).mono ?_
  rintro e w2 ⟨v2, rfl, o2, hb2⟩
  have b2 := b1.trans (hb2.mono b1.size)
  obtain ⟨A2, c2, rfl⟩ := o2.form
  clear hb2
  go_wp2_with fail
  refine (specStartWork k A2 n c2 _ xs _ o2 Hsm.out).mono ?_
  rintro e w3 h3
  have HM := Lib.hid (show ∀ (A : Option Addr) (c B : Nat) (W : World), Own B W (.slice A n c) 2 n (rulesC xs) → Below w.heap.size w W → Calls Tryd.prog 13 #[.int .i64 k, .slice A n c] W fun e w' =>
      ∃ Q d, e = .returned (.tuple #[workV (startOf k xs).1 none 0 0 Q (startOf k xs).2.1.length d 0, .bool (startOf k xs).2.2]) ∧ Own W.heap.size w' (.slice Q (startOf k xs).2.1.length d) 2 (startOf k xs).2.1.length (rulesC (startOf k xs).2.1) ∧ Below W.heap.size W w'
    from fun A c B W ho hb => implStartWork k A n c B xs W ho Hsm.out (HL.out _ hb))
  obtain ⟨Q3, d3, rfl, o3, hb3⟩ := h3
  generalize hSS : startOf k xs = SS at *
  have HSS := Lib.hid hSS
  clear hSS o2
  obtain ⟨KK, QL, CC⟩ := SS
  dsimp only at o3 hlenM HM ⊢
  generalize hNN : QL.length = N at *
  have HNN := Lib.hid hNN
  clear hNN
  have b3 := b2.trans (hb3.mono b2.size)
  have O3 := Lib.hid o3
  clear o3 hb3
  go_wp2_with fail
  have b4 := b3.alloc b3.size (.cells #[.int .i64 KK, .slice none 0 0, .slice Q3 N d3, .int .i64 0] 29)
  have X4 := Lib.hid (Blk.new1 w3 #[.int .i64 KK, .slice none 0 0, .slice Q3 N d3, .int .i64 0] 29)
  have O4 := Lib.hid (O3.out.below (bel1 w3 (.cells #[.int .i64 KK, .slice none 0 0, .slice Q3 N d3, .int .i64 0] 29)))
  clear O3
  generalize w3.alloc (.cells #[.int .i64 KK, .slice none 0 0, .slice Q3 N d3, .int .i64 0] 29) = w4 at *
  have hb34 := X4.out.lt
  refine (toRuleS_any A n c xs _ (HI.out _ b4) Hn.out).mono ?_
  rintro e w5 ⟨v5, rfl, o5, hb5⟩
  obtain ⟨A5, c5, rfl⟩ := o5.form
  have C5 := Lib.hid hb5
  have h45 := hb5.size
  have hP5 := Lib.hid (fun hn => o5.blk_lt hn)
  have P5 := Lib.hid o5
  clear hb5 o5
  go_wp2_with fail
  refine (HM.out A5 c5 _ _ P5.out (b4.trans (C5.out.mono b4.size))).mono ?_
  rintro e w7 ⟨Q7, d7, rfl, o7, hb7⟩
  have C7 := Lib.hid (C5.out.trans (hb7.mono (by omega)))
  have P7 := Lib.hid (P5.out.below hb7)
  have Q7' := Lib.hid o7
  have hQ7 := Lib.hid (fun hn => o7.blk_lt hn)
  have h67 := hb7.size
  clear hb7 o7 P5 C5
  obtain ⟨x0, x1, x2, x3, -, -, -, -, xl⟩ := (X4.out.below C7.out hb34).four
  go_wp2_with fail
  have C8 := Lib.hid (C7.out.alloc (by omega) (.cells #[.int .i64 KK, .slice none 0 0, .slice Q7 N d7, .int .i64 0] 29))
  have P8 := Lib.hid (P7.out.below (bel1 w7 (.cells #[.int .i64 KK, .slice none 0 0, .slice Q7 N d7, .int .i64 0] 29)))
  have Q8 := Lib.hid (Q7'.out.below (bel1 w7 (.cells #[.int .i64 KK, .slice none 0 0, .slice Q7 N d7, .int .i64 0] 29)))
  have Y8 := Lib.hid (Blk.new1 w7 #[.int .i64 KK, .slice none 0 0, .slice Q7 N d7, .int .i64 0] 29)
  have h78 : w7.heap.size < (w7.alloc (.cells #[.int .i64 KK, .slice none 0 0, .slice Q7 N d7, .int .i64 0] 29)).heap.size := by simp
  clear P7 Q7' C7 x0 x1 x2 x3 xl
  generalize w7.alloc (.cells #[.int .i64 KK, .slice none 0 0, .slice Q7 N d7, .int .i64 0] 29) = w8 at *
  refine (eqWork_yes KK 0 none none Q7 Q3 0 0 0 N d7 d3 0 0 _ _ [] QL _ Own.none_ Own.none_ Q8.out (O4.out.below C8.out)).mono ?_
  rintro e w9 ⟨rfl, hb9⟩
  have C9 := Lib.hid (C8.out.trans (hb9.mono (by omega)))
  have P9 := Lib.hid (P8.out.below hb9)
  have Q9 := Lib.hid (Q8.out.below hb9)
  have Y9 := Lib.hid (Y8.out.below hb9 Y8.out.lt)
  have h89 := hb9.size
  have b9 := b4.trans (C9.out.mono b4.size)
  clear hb9 P8 Q8 Y8 C8
  go_wp2_with fail
  refine (toRuleS_any A n c xs _ (HI.out _ b9) Hn.out).mono ?_
  rintro e w10 ⟨v10, rfl, o10, hb10⟩
  obtain ⟨A10, c10, rfl⟩ := o10.form
  have C10 := Lib.hid (C9.out.trans (hb10.mono (by omega)))
  have P10 := Lib.hid (P9.out.below hb10)
  have Q10 := Lib.hid (Q9.out.below hb10)
  have Y10 := Lib.hid (Y9.out.below hb10 Y9.out.lt)
  have h910 := hb10.size
  clear hb10 P9 Q9 Y9 C9 b9
  go_wp2_with fail
  refine (eqRuleS_yes A5 A10 n c5 c10 _ _ xs _ P10.out o10).mono ?_
  rintro e w11 ⟨rfl, hb11⟩
  have C11 := Lib.hid (C10.out.trans (hb11.mono (by omega)))
  have P11 := Lib.hid (P10.out.below hb11)
  have Q11 := Lib.hid (Q10.out.below hb11)
  have Y11 := Lib.hid (Y10.out.below hb11 Y10.out.lt)
  have h911 := hb11.size
  clear hb11 o10 P10 Q10 Y10 C10
  have hN := Hn.out
  have hNx : N ≤ 1048576 := by omega
  go_wp2_with fail
  refine (markRuleS_any A5 n c5 _ 1 xs _ P11.out (by omega) (by omega) (by omega)).mono ?_
  rintro e w12 ⟨rfl, p12, hb12, k12⟩
  have C12 := Lib.hid (C11.out.trans hb12)
  have h12 : w11.heap.size ≤ w12.heap.size := hb12.size
  have Y12 := Lib.hid (k12.blk Y11.out (fun hn => by have := (hP5.out hn).2; omega))
  have Q12 := Lib.hid (Own.keptA Q11.out k12 h12 (fun h1 h2 => by have := (hQ7.out h1).1; have := (hP5.out h2).2; omega))
  clear p12 hb12 k12 P11 Q11 Y11 C11
  obtain ⟨x0, x1, x2, x3, -, -, -, -, xl⟩ := (X4.out.below C12.out hb34).four
  obtain ⟨y0, y1, y2, y3, -, -, -, -, yl⟩ := Y12.out.four
  go_wp2_with fail
  refine (eqWork_yes KK 0 none none Q7 Q3 0 0 0 N d7 d3 0 0 _ _ [] QL _ Own.none_ Own.none_ Q12.out (O4.out.below C12.out)).mono ?_
  rintro e w13 ⟨rfl, hb13⟩
  have h12w := C12.out.size
  have C13 := Lib.hid (C12.out.trans (hb13.mono h12w))
  have Q13 := Lib.hid (Q12.out.below hb13)
  have Y13 := Lib.hid (Y12.out.below hb13 Y12.out.lt)
  have h13 := hb13.size
  clear hb13 Q12 Y12 C12 x0 x1 x2 x3 xl y0 y1 y2 y3 yl
  obtain ⟨y0, y1, y2, y3, -, -, -, -, yl⟩ := Y13.out.four
  go_wp2_with fail
  refine (markWork_any KK 0 1 none Q7 0 0 N d7 w4.heap.size [] QL _ Own.none_ (Q13.out.mono (by omega)) (fun h _ => absurd h (by omega)) (by omega) (by omega) (by omega)).mono ?_
  rintro e w14 ⟨rfl, -, q14, hb14, k14⟩
  have C14 := Lib.hid (C13.out.trans hb14)
  have Y14 := Lib.hid (k14.blk Y13.out (fun hn => absurd hn (by omega)) (fun hn => by have := (hQ7.out hn).2; omega))
  have Q14 := Lib.hid q14
  have h14 := C14.out.size
  clear q14 hb14 k14 Q13 Y13 C13 y0 y1 y2 y3 yl
  obtain ⟨y0, y1, y2, y3, -, -, -, -, yl⟩ := Y14.out.four
  go_wp2_with fail
  refine (heldWork_yes KK 0 1 none Q7 0 0 N d7 0 _ _ Own.none_ Q14.out (by omega) (by omega)).mono ?_
  rintro e w15 ⟨rfl, hb15⟩
  have C15 := Lib.hid (C14.out.trans (hb15.mono h14))
  have Y15 := Lib.hid (Y14.out.below hb15 Y14.out.lt)
  have Q15 := Lib.hid (Q14.out.below hb15)
  have h15 := C15.out.size
  have b15 := b4.trans (C15.out.mono b4.size)
  clear hb15 Q14 Y14 C14 y0 y1 y2 y3 yl
  go_wp2_with fail
  refine (toRuleS_any A n c xs _ (HI.out _ b15) Hn.out).mono ?_
  rintro e w16 ⟨v16, rfl, o16, hb16⟩
  obtain ⟨A16, c16, rfl⟩ := o16.form
  have C16 := Lib.hid (C15.out.trans (hb16.mono h15))
  have Y16 := Lib.hid (Y15.out.below hb16 Y15.out.lt)
  have Q16 := Lib.hid (Q15.out.below hb16)
  have h16 := C16.out.size
  have b16 := b4.trans (C16.out.mono b4.size)
  clear hb16 Q15 Y15 C15 b15
  go_wp2_with fail
  refine (HM.out A16 c16 _ _ o16 b16).mono ?_
  rintro e w17 ⟨Q17', d17, rfl, o17, hb17⟩
  have C17 := Lib.hid (C16.out.trans (hb17.mono h16))
  have Y17 := Lib.hid (Y16.out.below hb17 Y16.out.lt)
  have Q17 := Lib.hid (Q16.out.below hb17)
  have R17 := Lib.hid o17
  have h17 := C17.out.size
  clear hb17 o16 o17 Q16 Y16 C16 b16
  obtain ⟨x0, x1, x2, x3, -, -, -, -, xl⟩ := (X4.out.below C17.out hb34).four
  go_wp2_with fail
  have C18 := Lib.hid (C17.out.alloc h17 (.cells #[.int .i64 KK, .slice none 0 0, .slice Q17' N d17, .int .i64 0] 29))
  have Y18 := Lib.hid (Y17.out.alloc (.cells #[.int .i64 KK, .slice none 0 0, .slice Q17' N d17, .int .i64 0] 29))
  have Q18 := Lib.hid (Q17.out.below (bel1 w17 (.cells #[.int .i64 KK, .slice none 0 0, .slice Q17' N d17, .int .i64 0] 29)))
  have R18 := Lib.hid (R17.out.below (bel1 w17 (.cells #[.int .i64 KK, .slice none 0 0, .slice Q17' N d17, .int .i64 0] 29)))
  clear Q17 R17 Y17 C17 x0 x1 x2 x3 xl
  generalize w17.alloc (.cells #[.int .i64 KK, .slice none 0 0, .slice Q17' N d17, .int .i64 0] 29) = w18 at *
  refine (eqWork_yes KK 0 none none Q17' Q3 0 0 0 N d17 d3 0 0 _ _ [] QL _ Own.none_ Own.none_ R18.out (O4.out.below C18.out)).mono ?_
  rintro e w19 ⟨rfl, hb19⟩
  have h18 := C18.out.size
  have C19 := Lib.hid (C18.out.trans (hb19.mono h18))
  have Y19 := Lib.hid (Y18.out.below hb19 Y18.out.lt)
  have Q19 := Lib.hid (Q18.out.below hb19)
  have h19 := C19.out.size
  clear hb19 Q18 R18 Y18 C18
  obtain ⟨y0, y1, y2, y3, -, -, -, -, yl⟩ := Y19.out.four
  go_wp2_with fail
  refine (heldWork_yes KK 0 1 none Q7 0 0 N d7 0 _ _ Own.none_ Q19.out (by omega) (by omega)).mono ?_
  rintro e w20 ⟨rfl, hb20⟩
  have b20 := b4.trans ((C19.out.trans (hb20.mono h19)).mono b4.size)
  clear hb20 y0 y1 y2 y3 yl
  go_wp2_with fail
  go_ret
  exact ⟨rfl, b20⟩
set_option maxRecDepth 100000 in
theorem contract (H : Type) (enc : TypeId × Value → H) (W : World) (base : Nat) (args : Array Value) (ds gs : List (DataW H)) (before : List MemPlace)
    (hval : ∀ (j : Nat) t v, Tryd.f9.params[j]? = some t → args[j]? = some v → Value.okWide Tryd.prog W .any base t v)
    (hW : DataW.Whole enc Tryd.prog Tryd.f9.params.toList Rows.fnExactStartWorkSpec.vars false W args.toList ds gs before) (hL : laidMetH Tryd.prog Rows.fnExactStartWorkRow.laid W) :
    Calls Tryd.prog 9 args W fun e W' => ∃ v, e = .returned v ∧ Rows.fnExactStartWorkSpec.post enc Tryd.prog Tryd.f9 false true false false W args v W' := by
  have hW' := hW
  have hL' : laidMet Tryd.prog [("loop.example/g03201/impl.letters", Rows.laid_loop_example_g03201_impl_letters)] W := hL
  obtain ⟨p, q, hA0, hV, rfl, hfz, hnd⟩ := hW
  obtain ⟨g0, rfl⟩ := vars_len1 (trodVars_len hV)
  have hA : DataW.TrodAll enc Tryd.prog W 0 (fun _ => true) true Tryd.f9.params.toList args.toList ds p := hA0
  rw [Tryd.params9] at hA hval
  obtain ⟨v0, vs0, d0, ds0, p0, q0, hargs, rfl, rfl, h0, r0⟩ := trodAll_cons hA
  obtain ⟨v1, vs1, d1, ds1, p1, q1, rfl, rfl, rfl, h1, r1⟩ := trodAll_cons r0
  obtain ⟨rfl, rfl, rfl⟩ := trodAll_nil r1
  obtain rfl : args = #[v0, v1] := by first | exact Array.toList_inj.1 hargs | exact Array.toList_inj.1 hargs.symm | (cases args; simp_all)
  obtain ⟨a0, rfl, rfl, rfl, b0⟩ := open_int Tryd.underlying3 (hval 0 3 v0 rfl rfl) h0
  obtain ⟨A1, n1, c1, xs1, rfl, I1⟩ := open_rulesA Tryd.underlying39 Tryd.underlying102 (by kernel_rfl) (by kernel_rfl) Tryd.underlying9 Tryd.underlying9 (hval 1 39 v1 rfl rfl) h1
  refine (walk a0 b0 A1 n1 c1 xs1 W I1 (let_of hL')).mono fun e W' ⟨he, hb⟩ => ?_
  subst he
  exact ⟨_, rfl, law_postV hW' rfl rfl Tryd.underlying4 laidOut (by kernel_rfl) (by kernel_rfl) hb⟩

theorem laid_met (os : Os) : laidMet Tryd.prog Rows.fnExactStartWorkRow.laid ((laidWorld os).forCall (fun _ _ => 0) ⟨#[], #[.int .i64 0, .slice none 0 0], []⟩).memory :=
  laidMet_of_run' 8 (by kernel_rfl) (by kernel_rfl)
theorem reads (os : Os) {H : Type} (enc : TypeId × Value → H) : ∃ places, DataW.whole enc Tryd.prog ((laidWorld os).forCall (fun _ _ => 0) ⟨#[], #[.int .i64 0, .slice none 0 0], []⟩).memory Tryd.f9.params.toList Rows.fnExactStartWorkSpec.vars false (#[.int .i64 0, .slice none 0 0] : Array Value).toList 8 = some ([.lit (.int .i64 0), .nil], [Rows.laid_loop_example_g03201_impl_letters], places) :=
  ⟨MemPlace.row ⟨0, 0, none⟩ 4, by kernel_rfl⟩
set_option maxRecDepth 100000 in
theorem lifted (os : Os) (started : os.Started) (H : Type) (enc : TypeId × Value → H) (F : Stop.Interp) :
    ReturnsInHanded {} Tryd.checked os 9 .any ((OpenSpec.ofChange Rows.fnExactStartWorkSpec).preRow enc Tryd.prog Tryd.f9 Rows.fnExactStartWorkRow.domain false Rows.fnExactStartWorkRow.laid) (((OpenSpec.ofChange Rows.fnExactStartWorkSpec).at F).post enc Tryd.prog Tryd.f9 false true false false) := by
  obtain ⟨places, hx⟩ := reads os enc
  refine returnsInHanded_of_row (C := Tryd.checked) (s := OpenSpec.ofChange Rows.fnExactStartWorkSpec) own started (by kernel_rfl) Tryd.func9
    (witness_row_at (enc := enc) (C := Tryd.checked) false (laidWorld os) #[.int .i64 0, .slice none 0 0] rfl (by kernel_rfl) (by kernel_rfl) (by kernel_rfl)
      (OpenSpec.preRow_of_cond 8 hx (by kernel_rfl) (fun k hk => by cases hk) (by kernel_rfl) (laid_met os))) ?_
  intro W base args ds gs before hval hW _ _ _ hL _ _
  exact contract H enc W base args ds gs before hval hW hL
theorem said : Rows.FnExactStartWorkSaid :=
  OpenClaim.holds_of_cond 9 Tryd.f9 rfl rfl rfl rfl rfl rfl rfl ⟨rfl, rfl, rfl, rfl, rfl⟩ rfl rfl rfl rfl rfl (by kernel_rfl) Tryd.func9 (by kernel_rfl)
    (of_decide_eq_true (by kernel_rfl)) (by unfold Func.isWrapper; first | (rw [if_pos (by decide +kernel)]; kernel_rfl) | (rw [if_neg (by decide +kernel)]; exact ⟨rfl, rfl⟩))
    (fun os started H enc _ F => by rw [OpenClaim.pre_eq_preRow]; exact lifted os started H enc F)
theorem plain (f : FuncId) (fn : Func) (hf : Tryd.pinned.checked.prog.funcNamed Rows.fnExactStartWorkRow.func = some f) (hfn : Tryd.pinned.checked.prog.funcs[f]? = some fn) :
    false = Tryd.pinned.checked.prog.looks [] ∧ ∀ (j : Nat) t, fn.params[j]? = some t → Tryd.pinned.checked.prog.wantsStandIn t = false := by
  obtain rfl : f = 9 := Option.some.inj ((show Tryd.prog.funcNamed Rows.fnExactStartWorkRow.func = some 9 by kernel_rfl).symm.trans hf) |>.symm
  obtain rfl : fn = Tryd.f9 := (Option.some.inj (Tryd.func9.symm.trans hfn)).symm
  refine ⟨by kernel_rfl, fun j t ht => ?_⟩
  rw [Tryd.params9] at ht
  match j, ht with
  | 0, ht => (simp at ht; subst ht; exact (show Tryd.prog.wantsStandIn 3 = false by kernel_rfl))
  | 1, ht => (simp at ht; subst ht; exact (show Tryd.prog.wantsStandIn 39 = false by kernel_rfl))
  | n + 2, ht => simp at ht
theorem proved : Rows.FnExactStartWorkCardSaid :=
  Claim7.holds_tied_plain_at .later [] _ _ _ _ said (fun _ h => by cases h) (by kernel_rfl) (fun _ h => by cases h) fnExactStartWork_row_tie rfl ⟨rfl, rfl⟩ (by kernel_rfl) rfl plain (by kernel_rfl)
end Go.Proofs.YtnhcaahngmimcaaDoor.fnExactStartWork
