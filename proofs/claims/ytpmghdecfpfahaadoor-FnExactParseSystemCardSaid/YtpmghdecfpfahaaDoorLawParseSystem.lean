/- For every string, impl.ParseSystem answers as its model, in memory of its own: FnExactParseSystem returns true. The tables of letters and of powers of ten and the two errors of package strconv are tied to the program's text. -/
import Derived.Test.YtpmghdecfpfahaaDoorParseSystem
import Derived.Test.YtpmghdecfpfahaaDoorMarkRules
import Derived.Test.YtpmghdecfpfahaaDoorWorld
namespace Go.Proofs.YtpmghdecfpfahaaDoor.fnExactParseSystem
open Go.ChangeShapes Go.WideShapes Go.ChangeAt Go.RowKit
open Go.ChangeMaps (open_string)
theorem sysOf_len (n : Int) (b : Bool) (rest : List ByteArray) : (sysOf n b rest).2.1.length ≤ 12 := by
  unfold sysOf
  split
  · rename_i h
    simp only [Bool.and_eq_true] at h
    exact (rulesOk_mem h.2).2.1
  · exact Nat.zero_le _
set_option maxRecDepth 100000 in
set_option maxHeartbeats 3200000 in
theorem walk (s : ByteArray) (_hs : s.size ≤ maxLen) (w : World) (hp : Pow w) (hE : Errs w) (h : Let w) :
    Calls Tryd.prog 10 #[.string s] w fun e w' => e = .returned (.bool true) ∧ Below w.heap.size w w' := by
  by_cases hbig : 1048576 < s.size
  · go_enter Tryd.func10, Tryd.ntmps10
    go_wp2_with fail
    go_ret
    exact ⟨rfl, Below.refl _ _⟩
  have Hs : Hid (s.size ≤ 1048576) := Nat.le_of_not_lt hbig
  have HI := Lib.hid (fun (w' : World) (hb : Below w.heap.size w w') => implParseSystem s w' Hs.out (hp.keep hb (Nat.le_refl _)) (hE.keep hb) (h.keep hb (Nat.le_refl _)))
  clear h hp hE
  go_enter Tryd.func10, Tryd.ntmps10
  go_wp2_with fail
  refine (specParseSystem s _ Hs.out).mono ?_
  rintro e w1 ⟨p, rest, n, b, v0, hpr, hN, rfl, o0, b1⟩
  have hlen := sysOf_len n b rest
  generalize hSS : sysOf n b rest = SS at *
  have HSS := Lib.hid hSS
  clear hSS
  obtain ⟨KK, RL, CC⟩ := SS
  dsimp only at o0 hlen ⊢
  obtain ⟨A0, c0, rfl⟩ := o0.form
  generalize hNN : RL.length = N at *
  have HNN := Lib.hid hNN
  clear hNN
  have O0 := Lib.hid o0
  clear o0
  go_wp2_with fail
  have b2 := b1.alloc b1.size (.cells #[.int .i64 KK, .slice A0 N c0] 36)
  have X2 := Lib.hid (Blk.new1 w1 #[.int .i64 KK, .slice A0 N c0] 36)
  have O2 := Lib.hid (O0.out.below (bel1 w1 (.cells #[.int .i64 KK, .slice A0 N c0] 36)))
  generalize w1.alloc (.cells #[.int .i64 KK, .slice A0 N c0] 36) = w2 at *
  refine (HI.out _ b2).mono ?_
  rintro e w3 ⟨p', rest', n', b', v1, hpr', hN', rfl, o1, hb3⟩
  obtain ⟨rfl, rfl⟩ : p = p' ∧ rest = rest' := by
    have := hpr.symm.trans hpr'
    injection this with e1 e2
    exact ⟨e1, e2⟩
  obtain ⟨rfl, rfl⟩ := hN.one hN'
  rw [HSS.out] at o1 ⊢
  dsimp only at o1 ⊢
  rw [HNN.out] at o1
  obtain ⟨A1, c1, rfl⟩ := o1.form
  have hb12 := X2.out.lt
  have C3 := Lib.hid hb3
  have h23 := hb3.size
  have P3 := Lib.hid o1
  have hP3 := Lib.hid (fun hn => (P3.out.blk_lt hn).2)
  have b3 := b2.trans (hb3.mono b2.size)
  clear hb3 o1 hpr' hN'
  obtain ⟨x0, x1, -, -, xl⟩ := (X2.out.below C3.out hb12).two
  go_wp2_with fail
  have C4 := Lib.hid (C3.out.alloc h23 (.cells #[.int .i64 KK, .slice A1 N c1] 36))
  have Y4 := Lib.hid (Blk.new1 w3 #[.int .i64 KK, .slice A1 N c1] 36)
  have P4 := Lib.hid (P3.out.below (bel1 w3 (.cells #[.int .i64 KK, .slice A1 N c1] 36)))
  have h34 : w3.heap.size < (w3.alloc (.cells #[.int .i64 KK, .slice A1 N c1] 36)).heap.size := by simp
  clear x0 x1 xl P3
  generalize w3.alloc (.cells #[.int .i64 KK, .slice A1 N c1] 36) = w4 at *
  refine (eqSystem_yes KK A1 A0 N c1 c0 _ _ RL _ P4.out (O2.out.below C4.out)).mono ?_
  rintro e w5 ⟨rfl, hb5⟩
  have C5 := Lib.hid (C4.out.trans (hb5.mono (by omega)))
  have Y5 := Lib.hid (Y4.out.below hb5 Y4.out.lt)
  have P5 := Lib.hid (P4.out.below hb5)
  have h45 := hb5.size
  clear hb5 P4 Y4 C4
  obtain ⟨x0, x1, -, -, xl⟩ := (X2.out.below C5.out hb12).two
  obtain ⟨y0, y1, -, -, yl⟩ := Y5.out.two
  go_wp2_with fail
  refine (markSystem_any KK 1 A1 N c1 _ RL _ P5.out (by omega) (by omega) (by omega)).mono ?_
  rintro e w6 ⟨rfl, p6, hb6, k6⟩
  have C6 := Lib.hid (C5.out.trans hb6)
  have Y6 := Lib.hid (k6.blk Y5.out (fun hn => by have := hP3.out hn; omega))
  have P6 := Lib.hid p6
  have h26 := C6.out.size
  clear hb6 p6 k6 P5 Y5 C5 x0 x1 xl y0 y1 yl
  obtain ⟨x0, x1, -, -, xl⟩ := (X2.out.below C6.out hb12).two
  obtain ⟨y0, y1, -, -, yl⟩ := Y6.out.two
  go_wp2_with fail
  refine (heldSystem_yes KK 1 A1 N c1 _ _ P6.out (by omega) (by omega)).mono ?_
  rintro e w7 ⟨rfl, hb7⟩
  have C7 := Lib.hid (C6.out.trans (hb7.mono h26))
  have Y7 := Lib.hid (Y6.out.below hb7 Y6.out.lt)
  have P7 := Lib.hid (P6.out.below hb7)
  have h27 := C7.out.size
  have b7 := b2.trans (C7.out.mono b2.size)
  clear hb7 P6 Y6 C6 x0 x1 xl y0 y1 yl
  obtain ⟨x0, x1, -, -, xl⟩ := (X2.out.below C7.out hb12).two
  obtain ⟨y0, y1, -, -, yl⟩ := Y7.out.two
  go_wp2_with fail
  refine (HI.out _ b7).mono ?_
  rintro e w8 ⟨p', rest', n', b', v8, hpr', hN', rfl, o8, hb8⟩
  obtain ⟨rfl, rfl⟩ : p = p' ∧ rest = rest' := by
    have := hpr.symm.trans hpr'
    injection this with e1 e2
    exact ⟨e1, e2⟩
  obtain ⟨rfl, rfl⟩ := hN.one hN'
  rw [HSS.out] at o8 ⊢
  dsimp only at o8 ⊢
  rw [HNN.out] at o8
  obtain ⟨A8, c8, rfl⟩ := o8.form
  have C8 := Lib.hid (C7.out.trans (hb8.mono h27))
  have Y8 := Lib.hid (Y7.out.below hb8 Y7.out.lt)
  have P8 := Lib.hid (P7.out.below hb8)
  have Q8 := Lib.hid o8
  have h28 := C8.out.size
  clear hb8 o8 hpr' hN' P7 Y7 C7 b7 x0 x1 xl y0 y1 yl
  obtain ⟨x0, x1, -, -, xl⟩ := (X2.out.below C8.out hb12).two
  obtain ⟨y0, y1, -, -, yl⟩ := Y8.out.two
  go_wp2_with fail
  have C9 := Lib.hid (C8.out.alloc h28 (.cells #[.int .i64 KK, .slice A8 N c8] 36))
  have Y9 := Lib.hid (Y8.out.alloc (.cells #[.int .i64 KK, .slice A8 N c8] 36))
  have P9 := Lib.hid (P8.out.below (bel1 w8 (.cells #[.int .i64 KK, .slice A8 N c8] 36)))
  have Q9 := Lib.hid (Q8.out.below (bel1 w8 (.cells #[.int .i64 KK, .slice A8 N c8] 36)))
  clear P8 Q8 Y8 C8 x0 x1 xl y0 y1 yl
  generalize w8.alloc (.cells #[.int .i64 KK, .slice A8 N c8] 36) = w9 at *
  refine (eqSystem_yes KK A8 A0 N c8 c0 _ _ RL _ Q9.out (O2.out.below C9.out)).mono ?_
  rintro e w10 ⟨rfl, hb10⟩
  have h29 := C9.out.size
  have C10 := Lib.hid (C9.out.trans (hb10.mono h29))
  have Y10 := Lib.hid (Y9.out.below hb10 Y9.out.lt)
  have P10 := Lib.hid (P9.out.below hb10)
  have h210 := C10.out.size
  clear hb10 P9 Q9 Y9 C9
  obtain ⟨x0, x1, -, -, xl⟩ := (X2.out.below C10.out hb12).two
  obtain ⟨y0, y1, -, -, yl⟩ := Y10.out.two
  go_wp2_with fail
  refine (heldSystem_yes KK 1 A1 N c1 _ _ P10.out (by omega) (by omega)).mono ?_
  rintro e w11 ⟨rfl, hb11⟩
  have b11 := b2.trans ((C10.out.trans (hb11.mono h210)).mono b2.size)
  clear hb11 x0 x1 xl y0 y1 yl
  go_wp2_with fail
  go_ret
  exact ⟨rfl, b11⟩
set_option maxRecDepth 100000 in
theorem contract (H : Type) (enc : TypeId × Value → H) (W : World) (base : Nat) (args : Array Value) (ds gs : List (DataW H)) (before : List MemPlace)
    (hval : ∀ (j : Nat) t v, Tryd.f10.params[j]? = some t → args[j]? = some v → Value.okWide Tryd.prog W .any base t v)
    (hW : DataW.Whole enc Tryd.prog Tryd.f10.params.toList Rows.fnExactParseSystemSpec.vars false W args.toList ds gs before) (hL : laidMetH Tryd.prog Rows.fnExactParseSystemRow.laid W) :
    Calls Tryd.prog 10 args W fun e W' => ∃ v, e = .returned v ∧ Rows.fnExactParseSystemSpec.post enc Tryd.prog Tryd.f10 false true false false W args v W' := by
  have hW' := hW
  have hL' : laidMet Tryd.prog [("math/bits.deBruijn32tab", Rows.laid_math_bits_deBruijn32tab), ("math/bits.deBruijn64tab", Rows.laid_math_bits_deBruijn64tab), ("internal/strconv.uint64pow10", Rows.laid_internal_strconv_uint64pow10), ("strconv.ErrRange", Rows.laid_strconv_ErrRange), ("strconv.ErrSyntax", Rows.laid_strconv_ErrSyntax), ("loop.example/g03201/impl.letters", Rows.laid_loop_example_g03201_impl_letters)] W := hL
  obtain ⟨p, q, hA0, hV, rfl, hfz, hnd⟩ := hW
  obtain ⟨g0, rfl⟩ := vars_len1 (trodVars_len hV)
  have hA : DataW.TrodAll enc Tryd.prog W 0 (fun _ => true) true Tryd.f10.params.toList args.toList ds p := hA0
  rw [Tryd.params10] at hA hval
  obtain ⟨v0, vs0, d0, ds0, p0, q0, hargs, rfl, rfl, h0, r0⟩ := trodAll_cons hA
  obtain ⟨rfl, rfl, rfl⟩ := trodAll_nil r0
  obtain rfl : args = #[v0] := by first | exact Array.toList_inj.1 hargs | exact Array.toList_inj.1 hargs.symm | (cases args; simp_all)
  obtain ⟨a0, rfl, rfl, rfl, b0⟩ := open_string Tryd.underlying9 (hval 0 9 v0 rfl rfl) h0
  refine (walk a0 b0 W (pow_of hL'.tail.tail) (errs_of hL'.tail.tail.tail) (let_of hL'.tail.tail.tail.tail.tail)).mono fun e W' ⟨he, hb⟩ => ?_
  subst he
  exact ⟨_, rfl, law_postV hW' rfl rfl Tryd.underlying4 laidOut (by kernel_rfl) (by kernel_rfl) hb⟩

theorem laid_met (os : Os) : laidMet Tryd.prog Rows.fnExactParseSystemRow.laid ((laidWorld os).forCall (fun _ _ => 0) ⟨#[], #[.string .empty], []⟩).memory :=
  laidMet_of_run' 8 (by kernel_rfl) (by kernel_rfl)
theorem reads (os : Os) {H : Type} (enc : TypeId × Value → H) : ∃ places, DataW.whole enc Tryd.prog ((laidWorld os).forCall (fun _ _ => 0) ⟨#[], #[.string .empty], []⟩).memory Tryd.f10.params.toList Rows.fnExactParseSystemSpec.vars false (#[.string .empty] : Array Value).toList 8 = some ([.lit (.string [])], [Rows.laid_loop_example_g03201_impl_letters], places) :=
  ⟨MemPlace.row ⟨0, 0, none⟩ 4, by kernel_rfl⟩
set_option maxRecDepth 100000 in
theorem lifted (os : Os) (started : os.Started) (H : Type) (enc : TypeId × Value → H) (F : Stop.Interp) :
    ReturnsInHanded {} Tryd.checked os 10 .any ((OpenSpec.ofChange Rows.fnExactParseSystemSpec).preRow enc Tryd.prog Tryd.f10 Rows.fnExactParseSystemRow.domain false Rows.fnExactParseSystemRow.laid) (((OpenSpec.ofChange Rows.fnExactParseSystemSpec).at F).post enc Tryd.prog Tryd.f10 false true false false) := by
  obtain ⟨places, hx⟩ := reads os enc
  refine returnsInHanded_of_row (C := Tryd.checked) (s := OpenSpec.ofChange Rows.fnExactParseSystemSpec) own started (by kernel_rfl) Tryd.func10
    (witness_row_atRef (enc := enc) (C := Tryd.checked) false (laidWorld os) #[.string .empty] rfl (by kernel_rfl) (by kernel_rfl) (by kernel_rfl)
      (OpenSpec.preRow_of_cond 8 hx (by kernel_rfl) (fun k hk => by cases hk) (by kernel_rfl) (laid_met os))) ?_
  intro W base args ds gs before hval hW _ _ _ hL _ _
  exact contract H enc W base args ds gs before hval hW hL
theorem said : Rows.FnExactParseSystemSaid :=
  OpenClaim.holds_of_cond 10 Tryd.f10 rfl rfl rfl rfl rfl rfl rfl ⟨rfl, rfl, rfl, rfl, rfl⟩ rfl rfl rfl rfl rfl (by kernel_rfl) Tryd.func10 (by kernel_rfl)
    (of_decide_eq_true (by kernel_rfl)) (by unfold Func.isWrapper; first | (rw [if_pos (by decide +kernel)]; kernel_rfl) | (rw [if_neg (by decide +kernel)]; exact ⟨rfl, rfl⟩))
    (fun os started H enc _ F => by rw [OpenClaim.pre_eq_preRow]; exact lifted os started H enc F)
theorem plain (f : FuncId) (fn : Func) (hf : Tryd.pinned.checked.prog.funcNamed Rows.fnExactParseSystemRow.func = some f) (hfn : Tryd.pinned.checked.prog.funcs[f]? = some fn) :
    true = Tryd.pinned.checked.prog.looks [] ∧ ∀ (j : Nat) t, fn.params[j]? = some t → Tryd.pinned.checked.prog.wantsStandIn t = false := by
  obtain rfl : f = 10 := Option.some.inj ((show Tryd.prog.funcNamed Rows.fnExactParseSystemRow.func = some 10 by kernel_rfl).symm.trans hf) |>.symm
  obtain rfl : fn = Tryd.f10 := (Option.some.inj (Tryd.func10.symm.trans hfn)).symm
  refine ⟨by kernel_rfl, fun j t ht => ?_⟩
  rw [Tryd.params10] at ht
  match j, ht with
  | 0, ht => (simp at ht; subst ht; exact (show Tryd.prog.wantsStandIn 9 = false by kernel_rfl))
  | n + 1, ht => simp at ht
theorem proved : Rows.FnExactParseSystemCardSaid :=
  Claim7.holds_tied_plain_at .later [] _ _ _ _ said (fun _ h => by cases h) (by kernel_rfl) (fun _ h => by cases h) fnExactParseSystem_row_tie rfl ⟨rfl, rfl⟩ (by kernel_rfl) rfl plain (by kernel_rfl)
end Go.Proofs.YtpmghdecfpfahaaDoor.fnExactParseSystem
