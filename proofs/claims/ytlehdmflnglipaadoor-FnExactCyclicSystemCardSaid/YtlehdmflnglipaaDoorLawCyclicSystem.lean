/- For every number, impl.CyclicSystem answers as its model, and its answer owns its memory: FnExactCyclicSystem returns true. The table of letters is tied to the program's text. -/
import Derived.Test.YtlehdmflnglipaaDoorImplCyc
import Derived.Test.YtlehdmflnglipaaDoorMarkRules
import Derived.Test.YtlehdmflnglipaaDoorWorld
import Derived.Deep.RegionHeld3
namespace Go.Proofs.YtlehdmflnglipaaDoor.fnExactCyclicSystem
open Go.ChangeShapes Go.WideShapes Go.ChangeAt Go.RowKit
set_option maxRecDepth 100000 in
set_option maxHeartbeats 3200000 in
theorem walk (k : Int) (_wk : (Lit.int .i64 k).wf = true) (w : World) (h : Let w) :
    Calls Tryd.prog 3 #[.int .i64 k] w fun e w' => e = .returned (.bool true) ∧ Below w.heap.size w w' := by
  have HL := Lib.hid (fun (w' : World) (hb : Below w.heap.size w w') => h.keep hb (Nat.le_refl _))
  have HI := Lib.hid (fun (W : World) (hb : Below w.heap.size w W) => implCyclicSystem k W (HL.out _ hb))
  have hlenM := cycP_len k
  clear h
  go_enter Tryd.func3, Tryd.ntmps3
  go_wp2_with fail
  refine (specCyclicSystem k _).mono ?_
  rintro e w3 h3
  obtain ⟨A3, c3, rfl, o3, hb3⟩ := h3
  generalize hSS : cycP k = SS at *
  have HSS := Lib.hid hSS
  clear hSS
  obtain ⟨KK, RL, CC⟩ := SS
  unfold SysAns at HI
  dsimp only at o3 hlenM HI ⊢
  generalize hNN : RL.length = N at *
  have HNN := Lib.hid hNN
  clear hNN
  have b3 := hb3
  have O3 := Lib.hid o3
  clear o3 hb3
  go_wp2_with fail
  have b4 := b3.alloc b3.size (.cells #[.int .i64 KK, .slice A3 N c3] 24)
  have X4 := Lib.hid (Blk.new1 w3 #[.int .i64 KK, .slice A3 N c3] 24)
  have O4 := Lib.hid (O3.out.below (bel1 w3 (.cells #[.int .i64 KK, .slice A3 N c3] 24)))
  clear O3
  generalize w3.alloc (.cells #[.int .i64 KK, .slice A3 N c3] 24) = w4 at *
  have hb34 := X4.out.lt
  refine (HI.out _ b4).mono ?_
  rintro e w7 ⟨A7, c7, rfl, o7, hb7⟩
  have C7 := Lib.hid hb7
  have Q7 := Lib.hid o7
  have hQ7 := Lib.hid (fun hn => o7.blk_lt hn)
  have h67 := hb7.size
  clear hb7 o7
  obtain ⟨x0, x1, -, -, xl⟩ := (X4.out.below C7.out hb34).two
  go_wp2_with fail
  have C8 := Lib.hid (C7.out.alloc (by omega) (.cells #[.int .i64 KK, .slice A7 N c7] 24))
  have Q8 := Lib.hid (Q7.out.below (bel1 w7 (.cells #[.int .i64 KK, .slice A7 N c7] 24)))
  have Y8 := Lib.hid (Blk.new1 w7 #[.int .i64 KK, .slice A7 N c7] 24)
  have h78 : w7.heap.size < (w7.alloc (.cells #[.int .i64 KK, .slice A7 N c7] 24)).heap.size := by simp
  clear Q7 C7 x0 x1 xl
  generalize w7.alloc (.cells #[.int .i64 KK, .slice A7 N c7] 24) = w8 at *
  refine (eqSystem_yes KK A7 A3 N c7 c3 _ _ RL _ Q8.out (O4.out.below C8.out)).mono ?_
  rintro e w9 ⟨rfl, hb9⟩
  have C9 := Lib.hid (C8.out.trans (hb9.mono (by omega)))
  have Q9 := Lib.hid (Q8.out.below hb9)
  have Y9 := Lib.hid (Y8.out.below hb9 Y8.out.lt)
  have h89 := hb9.size
  clear hb9 Q8 Y8 C8
  obtain ⟨y0, y1, -, -, yl⟩ := Y9.out.two
  go_wp2_with fail
  refine (markSystem_any KK 1 A7 N c7 w4.heap.size RL _ (Q9.out.mono (by omega)) (by omega) (by omega) (by omega)).mono ?_
  rintro e w14 ⟨rfl, q14, hb14, k14⟩
  have C14 := Lib.hid (C9.out.trans hb14)
  have Y14 := Lib.hid (k14.blk Y9.out (fun hn => by have := (hQ7.out hn).2; omega))
  have Q14 := Lib.hid q14
  have h14 := C14.out.size
  clear q14 hb14 k14 Q9 Y9 C9 y0 y1 yl
  obtain ⟨y0, y1, -, -, yl⟩ := Y14.out.two
  go_wp2_with fail
  refine (heldSystem_yes KK 1 A7 N c7 _ _ Q14.out (by omega) (by omega)).mono ?_
  rintro e w15 ⟨rfl, hb15⟩
  have C15 := Lib.hid (C14.out.trans (hb15.mono h14))
  have Y15 := Lib.hid (Y14.out.below hb15 Y14.out.lt)
  have Q15 := Lib.hid (Q14.out.below hb15)
  have h15 := C15.out.size
  have b15 := b4.trans (C15.out.mono b4.size)
  clear hb15 Q14 Y14 C14 y0 y1 yl
  go_wp2_with fail
  refine (HI.out _ b15).mono ?_
  rintro e w17 ⟨A17, c17, rfl, o17, hb17⟩
  have C17 := Lib.hid (C15.out.trans (hb17.mono h15))
  have Y17 := Lib.hid (Y15.out.below hb17 Y15.out.lt)
  have Q17 := Lib.hid (Q15.out.below hb17)
  have R17 := Lib.hid o17
  have h17 := C17.out.size
  clear hb17 o17 Q15 Y15 C15 b15
  obtain ⟨x0, x1, -, -, xl⟩ := (X4.out.below C17.out hb34).two
  go_wp2_with fail
  have C18 := Lib.hid (C17.out.alloc h17 (.cells #[.int .i64 KK, .slice A17 N c17] 24))
  have Y18 := Lib.hid (Y17.out.alloc (.cells #[.int .i64 KK, .slice A17 N c17] 24))
  have Q18 := Lib.hid (Q17.out.below (bel1 w17 (.cells #[.int .i64 KK, .slice A17 N c17] 24)))
  have R18 := Lib.hid (R17.out.below (bel1 w17 (.cells #[.int .i64 KK, .slice A17 N c17] 24)))
  clear Q17 R17 Y17 C17 x0 x1 xl
  generalize w17.alloc (.cells #[.int .i64 KK, .slice A17 N c17] 24) = w18 at *
  refine (eqSystem_yes KK A17 A3 N c17 c3 _ _ RL _ R18.out (O4.out.below C18.out)).mono ?_
  rintro e w19 ⟨rfl, hb19⟩
  have h18 := C18.out.size
  have C19 := Lib.hid (C18.out.trans (hb19.mono h18))
  have Y19 := Lib.hid (Y18.out.below hb19 Y18.out.lt)
  have Q19 := Lib.hid (Q18.out.below hb19)
  have h19 := C19.out.size
  clear hb19 Q18 R18 Y18 C18
  obtain ⟨y0, y1, -, -, yl⟩ := Y19.out.two
  go_wp2_with fail
  refine (heldSystem_yes KK 1 A7 N c7 _ _ Q19.out (by omega) (by omega)).mono ?_
  rintro e w20 ⟨rfl, hb20⟩
  have b20 := b4.trans ((C19.out.trans (hb20.mono h19)).mono b4.size)
  clear hb20 y0 y1 yl
  go_wp2_with fail
  go_ret
  exact ⟨rfl, b20⟩
set_option maxRecDepth 100000 in
theorem contract (H : Type) (enc : TypeId × Value → H) (W : World) (base : Nat) (args : Array Value) (ds gs : List (DataW H)) (before : List MemPlace)
    (hval : ∀ (j : Nat) t v, Tryd.f3.params[j]? = some t → args[j]? = some v → Value.okWide Tryd.prog W .any base t v)
    (hW : DataW.Whole enc Tryd.prog Tryd.f3.params.toList Rows.fnExactCyclicSystemSpec.vars false W args.toList ds gs before) (hL : laidMetH Tryd.prog Rows.fnExactCyclicSystemRow.laid W) :
    Calls Tryd.prog 3 args W fun e W' => ∃ v, e = .returned v ∧ Rows.fnExactCyclicSystemSpec.post enc Tryd.prog Tryd.f3 false true false false W args v W' := by
  have hW' := hW
  have hL' : laidMet Tryd.prog [("loop.example/g03201/impl.letters", Rows.laid_loop_example_g03201_impl_letters)] W := hL
  obtain ⟨p, q, hA0, hV, rfl, hfz, hnd⟩ := hW
  obtain ⟨g0, rfl⟩ := vars_len1 (trodVars_len hV)
  have hA : DataW.TrodAll enc Tryd.prog W 0 (fun _ => true) true Tryd.f3.params.toList args.toList ds p := hA0
  rw [Tryd.params3] at hA hval
  obtain ⟨v0, vs0, d0, ds0, p0, q0, hargs, rfl, rfl, h0, r0⟩ := trodAll_cons hA
  obtain ⟨rfl, rfl, rfl⟩ := trodAll_nil r0
  obtain rfl : args = #[v0] := by first | exact Array.toList_inj.1 hargs | exact Array.toList_inj.1 hargs.symm | (cases args; simp_all)
  obtain ⟨a0, rfl, rfl, rfl, b0⟩ := open_int Tryd.underlying3 (hval 0 3 v0 rfl rfl) h0
  refine (walk a0 b0 W (let_of hL')).mono fun e W' ⟨he, hb⟩ => ?_
  subst he
  exact ⟨_, rfl, law_postV hW' rfl rfl Tryd.underlying4 laidOut (by kernel_rfl) (by kernel_rfl) hb⟩

theorem laid_met (os : Os) : laidMet Tryd.prog Rows.fnExactCyclicSystemRow.laid ((laidWorld os).forCall (fun _ _ => 0) ⟨#[], #[.int .i64 0], []⟩).memory :=
  laidMet_of_run' 8 (by kernel_rfl) (by kernel_rfl)
theorem reads (os : Os) {H : Type} (enc : TypeId × Value → H) : ∃ places, DataW.whole enc Tryd.prog ((laidWorld os).forCall (fun _ _ => 0) ⟨#[], #[.int .i64 0], []⟩).memory Tryd.f3.params.toList Rows.fnExactCyclicSystemSpec.vars false (#[.int .i64 0] : Array Value).toList 8 = some ([.lit (.int .i64 0)], [Rows.laid_loop_example_g03201_impl_letters], places) :=
  ⟨MemPlace.row ⟨0, 0, none⟩ 4, by kernel_rfl⟩
set_option maxRecDepth 100000 in
theorem lifted (os : Os) (started : os.Started) (H : Type) (enc : TypeId × Value → H) (F : Stop.Interp) :
    ReturnsInHanded {} Tryd.checked os 3 .any ((OpenSpec.ofChange Rows.fnExactCyclicSystemSpec).preRow enc Tryd.prog Tryd.f3 Rows.fnExactCyclicSystemRow.domain false Rows.fnExactCyclicSystemRow.laid) (((OpenSpec.ofChange Rows.fnExactCyclicSystemSpec).at F).post enc Tryd.prog Tryd.f3 false true false false) := by
  obtain ⟨places, hx⟩ := reads os enc
  refine returnsInHanded_of_row (C := Tryd.checked) (s := OpenSpec.ofChange Rows.fnExactCyclicSystemSpec) own started (by kernel_rfl) Tryd.func3
    (witness_row_at (enc := enc) (C := Tryd.checked) false (laidWorld os) #[.int .i64 0] rfl (by kernel_rfl) (by kernel_rfl) (by kernel_rfl)
      (OpenSpec.preRow_of_cond 8 hx (by kernel_rfl) (fun k hk => by cases hk) (by kernel_rfl) (laid_met os))) ?_
  intro W base args ds gs before hval hW _ _ _ hL _ _
  exact contract H enc W base args ds gs before hval hW hL
theorem said : Rows.FnExactCyclicSystemSaid :=
  OpenClaim.holds_of_cond 3 Tryd.f3 rfl rfl rfl rfl rfl rfl rfl ⟨rfl, rfl, rfl, rfl, rfl⟩ rfl rfl rfl rfl rfl (by kernel_rfl) Tryd.func3 (by kernel_rfl)
    (of_decide_eq_true (by kernel_rfl)) (by unfold Func.isWrapper; first | (rw [if_pos (by decide +kernel)]; kernel_rfl) | (rw [if_neg (by decide +kernel)]; exact ⟨rfl, rfl⟩))
    (fun os started H enc _ F => by rw [OpenClaim.pre_eq_preRow]; exact lifted os started H enc F)
theorem plain (f : FuncId) (fn : Func) (hf : Tryd.pinned.checked.prog.funcNamed Rows.fnExactCyclicSystemRow.func = some f) (hfn : Tryd.pinned.checked.prog.funcs[f]? = some fn) :
    false = Tryd.pinned.checked.prog.looks [] ∧ ∀ (j : Nat) t, fn.params[j]? = some t → Tryd.pinned.checked.prog.wantsStandIn t = false := by
  obtain rfl : f = 3 := Option.some.inj ((show Tryd.prog.funcNamed Rows.fnExactCyclicSystemRow.func = some 3 by kernel_rfl).symm.trans hf) |>.symm
  obtain rfl : fn = Tryd.f3 := (Option.some.inj (Tryd.func3.symm.trans hfn)).symm
  refine ⟨by kernel_rfl, fun j t ht => ?_⟩
  rw [Tryd.params3] at ht
  match j, ht with
  | 0, ht => (simp at ht; subst ht; exact (show Tryd.prog.wantsStandIn 3 = false by kernel_rfl))
  | n + 1, ht => simp at ht
theorem proved : Rows.FnExactCyclicSystemCardSaid :=
  Claim7.holds_tied_plain_at .later [] _ _ _ _ said (fun _ h => by cases h) (by kernel_rfl) (fun _ h => by cases h) fnExactCyclicSystem_row_tie rfl ⟨rfl, rfl⟩ (by kernel_rfl) rfl plain (by kernel_rfl)
end Go.Proofs.YtlehdmflnglipaaDoor.fnExactCyclicSystem
