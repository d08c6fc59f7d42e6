/- For every code, an int is recovered from its text and a string from its parts: FnWords returns true. The library's variables that the row lists are tied to the program's text. -/
import Derived.Test.YtcdndnnmcjpdnaaDoorParse
import Derived.Test.YtcdndnnmcjpdnaaDoorDraw
import Derived.Test.YtcdndnnmcjpdnaaDoorJoinSplit
import Derived.Test.YtcdndnnmcjpdnaaDoorJoin
import Derived.Test.YtcdndnnmcjpdnaaDoorName
import Derived.Test.YtcdndnnmcjpdnaaDoorLines
import Derived.Test.YtcdndnnmcjpdnaaDoorWorld
namespace Go.Proofs.YtcdndnnmcjpdnaaDoor.fnWords
open Go.Joins Go.ChangeShapes Go.WideShapes Go.ChangeAt Go.RowKit
theorem name_x1 : isName ⟨#[120, 49]⟩ = true := by decide
theorem lines_ab : (linesL ⟨#[97, 10, 98, 10]⟩).length = 2 := by decide
set_option maxHeartbeats 1600000 in
set_option maxRecDepth 100000 in
theorem walk (A : Option Addr) (n c : Nat) (w : World) (h : InB w A n c) (hp : Pow w) (hE : Errs w) :
    Calls Tryd.prog 3 #[.slice A n c] w fun e w' => e = .returned (.bool true) ∧ Below w.heap.size w w' := by
  have Hp := Lib.hid hp
  have HE := Lib.hid hE
  have hc : n ≤ maxLen := by have := h.1; have := h.2.1; omega
  unfold maxLen at hc
  clear hp hE
  by_cases hbig : 1048576 < n
  · go_enter Tryd.func3, Tryd.ntmps3
    go_wp2_with fail
    go_ret
    exact ⟨rfl, Below.refl _ _⟩
  have hn : n ≤ 1048576 := Nat.le_of_not_lt hbig
  go_enter Tryd.func3, Tryd.ntmps3
  go_wp2_with (go_at_call 6; refine (MakeNum_any A n c 1 _ h hn (by omega)).mono ?_)
  rintro e w1 ⟨r, rfl, hr0, hr1, b1⟩
  have s1 := b1.size
  have Hp1 := Lib.hid (Hp.out.keep b1 (Nat.le_refl _))
  have hin : In64 (r - 30000) := ⟨by omega, by omega⟩
  have hsz := itoaS_size (r - 30000) hin.1 hin.2
  go_wp2_with (go_at_call 8; refine (implFormatInt _ _ hin.1 hin.2 Hp1.out).mono ?_)
  rintro e w2 ⟨rfl, b2⟩
  have bb2 := b1.trans (b2.mono s1)
  have s2 := bb2.size
  have Hp2 := Lib.hid (Hp.out.keep bb2 (Nat.le_refl _))
  have HE2 := Lib.hid (HE.out.keep bb2)
  go_wp2_with (go_at_call 7; refine (implParseInt _ _ (by omega) Hp2.out HE2.out).mono ?_)
  rintro e w3 ⟨v, ok, rfl, hv, b3⟩
  obtain ⟨rfl, rfl⟩ := hv.one (r' := r - 30000) (ok' := true) (Or.inl ⟨rfl, rfl, hin⟩)
  clear hv
  have bb3 := bb2.trans (b3.mono s2)
  have s3 := bb3.size
  go_wp2_with (go_at_call 9; refine (MakeText_any A n c _ (h.keep bb3) hn).mono ?_)
  rintro e w4 ⟨s, rfl, hs, b4⟩
  have bb4 := bb3.trans (b4.mono s3)
  have s4 := bb4.size
  have hll := splitL_len (sepOf blank.data.toList) s.data.toList
  have hl2 : s.data.toList.length = s.size := by simp
  have htt := total_splitL s
  have HJ := Lib.hid (join_split_blank s)
  go_wp2_with fail
  refine (implSplitAny s blank _ (by omega) (by unfold maxLen; decide)).mono ?_
  rintro e w5 ⟨v0, rfl, o0, b5⟩
  have bb5 := bb4.trans (b5.mono s4)
  have s5 := bb5.size
  obtain ⟨A0, c0, rfl⟩ := o0.form
  generalize splitL (sepOf blank.data.toList) s.data.toList = L at *
  go_wp2_with fail
  refine (implJoin A0 L.length c0 _ L blank _ o0 (by decide) (by omega) (by omega)).mono ?_
  rw [HJ.out]
  rintro e w6 ⟨rfl, b6⟩
  have bb6 := bb5.trans (b6.mono s5)
  have s6 := bb6.size
  have hnm := name_x1
  go_wp2_with fail
  refine (implIsName ⟨#[120, 49]⟩ _).mono ?_
  rw [hnm]
  rintro e w7 ⟨rfl, b7⟩
  have bb7 := bb6.trans (b7.mono s6)
  have s7 := bb7.size
  go_wp2_with fail
  refine (implSplitLines ⟨#[97, 10, 98, 10]⟩ _ (by decide)).mono ?_
  rintro e w8 ⟨v1, rfl, o1, b8⟩
  have bb8 := bb7.trans (b8.mono s7)
  rw [lines_ab] at o1
  obtain ⟨A1, c1, rfl⟩ := o1.form
  clear o1 o0
  go_wp2_with fail
  go_ret
  exact ⟨rfl, bb8⟩
theorem contract (H : Type) (enc : TypeId × Value → H) (W : World) (base : Nat) (args : Array Value) (ds gs : List (DataW H)) (before : List MemPlace)
    (hval : ∀ (j : Nat) t v, Tryd.f3.params[j]? = some t → args[j]? = some v → Value.okWide Tryd.prog W .any base t v)
    (hW : DataW.Whole enc Tryd.prog Tryd.f3.params.toList Rows.fnWordsSpec.vars false W args.toList ds gs before) (hL : laidMetH Tryd.prog Rows.fnWordsRow.laid W) :
    Calls Tryd.prog 3 args W fun e W' => ∃ v, e = .returned v ∧ Rows.fnWordsSpec.post enc Tryd.prog Tryd.f3 false true false false W args v W' := by
  have hW' := hW
  have hL' : laidMet Tryd.prog [("math/bits.deBruijn32tab", Rows.laid_math_bits_deBruijn32tab), ("math/bits.deBruijn64tab", Rows.laid_math_bits_deBruijn64tab), ("internal/strconv.uint64pow10", Rows.laid_internal_strconv_uint64pow10), ("strconv.ErrRange", Rows.laid_strconv_ErrRange), ("strconv.ErrSyntax", Rows.laid_strconv_ErrSyntax)] W := hL
  obtain ⟨p, q, hA0, hV, rfl, hfz, hnd⟩ := hW
  have hA : DataW.TrodAll enc Tryd.prog W 0 (fun _ => true) true Tryd.f3.params.toList args.toList ds p := hA0
  rw [Tryd.params3] at hA hval
  obtain ⟨v0, vs0, d0, ds0, p0, q0, hargs, rfl, rfl, h0, r0⟩ := trodAll_cons hA
  obtain ⟨rfl, rfl, rfl⟩ := trodAll_nil r0
  obtain rfl : args = #[v0] := by cases args; simp_all
  obtain ⟨A0, n0, c0, rfl, B0⟩ := open_bytes Tryd.underlying22 Tryd.underlying5 (by kernel_rfl) (hval 0 22 v0 rfl rfl) h0
  refine (walk A0 n0 c0 W B0 (pow_of hL'.tail.tail) (errs_of hL'.tail.tail.tail)).mono fun e W' ⟨he, hb⟩ => ?_
  subst he
  exact ⟨_, rfl, law_post hW' rfl rfl rfl Tryd.underlying4 laidOut (by kernel_rfl) hb⟩

theorem laid_met (os : Os) : laidMet Tryd.prog Rows.fnWordsRow.laid ((laidWorld os).forCall (fun _ _ => 0) ⟨#[], #[.slice none 0 0], []⟩).memory :=
  laidMet_of_run' 8 (by kernel_rfl) (by kernel_rfl)
theorem reads (os : Os) {H : Type} (enc : TypeId × Value → H) : ∃ places, DataW.whole enc Tryd.prog ((laidWorld os).forCall (fun _ _ => 0) ⟨#[], #[.slice none 0 0], []⟩).memory Tryd.f3.params.toList Rows.fnWordsSpec.vars false (#[.slice none 0 0] : Array Value).toList 8 = some ([.nil], [], places) :=
  ⟨[], by kernel_rfl⟩
set_option maxRecDepth 100000 in
theorem lifted (os : Os) (started : os.Started) (H : Type) (enc : TypeId × Value → H) (F : Stop.Interp) :
    ReturnsInHanded {} Tryd.checked os 3 .any ((OpenSpec.ofChange Rows.fnWordsSpec).preRow enc Tryd.prog Tryd.f3 Rows.fnWordsRow.domain false Rows.fnWordsRow.laid) (((OpenSpec.ofChange Rows.fnWordsSpec).at F).post enc Tryd.prog Tryd.f3 false true false false) := by
  obtain ⟨places, hx⟩ := reads os enc
  refine returnsInHanded_of_row (C := Tryd.checked) (s := OpenSpec.ofChange Rows.fnWordsSpec) own started (by kernel_rfl) Tryd.func3
    (witness_row_atRef (enc := enc) (C := Tryd.checked) false (laidWorld os) #[.slice none 0 0] rfl (by kernel_rfl) (by kernel_rfl) (by kernel_rfl)
      (OpenSpec.preRow_of_cond 8 hx (by kernel_rfl) (fun k hk => by cases hk) (by kernel_rfl) (laid_met os))) ?_
  intro W base args ds gs before hval hW _ _ _ hL _ _
  exact contract H enc W base args ds gs before hval hW hL
theorem said : Rows.FnWordsSaid :=
  OpenClaim.holds_of_cond 3 Tryd.f3 rfl rfl rfl rfl rfl rfl rfl ⟨rfl, rfl, rfl, rfl, rfl⟩ rfl rfl rfl rfl rfl (by kernel_rfl) Tryd.func3 (by kernel_rfl)
    (of_decide_eq_true (by kernel_rfl)) (by unfold Func.isWrapper; first | (rw [if_pos (by decide +kernel)]; kernel_rfl) | (rw [if_neg (by decide +kernel)]; exact ⟨rfl, rfl⟩))
    (fun os started H enc _ F => by rw [OpenClaim.pre_eq_preRow]; exact lifted os started H enc F)
theorem plain (f : FuncId) (fn : Func) (hf : Tryd.pinned.checked.prog.funcNamed Rows.fnWordsRow.func = some f) (hfn : Tryd.pinned.checked.prog.funcs[f]? = some fn) :
    true = Tryd.pinned.checked.prog.looks [] ∧ ∀ (j : Nat) t, fn.params[j]? = some t → Tryd.pinned.checked.prog.wantsStandIn t = false := by
  obtain rfl : f = 3 := Option.some.inj ((show Tryd.prog.funcNamed Rows.fnWordsRow.func = some 3 by kernel_rfl).symm.trans hf) |>.symm
  obtain rfl : fn = Tryd.f3 := (Option.some.inj (Tryd.func3.symm.trans hfn)).symm
  refine ⟨by kernel_rfl, fun j t ht => ?_⟩
  rw [Tryd.params3] at ht
  have hm := Array.mem_of_getElem? ht
  have hm' : t = 22 := by simpa using hm
  rcases hm' with rfl
  · exact (show Tryd.prog.wantsStandIn 22 = false by kernel_rfl)
theorem proved : Rows.FnWordsCardSaid :=
  Claim7.holds_tied_plain_at .later [] _ _ _ _ said (fun _ h => by cases h) (by kernel_rfl) (fun _ h => by cases h) fnWords_row_tie rfl ⟨rfl, rfl⟩ (by kernel_rfl) rfl plain (by kernel_rfl)
end Go.Proofs.YtcdndnnmcjpdnaaDoor.fnWords
