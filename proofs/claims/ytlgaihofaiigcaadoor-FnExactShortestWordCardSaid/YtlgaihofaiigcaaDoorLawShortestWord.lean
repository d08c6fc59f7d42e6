/- For every table and list and number, impl.ShortestWord answers as its model: FnExactShortestWord returns true. The table of letters is tied to the program's text. -/
import Derived.Test.YtlgaihofaiigcaaDoorImplSrch
import Derived.Test.YtlgaihofaiigcaaDoorSpecSrch
import Derived.Test.YtlgaihofaiigcaaDoorWorld
import Derived.Test.YtlgaihofaiigcaaDoorArgsInts
import Derived.Deep.RegionHeld3
namespace Go.Proofs.YtlgaihofaiigcaaDoor.fnExactShortestWord
open Go.ChangeShapes Go.WideShapes Go.ChangeAt Go.RowKit
open Go.ChangeMaps (open_string)
set_option maxRecDepth 100000 in
set_option maxHeartbeats 1600000 in
theorem walk (k : Int) (_wk : (Lit.int .i64 k).wf = true) (A : Option Addr) (n c : Nat) (xs : List Int) (E : Option Addr) (m d : Nat) (es : List Int) (i : Int) (_wi : (Lit.int .i64 i).wf = true) (w : World) (hI : InI w A n c xs) (hJ : InI w E m d es) (hlet : Let w) :
    Calls Tryd.prog 8 #[tabV k A n c, .slice E m d, .int .i64 i] w fun e w' => e = .returned (.bool true) ∧ Below w.heap.size w w' := by
  have HI := Lib.hid (fun (w' : World) (hb : Below w.heap.size w w') => hI.keep hb)
  have HJ := Lib.hid (fun (w' : World) (hb : Below w.heap.size w w') => hJ.keep hb)
  have hmx := Nat.le_trans hI.2.1 hI.2.2.1
  have hmj := Nat.le_trans hJ.2.1 hJ.2.2.1
  unfold maxLen at hmj
  have HL := Lib.hid (fun (w' : World) (hb : Below w.heap.size w w') => hlet.keep hb (Nat.le_refl _))
  clear hI hJ hlet
  by_cases hbig : 1048576 < m
  · go_enter Tryd.func8, Tryd.ntmps8
    go_wp2_with fail
    go_ret
    exact ⟨rfl, bel1 _ _⟩
  have hm : m ≤ 1048576 := by omega
  clear hbig
  go_enter Tryd.func8, Tryd.ntmps8
  go_wp2_with fail
  refine (szTable_any k A n c 1048576 _ hmx (Nat.le_refl _)).mono ?_
  rintro e w1 ⟨q, rfl, hq, hb1⟩
  have b1 := (bel1 w _).trans (hb1.mono (by simp))
  have B1 := Lib.hid ((Blk.new1 w _ _).below hb1 (by simp))
  obtain ⟨q0, q1, -, -, ql⟩ := B1.out.two
  clear hb1
  by_cases hq0 : q < 0
  · go_wp2_with fail
    go_ret
    exact ⟨rfl, b1⟩
  have Hn : Hid (n ≤ 1048576) := by rcases hq with h | h <;> (show _ ≤ _; omega)
  clear hq
  go_wp2_with fail
  refine (toTable_any k A n c xs _ (HI.out _ b1) Hn.out).mono ?_
  rintro e w2 ⟨A2, c2, rfl, o2, hb2⟩
  have b2 := b1.trans (hb2.mono b1.size)
  have B2 := Lib.hid (B1.out.below hb2 B1.out.lt)
  clear hb2 q0 q1 ql B1
  go_wp2_with fail
  refine (toIntS_any E m d es _ (HJ.out _ b2) hm).mono ?_
  rintro e wa ⟨va, rfl, oa, hba⟩
  obtain ⟨Ea, da, rfl⟩ := oa.form
  have ba := b2.trans (hba.mono b2.size)
  have Ba := Lib.hid (B2.out.below hba B2.out.lt)
  have O2 := Lib.hid (o2.below hba)
  have OA := Lib.hid oa
  clear hba o2 oa B2
  go_wp2_with fail
  refine (specShortestWord k A2 Ea n c2 m da _ _ xs es i _ O2.out OA.out Hn.out).mono ?_
  rintro e w3 ⟨rfl, hb3⟩
  have b3 := ba.trans (hb3.mono ba.size)
  have B3 := Lib.hid (Ba.out.below hb3 Ba.out.lt)
  clear hb3 Ba O2 OA
  obtain ⟨ra, rb, hrr⟩ : ∃ ra rb, shortestW k xs es i = (ra, rb) := ⟨_, _, rfl⟩
  have Hrr := Lib.hid hrr
  rw [hrr]
  clear hrr
  obtain ⟨q0, q1, -, -, ql⟩ := B3.out.two
  go_wp2_with fail
  refine (toTable_any k A n c xs _ (HI.out _ b3) Hn.out).mono ?_
  rintro e w4 ⟨A5, c5, rfl, o4, hb4⟩
  have b5 := (b3.trans (hb4.mono b3.size)).alloc (by have := b3.size; have := hb4.size; omega) (.cells #[.int .i64 k, .slice A5 n c5] 28)
  have x5 := bel1 w4 (.cells #[.int .i64 k, .slice A5 n c5] 28)
  have B5 := Lib.hid ((B3.out.below hb4 B3.out.lt).alloc (.cells #[.int .i64 k, .slice A5 n c5] 28))
  have X5 := Lib.hid (Blk.new1 w4 #[.int .i64 k, .slice A5 n c5] 28)
  have P5 := Lib.hid (o4.below x5)
  clear hb4 o4 q0 q1 ql B3 x5
  go_wp2_with fail
  generalize w4.alloc (.cells #[.int .i64 k, .slice A5 n c5] 28) = w5 at *
  refine (toIntS_any E m d es _ (HJ.out _ b5) hm).mono ?_
  rintro e wb ⟨vb, rfl, ob, hbb⟩
  obtain ⟨Eb, db, rfl⟩ := ob.form
  have bb := b5.trans (hbb.mono b5.size)
  have Bb := Lib.hid (B5.out.below hbb B5.out.lt)
  have Xb := Lib.hid (X5.out.below hbb X5.out.lt)
  have Pb := Lib.hid (P5.out.below hbb)
  have Jb := Lib.hid ob
  clear hbb ob B5 X5 P5
  obtain ⟨x0, x1, -, -, xl⟩ := Xb.out.two
  go_wp2_with fail
  clear x0 x1 xl
  refine (implShortestWord k A5 Eb n c5 m db _ _ xs es i wb Pb.out Jb.out Hn.out hm (HL.out _ bb)).mono ?_
  rw [Hrr.out]
  rintro e w7 ⟨rfl, hb6⟩
  have b7 := bb.trans (hb6.mono bb.size)
  have B7 := Lib.hid (Bb.out.below hb6 Bb.out.lt)
  have X7 := Lib.hid (Xb.out.below hb6 Xb.out.lt)
  have P7 := Lib.hid (Pb.out.below hb6)
  have J7 := Lib.hid (Jb.out.below hb6)
  clear hb6 Bb Xb Pb Jb b5
  obtain ⟨q0, q1, -, -, ql⟩ := B7.out.two
  obtain ⟨x0, x1, -, -, xl⟩ := X7.out.two
  have P7d : Hid (Own w3.heap.size w7.drew (.slice A5 n c5) 1 n (ints xs)) := P7
  go_wp2_with fail
  go_region_held3 (fun w' => w'.cell? ⟨w4.heap.size, 0, none⟩ = some (.int .i64 k) ∧ w'.cell? ⟨w4.heap.size, 1, none⟩ = some (.slice A5 n c5) ∧ w'.cell? ⟨w.heap.size, 0, none⟩ = some (.int .i64 k) ∧ w'.cell? ⟨w.heap.size, 1, none⟩ = some (.slice A n c) ∧ Below w7.heap.size w7 w')
    (first | exact ⟨x0, x1, q0, q1, (Below.refl _ w7).drew⟩ | exact held4_keep (by assumption) hb8 (Nat.le_refl _) xl ql | exact held4_keep (by assumption) hb9 (Nat.le_refl _) xl ql)
    ((first | (go_at_call 11; refine (toTable_any k A n c xs _ (HI.out _ b7.drew) Hn.out).mono ?_; rintro e w8 ⟨A8, c8, rfl, o8, hb8⟩) | (go_at_call 14; refine (eqTable_yes k A5 _ n c5 _ _ _ xs _ (P7d.out.below hb8) o8 Hn.out).mono ?_; rintro e w9 ⟨rfl, hb9⟩)))
  have hS := (‹_ ∧ _ ∧ _ ∧ _ ∧ Below w7.heap.size w7 w9›).2.2.2.2
  have b9 := b7.trans (hS.mono b7.size)
  have J9 := Lib.hid (J7.out.below hS)
  clear hb8 hb9 hS o8 B7 X7 P7 J7 P7d b7 q0 q1 ql x0 x1 xl
  go_wp2_with fail
  refine (toIntS_any E m d es _ (HJ.out _ b9) hm).mono ?_
  rintro e wc ⟨vc, rfl, oc, hbc⟩
  obtain ⟨Ec, dc, rfl⟩ := oc.form
  have bc := b9.trans (hbc.mono b9.size)
  have Jc := Lib.hid (J9.out.below hbc)
  have Ic := Lib.hid oc
  clear hbc oc J9 b9
  go_wp2_with fail
  refine (eqIntB Eb Ec m db dc _ _ es _ Jc.out Ic.out (by omega)).mono ?_
  rintro e wd ⟨rfl, hbd⟩
  have bd := bc.trans (hbd.mono bc.size)
  clear hbd
  go_wp2_with fail
  go_ret
  exact ⟨rfl, bd⟩
set_option maxRecDepth 100000 in
theorem contract (H : Type) (enc : TypeId × Value → H) (W : World) (base : Nat) (args : Array Value) (ds gs : List (DataW H)) (before : List MemPlace)
    (hval : ∀ (j : Nat) t v, Tryd.f8.params[j]? = some t → args[j]? = some v → Value.okWide Tryd.prog W .any base t v)
    (hW : DataW.Whole enc Tryd.prog Tryd.f8.params.toList Rows.fnExactShortestWordSpec.vars false W args.toList ds gs before) (hL : laidMetH Tryd.prog Rows.fnExactShortestWordRow.laid W) :
    Calls Tryd.prog 8 args W fun e W' => ∃ v, e = .returned v ∧ Rows.fnExactShortestWordSpec.post enc Tryd.prog Tryd.f8 false true false false W args v W' := by
  have hW' := hW
  have hL' : laidMet Tryd.prog [("loop.example/g03201/impl.letters", Rows.laid_loop_example_g03201_impl_letters)] W := hL
  obtain ⟨p, q, hA0, hV, rfl, hfz, hnd⟩ := hW
  obtain ⟨g0, rfl⟩ := vars_len1 (trodVars_len hV)
  have hA : DataW.TrodAll enc Tryd.prog W 0 (fun _ => true) true Tryd.f8.params.toList args.toList ds p := hA0
  rw [Tryd.params8] at hA hval
  obtain ⟨v0, vs0, d0, ds0, p0, q0, hargs, rfl, rfl, h0, r0⟩ := trodAll_cons hA
  obtain ⟨v1, vs1, d1, ds1, p1, q1, rfl, rfl, rfl, h1, r1⟩ := trodAll_cons r0
  obtain ⟨v2, vs2, d2, ds2, p2, q2, rfl, rfl, rfl, h2, r2⟩ := trodAll_cons r1
  obtain ⟨rfl, rfl, rfl⟩ := trodAll_nil r2
  obtain rfl : args = #[v0, v1, v2] := by first | exact Array.toList_inj.1 hargs | exact Array.toList_inj.1 hargs.symm | (cases args; simp_all)
  obtain ⟨k0, A0, n0, c0, xs0, rfl, wk0, I0⟩ := open_table Tryd.underlying24 (by kernel_rfl) (by kernel_rfl) Tryd.underlying3 Tryd.underlying22 Tryd.underlying3 (by kernel_rfl) (hval 0 24 v0 rfl rfl) h0
  obtain ⟨A1, n1, c1, xs1, rfl, I1⟩ := open_intsA Tryd.underlying22 Tryd.underlying3 (by kernel_rfl) (hval 1 22 v1 rfl rfl) h1
  obtain ⟨a2, rfl, rfl, rfl, b2⟩ := open_int Tryd.underlying3 (hval 2 3 v2 rfl rfl) h2
  refine (walk k0 wk0 A0 n0 c0 xs0 A1 n1 c1 xs1 a2 b2 W I0 I1 (let_of hL')).mono fun e W' ⟨he, hb⟩ => ?_
  subst he
  exact ⟨_, rfl, law_postV hW' rfl rfl Tryd.underlying4 laidOut (by kernel_rfl) (by kernel_rfl) hb⟩

theorem laid_met (os : Os) : laidMet Tryd.prog Rows.fnExactShortestWordRow.laid ((laidWorld os).forCall (fun _ _ => 0) ⟨#[], #[.agg #[.int .i64 0, .slice none 0 0], .slice none 0 0, .int .i64 0], []⟩).memory :=
  laidMet_of_run' 8 (by kernel_rfl) (by kernel_rfl)
theorem reads (os : Os) {H : Type} (enc : TypeId × Value → H) : ∃ places, DataW.whole enc Tryd.prog ((laidWorld os).forCall (fun _ _ => 0) ⟨#[], #[.agg #[.int .i64 0, .slice none 0 0], .slice none 0 0, .int .i64 0], []⟩).memory Tryd.f8.params.toList Rows.fnExactShortestWordSpec.vars false (#[.agg #[.int .i64 0, .slice none 0 0], .slice none 0 0, .int .i64 0] : Array Value).toList 8 = some ([.agg [.lit (.int .i64 0), .nil], .nil, .lit (.int .i64 0)], [Rows.laid_loop_example_g03201_impl_letters], places) :=
  ⟨MemPlace.row ⟨0, 0, none⟩ 4, by kernel_rfl⟩
set_option maxRecDepth 100000 in
theorem lifted (os : Os) (started : os.Started) (H : Type) (enc : TypeId × Value → H) (F : Stop.Interp) :
    ReturnsInHanded {} Tryd.checked os 8 .any ((OpenSpec.ofChange Rows.fnExactShortestWordSpec).preRow enc Tryd.prog Tryd.f8 Rows.fnExactShortestWordRow.domain false Rows.fnExactShortestWordRow.laid) (((OpenSpec.ofChange Rows.fnExactShortestWordSpec).at F).post enc Tryd.prog Tryd.f8 false true false false) := by
  obtain ⟨places, hx⟩ := reads os enc
  refine returnsInHanded_of_row (C := Tryd.checked) (s := OpenSpec.ofChange Rows.fnExactShortestWordSpec) own started (by kernel_rfl) Tryd.func8
    (witness_row_at (enc := enc) (C := Tryd.checked) false (laidWorld os) #[.agg #[.int .i64 0, .slice none 0 0], .slice none 0 0, .int .i64 0] rfl (by kernel_rfl) (by kernel_rfl) (by kernel_rfl)
      (OpenSpec.preRow_of_cond 8 hx (by kernel_rfl) (fun k hk => by cases hk) (by kernel_rfl) (laid_met os))) ?_
  intro W base args ds gs before hval hW _ _ _ hL _ _
  exact contract H enc W base args ds gs before hval hW hL
theorem said : Rows.FnExactShortestWordSaid :=
  OpenClaim.holds_of_cond 8 Tryd.f8 rfl rfl rfl rfl rfl rfl rfl ⟨rfl, rfl, rfl, rfl, rfl⟩ rfl rfl rfl rfl rfl (by kernel_rfl) Tryd.func8 (by kernel_rfl)
    (of_decide_eq_true (by kernel_rfl)) (by unfold Func.isWrapper; first | (rw [if_pos (by decide +kernel)]; kernel_rfl) | (rw [if_neg (by decide +kernel)]; exact ⟨rfl, rfl⟩))
    (fun os started H enc _ F => by rw [OpenClaim.pre_eq_preRow]; exact lifted os started H enc F)
theorem plain (f : FuncId) (fn : Func) (hf : Tryd.pinned.checked.prog.funcNamed Rows.fnExactShortestWordRow.func = some f) (hfn : Tryd.pinned.checked.prog.funcs[f]? = some fn) :
    false = Tryd.pinned.checked.prog.looks [] ∧ ∀ (j : Nat) t, fn.params[j]? = some t → Tryd.pinned.checked.prog.wantsStandIn t = false := by
  obtain rfl : f = 8 := Option.some.inj ((show Tryd.prog.funcNamed Rows.fnExactShortestWordRow.func = some 8 by kernel_rfl).symm.trans hf) |>.symm
  obtain rfl : fn = Tryd.f8 := (Option.some.inj (Tryd.func8.symm.trans hfn)).symm
  refine ⟨by kernel_rfl, fun j t ht => ?_⟩
  rw [Tryd.params8] at ht
  match j, ht with
  | 0, ht => (simp at ht; subst ht; exact (show Tryd.prog.wantsStandIn 24 = false by kernel_rfl))
  | 1, ht => (simp at ht; subst ht; exact (show Tryd.prog.wantsStandIn 22 = false by kernel_rfl))
  | 2, ht => (simp at ht; subst ht; exact (show Tryd.prog.wantsStandIn 3 = false by kernel_rfl))
  | n + 3, ht => simp at ht
theorem proved : Rows.FnExactShortestWordCardSaid :=
  Claim7.holds_tied_plain_at .later [] _ _ _ _ said (fun _ h => by cases h) (by kernel_rfl) (fun _ h => by cases h) fnExactShortestWord_row_tie rfl ⟨rfl, rfl⟩ (by kernel_rfl) rfl plain (by kernel_rfl)
end Go.Proofs.YtlgaihofaiigcaaDoor.fnExactShortestWord
