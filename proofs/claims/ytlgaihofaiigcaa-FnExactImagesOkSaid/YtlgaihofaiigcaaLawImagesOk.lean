/- For every table and list, impl.ImagesOk answers as its model: FnExactImagesOk returns true. -/
import Derived.Test.YtlgaihofaiigcaaImplMean
import Derived.Test.YtlgaihofaiigcaaSpecMean
import Derived.Test.YtlgaihofaiigcaaArgsInts
import Derived.Deep.RegionHeld3
namespace Go.Proofs.Ytlgaihofaiigcaa.fnExactImagesOk
open Go.ChangeShapes Go.WideShapes Go.ChangeAt Go.RowKit
set_option maxRecDepth 100000 in
set_option maxHeartbeats 1600000 in
theorem walk (k : Int) (_wk : (Lit.int .i64 k).wf = true) (A : Option Addr) (n c : Nat) (xs : List Int) (E : Option Addr) (m d : Nat) (es : List Int) (w : World) (hI : InI w A n c xs) (hJ : InI w E m d es) :
    Calls Try.prog 3 #[tabV k A n c, .slice E m d] w fun e w' => e = .returned (.bool true) ∧ Below w.heap.size w w' := by
  have HI := Lib.hid (fun (w' : World) (hb : Below w.heap.size w w') => hI.keep hb)
  have HJ := Lib.hid (fun (w' : World) (hb : Below w.heap.size w w') => hJ.keep hb)
  have hmx := Nat.le_trans hI.2.1 hI.2.2.1
  have hmj := Nat.le_trans hJ.2.1 hJ.2.2.1
  unfold maxLen at hmj
  clear hI hJ
  by_cases hbig : 1048576 < m
  · go_enter Try.func3, Try.ntmps3
    go_wp2_with fail
    go_ret
    exact ⟨rfl, bel1 _ _⟩
  have hm : m ≤ 1048576 := by omega
  clear hbig
  go_enter Try.func3, Try.ntmps3
  go_wp2_with fail
  refine (szTable_any k A n c 1048576 _ hmx (Nat.le_refl _)).mono ?_
  rintro e w1 ⟨q, rfl, hq, hb1⟩
  have b1 := (bel1 w _).trans (hb1.mono (by simp))
  have B1 := Lib.hid ((Blk.new1 w _ _).below hb1 (by simp))
  obtain ⟨q0, q1, -, -, ql⟩ := B1.out.two
  clear hb1
  by_cases hq0 : q < 0
  · go_wp2_with fail
    go_ret
    exact ⟨rfl, b1⟩
  have Hn : Hid (n ≤ 1048576) := by rcases hq with h | h <;> (show _ ≤ _; omega)
  clear hq
  go_wp2_with fail
  refine (toTable_any k A n c xs _ (HI.out _ b1) Hn.out).mono ?_
  rintro e w2 ⟨A2, c2, rfl, o2, hb2⟩
  have b2 := b1.trans (hb2.mono b1.size)
  have B2 := Lib.hid (B1.out.below hb2 B1.out.lt)
  clear hb2 q0 q1 ql B1
  go_wp2_with fail
  refine (toIntS_any E m d es _ (HJ.out _ b2) hm).mono ?_
  rintro e wa ⟨va, rfl, oa, hba⟩
  obtain ⟨Ea, da, rfl⟩ := oa.form
  have ba := b2.trans (hba.mono b2.size)
  have Ba := Lib.hid (B2.out.below hba B2.out.lt)
  have O2 := Lib.hid (o2.below hba)
  have OA := Lib.hid oa
  clear hba o2 oa B2
  go_wp2_with fail
  refine (specImagesOk k A2 Ea n c2 m da _ _ xs es _ O2.out OA.out Hn.out).mono ?_
  rintro e w3 ⟨rfl, hb3⟩
  have b3 := ba.trans (hb3.mono ba.size)
  have B3 := Lib.hid (Ba.out.below hb3 Ba.out.lt)
  clear hb3 Ba O2 OA
  obtain ⟨rr, hrr⟩ : ∃ rr, imagesOk k xs es = rr := ⟨_, rfl⟩
  have Hrr := Lib.hid hrr
  rw [hrr]
  clear hrr
  obtain ⟨q0, q1, -, -, ql⟩ := B3.out.two
  go_wp2_with fail
  refine (toTable_any k A n c xs _ (HI.out _ b3) Hn.out).mono ?_
  rintro e w4 ⟨A5, c5, rfl, o4, hb4⟩
  have b5 := (b3.trans (hb4.mono b3.size)).alloc (by have := b3.size; have := hb4.size; omega) (.cells #[.int .i64 k, .slice A5 n c5] 27)
  have x5 := bel1 w4 (.cells #[.int .i64 k, .slice A5 n c5] 27)
  have B5 := Lib.hid ((B3.out.below hb4 B3.out.lt).alloc (.cells #[.int .i64 k, .slice A5 n c5] 27))
  have X5 := Lib.hid (Blk.new1 w4 #[.int .i64 k, .slice A5 n c5] 27)
  have P5 := Lib.hid (o4.below x5)
  clear hb4 o4 q0 q1 ql B3 x5
  go_wp2_with fail
  generalize w4.alloc (.cells #[.int .i64 k, .slice A5 n c5] 27) = w5 at *
  refine (toIntS_any E m d es _ (HJ.out _ b5) hm).mono ?_
  rintro e wb ⟨vb, rfl, ob, hbb⟩
  obtain ⟨Eb, db, rfl⟩ := ob.form
  have bb := b5.trans (hbb.mono b5.size)
  have Bb := Lib.hid (B5.out.below hbb B5.out.lt)
  have Xb := Lib.hid (X5.out.below hbb X5.out.lt)
  have Pb := Lib.hid (P5.out.below hbb)
  have Jb := Lib.hid ob
  clear hbb ob B5 X5 P5
  obtain ⟨x0, x1, -, -, xl⟩ := Xb.out.two
  go_wp2_with fail
  clear x0 x1 xl
  refine (implImagesOk k A5 Eb n c5 m db _ _ xs es wb Pb.out Jb.out Hn.out hm).mono ?_
  rw [Hrr.out]
  rintro e w7 ⟨rfl, hb6⟩
  have b7 := bb.trans (hb6.mono bb.size)
  have B7 := Lib.hid (Bb.out.below hb6 Bb.out.lt)
  have X7 := Lib.hid (Xb.out.below hb6 Xb.out.lt)
  have P7 := Lib.hid (Pb.out.below hb6)
  have J7 := Lib.hid (Jb.out.below hb6)
  clear hb6 Bb Xb Pb Jb b5
  obtain ⟨q0, q1, -, -, ql⟩ := B7.out.two
  obtain ⟨x0, x1, -, -, xl⟩ := X7.out.two
  have P7d : Hid (Own w3.heap.size w7.drew (.slice A5 n c5) 1 n (ints xs)) := P7
  go_wp2_with fail
  go_region_held3 (fun w' => w'.cell? ⟨w4.heap.size, 0, none⟩ = some (.int .i64 k) ∧ w'.cell? ⟨w4.heap.size, 1, none⟩ = some (.slice A5 n c5) ∧ w'.cell? ⟨w.heap.size, 0, none⟩ = some (.int .i64 k) ∧ w'.cell? ⟨w.heap.size, 1, none⟩ = some (.slice A n c) ∧ Below w7.heap.size w7 w')
    (first | exact ⟨x0, x1, q0, q1, (Below.refl _ w7).drew⟩ | exact held4_keep (by assumption) hb8 (Nat.le_refl _) xl ql | exact held4_keep (by assumption) hb9 (Nat.le_refl _) xl ql)
    ((first | (go_at_call 6; refine (toTable_any k A n c xs _ (HI.out _ b7.drew) Hn.out).mono ?_; rintro e w8 ⟨A8, c8, rfl, o8, hb8⟩) | (go_at_call 9; refine (eqTable_yes k A5 _ n c5 _ _ _ xs _ (P7d.out.below hb8) o8 Hn.out).mono ?_; rintro e w9 ⟨rfl, hb9⟩)))
  have hS := (‹_ ∧ _ ∧ _ ∧ _ ∧ Below w7.heap.size w7 w9›).2.2.2.2
  have b9 := b7.trans (hS.mono b7.size)
  have J9 := Lib.hid (J7.out.below hS)
  clear hb8 hb9 hS o8 B7 X7 P7 J7 P7d b7 q0 q1 ql x0 x1 xl
  go_wp2_with fail
  refine (toIntS_any E m d es _ (HJ.out _ b9) hm).mono ?_
  rintro e wc ⟨vc, rfl, oc, hbc⟩
  obtain ⟨Ec, dc, rfl⟩ := oc.form
  have bc := b9.trans (hbc.mono b9.size)
  have Jc := Lib.hid (J9.out.below hbc)
  have Ic := Lib.hid oc
  clear hbc oc J9 b9
  go_wp2_with fail
  refine (eqIntB Eb Ec m db dc _ _ es _ Jc.out Ic.out (by omega)).mono ?_
  rintro e wd ⟨rfl, hbd⟩
  have bd := bc.trans (hbd.mono bc.size)
  clear hbd
  go_wp2_with fail
  go_ret
  exact ⟨rfl, bd⟩
set_option maxRecDepth 100000 in
theorem contract (H : Type) (enc : TypeId × Value → H) (W : World) (base : Nat) (args : Array Value) (ds gs : List (DataW H)) (before : List MemPlace)
    (hval : ∀ (j : Nat) t v, Try.f3.params[j]? = some t → args[j]? = some v → Value.okWide Try.prog W .any base t v)
    (hW : DataW.Whole enc Try.prog Try.f3.params.toList Rows.fnExactImagesOkSpec.vars false W args.toList ds gs before) :
    Calls Try.prog 3 args W fun e W' => ∃ v, e = .returned v ∧ Rows.fnExactImagesOkSpec.post enc Try.prog Try.f3 false true false false W args v W' := by
  have hW' := hW
  obtain ⟨p, q, hA0, hV, rfl, hfz, hnd⟩ := hW
  have hA : DataW.TrodAll enc Try.prog W 0 (fun _ => true) true Try.f3.params.toList args.toList ds p := hA0
  rw [Try.params3] at hA hval
  obtain ⟨v0, vs0, d0, ds0, p0, q0, hargs, rfl, rfl, h0, r0⟩ := trodAll_cons hA
  obtain ⟨v1, vs1, d1, ds1, p1, q1, rfl, rfl, rfl, h1, r1⟩ := trodAll_cons r0
  obtain ⟨rfl, rfl, rfl⟩ := trodAll_nil r1
  obtain rfl : args = #[v0, v1] := by first | exact Array.toList_inj.1 hargs | exact Array.toList_inj.1 hargs.symm | (cases args; simp_all)
  obtain ⟨k0, A0, n0, c0, xs0, rfl, wk0, I0⟩ := open_table Try.underlying24 (by kernel_rfl) (by kernel_rfl) Try.underlying3 Try.underlying22 Try.underlying3 (by kernel_rfl) (hval 0 24 v0 rfl rfl) h0
  obtain ⟨A1, n1, c1, xs1, rfl, I1⟩ := open_intsA Try.underlying22 Try.underlying3 (by kernel_rfl) (hval 1 22 v1 rfl rfl) h1
  refine (walk k0 wk0 A0 n0 c0 xs0 A1 n1 c1 xs1 W I0 I1).mono fun e W' ⟨he, hb⟩ => ?_
  subst he
  exact ⟨_, rfl, law_post hW' rfl rfl rfl Try.underlying4 laidOut (by kernel_rfl) hb⟩

set_option maxRecDepth 100000 in
theorem lifted (os : Os) (started : os.Started) (H : Type) (enc : TypeId × Value → H) :
    ReturnsInHanded {} Try.checked os 3 .any (Rows.fnExactImagesOkSpec.pre6 enc Try.prog Try.f3 Rows.fnExactImagesOkRow.domain false) (Rows.fnExactImagesOkSpec.post enc Try.prog Try.f3 false true false false) := by
  refine returnsInHanded_of_change (C := Try.checked) own started (by kernel_rfl) Try.func3
    (ChangeSpec.witness6 (enc := enc) (C := Try.checked) false ⟨#[], #[.agg #[.int .i64 0, .slice none 0 0], .slice none 0 0], []⟩ 8 (by kernel_rfl) (by kernel_rfl) (by kernel_rfl) (by kernel_rfl)) ?_
  intro W base args ds gs before hval hW _ _
  exact contract H enc W base args ds gs before hval hW

theorem proved : Rows.FnExactImagesOkSaid :=
  OpenClaim.holds_of_wide 3 Try.f3 rfl rfl rfl rfl rfl rfl rfl ⟨rfl, rfl, rfl, rfl, rfl⟩ rfl rfl rfl rfl rfl (by kernel_rfl) Try.func3 (by kernel_rfl)
    (of_decide_eq_true (by kernel_rfl)) (by unfold Func.isWrapper; first | (rw [if_pos (by decide +kernel)]; kernel_rfl) | (rw [if_neg (by decide +kernel)]; exact ⟨rfl, rfl⟩))
    (fun os started H enc _ => lifted os started H enc)
end Go.Proofs.Ytlgaihofaiigcaa.fnExactImagesOk
