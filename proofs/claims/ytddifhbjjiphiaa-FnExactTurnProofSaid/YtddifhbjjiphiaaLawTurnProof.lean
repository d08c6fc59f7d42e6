/- For every list of links, impl.TurnProof answers as its model, writes into no argument, and its answer owns its memory: FnExactTurnProof returns true. -/
import Derived.Test.YtddifhbjjiphiaaTurnLinks
import Derived.Test.YtddifhbjjiphiaaArgsLink
namespace Go.Proofs.Ytddifhbjjiphiaa.fnExactTurnProof
open Go.ChangeShapes Go.WideShapes Go.ChangeAt Go.RowKit
set_option maxRecDepth 100000 in
set_option maxHeartbeats 1600000 in
theorem walk (A : Option Addr) (n c : Nat) (xs : List LK) (w : World) (hJ : InK w A n c xs) :
    Calls Try.prog 3 #[.slice A n c] w fun e w' => e = .returned (.bool true) ∧ Below w.heap.size w w' := by
  have HJ := Lib.hid (fun (w' : World) (hb : Below w.heap.size w w') => hJ.keep hb)
  have hmm : n ≤ maxLen := Nat.le_trans hJ.2.1 hJ.2.2.1
  have Hlen := Lib.hid hJ.1
  clear hJ
  go_enter Try.func3, Try.ntmps3
  go_wp2_with fail
  refine (szLinkS_any A n c 1048576 _ hmm (Nat.le_refl _)).mono ?_
  rintro e w1 ⟨q, rfl, hq, rfl⟩
  by_cases hq0 : q < 0
  · go_wp2_with fail
    go_ret
    exact ⟨rfl, Below.refl _ _⟩
  have hn : n ≤ 1048576 := by rcases hq with h | h <;> omega
  clear hq hmm
  go_wp2_with fail
  refine (toLinkS_any A n c xs _ (HJ.out _ (Below.refl _ _)) hn).mono ?_
  rintro e w1 ⟨v1, rfl, o1, b1⟩
  obtain ⟨A1, c1, rfl⟩ := o1.form
  have O1 := Lib.hid o1
  clear o1
  go_wp2_with fail
  refine (specTurnProof A1 n c1 _ xs _ O1.out hn).mono ?_
  rintro e w2 ⟨v2, rfl, o2, hb2⟩
  have b2 := b1.trans (hb2.mono b1.size)
  obtain ⟨A2, c2, rfl⟩ := o2.form
  have R2 := Lib.hid o2
  have hR2 := Lib.hid (fun hn : 0 < n => o2.blk_lt hn)
  have hw12 := hb2.size
  clear hb2 o2 O1
  go_wp2_with fail
  refine (toLinkS_any A n c xs _ (HJ.out _ b2) hn).mono ?_
  rintro e w3 ⟨v3, rfl, o3, hb3⟩
  have b3 := b2.trans (hb3.mono b2.size)
  obtain ⟨A3, c3, rfl⟩ := o3.form
  have Y3 := Lib.hid o3
  have hY3 := Lib.hid (fun hn : 0 < n => o3.blk_lt hn)
  have R3 := Lib.hid (R2.out.below hb3)
  have hw23 := hb3.size
  clear hb3 o3 R2
  go_wp2_with fail
  refine (implTurnProof A3 n c3 _ xs _ Y3.out hn).mono ?_
  rintro e w4 ⟨v4, rfl, o4, hb4⟩
  have b4 := b3.trans (hb4.mono b3.size)
  obtain ⟨A4, c4, rfl⟩ := o4.form
  have Q4 := Lib.hid o4
  have hQ4 := Lib.hid (fun hn : 0 < n => o4.blk_lt hn)
  have R4 := Lib.hid (R3.out.below hb4)
  have Y4 := Lib.hid (Y3.out.below hb4)
  have hw34 := hb4.size
  clear hb4 o4 R3 Y3
  obtain ⟨T, hT⟩ : ∃ T, turnL xs = T := ⟨_, rfl⟩
  rw [hT] at R4 Q4
  have HT := Lib.hid hT
  clear hT
  go_wp2_with fail
  refine (eqLinkS_yes A4 A2 n c4 c2 _ _ T _ Q4.out R4.out).mono ?_
  rintro e w5 ⟨rfl, hb5⟩
  have b5 := b4.trans (hb5.mono b4.size)
  have R5 := Lib.hid (R4.out.below hb5)
  have Q5 := Lib.hid (Q4.out.below hb5)
  have Y5 := Lib.hid (Y4.out.below hb5)
  have hw45 := hb5.size
  clear hb5 R4 Y4 Q4
  go_wp2_with fail
  refine (toLinkS_any A n c xs _ (HJ.out _ b5) hn).mono ?_
  rintro e w6 ⟨v6, rfl, o6, hb6⟩
  have b6 := b5.trans (hb6.mono b5.size)
  obtain ⟨A6, c6, rfl⟩ := o6.form
  have V6 := Lib.hid o6
  have R6 := Lib.hid (R5.out.below hb6)
  have Q6 := Lib.hid (Q5.out.below hb6)
  have Y6 := Lib.hid (Y5.out.below hb6)
  have hw56 := hb6.size
  clear hb6 o6 R5 Q5 Y5
  go_wp2_with fail
  refine (eqLinkS_yes A3 A6 n c3 c6 _ _ xs _ Y6.out V6.out).mono ?_
  rintro e w7 ⟨rfl, hb7⟩
  have b7 := b6.trans (hb7.mono b6.size)
  have R7 := Lib.hid (R6.out.below hb7)
  have Q7 := Lib.hid (Q6.out.below hb7)
  have Y7 := Lib.hid (Y6.out.below hb7)
  have hw67 := hb7.size
  have hw02 := b2.size
  have hw03 := b3.size
  clear hb7 R6 Q6 Y6 V6
  go_wp2_with fail
  refine (markLinkS_any A3 n c3 _ 1 xs _ Y7.out (by omega) (by omega)).mono ?_
  rintro e w8 ⟨rfl, -, hb8, k8⟩
  have hw78 := hb8.size
  have b8 := b7.trans (hb8.mono hw02)
  have Q8 := Lib.hid (Own.keptA Q7.out k8 hw78 (fun h1 h2 => by have := (hQ4.out h1).1; have := (hY3.out h2).2; omega))
  have R8 := Lib.hid (Own.keptA R7.out k8 hw78 (fun h1 h2 => by have := (hR2.out h1).2; have := (hY3.out h2).1; omega))
  clear hb8 k8 R7 Q7 Y7
  go_wp2_with fail
  refine (eqLinkS_yes A4 A2 n c4 c2 _ _ T _ Q8.out R8.out).mono ?_
  rintro e w9 ⟨rfl, hb9⟩
  have b9 := b8.trans (hb9.mono b8.size)
  have Q9 := Lib.hid (Q8.out.below hb9)
  have R9 := Lib.hid (R8.out.below hb9)
  have hw89 := hb9.size
  clear hb9 Q8 R8
  go_wp2_with fail
  refine (markLinkS_any A4 n c4 _ 1 T _ Q9.out (by omega) (by omega)).mono ?_
  rintro e w10 ⟨rfl, o10, hb10, k10⟩
  have hw910 := hb10.size
  have b10 := b9.trans (hb10.mono hw03)
  have R10 := Lib.hid (Own.keptA R9.out k10 hw910 (fun h1 h2 => by have := (hR2.out h1).2; have := (hQ4.out h2).1; omega))
  have Q10 := Lib.hid o10
  clear hb10 k10 o10 Q9 R9
  go_wp2_with fail
  refine (heldLinkS_yes A4 n c4 _ 1 _ Q10.out (by omega) (by omega)).mono ?_
  rintro e w11 ⟨rfl, hb11⟩
  have b11 := b10.trans (hb11.mono b10.size)
  have R11 := Lib.hid (R10.out.below hb11)
  have Q11 := Lib.hid (Q10.out.below hb11)
  clear hb11 R10 Q10
  go_wp2_with fail
  refine (toLinkS_any A n c xs _ (HJ.out _ b11) hn).mono ?_
  rintro e w12 ⟨v12, rfl, o12, hb12⟩
  have b12 := b11.trans (hb12.mono b11.size)
  obtain ⟨A12, c12, rfl⟩ := o12.form
  have V12 := Lib.hid o12
  have R12 := Lib.hid (R11.out.below hb12)
  have Q12 := Lib.hid (Q11.out.below hb12)
  clear hb12 o12 R11 Q11
  go_wp2_with fail
  refine (implTurnProof A12 n c12 _ xs _ V12.out hn).mono ?_
  rw [HT.out]
  rintro e w13 ⟨v13, rfl, o13, hb13⟩
  have b13 := b12.trans (hb13.mono b12.size)
  obtain ⟨A13, c13, rfl⟩ := o13.form
  have V13 := Lib.hid o13
  have R13 := Lib.hid (R12.out.below hb13)
  have Q13 := Lib.hid (Q12.out.below hb13)
  clear hb13 o13 R12 Q12 V12
  go_wp2_with fail
  refine (eqLinkS_yes A13 A2 n c13 c2 _ _ T _ V13.out R13.out).mono ?_
  rintro e w14 ⟨rfl, hb14⟩
  have b14 := b13.trans (hb14.mono b13.size)
  have Q14 := Lib.hid (Q13.out.below hb14)
  clear hb14 R13 Q13 V13
  go_wp2_with fail
  refine (heldLinkS_yes A4 n c4 _ 1 _ Q14.out (by omega) (by omega)).mono ?_
  rintro e w15 ⟨rfl, hb15⟩
  have b15 := b14.trans (hb15.mono b14.size)
  clear hb15
  go_wp2_with fail
  go_ret
  exact ⟨rfl, b15⟩
set_option maxRecDepth 100000 in
theorem contract (H : Type) (enc : TypeId × Value → H) (W : World) (base : Nat) (args : Array Value) (ds gs : List (DataW H)) (before : List MemPlace)
    (hval : ∀ (j : Nat) t v, Try.f3.params[j]? = some t → args[j]? = some v → Value.okWide Try.prog W .any base t v)
    (hW : DataW.Whole enc Try.prog Try.f3.params.toList Rows.fnExactTurnProofSpec.vars false W args.toList ds gs before) :
    Calls Try.prog 3 args W fun e W' => ∃ v, e = .returned v ∧ Rows.fnExactTurnProofSpec.post enc Try.prog Try.f3 false true false false W args v W' := by
  have hW' := hW
  obtain ⟨p, q, hA0, hV, rfl, hfz, hnd⟩ := hW
  have hA : DataW.TrodAll enc Try.prog W 0 (fun _ => true) true Try.f3.params.toList args.toList ds p := hA0
  rw [Try.params3] at hA hval
  obtain ⟨v0, vs0, d0, ds0, p0, q0, hargs, rfl, rfl, h0, r0⟩ := trodAll_cons hA
  obtain ⟨rfl, rfl, rfl⟩ := trodAll_nil r0
  obtain rfl : args = #[v0] := by first | exact Array.toList_inj.1 hargs | exact Array.toList_inj.1 hargs.symm | (cases args; simp_all)
  obtain ⟨A0, n0, c0, xs0, rfl, B0⟩ := open_links Try.underlying22 Try.underlying34 (by kernel_rfl) (by kernel_rfl) Try.underlying3 Try.underlying3 Try.underlying4 (hval 0 22 v0 rfl rfl) h0
  refine (walk A0 n0 c0 xs0 W B0).mono fun e W' ⟨he, hb⟩ => ?_
  subst he
  exact ⟨_, rfl, law_post hW' rfl rfl rfl Try.underlying4 laidOut (by kernel_rfl) hb⟩

set_option maxRecDepth 100000 in
theorem lifted (os : Os) (started : os.Started) (H : Type) (enc : TypeId × Value → H) :
    ReturnsInHanded {} Try.checked os 3 .any (Rows.fnExactTurnProofSpec.pre6 enc Try.prog Try.f3 Rows.fnExactTurnProofRow.domain false) (Rows.fnExactTurnProofSpec.post enc Try.prog Try.f3 false true false false) := by
  refine returnsInHanded_of_change (C := Try.checked) own started (by kernel_rfl) Try.func3
    (ChangeSpec.witness6 (enc := enc) (C := Try.checked) false ⟨#[], #[.slice none 0 0], []⟩ 8 (by kernel_rfl) (by kernel_rfl) (by kernel_rfl) (by kernel_rfl)) ?_
  intro W base args ds gs before hval hW _ _
  exact contract H enc W base args ds gs before hval hW

theorem proved : Rows.FnExactTurnProofSaid :=
  OpenClaim.holds_of_wide 3 Try.f3 rfl rfl rfl rfl rfl rfl rfl ⟨rfl, rfl, rfl, rfl, rfl⟩ rfl rfl rfl rfl rfl (by kernel_rfl) Try.func3 (by kernel_rfl)
    (of_decide_eq_true (by kernel_rfl)) (by unfold Func.isWrapper; first | (rw [if_pos (by decide +kernel)]; kernel_rfl) | (rw [if_neg (by decide +kernel)]; exact ⟨rfl, rfl⟩))
    (fun os started H enc _ => lifted os started H enc)
end Go.Proofs.Ytddifhbjjiphiaa.fnExactTurnProof
