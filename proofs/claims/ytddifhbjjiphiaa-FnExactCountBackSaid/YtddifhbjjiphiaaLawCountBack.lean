/- For every list of links, impl.CountBack answers as its model and writes into no argument: FnExactCountBack returns true. -/
import Derived.Test.YtddifhbjjiphiaaTurnLinks
import Derived.Test.YtddifhbjjiphiaaArgsLink
namespace Go.Proofs.Ytddifhbjjiphiaa.fnExactCountBack
open Go.ChangeShapes Go.WideShapes Go.ChangeAt Go.RowKit
set_option maxRecDepth 100000 in
set_option maxHeartbeats 800000 in
theorem walk (A : Option Addr) (n c : Nat) (xs : List LK) (w : World) (hJ : InK w A n c xs) :
    Calls Try.prog 4 #[.slice A n c] w fun e w' => e = .returned (.bool true) ∧ Below w.heap.size w w' := by
  have HJ := Lib.hid (fun (w' : World) (hb : Below w.heap.size w w') => hJ.keep hb)
  have hmm : n ≤ maxLen := Nat.le_trans hJ.2.1 hJ.2.2.1
  clear hJ
  go_enter Try.func4, Try.ntmps4
  go_wp2_with fail
  refine (szLinkS_any A n c 1048576 _ hmm (Nat.le_refl _)).mono ?_
  rintro e w1 ⟨q, rfl, hq, rfl⟩
  by_cases hq0 : q < 0
  · go_wp2_with fail
    go_ret
    exact ⟨rfl, Below.refl _ _⟩
  have hn : n ≤ 1048576 := by rcases hq with h | h <;> omega
  clear hq hmm
  go_wp2_with fail
  refine (toLinkS_any A n c xs _ (HJ.out _ (Below.refl _ _)) hn).mono ?_
  rintro e w1 ⟨v1, rfl, o1, b1⟩
  obtain ⟨A1, c1, rfl⟩ := o1.form
  have O1 := Lib.hid o1
  clear o1
  go_wp2_with fail
  refine (specCountBack A1 n c1 _ xs _ O1.out hn).mono ?_
  rintro e w2 ⟨rfl, hb2⟩
  have b2 := b1.trans (hb2.mono b1.size)
  obtain ⟨k, hk⟩ : ∃ k : Int, ((cntB xs : Nat) : Int) = k := ⟨_, rfl⟩
  rw [hk]
  have HK := Lib.hid hk
  clear hb2 O1 hk
  go_wp2_with fail
  refine (toLinkS_any A n c xs _ (HJ.out _ b2) hn).mono ?_
  rintro e w3 ⟨v3, rfl, o3, hb3⟩
  have b3 := b2.trans (hb3.mono b2.size)
  obtain ⟨A3, c3, rfl⟩ := o3.form
  have Y3 := Lib.hid o3
  clear hb3 o3
  go_wp2_with fail
  refine (implCountBack A3 n c3 _ xs _ Y3.out hn).mono ?_
  rw [HK.out]
  rintro e w4 ⟨rfl, hb4⟩
  have b4 := b3.trans (hb4.mono b3.size)
  have Y4 := Lib.hid (Y3.out.below hb4)
  clear hb4 Y3
  go_wp2_with fail
  refine (toLinkS_any A n c xs _ (HJ.out _ b4) hn).mono ?_
  rintro e w6 ⟨v6, rfl, o6, hb6⟩
  have b6 := b4.trans (hb6.mono b4.size)
  obtain ⟨A6, c6, rfl⟩ := o6.form
  have V6 := Lib.hid o6
  have Y6 := Lib.hid (Y4.out.below hb6)
  clear hb6 o6 Y4
  go_wp2_with fail
  refine (eqLinkS_yes A3 A6 n c3 c6 _ _ xs _ Y6.out V6.out).mono ?_
  rintro e w7 ⟨rfl, hb7⟩
  have b7 := b6.trans (hb7.mono b6.size)
  clear hb7
  go_wp2_with fail
  go_ret
  exact ⟨rfl, b7⟩
set_option maxRecDepth 100000 in
theorem contract (H : Type) (enc : TypeId × Value → H) (W : World) (base : Nat) (args : Array Value) (ds gs : List (DataW H)) (before : List MemPlace)
    (hval : ∀ (j : Nat) t v, Try.f4.params[j]? = some t → args[j]? = some v → Value.okWide Try.prog W .any base t v)
    (hW : DataW.Whole enc Try.prog Try.f4.params.toList Rows.fnExactCountBackSpec.vars false W args.toList ds gs before) :
    Calls Try.prog 4 args W fun e W' => ∃ v, e = .returned v ∧ Rows.fnExactCountBackSpec.post enc Try.prog Try.f4 false true false false W args v W' := by
  have hW' := hW
  obtain ⟨p, q, hA0, hV, rfl, hfz, hnd⟩ := hW
  have hA : DataW.TrodAll enc Try.prog W 0 (fun _ => true) true Try.f4.params.toList args.toList ds p := hA0
  rw [Try.params4] at hA hval
  obtain ⟨v0, vs0, d0, ds0, p0, q0, hargs, rfl, rfl, h0, r0⟩ := trodAll_cons hA
  obtain ⟨rfl, rfl, rfl⟩ := trodAll_nil r0
  obtain rfl : args = #[v0] := by first | exact Array.toList_inj.1 hargs | exact Array.toList_inj.1 hargs.symm | (cases args; simp_all)
  obtain ⟨A0, n0, c0, xs0, rfl, B0⟩ := open_links Try.underlying22 Try.underlying34 (by kernel_rfl) (by kernel_rfl) Try.underlying3 Try.underlying3 Try.underlying4 (hval 0 22 v0 rfl rfl) h0
  refine (walk A0 n0 c0 xs0 W B0).mono fun e W' ⟨he, hb⟩ => ?_
  subst he
  exact ⟨_, rfl, law_post hW' rfl rfl rfl Try.underlying4 laidOut (by kernel_rfl) hb⟩

set_option maxRecDepth 100000 in
theorem lifted (os : Os) (started : os.Started) (H : Type) (enc : TypeId × Value → H) :
    ReturnsInHanded {} Try.checked os 4 .any (Rows.fnExactCountBackSpec.pre6 enc Try.prog Try.f4 Rows.fnExactCountBackRow.domain false) (Rows.fnExactCountBackSpec.post enc Try.prog Try.f4 false true false false) := by
  refine returnsInHanded_of_change (C := Try.checked) own started (by kernel_rfl) Try.func4
    (ChangeSpec.witness6 (enc := enc) (C := Try.checked) false ⟨#[], #[.slice none 0 0], []⟩ 8 (by kernel_rfl) (by kernel_rfl) (by kernel_rfl) (by kernel_rfl)) ?_
  intro W base args ds gs before hval hW _ _
  exact contract H enc W base args ds gs before hval hW

theorem proved : Rows.FnExactCountBackSaid :=
  OpenClaim.holds_of_wide 4 Try.f4 rfl rfl rfl rfl rfl rfl rfl ⟨rfl, rfl, rfl, rfl, rfl⟩ rfl rfl rfl rfl rfl (by kernel_rfl) Try.func4 (by kernel_rfl)
    (of_decide_eq_true (by kernel_rfl)) (by unfold Func.isWrapper; first | (rw [if_pos (by decide +kernel)]; kernel_rfl) | (rw [if_neg (by decide +kernel)]; exact ⟨rfl, rfl⟩))
    (fun os started H enc _ => lifted os started H enc)
end Go.Proofs.Ytddifhbjjiphiaa.fnExactCountBack
