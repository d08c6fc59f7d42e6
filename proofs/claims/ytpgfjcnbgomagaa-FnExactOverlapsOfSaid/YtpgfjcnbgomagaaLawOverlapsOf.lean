/- For all strings, impl.OverlapsOf answers as its model, in memory of its own: FnExactOverlapsOf returns true. No condition. -/
import Derived.Test.YtpgfjcnbgomagaaOverlaps
import Derived.Lib.SmallJoins
namespace Go.Proofs.Ytpgfjcnbgomagaa.fnExactOverlapsOf
open Go.Joins Go.ChangeShapes Go.WideShapes Go.ChangeAt Go.RowKit
open Go.ChangeMaps (open_string)
set_option maxHeartbeats 800000 in
set_option maxRecDepth 100000 in
theorem walk (s : ByteArray) (_hs : s.size ≤ maxLen) (b : ByteArray) (_hb : b.size ≤ maxLen) (w : World) :
    Calls Try.prog 6 #[.string s, .string b] w fun e w' => e = .returned (.bool true) ∧ Below w.heap.size w w' := by
  by_cases hbig : 1048576 < s.size
  · go_enter Try.func6, Try.ntmps6
    go_wp2_with fail
    go_ret
    exact ⟨rfl, Below.refl _ _⟩
  by_cases hbig2 : 1048576 < b.size
  · go_enter Try.func6, Try.ntmps6
    go_wp2_with fail
    go_ret
    exact ⟨rfl, Below.refl _ _⟩
  have Hs : Hid (s.size ≤ 1048576) := Nat.le_of_not_lt hbig
  have Hb : Hid (b.size ≤ 1048576) := Nat.le_of_not_lt hbig2
  have hlen : (overlapsOf s b).length ≤ 1048577 := Nat.le_trans (overlapsOf_len s b) (Nat.add_le_add_right Hs.out 1)
  go_enter Try.func6, Try.ntmps6
  go_wp2_with (go_at_call 19; refine (specOverlapsOf _ _ _ Hs.out Hb.out).mono ?_)
  rintro e w1 ⟨v0, rfl, o0, b0⟩
  obtain ⟨A0, c0, rfl⟩ := o0.form
  go_wp2_with (go_at_call 20; refine (implOverlapsOf _ _ _ Hs.out).mono ?_)
  rintro e w2 ⟨v1, rfl, o1, b1⟩
  obtain ⟨A1, c1, rfl⟩ := o1.form
  generalize hL : overlapsOf s b = L at *
  have HL := Lib.hid hL
  clear hL
  have s0 := b0.size
  have s1 := b1.size
  have o0' := o0.below b1
  go_wp2_with (go_at_call 14; refine (eqIntS_yes _ _ _ _ _ _ _ L _ o1 o0' (by omega)).mono ?_)
  rintro e w3 ⟨rfl, m3, rfl⟩
  go_wp2_with (go_at_call 15; refine (markIntS_any _ _ _ _ _ L _ (o1.drewN m3) (by omega) (by omega)).mono ?_)
  rintro e w4 ⟨rfl, o1m, b3⟩
  have s3 : w2.heap.size ≤ w4.heap.size := b3.size
  go_wp2_with (go_at_call 16; refine (heldIntS_yes _ _ _ _ _ _ o1m (by omega) (by omega)).mono ?_)
  rintro e w5 ⟨rfl, m5, rfl⟩
  have o1m5 := o1m.drewN m5
  go_wp2_with (go_at_call 20; refine (implOverlapsOf _ _ _ Hs.out).mono ?_)
  rintro e w6 ⟨v2, rfl, o2, b5⟩
  rw [HL.out] at o2
  obtain ⟨A2, c2, rfl⟩ := o2.form
  have s5 := b5.size
  have b36 : Below w1.heap.size w2 w6 := ((below_draws _ w2 m3).trans b3).trans ((below_draws _ w4 m5).trans (b5.mono (by show _ ≤ w4.heap.size; omega)))
  have o0'' := o0.below (b1.trans b36)
  have o1m' := o1m5.below b5
  have hw6 : w.heap.size ≤ w6.heap.size := by have h : w4.heap.size ≤ w6.heap.size := s5; omega
  go_wp2_with (go_at_call 14; refine (eqIntS_yes _ _ _ _ _ _ _ L _ o2 o0'' (by omega)).mono ?_)
  rintro e w7 ⟨rfl, m7, rfl⟩
  go_wp2_with (go_at_call 16; refine (heldIntS_yes _ _ _ _ _ _ (o1m'.drewN m7) (by omega) (by omega)).mono ?_)
  rintro e w8 ⟨rfl, m8, rfl⟩
  go_wp2_with fail
  go_ret
  exact ⟨rfl, b0.trans (((b1.mono s0).trans (b36.mono s0)).trans (below_draws _ w6 _))⟩
theorem contract (H : Type) (enc : TypeId × Value → H) (W : World) (base : Nat) (args : Array Value) (ds gs : List (DataW H)) (before : List MemPlace)
    (hval : ∀ (j : Nat) t v, Try.f6.params[j]? = some t → args[j]? = some v → Value.okWide Try.prog W .any base t v)
    (hW : DataW.Whole enc Try.prog Try.f6.params.toList Rows.fnExactOverlapsOfSpec.vars false W args.toList ds gs before) :
    Calls Try.prog 6 args W fun e W' => ∃ v, e = .returned v ∧ Rows.fnExactOverlapsOfSpec.post enc Try.prog Try.f6 false true false false W args v W' := by
  have hW' := hW
  obtain ⟨p, q, hA0, hV, rfl, hfz, hnd⟩ := hW
  have hA : DataW.TrodAll enc Try.prog W 0 (fun _ => true) true Try.f6.params.toList args.toList ds p := hA0
  rw [Try.params6] at hA hval
  obtain ⟨v0, vs0, d0, ds0, p0, q0, hargs, rfl, rfl, h0, r0⟩ := trodAll_cons hA
  obtain ⟨v1, vs1, d1, ds1, p1, q1, rfl, rfl, rfl, h1, r1⟩ := trodAll_cons r0
  obtain ⟨rfl, rfl, rfl⟩ := trodAll_nil r1
  obtain rfl : args = #[v0, v1] := by cases args; simp_all
  obtain ⟨a0, rfl, rfl, rfl, b0⟩ := open_string Try.underlying9 (hval 0 9 v0 rfl rfl) h0
  obtain ⟨a1, rfl, rfl, rfl, b1⟩ := open_string Try.underlying9 (hval 1 9 v1 rfl rfl) h1
  refine (walk a0 b0 a1 b1 W).mono fun e W' ⟨he, hb⟩ => ?_
  subst he
  exact ⟨_, rfl, law_post hW' rfl rfl rfl Try.underlying4 laidOut (by kernel_rfl) hb⟩

set_option maxRecDepth 100000 in
theorem lifted (os : Os) (started : os.Started) (H : Type) (enc : TypeId × Value → H) :
    ReturnsInHanded {} Try.checked os 6 .any (Rows.fnExactOverlapsOfSpec.pre6 enc Try.prog Try.f6 Rows.fnExactOverlapsOfRow.domain false) (Rows.fnExactOverlapsOfSpec.post enc Try.prog Try.f6 false true false false) := by
  refine returnsInHanded_of_change (C := Try.checked) own started (by kernel_rfl) Try.func6
    (ChangeSpec.witness6 (enc := enc) (C := Try.checked) false ⟨#[], #[.string .empty, .string .empty], []⟩ 8 (by kernel_rfl) (by kernel_rfl) (by kernel_rfl) (by kernel_rfl)) ?_
  intro W base args ds gs before hval hW _ _
  exact contract H enc W base args ds gs before hval hW

theorem proved : Rows.FnExactOverlapsOfSaid :=
  OpenClaim.holds_of_wide 6 Try.f6 rfl rfl rfl rfl rfl rfl rfl ⟨rfl, rfl, rfl, rfl, rfl⟩ rfl rfl rfl rfl rfl (by kernel_rfl) Try.func6 (by kernel_rfl)
    (of_decide_eq_true (by kernel_rfl)) (by unfold Func.isWrapper; first | (rw [if_pos (by decide +kernel)]; kernel_rfl) | (rw [if_neg (by decide +kernel)]; exact ⟨rfl, rfl⟩))
    (fun os started H enc _ => lifted os started H enc)
end Go.Proofs.Ytpgfjcnbgomagaa.fnExactOverlapsOf
