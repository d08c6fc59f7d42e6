/- For every list of strings and every separator, impl.Join answers as its model and leaves the list alone: FnExactJoin returns true. No condition. -/
import Derived.Test.YtcdndnnmcjpdnaaJoin
import Derived.Test.YtcdndnnmcjpdnaaSpecJoin
import Derived.Test.YtcdndnnmcjpdnaaIn
namespace Go.Proofs.Ytcdndnnmcjpdnaa.fnExactJoin
open Go.Joins Go.ChangeShapes Go.WideShapes Go.ChangeAt Go.RowKit
open Go.ChangeMaps (open_string)
set_option maxHeartbeats 800000 in
set_option maxRecDepth 100000 in
theorem walk (A : Option Addr) (n c : Nat) (xs : List ByteArray) (b : ByteArray) (_hb : b.size ≤ maxLen) (w : World) (h : InS w A n c xs) :
    Calls Try.prog 7 #[.slice A n c, .string b] w fun e w' => e = .returned (.bool true) ∧ Below w.heap.size w w' := by
  by_cases hbig : 1048576 < b.size
  · go_enter Try.func7, Try.ntmps7
    go_wp2_with fail
    go_ret
    exact ⟨rfl, Below.refl _ _⟩
  have Hs : Hid (b.size ≤ 1048576) := Nat.le_of_not_lt hbig
  go_enter Try.func7, Try.ntmps7
  go_wp2_with fail
  refine (szStringS_any A n c xs 1048576 _ h (Nat.le_refl _)).mono ?_
  rintro e w1 ⟨r, rfl, hr, rfl⟩
  rcases hr with rfl | ⟨hr0, hrt⟩
  · go_wp2_with fail
    go_ret
    exact ⟨rfl, Below.refl _ _⟩
  have hn : n ≤ 1048576 := by omega
  have ht : total xs ≤ 1048576 := by omega
  have Hrt := Lib.hid hrt
  clear hrt
  go_wp2_with (go_at_call 22; refine (toStringS_any A n c xs _ h hn).mono ?_)
  rintro e w2 ⟨v0, rfl, o0, b0⟩
  obtain ⟨A0, c0, rfl⟩ := o0.form
  go_wp2_with (go_at_call 21; refine (specJoin _ _ _ _ xs _ _ o0 Hs.out hn ht).mono ?_)
  rintro e w2 ⟨rfl, rfl⟩
  go_wp2_with (go_at_call 22; refine (toStringS_any A n c xs _ (h.keep b0) hn).mono ?_)
  rintro e w3 ⟨v1, rfl, o1, b1⟩
  obtain ⟨A1, c1, rfl⟩ := o1.form
  go_wp2_with (go_at_call 23; refine (implJoin _ _ _ _ xs _ _ o1 Hs.out hn ht).mono ?_)
  rintro e w4 ⟨rfl, b2⟩
  have s0 := b0.size
  have s1 := b1.size
  have s2 := b2.size
  have b14 : Below w.heap.size w w4 := b0.trans ((b1.mono s0).trans (b2.mono (by omega)))
  go_wp2_with (go_at_call 22; refine (toStringS_any A n c xs _ (h.keep b14) hn).mono ?_)
  rintro e w5 ⟨v2, rfl, o2, b3⟩
  obtain ⟨A2, c2, rfl⟩ := o2.form
  go_wp2_with (go_at_call 15; refine (eqStringS_yes _ _ _ _ _ _ _ xs _ ((o1.below b2).below b3) o2 (by omega)).mono ?_)
  rintro e w6 ⟨rfl, m, rfl⟩
  go_wp2_with fail
  go_ret
  exact ⟨rfl, b14.trans ((b3.mono (by omega)).trans (below_draws _ w5 m))⟩
theorem contract (H : Type) (enc : TypeId × Value → H) (W : World) (base : Nat) (args : Array Value) (ds gs : List (DataW H)) (before : List MemPlace)
    (hval : ∀ (j : Nat) t v, Try.f7.params[j]? = some t → args[j]? = some v → Value.okWide Try.prog W .any base t v)
    (hW : DataW.Whole enc Try.prog Try.f7.params.toList Rows.fnExactJoinSpec.vars false W args.toList ds gs before) :
    Calls Try.prog 7 args W fun e W' => ∃ v, e = .returned v ∧ Rows.fnExactJoinSpec.post enc Try.prog Try.f7 false true false false W args v W' := by
  have hW' := hW
  obtain ⟨p, q, hA0, hV, rfl, hfz, hnd⟩ := hW
  have hA : DataW.TrodAll enc Try.prog W 0 (fun _ => true) true Try.f7.params.toList args.toList ds p := hA0
  rw [Try.params7] at hA hval
  obtain ⟨v0, vs0, d0, ds0, p0, q0, hargs, rfl, rfl, h0, r0⟩ := trodAll_cons hA
  obtain ⟨v1, vs1, d1, ds1, p1, q1, rfl, rfl, rfl, h1, r1⟩ := trodAll_cons r0
  obtain ⟨rfl, rfl, rfl⟩ := trodAll_nil r1
  obtain rfl : args = #[v0, v1] := by cases args; simp_all
  obtain ⟨A0, n0, c0, xs0, rfl, B0⟩ := open_strs Try.underlying23 Try.underlying9 (by kernel_rfl) (hval 0 23 v0 rfl rfl) h0
  obtain ⟨a1, rfl, rfl, rfl, b1⟩ := open_string Try.underlying9 (hval 1 9 v1 rfl rfl) h1
  refine (walk A0 n0 c0 xs0 a1 b1 W B0).mono fun e W' ⟨he, hb⟩ => ?_
  subst he
  exact ⟨_, rfl, law_post hW' rfl rfl rfl Try.underlying4 laidOut (by kernel_rfl) hb⟩

set_option maxRecDepth 100000 in
theorem lifted (os : Os) (started : os.Started) (H : Type) (enc : TypeId × Value → H) :
    ReturnsInHanded {} Try.checked os 7 .any (Rows.fnExactJoinSpec.pre6 enc Try.prog Try.f7 Rows.fnExactJoinRow.domain false) (Rows.fnExactJoinSpec.post enc Try.prog Try.f7 false true false false) := by
  refine returnsInHanded_of_change (C := Try.checked) own started (by kernel_rfl) Try.func7
    (ChangeSpec.witness6 (enc := enc) (C := Try.checked) false ⟨#[], #[.slice none 0 0, .string .empty], []⟩ 8 (by kernel_rfl) (by kernel_rfl) (by kernel_rfl) (by kernel_rfl)) ?_
  intro W base args ds gs before hval hW _ _
  exact contract H enc W base args ds gs before hval hW

theorem proved : Rows.FnExactJoinSaid :=
  OpenClaim.holds_of_wide 7 Try.f7 rfl rfl rfl rfl rfl rfl rfl ⟨rfl, rfl, rfl, rfl, rfl⟩ rfl rfl rfl rfl rfl (by kernel_rfl) Try.func7 (by kernel_rfl)
    (of_decide_eq_true (by kernel_rfl)) (by unfold Func.isWrapper; first | (rw [if_pos (by decide +kernel)]; kernel_rfl) | (rw [if_neg (by decide +kernel)]; exact ⟨rfl, rfl⟩))
    (fun os started H enc _ => lifted os started H enc)
end Go.Proofs.Ytcdndnnmcjpdnaa.fnExactJoin
