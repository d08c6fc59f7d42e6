/- For every table and number, impl.OrderOf answers as its model: FnExactOrderOf returns true. -/
import Derived.Test.YtkiomohpmajjcaaGroupInv
import Derived.Deep.RegionHeld3
namespace Go.Proofs.Ytkiomohpmajjcaa.fnExactOrderOf
open Go.ChangeShapes Go.WideShapes Go.ChangeAt Go.RowKit
set_option maxRecDepth 100000 in
set_option maxHeartbeats 1600000 in
theorem walk (q : Int) (_wq : (Lit.int .i64 q).wf = true) (A : Option Addr) (n c : Nat) (xs : List Int) (i : Int) (_wi : (Lit.int .i64 i).wf = true) (w : World) (hI : InI w A n c xs) :
    Calls Try.prog 4 #[tabV q A n c, .int .i64 i] w fun e w' => e = .returned (.bool true) ∧ Below w.heap.size w w' := by
  have HI := Lib.hid (fun (w' : World) (hb : Below w.heap.size w w') => hI.keep hb)
  have hmx := Nat.le_trans hI.2.1 hI.2.2.1
  clear hI
  go_enter Try.func4, Try.ntmps4
  go_wp2_with fail
  refine (szTable_any q A n c 1048576 _ hmx (Nat.le_refl _)).mono ?_
  rintro e w1 ⟨r, rfl, hr, hb1⟩
  have b1 := (bel1 w _).trans (hb1.mono (by simp))
  have B1 := Lib.hid ((Blk.new1 w _ _).below hb1 (by simp))
  obtain ⟨q0, q1, -, -, ql⟩ := B1.out.two
  clear hb1
  by_cases hq0 : r < 0
  · go_wp2_with fail
    go_ret
    exact ⟨rfl, b1⟩
  have Hn : Hid (n ≤ 1048576) := by rcases hr with h | h <;> (show _ ≤ _; omega)
  clear hr
  go_wp2_with fail
  refine (toTable_any q A n c xs _ (HI.out _ b1) Hn.out).mono ?_
  rintro e w2 ⟨A2, c2, rfl, o2, hb2⟩
  have b2 := b1.trans (hb2.mono b1.size)
  have B2 := Lib.hid (B1.out.below hb2 B1.out.lt)
  go_wp2_with fail
  refine (specOrderOf q A2 n c2 _ xs i _ o2 Hn.out).mono ?_
  rintro e w3 ⟨rfl, hb3⟩
  have b3 := b2.trans (hb3.mono b2.size)
  have B3 := Lib.hid (B2.out.below hb3 B2.out.lt)
  clear hb2 hb3 q0 q1 ql o2
  obtain ⟨rr, hrr⟩ : ∃ rr, orderOf q xs i = rr := ⟨_, rfl⟩
  have Hrr := Lib.hid hrr
  rw [hrr]
  clear hrr
  obtain ⟨q0, q1, -, -, ql⟩ := B3.out.two
  go_wp2_with fail
  refine (toTable_any q A n c xs _ (HI.out _ b3) Hn.out).mono ?_
  rintro e w4 ⟨A4, c4, rfl, o4, hb4⟩
  have b4 := b3.trans (hb4.mono b3.size)
  have B4 := Lib.hid (B3.out.below hb4 B3.out.lt)
  have O4 := Lib.hid o4
  clear hb4 o4 q0 q1
  go_wp2_with fail
  refine (implOrderOf q A4 n c4 _ xs i _ (O4.out.below (bel1 _ _)) Hn.out).mono ?_
  rw [Hrr.out]
  rintro e w5 ⟨rfl, hb5⟩
  have b5 := (b4.alloc b4.size _).trans (hb5.mono (by have := b4.size; simp; omega))
  have B5 := Lib.hid ((B4.out.alloc _).below hb5 (by have := B4.out.lt; simp; omega))
  have X5 := Lib.hid ((Blk.new1 w4 _ _).below hb5 (by simp))
  have O5 := Lib.hid ((O4.out.below (bel1 _ _)).below hb5)
  have O5d : Hid (Own w3.heap.size w5.drew (.slice A4 n c4) 1 n (ints xs)) := O5
  clear hb5
  obtain ⟨q0, q1, -, -, ql⟩ := B5.out.two
  obtain ⟨x0, x1, -, -, xl⟩ := X5.out.two
  go_wp2_with fail
  go_region_held3 (fun w' => w'.cell? ⟨w4.heap.size, 0, none⟩ = some (.int .i64 q) ∧ w'.cell? ⟨w4.heap.size, 1, none⟩ = some (.slice A4 n c4) ∧ w'.cell? ⟨w.heap.size, 0, none⟩ = some (.int .i64 q) ∧ w'.cell? ⟨w.heap.size, 1, none⟩ = some (.slice A n c) ∧ Below w5.heap.size w5 w')
    (first | exact ⟨x0, x1, q0, q1, (Below.refl _ w5).drew⟩ | exact held4_keep (by assumption) hb6 (Nat.le_refl _) xl ql | exact held4_keep (by assumption) hb7 (Nat.le_refl _) xl ql)
    ((first | (go_at_call 14; refine (toTable_any q A n c xs _ (HI.out _ b5.drew) Hn.out).mono ?_; rintro e w6 ⟨A6, c6, rfl, o6, hb6⟩) | (go_at_call 16; refine (eqTable_yes q A4 _ n c4 _ _ _ xs _ (O5d.out.below hb6) o6 Hn.out).mono ?_; rintro e w7 ⟨rfl, hb7⟩)))
  all_goals go_wp2
  go_ret
  have hS := ‹_ ∧ _ ∧ _ ∧ _ ∧ Below w5.heap.size w5 w7›
  exact ⟨rfl, b5.trans (hS.2.2.2.2.mono b5.size)⟩
set_option maxRecDepth 100000 in
theorem contract (H : Type) (enc : TypeId × Value → H) (W : World) (base : Nat) (args : Array Value) (ds gs : List (DataW H)) (before : List MemPlace)
    (hval : ∀ (j : Nat) t v, Try.f4.params[j]? = some t → args[j]? = some v → Value.okWide Try.prog W .any base t v)
    (hW : DataW.Whole enc Try.prog Try.f4.params.toList Rows.fnExactOrderOfSpec.vars false W args.toList ds gs before) :
    Calls Try.prog 4 args W fun e W' => ∃ v, e = .returned v ∧ Rows.fnExactOrderOfSpec.post enc Try.prog Try.f4 false true false false W args v W' := by
  have hW' := hW
  obtain ⟨p, q, hA0, hV, rfl, hfz, hnd⟩ := hW
  have hA : DataW.TrodAll enc Try.prog W 0 (fun _ => true) true Try.f4.params.toList args.toList ds p := hA0
  rw [Try.params4] at hA hval
  obtain ⟨v0, vs0, d0, ds0, p0, q0, hargs, rfl, rfl, h0, r0⟩ := trodAll_cons hA
  obtain ⟨v1, vs1, d1, ds1, p1, q1, rfl, rfl, rfl, h1, r1⟩ := trodAll_cons r0
  obtain ⟨rfl, rfl, rfl⟩ := trodAll_nil r1
  obtain rfl : args = #[v0, v1] := by first | exact Array.toList_inj.1 hargs | exact Array.toList_inj.1 hargs.symm | (cases args; simp_all)
  obtain ⟨k0, A0, n0, c0, xs0, rfl, wk0, I0⟩ := open_table Try.underlying24 (by kernel_rfl) (by kernel_rfl) Try.underlying3 Try.underlying22 Try.underlying3 (by kernel_rfl) (hval 0 24 v0 rfl rfl) h0
  obtain ⟨a1, rfl, rfl, rfl, b1⟩ := open_int Try.underlying3 (hval 1 3 v1 rfl rfl) h1
  refine (walk k0 wk0 A0 n0 c0 xs0 a1 b1 W I0).mono fun e W' ⟨he, hb⟩ => ?_
  subst he
  exact ⟨_, rfl, law_post hW' rfl rfl rfl Try.underlying4 laidOut (by kernel_rfl) hb⟩

set_option maxRecDepth 100000 in
theorem lifted (os : Os) (started : os.Started) (H : Type) (enc : TypeId × Value → H) :
    ReturnsInHanded {} Try.checked os 4 .any (Rows.fnExactOrderOfSpec.pre6 enc Try.prog Try.f4 Rows.fnExactOrderOfRow.domain false) (Rows.fnExactOrderOfSpec.post enc Try.prog Try.f4 false true false false) := by
  refine returnsInHanded_of_change (C := Try.checked) own started (by kernel_rfl) Try.func4
    (ChangeSpec.witness6 (enc := enc) (C := Try.checked) false ⟨#[], #[.agg #[.int .i64 0, .slice none 0 0], .int .i64 0], []⟩ 8 (by kernel_rfl) (by kernel_rfl) (by kernel_rfl) (by kernel_rfl)) ?_
  intro W base args ds gs before hval hW _ _
  exact contract H enc W base args ds gs before hval hW

theorem proved : Rows.FnExactOrderOfSaid :=
  OpenClaim.holds_of_wide 4 Try.f4 rfl rfl rfl rfl rfl rfl rfl ⟨rfl, rfl, rfl, rfl, rfl⟩ rfl rfl rfl rfl rfl (by kernel_rfl) Try.func4 (by kernel_rfl)
    (of_decide_eq_true (by kernel_rfl)) (by unfold Func.isWrapper; first | (rw [if_pos (by decide +kernel)]; kernel_rfl) | (rw [if_neg (by decide +kernel)]; exact ⟨rfl, rfl⟩))
    (fun os started H enc _ => lifted os started H enc)
end Go.Proofs.Ytkiomohpmajjcaa.fnExactOrderOf
