/- For every system and pair, impl.IsJoined answers as its model: FnExactIsJoined returns true. The table of letters is tied to the program's text. -/
import Derived.Test.YtomejfebmibfjaaDoorSides
import Derived.Test.YtomejfebmibfjaaDoorWorld
import Derived.Test.YtomejfebmibfjaaDoorLeaving
import Derived.Deep.RegionHeld3
namespace Go.Proofs.YtomejfebmibfjaaDoor.fnExactIsJoined
open Go.ChangeShapes Go.WideShapes Go.ChangeAt Go.RowKit
open Go.ChangeMaps (open_string)
set_option maxRecDepth 100000 in
set_option maxHeartbeats 3200000 in
theorem walk (k : Int) (_wk : (Lit.int .i64 k).wf = true) (A : Option Addr) (n c : Nat) (xs : List R) (p : PA) (hss : p.1.size ≤ maxLen) (w : World) (hI : InR w A n c xs) (h : Let w) :
    Calls Tryd.prog 5 #[.agg #[.int .i64 k, .slice A n c], pairV p] w fun e w' => e = .returned (.bool true) ∧ Below w.heap.size w w' := by
  obtain ⟨s, ⟨x, y⟩, x', y'⟩ := p
  have HL := Lib.hid (fun (w' : World) (hb : Below w.heap.size w w') => h.keep hb (Nat.le_refl _))
  have HI := Lib.hid (fun (w' : World) (hb : Below w.heap.size w w') => hI.keep hb)
  have Hss := Lib.hid hss
  clear h hI hss
  go_enter Tryd.func5, Tryd.ntmps5
  go_wp2_with fail
  refine (szSystem_any k A n c xs 1048576 _ (HI.out _ (bel2 _ _ _)) (Nat.le_refl _)).mono ?_
  rintro e w1 ⟨q, rfl, hq, hb1⟩
  have b1 := (bel2 w _ _).trans (hb1.mono (by simp; omega))
  have B1 := Lib.hid (((Blk.new1 w _ _).alloc _).below hb1 (by simp; omega))
  have Z1 := Lib.hid ((Blk.new2 w _ _ _).below hb1 (by simp))
  obtain ⟨q0, q1, -, -, ql⟩ := B1.out.two
  obtain ⟨z0, z1, z2, z3, z4, -, -, -, -, -, zl⟩ := Z1.out.five
  clear hb1
  by_cases hq0 : q < 0
  · go_wp2_with fail
    go_ret
    exact ⟨rfl, b1⟩
  have Hsz : Hid (n + rulesSz xs ≤ 1048576) := by rcases hq with h | h <;> (show _ ≤ _; omega)
  have Hn : Hid (n ≤ 1048576) := by have := Hsz.out; show _ ≤ _; omega
  have Hsm : Hid (smallR xs) := small_of xs (by have := Hsz.out; omega)
  obtain ⟨q', rfl⟩ : ∃ q' : Nat, q = q' := ⟨q.toNat, by omega⟩
  have hq' : q' ≤ 1048576 := by rcases hq with h | h <;> omega
  clear hq
  go_wp2_with fail
  refine (szPair_any s x y x' y' q' _ Hss.out hq').mono ?_
  rintro e w1' ⟨q2, rfl, hqq, hb1'⟩
  have b1' := b1.trans (hb1'.mono b1.size)
  have B1' := Lib.hid (B1.out.below hb1' B1.out.lt)
  have Z1' := Lib.hid (Z1.out.below hb1' Z1.out.lt)
  clear q0 q1 ql z0 z1 z2 z3 z4 zl b1 B1 Z1 hb1'
  obtain ⟨q0, q1, -, -, ql⟩ := B1'.out.two
  obtain ⟨z0, z1, z2, z3, z4, -, -, -, -, -, zl⟩ := Z1'.out.five
  by_cases hq20 : q2 < 0
  · go_wp2_with fail
    go_ret
    exact ⟨rfl, b1'⟩
  have Hs : Hid (s.size ≤ 1048576) := by rcases hqq with h | h <;> (show _ ≤ _; omega)
  clear hqq
  go_wp2_with fail
  go_region_held3 (fun w' => w'.cell? ⟨w.heap.size, 0, none⟩ = some (.int .i64 k) ∧ w'.cell? ⟨w.heap.size, 1, none⟩ = some (.slice A n c) ∧ w'.cell? ⟨w.heap.size + 1, 0, none⟩ = some (.string s) ∧ w'.cell? ⟨w.heap.size + 1, 1, none⟩ = some (.int .i64 x) ∧ w'.cell? ⟨w.heap.size + 1, 2, none⟩ = some (.int .i64 y) ∧ w'.cell? ⟨w.heap.size + 1, 3, none⟩ = some (.int .i64 x') ∧ w'.cell? ⟨w.heap.size + 1, 4, none⟩ = some (.int .i64 y') ∧ Below w1'.heap.size w1' w')
    (first | exact ⟨q0, q1, z0, z1, z2, z3, z4, (Below.refl _ w1').drew⟩ | exact held7_keep (by assumption) hb2 (Nat.le_refl _) ql zl | exact held7_keep (by assumption) hb3 (Nat.le_refl _) ql zl | exact held7_keep (by assumption) hb4 (Nat.le_refl _) ql zl)
    ((first | (go_at_call 12; refine (toSystem_any k A n c xs _ (HI.out _ b1'.drew) Hn.out).mono ?_; rintro e w2 ⟨v2, rfl, o2, hb2⟩; obtain ⟨A2, c2, rfl⟩ := o2.form) | (go_at_call 21; refine (toPair_any (s, (x, y), (x', y')) _).mono ?_; rintro e w3 ⟨rfl, hb3⟩) | (go_at_call 23; refine (specIsJoined k A2 n c2 _ xs (s, (x, y), (x', y')) _ (o2.below hb3) Hsm.out Hs.out).mono ?_; rintro e w4 ⟨rfl, hb4⟩)))
  have hS := (‹_ ∧ _ ∧ _ ∧ _ ∧ _ ∧ _ ∧ _ ∧ Below w1'.heap.size w1' w4›).2.2.2.2.2.2.2
  have b4 := b1'.trans (hS.mono b1'.size)
  have B4 := Lib.hid (B1'.out.below hS B1'.out.lt)
  have Z4 := Lib.hid (Z1'.out.below hS Z1'.out.lt)
  clear hb2 hb3 hb4 o2 hS q0 q1 ql z0 z1 z2 z3 z4 zl
  obtain ⟨rr, hrr⟩ : ∃ rr, joinedS k xs (s, (x, y), (x', y')) = rr := ⟨_, rfl⟩
  have Hrr := Lib.hid hrr
  rw [hrr]
  clear hrr
  obtain ⟨q0, q1, -, -, ql⟩ := B4.out.two
  go_wp2_with fail
  refine (toSystem_any k A n c xs _ (HI.out _ b4) Hn.out).mono ?_
  rintro e w5 ⟨v5, rfl, o5, hb5⟩
  have b5 := b4.trans (hb5.mono b4.size)
  have B5 := Lib.hid (B4.out.below hb5 B4.out.lt)
  have Z5 := Lib.hid (Z4.out.below hb5 Z4.out.lt)
  obtain ⟨A5, c5, rfl⟩ := o5.form
  have O5 := Lib.hid o5
  clear hb5 o5 q0 q1 ql
  go_wp2_with fail
  have b6 := b5.alloc b5.size (.cells #[.int .i64 k, .slice A5 n c5] 30)
  have B6 := Lib.hid (B5.out.alloc (.cells #[.int .i64 k, .slice A5 n c5] 30))
  have Z6 := Lib.hid (Z5.out.alloc (.cells #[.int .i64 k, .slice A5 n c5] 30))
  have X6 := Lib.hid (Blk.new1 w5 #[.int .i64 k, .slice A5 n c5] 30)
  have O6 := Lib.hid (O5.out.below (bel1 w5 (.cells #[.int .i64 k, .slice A5 n c5] 30)))
  clear b5 B5 Z5 O5
  generalize w5.alloc (.cells #[.int .i64 k, .slice A5 n c5] 30) = w6 at *
  obtain ⟨x0, x1, -, -, xl⟩ := X6.out.two
  obtain ⟨z0, z1, z2, z3, z4, -, -, -, -, -, zl⟩ := Z6.out.five
  have O6d : Hid (Own w4.heap.size w6.drew (.slice A5 n c5) 2 n (rulesC xs)) := O6
  go_region_held3 (fun w' => w'.cell? ⟨w5.heap.size, 0, none⟩ = some (.int .i64 k) ∧ w'.cell? ⟨w5.heap.size, 1, none⟩ = some (.slice A5 n c5) ∧ w'.cell? ⟨w.heap.size + 1, 0, none⟩ = some (.string s) ∧ w'.cell? ⟨w.heap.size + 1, 1, none⟩ = some (.int .i64 x) ∧ w'.cell? ⟨w.heap.size + 1, 2, none⟩ = some (.int .i64 y) ∧ w'.cell? ⟨w.heap.size + 1, 3, none⟩ = some (.int .i64 x') ∧ w'.cell? ⟨w.heap.size + 1, 4, none⟩ = some (.int .i64 y') ∧ Below w6.heap.size w6 w')
    (first | exact ⟨x0, x1, z0, z1, z2, z3, z4, (Below.refl _ w6).drew⟩ | exact held7_keep (by assumption) hb7 (Nat.le_refl _) xl zl | exact held7_keep (by assumption) hb8 (Nat.le_refl _) xl zl)
    ((first | (go_at_call 21; refine (toPair_any (s, (x, y), (x', y')) _).mono ?_; rintro e w7 ⟨rfl, hb7⟩) | (go_at_call 24; refine (implIsJoined k A5 n c5 _ xs (s, (x, y), (x', y')) _ (O6d.out.below hb7) Hsm.out Hs.out (HL.out _ (b6.drew.trans (hb7.mono b6.size)))).mono ?_; rw [Hrr.out]; rintro e w8 ⟨rfl, hb8⟩)))
  have hS := (‹_ ∧ _ ∧ _ ∧ _ ∧ _ ∧ _ ∧ _ ∧ Below w6.heap.size w6 w8›).2.2.2.2.2.2.2
  have b8 := b6.trans (hS.mono b6.size)
  have B8 := Lib.hid (B6.out.below hS B6.out.lt)
  have X8 := Lib.hid (X6.out.below hS X6.out.lt)
  have O8 := Lib.hid (O6.out.below hS)
  have O8d : Hid (Own w4.heap.size w8.drew (.slice A5 n c5) 2 n (rulesC xs)) := O8
  clear hb7 hb8 hS x0 x1 xl z0 z1 z2 z3 z4 zl O6d O6 Z6 b6
  obtain ⟨q0, q1, -, -, ql⟩ := B8.out.two
  obtain ⟨x0, x1, -, -, xl⟩ := X8.out.two
  go_wp2_with fail
  go_region_held3 (fun w' => w'.cell? ⟨w5.heap.size, 0, none⟩ = some (.int .i64 k) ∧ w'.cell? ⟨w5.heap.size, 1, none⟩ = some (.slice A5 n c5) ∧ w'.cell? ⟨w.heap.size, 0, none⟩ = some (.int .i64 k) ∧ w'.cell? ⟨w.heap.size, 1, none⟩ = some (.slice A n c) ∧ Below w8.heap.size w8 w')
    (first | exact ⟨x0, x1, q0, q1, (Below.refl _ w8).drew⟩ | exact held4_keep (by assumption) hb9 (Nat.le_refl _) xl ql | exact held4_keep (by assumption) hb10 (Nat.le_refl _) xl ql)
    ((first | (go_at_call 12; refine (toSystem_any k A n c xs _ (HI.out _ b8.drew) Hn.out).mono ?_; rintro e w9 ⟨v9, rfl, o9, hb9⟩; obtain ⟨A9, c9, rfl⟩ := o9.form) | (go_at_call 15; refine (eqSystem_yes k A5 _ n c5 _ _ _ xs _ (O8d.out.below hb9) o9).mono ?_; rintro e w10 ⟨rfl, hb10⟩)))
  have hS := (‹_ ∧ _ ∧ _ ∧ _ ∧ Below w8.heap.size w8 w10›).2.2.2.2
  go_wp2_with fail
  go_ret
  exact ⟨rfl, b8.trans (hS.mono b8.size)⟩
set_option maxRecDepth 100000 in
theorem contract (H : Type) (enc : TypeId × Value → H) (W : World) (base : Nat) (args : Array Value) (ds gs : List (DataW H)) (before : List MemPlace)
    (hval : ∀ (j : Nat) t v, Tryd.f5.params[j]? = some t → args[j]? = some v → Value.okWide Tryd.prog W .any base t v)
    (hW : DataW.Whole enc Tryd.prog Tryd.f5.params.toList Rows.fnExactIsJoinedSpec.vars false W args.toList ds gs before) (hL : laidMetH Tryd.prog Rows.fnExactIsJoinedRow.laid W) :
    Calls Tryd.prog 5 args W fun e W' => ∃ v, e = .returned v ∧ Rows.fnExactIsJoinedSpec.post enc Tryd.prog Tryd.f5 false true false false W args v W' := by
  have hW' := hW
  have hL' : laidMet Tryd.prog [("loop.example/g03201/impl.letters", Rows.laid_loop_example_g03201_impl_letters)] W := hL
  obtain ⟨p, q, hA0, hV, rfl, hfz, hnd⟩ := hW
  obtain ⟨g0, rfl⟩ := vars_len1 (trodVars_len hV)
  have hA : DataW.TrodAll enc Tryd.prog W 0 (fun _ => true) true Tryd.f5.params.toList args.toList ds p := hA0
  rw [Tryd.params5] at hA hval
  obtain ⟨v0, vs0, d0, ds0, p0, q0, hargs, rfl, rfl, h0, r0⟩ := trodAll_cons hA
  obtain ⟨v1, vs1, d1, ds1, p1, q1, rfl, rfl, rfl, h1, r1⟩ := trodAll_cons r0
  obtain ⟨rfl, rfl, rfl⟩ := trodAll_nil r1
  obtain rfl : args = #[v0, v1] := by first | exact Array.toList_inj.1 hargs | exact Array.toList_inj.1 hargs.symm | (cases args; simp_all)
  obtain ⟨k0, A0, n0, c0, xs0, rfl, wk0, I0⟩ := open_system Tryd.underlying24 (by kernel_rfl) (by kernel_rfl) Tryd.underlying3 Tryd.underlying22 Tryd.underlying72 (by kernel_rfl) (by kernel_rfl) Tryd.underlying9 Tryd.underlying9 (hval 0 24 v0 rfl rfl) h0
  obtain ⟨s1, a1, b1, c1, d1, rfl, z1⟩ := open_pair Tryd.underlying40 (by kernel_rfl) (by kernel_rfl) Tryd.underlying9 Tryd.underlying38 Tryd.underlying38 (by kernel_rfl) Tryd.underlying3 Tryd.underlying3 (hval 1 40 v1 rfl rfl) h1
  refine (walk k0 wk0 A0 n0 c0 xs0 (s1, (a1, b1), (c1, d1)) z1 W I0 (let_of hL')).mono fun e W' ⟨he, hb⟩ => ?_
  subst he
  exact ⟨_, rfl, law_postV hW' rfl rfl Tryd.underlying4 laidOut (by kernel_rfl) (by kernel_rfl) hb⟩

theorem laid_met (os : Os) : laidMet Tryd.prog Rows.fnExactIsJoinedRow.laid ((laidWorld os).forCall (fun _ _ => 0) ⟨#[], #[.agg #[.int .i64 0, .slice none 0 0], .agg #[.string .empty, .int .i64 0, .int .i64 0, .int .i64 0, .int .i64 0]], []⟩).memory :=
  laidMet_of_run' 8 (by kernel_rfl) (by kernel_rfl)
theorem reads (os : Os) {H : Type} (enc : TypeId × Value → H) : ∃ places, DataW.whole enc Tryd.prog ((laidWorld os).forCall (fun _ _ => 0) ⟨#[], #[.agg #[.int .i64 0, .slice none 0 0], .agg #[.string .empty, .int .i64 0, .int .i64 0, .int .i64 0, .int .i64 0]], []⟩).memory Tryd.f5.params.toList Rows.fnExactIsJoinedSpec.vars false (#[.agg #[.int .i64 0, .slice none 0 0], .agg #[.string .empty, .int .i64 0, .int .i64 0, .int .i64 0, .int .i64 0]] : Array Value).toList 8 = some ([.agg [.lit (.int .i64 0), .nil], .agg [.lit (.string []), .agg [.lit (.int .i64 0), .lit (.int .i64 0)], .agg [.lit (.int .i64 0), .lit (.int .i64 0)]]], [Rows.laid_loop_example_g03201_impl_letters], places) :=
  ⟨MemPlace.row ⟨1, 0, none⟩ 4, by kernel_rfl⟩
set_option maxRecDepth 100000 in
theorem lifted (os : Os) (started : os.Started) (H : Type) (enc : TypeId × Value → H) (F : Stop.Interp) :
    ReturnsInHanded {} Tryd.checked os 5 .any ((OpenSpec.ofChange Rows.fnExactIsJoinedSpec).preRow enc Tryd.prog Tryd.f5 Rows.fnExactIsJoinedRow.domain false Rows.fnExactIsJoinedRow.laid) (((OpenSpec.ofChange Rows.fnExactIsJoinedSpec).at F).post enc Tryd.prog Tryd.f5 false true false false) := by
  obtain ⟨places, hx⟩ := reads os enc
  refine returnsInHanded_of_row (C := Tryd.checked) (s := OpenSpec.ofChange Rows.fnExactIsJoinedSpec) own started (by kernel_rfl) Tryd.func5
    (witness_row_at (enc := enc) (C := Tryd.checked) false (laidWorld os) #[.agg #[.int .i64 0, .slice none 0 0], .agg #[.string .empty, .int .i64 0, .int .i64 0, .int .i64 0, .int .i64 0]] rfl (by kernel_rfl) (by kernel_rfl) (by kernel_rfl)
      (OpenSpec.preRow_of_cond 8 hx (by kernel_rfl) (fun k hk => by cases hk) (by kernel_rfl) (laid_met os))) ?_
  intro W base args ds gs before hval hW _ _ _ hL _ _
  exact contract H enc W base args ds gs before hval hW hL
theorem said : Rows.FnExactIsJoinedSaid :=
  OpenClaim.holds_of_wide_leaving 5 Tryd.f5 rfl rfl rfl rfl rfl rfl rfl ⟨rfl, rfl, rfl, rfl, rfl⟩ rfl rfl rfl rfl rfl (by kernel_rfl) Tryd.func5 (by kernel_rfl)
    (of_decide_eq_true (by kernel_rfl)) (by unfold Func.isWrapper; first | (rw [if_pos (by decide +kernel)]; kernel_rfl) | (rw [if_neg (by decide +kernel)]; exact ⟨rfl, rfl⟩))
    (fun os started H enc _ => by rw [OpenClaim.pre_eq_preRow]; exact leaving_of_handed (lifted os started H enc (fun _ _ _ => 0)))
theorem plain (f : FuncId) (fn : Func) (hf : Tryd.pinned.checked.prog.funcNamed Rows.fnExactIsJoinedRow.func = some f) (hfn : Tryd.pinned.checked.prog.funcs[f]? = some fn) :
    false = Tryd.pinned.checked.prog.looks [] ∧ ∀ (j : Nat) t, fn.params[j]? = some t → Tryd.pinned.checked.prog.wantsStandIn t = false := by
  obtain rfl : f = 5 := Option.some.inj ((show Tryd.prog.funcNamed Rows.fnExactIsJoinedRow.func = some 5 by kernel_rfl).symm.trans hf) |>.symm
  obtain rfl : fn = Tryd.f5 := (Option.some.inj (Tryd.func5.symm.trans hfn)).symm
  refine ⟨by kernel_rfl, fun j t ht => ?_⟩
  rw [Tryd.params5] at ht
  match j, ht with
  | 0, ht => (simp at ht; subst ht; exact (show Tryd.prog.wantsStandIn 24 = false by kernel_rfl))
  | 1, ht => (simp at ht; subst ht; exact (show Tryd.prog.wantsStandIn 40 = false by kernel_rfl))
  | n + 2, ht => simp at ht
theorem proved : Rows.FnExactIsJoinedCardSaid :=
  card_goes .later _ _ _ _ said (by kernel_rfl) fnExactIsJoined_row_tie rfl ⟨rfl, rfl⟩ (by kernel_rfl) rfl plain (by kernel_rfl)
end Go.Proofs.YtomejfebmibfjaaDoor.fnExactIsJoined
