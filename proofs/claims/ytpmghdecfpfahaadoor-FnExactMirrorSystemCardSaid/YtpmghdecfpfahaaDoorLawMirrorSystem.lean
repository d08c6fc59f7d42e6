/- For every system, impl.MirrorSystem answers as its model, in memory of its own: FnExactMirrorSystem returns true. The table of letters is tied to the program's text. -/
import Derived.Test.YtpmghdecfpfahaaDoorSpecMirror
import Derived.Test.YtpmghdecfpfahaaDoorMarkRules
import Derived.Test.YtpmghdecfpfahaaDoorArgs
import Derived.Test.YtpmghdecfpfahaaDoorWorld
namespace Go.Proofs.YtpmghdecfpfahaaDoor.fnExactMirrorSystem
open Go.ChangeShapes Go.WideShapes Go.ChangeAt Go.RowKit
open Go.ChangeMaps (open_string)
/-- What MirrorSystem answers. -/
def mirOf (k : Int) (l : List R) : Int × List R × Bool := if systemOk k l then (k, mirL k l, true) else (0, [], false)
theorem mir_one {k : Int} {l : List R} {n : Nat} {w w' : World} {e : Ending} (hn : l.length = n)
    (h : (systemOk k l = false ∧ e = .returned (.tuple #[.agg #[.int .i64 0, .slice none 0 0], .bool false]) ∧ Below w.heap.size w w') ∨
      (systemOk k l = true ∧ ∃ v, e = .returned (.tuple #[.agg #[.int .i64 k, v], .bool true]) ∧ Own w.heap.size w' v 2 n (rulesC (mirL k l)) ∧ Below w.heap.size w w')) :
    ∃ v, e = .returned (.tuple #[.agg #[.int .i64 (mirOf k l).1, v], .bool (mirOf k l).2.2]) ∧ Own w.heap.size w' v 2 (mirOf k l).2.1.length (rulesC (mirOf k l).2.1) ∧ Below w.heap.size w w' := by
  rcases h with ⟨h1, rfl, hb⟩ | ⟨h1, v, rfl, ho, hb⟩
  · exact ⟨.slice none 0 0, by simp [mirOf, h1], by simp only [mirOf, h1]; exact Own.none_, hb⟩
  · refine ⟨v, by simp [mirOf, h1], ?_, hb⟩
    simp only [mirOf, h1, if_true]
    rw [show (mirL k l).length = n by unfold mirL; rw [List.length_map, hn]]
    exact ho
theorem mirOf_len (k : Int) (l : List R) : (mirOf k l).2.1.length ≤ l.length := by
  unfold mirOf
  split
  · show (mirL k l).length ≤ _; unfold mirL; rw [List.length_map]; exact Nat.le_refl _
  · exact Nat.zero_le _
set_option maxRecDepth 100000 in
set_option maxHeartbeats 6400000 in
theorem walk (k : Int) (_wk : (Lit.int .i64 k).wf = true) (A : Option Addr) (n c : Nat) (xs : List R) (w : World) (hI : InR w A n c xs) (h : Let w) :
    Calls Tryd.prog 7 #[.agg #[.int .i64 k, .slice A n c]] w fun e w' => e = .returned (.bool true) ∧ Below w.heap.size w w' := by
  have HL := Lib.hid (fun (w' : World) (hb : Below w.heap.size w w') => h.keep hb (Nat.le_refl _))
  have HI := Lib.hid (fun (w' : World) (hb : Below w.heap.size w w') => hI.keep hb)
  have hxl := hI.1
  clear h hI
  go_enter Tryd.func7, Tryd.ntmps7
  go_wp2_with fail
  refine (szSystem_any k A n c xs 1048576 _ (HI.out _ (bel1 _ _)) (Nat.le_refl _)).mono ?_
  rintro e w1 ⟨q, rfl, hq, hb1⟩
  have b1 := (bel1 w _).trans (hb1.mono (by simp))
  have B1 := Lib.hid ((Blk.new1 w _ _).below hb1 (by simp))
  obtain ⟨q0, q1, -, -, ql⟩ := B1.out.two
  clear hb1
  by_cases hq0 : q < 0
  · go_wp2_with fail
    go_ret
    exact ⟨rfl, b1⟩
  have Hsz : Hid (n + rulesSz xs ≤ 1048576) := by rcases hq with h | h <;> (show _ ≤ _; omega)
  have Hn : Hid (n ≤ 1048576) := by have := Hsz.out; show _ ≤ _; omega
  have Hsm : Hid (smallR xs) := small_of xs (by have := Hsz.out; omega)
  have hlenM := mirOf_len k xs
  clear hq
  go_wp2_with fail
  refine (toSystem_any k A n c xs _ (HI.out _ b1) Hn.out).mono ?_
  rintro e w2 ⟨v2, rfl, o2, hb2⟩
  have b2 := b1.trans (hb2.mono b1.size)
  have B2 := Lib.hid (B1.out.below hb2 (by omega))
  obtain ⟨A2, c2, rfl⟩ := o2.form
  clear q0 q1 ql hb2
  go_wp2_with fail
  refine (specMirrorSystem k A2 n c2 _ xs _ o2 Hsm.out Hn.out).mono ?_
  rintro e w3 h3
  obtain ⟨v3, rfl, o3, hb3⟩ := mir_one hxl h3
  have HM := Lib.hid (fun (A : Option Addr) (c B : Nat) (W : World) (ho : Own B W (.slice A n c) 2 n (rulesC xs)) (hb : Below w.heap.size w W) => (implMirrorSystem k A n c B xs W ho Hsm.out Hn.out (HL.out _ hb)).mono fun e w' h => mir_one hxl h)
  generalize hSS : mirOf k xs = SS at *
  have HSS := Lib.hid hSS
  clear hSS h3 o2
  obtain ⟨KK, RL, CC⟩ := SS
  dsimp only at o3 hlenM HM ⊢
  obtain ⟨A3, c3, rfl⟩ := o3.form
  generalize hNN : RL.length = N at *
  have HNN := Lib.hid hNN
  clear hNN
  have b3 := b2.trans (hb3.mono b2.size)
  have B3 := Lib.hid (B2.out.below hb3 B2.out.lt)
  have O3 := Lib.hid o3
  clear o3 hb3
  obtain ⟨q0, q1, -, -, ql⟩ := B3.out.two
  go_wp2_with fail
  have b4 := b3.alloc b3.size (.cells #[.int .i64 KK, .slice A3 N c3] 36)
  have X4 := Lib.hid (Blk.new1 w3 #[.int .i64 KK, .slice A3 N c3] 36)
  have O4 := Lib.hid (O3.out.below (bel1 w3 (.cells #[.int .i64 KK, .slice A3 N c3] 36)))
  have B4 := Lib.hid (B3.out.alloc (.cells #[.int .i64 KK, .slice A3 N c3] 36))
  clear q0 q1 ql O3 B3
  generalize w3.alloc (.cells #[.int .i64 KK, .slice A3 N c3] 36) = w4 at *
  have hb04 := B4.out.lt
  have hb34 := X4.out.lt
  refine (toSystem_any k A n c xs _ (HI.out _ b4) Hn.out).mono ?_
  rintro e w5 ⟨v5, rfl, o5, hb5⟩
  obtain ⟨A5, c5, rfl⟩ := o5.form
  have C5 := Lib.hid hb5
  have h45 := hb5.size
  have hP5 := Lib.hid (fun hn => o5.blk_lt hn)
  have P5 := Lib.hid o5
  clear hb5 o5
  go_wp2_with fail
  have C6 := Lib.hid (C5.out.alloc h45 (.cells #[.int .i64 k, .slice A5 n c5] 36))
  have Z6 := Lib.hid (Blk.new1 w5 #[.int .i64 k, .slice A5 n c5] 36)
  have P6 := Lib.hid (P5.out.below (bel1 w5 (.cells #[.int .i64 k, .slice A5 n c5] 36)))
  have h56 : w5.heap.size < (w5.alloc (.cells #[.int .i64 k, .slice A5 n c5] 36)).heap.size := by simp
  clear P5
  generalize w5.alloc (.cells #[.int .i64 k, .slice A5 n c5] 36) = w6 at *
  refine (HM.out A5 c5 _ _ P6.out (b4.trans (C6.out.mono b4.size))).mono ?_
  rintro e w7 ⟨v7, rfl, o7, hb7⟩
  obtain ⟨A7, c7, rfl⟩ := o7.form
  have C7 := Lib.hid (C6.out.trans (hb7.mono (by omega)))
  have Z7 := Lib.hid (Z6.out.below hb7 Z6.out.lt)
  have P7 := Lib.hid (P6.out.below hb7)
  have Q7 := Lib.hid o7
  have hQ7 := Lib.hid (fun hn => o7.blk_lt hn)
  have h67 := hb7.size
  clear hb7 o7 P6 Z6 C6
  obtain ⟨x0, x1, -, -, xl⟩ := (X4.out.below C7.out hb34).two
  go_wp2_with fail
  have C8 := Lib.hid (C7.out.alloc (by omega) (.cells #[.int .i64 KK, .slice A7 N c7] 36))
  have Z8 := Lib.hid (Z7.out.alloc (.cells #[.int .i64 KK, .slice A7 N c7] 36))
  have P8 := Lib.hid (P7.out.below (bel1 w7 (.cells #[.int .i64 KK, .slice A7 N c7] 36)))
  have Q8 := Lib.hid (Q7.out.below (bel1 w7 (.cells #[.int .i64 KK, .slice A7 N c7] 36)))
  have Y8 := Lib.hid (Blk.new1 w7 #[.int .i64 KK, .slice A7 N c7] 36)
  have h78 : w7.heap.size < (w7.alloc (.cells #[.int .i64 KK, .slice A7 N c7] 36)).heap.size := by simp
  clear P7 Q7 Z7 C7 x0 x1 xl
  generalize w7.alloc (.cells #[.int .i64 KK, .slice A7 N c7] 36) = w8 at *
  refine (eqSystem_yes KK A7 A3 N c7 c3 _ _ RL _ Q8.out (O4.out.below C8.out)).mono ?_
  rintro e w9 ⟨rfl, hb9⟩
  have C9 := Lib.hid (C8.out.trans (hb9.mono (by omega)))
  have Z9 := Lib.hid (Z8.out.below hb9 Z8.out.lt)
  have P9 := Lib.hid (P8.out.below hb9)
  have Q9 := Lib.hid (Q8.out.below hb9)
  have Y9 := Lib.hid (Y8.out.below hb9 Y8.out.lt)
  have h89 := hb9.size
  have b9 := b4.trans (C9.out.mono b4.size)
  clear hb9 P8 Q8 Z8 Y8 C8
  obtain ⟨q0, q1, -, -, ql⟩ := (B4.out.below C9.out hb04).two
  obtain ⟨z0, z1, -, -, zl⟩ := Z9.out.two
  have P9d : Hid (Own w4.heap.size w9.drew (.slice A5 n c5) 2 n (rulesC xs)) := P9
  go_wp2_with fail
  go_region_held3 (fun w' => w'.cell? ⟨w5.heap.size, 0, none⟩ = some (.int .i64 k) ∧ w'.cell? ⟨w5.heap.size, 1, none⟩ = some (.slice A5 n c5) ∧ w'.cell? ⟨w.heap.size, 0, none⟩ = some (.int .i64 k) ∧ w'.cell? ⟨w.heap.size, 1, none⟩ = some (.slice A n c) ∧ Below w9.heap.size w9 w')
    (first | exact ⟨z0, z1, q0, q1, (Below.refl _ w9).drew⟩ | exact held4_keep (by assumption) hb10 (Nat.le_refl _) zl ql | exact held4_keep (by assumption) hb11 (Nat.le_refl _) zl ql)
    ((first | (go_at_call 17; refine (toSystem_any k A n c xs _ (HI.out _ b9.drew) Hn.out).mono ?_; rintro e w10 ⟨v10, rfl, o10, hb10⟩; obtain ⟨A10, c10, rfl⟩ := o10.form) | (go_at_call 19; refine (eqSystem_yes k A5 _ n c5 _ _ _ xs _ (P9d.out.below hb10) o10).mono ?_; rintro e w11 ⟨rfl, hb11⟩)))
  have hS := (‹_ ∧ _ ∧ _ ∧ _ ∧ Below w9.heap.size w9 w11›).2.2.2.2
  have C11 := Lib.hid (C9.out.trans (hS.mono (by omega)))
  have Z11 := Lib.hid (Z9.out.below hS Z9.out.lt)
  have P11 := Lib.hid (P9.out.below hS)
  have Q11 := Lib.hid (Q9.out.below hS)
  have Y11 := Lib.hid (Y9.out.below hS Y9.out.lt)
  have h911 := hS.size
  clear hS q0 q1 ql z0 z1 zl P9d P9 Q9 Y9 Z9 C9 b9
  clear hb10 hb11
  obtain ⟨z0, z1, -, -, zl⟩ := Z11.out.two
  obtain ⟨x0, x1, -, -, xl⟩ := (X4.out.below C11.out hb34).two
  obtain ⟨y0, y1, -, -, yl⟩ := Y11.out.two
  have hN := Hn.out
  have hNx : N ≤ 1048576 := by omega
  go_wp2_with fail
  refine (markSystem_any k 1 A5 n c5 _ xs _ P11.out (by omega) (by omega) (by omega)).mono ?_
  rintro e w12 ⟨rfl, p12, hb12, k12⟩
  have C12 := Lib.hid (C11.out.trans hb12)
  have h12 : w11.heap.size ≤ w12.heap.size := hb12.size
  have Y12 := Lib.hid (k12.blk Y11.out (fun hn => by have := (hP5.out hn).2; omega))
  have Q12 := Lib.hid (Own.keptA Q11.out k12 h12 (fun h1 h2 => by have := (hQ7.out h1).1; have := (hP5.out h2).2; omega))
  clear p12 hb12 k12 P11 Z11 Q11 Y11 C11 z0 z1 zl x0 x1 xl y0 y1 yl
  obtain ⟨x0, x1, -, -, xl⟩ := (X4.out.below C12.out hb34).two
  obtain ⟨y0, y1, -, -, yl⟩ := Y12.out.two
  go_wp2_with fail
  refine (eqSystem_yes KK A7 A3 N c7 c3 _ _ RL _ Q12.out (O4.out.below C12.out)).mono ?_
  rintro e w13 ⟨rfl, hb13⟩
  have h12w := C12.out.size
  have C13 := Lib.hid (C12.out.trans (hb13.mono h12w))
  have Q13 := Lib.hid (Q12.out.below hb13)
  have Y13 := Lib.hid (Y12.out.below hb13 Y12.out.lt)
  have h13 := hb13.size
  clear hb13 Q12 Y12 C12 x0 x1 xl y0 y1 yl
  obtain ⟨x0, x1, -, -, xl⟩ := (X4.out.below C13.out hb34).two
  obtain ⟨y0, y1, -, -, yl⟩ := Y13.out.two
  go_wp2_with fail
  refine (markSystem_any KK 1 A7 N c7 w4.heap.size RL _ (Q13.out.mono (by omega)) (by omega) (by omega) (by omega)).mono ?_
  rintro e w14 ⟨rfl, q14, hb14, k14⟩
  have C14 := Lib.hid (C13.out.trans hb14)
  have Y14 := Lib.hid (k14.blk Y13.out (fun hn => by have := (hQ7.out hn).2; omega))
  have Q14 := Lib.hid q14
  have h14 := C14.out.size
  clear q14 hb14 k14 Q13 Y13 C13 x0 x1 xl y0 y1 yl
  obtain ⟨y0, y1, -, -, yl⟩ := Y14.out.two
  go_wp2_with fail
  refine (heldSystem_yes KK 1 A7 N c7 _ _ Q14.out (by omega) (by omega)).mono ?_
  rintro e w15 ⟨rfl, hb15⟩
  have C15 := Lib.hid (C14.out.trans (hb15.mono h14))
  have Y15 := Lib.hid (Y14.out.below hb15 Y14.out.lt)
  have Q15 := Lib.hid (Q14.out.below hb15)
  have h15 := C15.out.size
  have b15 := b4.trans (C15.out.mono b4.size)
  clear hb15 Q14 Y14 C14 y0 y1 yl
  obtain ⟨q0, q1, -, -, ql⟩ := (B4.out.below C15.out hb04).two
  go_wp2_with fail
  refine (toSystem_any k A n c xs _ (HI.out _ b15) Hn.out).mono ?_
  rintro e w16 ⟨v16, rfl, o16, hb16⟩
  obtain ⟨A16, c16, rfl⟩ := o16.form
  have C16 := Lib.hid (C15.out.trans (hb16.mono h15))
  have Y16 := Lib.hid (Y15.out.below hb16 Y15.out.lt)
  have Q16 := Lib.hid (Q15.out.below hb16)
  have h16 := C16.out.size
  have b16 := b4.trans (C16.out.mono b4.size)
  clear hb16 Q15 Y15 C15 b15 q0 q1 ql
  go_wp2_with fail
  refine (HM.out A16 c16 _ _ o16 b16).mono ?_
  rintro e w17 ⟨v17, rfl, o17, hb17⟩
  obtain ⟨A17, c17, rfl⟩ := o17.form
  have C17 := Lib.hid (C16.out.trans (hb17.mono h16))
  have Y17 := Lib.hid (Y16.out.below hb17 Y16.out.lt)
  have Q17 := Lib.hid (Q16.out.below hb17)
  have R17 := Lib.hid o17
  have h17 := C17.out.size
  clear hb17 o16 o17 Q16 Y16 C16 b16
  obtain ⟨x0, x1, -, -, xl⟩ := (X4.out.below C17.out hb34).two
  go_wp2_with fail
  have C18 := Lib.hid (C17.out.alloc h17 (.cells #[.int .i64 KK, .slice A17 N c17] 36))
  have Y18 := Lib.hid (Y17.out.alloc (.cells #[.int .i64 KK, .slice A17 N c17] 36))
  have Q18 := Lib.hid (Q17.out.below (bel1 w17 (.cells #[.int .i64 KK, .slice A17 N c17] 36)))
  have R18 := Lib.hid (R17.out.below (bel1 w17 (.cells #[.int .i64 KK, .slice A17 N c17] 36)))
  clear Q17 R17 Y17 C17 x0 x1 xl
  generalize w17.alloc (.cells #[.int .i64 KK, .slice A17 N c17] 36) = w18 at *
  refine (eqSystem_yes KK A17 A3 N c17 c3 _ _ RL _ R18.out (O4.out.below C18.out)).mono ?_
  rintro e w19 ⟨rfl, hb19⟩
  have h18 := C18.out.size
  have C19 := Lib.hid (C18.out.trans (hb19.mono h18))
  have Y19 := Lib.hid (Y18.out.below hb19 Y18.out.lt)
  have Q19 := Lib.hid (Q18.out.below hb19)
  have h19 := C19.out.size
  clear hb19 Q18 R18 Y18 C18
  obtain ⟨y0, y1, -, -, yl⟩ := Y19.out.two
  go_wp2_with fail
  refine (heldSystem_yes KK 1 A7 N c7 _ _ Q19.out (by omega) (by omega)).mono ?_
  rintro e w20 ⟨rfl, hb20⟩
  have b20 := b4.trans ((C19.out.trans (hb20.mono h19)).mono b4.size)
  clear hb20 y0 y1 yl
  go_wp2_with fail
  go_ret
  exact ⟨rfl, b20⟩
set_option maxRecDepth 100000 in
theorem contract (H : Type) (enc : TypeId × Value → H) (W : World) (base : Nat) (args : Array Value) (ds gs : List (DataW H)) (before : List MemPlace)
    (hval : ∀ (j : Nat) t v, Tryd.f7.params[j]? = some t → args[j]? = some v → Value.okWide Tryd.prog W .any base t v)
    (hW : DataW.Whole enc Tryd.prog Tryd.f7.params.toList Rows.fnExactMirrorSystemSpec.vars false W args.toList ds gs before) (hL : laidMetH Tryd.prog Rows.fnExactMirrorSystemRow.laid W) :
    Calls Tryd.prog 7 args W fun e W' => ∃ v, e = .returned v ∧ Rows.fnExactMirrorSystemSpec.post enc Tryd.prog Tryd.f7 false true false false W args v W' := by
  have hW' := hW
  have hL' : laidMet Tryd.prog [("loop.example/g03201/impl.letters", Rows.laid_loop_example_g03201_impl_letters)] W := hL
  obtain ⟨p, q, hA0, hV, rfl, hfz, hnd⟩ := hW
  obtain ⟨g0, rfl⟩ := vars_len1 (trodVars_len hV)
  have hA : DataW.TrodAll enc Tryd.prog W 0 (fun _ => true) true Tryd.f7.params.toList args.toList ds p := hA0
  rw [Tryd.params7] at hA hval
  obtain ⟨v0, vs0, d0, ds0, p0, q0, hargs, rfl, rfl, h0, r0⟩ := trodAll_cons hA
  obtain ⟨rfl, rfl, rfl⟩ := trodAll_nil r0
  obtain rfl : args = #[v0] := by first | exact Array.toList_inj.1 hargs | exact Array.toList_inj.1 hargs.symm | (cases args; simp_all)
  obtain ⟨k0, A0, n0, c0, xs0, rfl, wk0, I0⟩ := open_system Tryd.underlying31 (by kernel_rfl) (by kernel_rfl) Tryd.underlying3 Tryd.underlying29 Tryd.underlying23 (by kernel_rfl) (by kernel_rfl) Tryd.underlying9 Tryd.underlying9 (hval 0 31 v0 rfl rfl) h0
  refine (walk k0 wk0 A0 n0 c0 xs0 W I0 (let_of hL')).mono fun e W' ⟨he, hb⟩ => ?_
  subst he
  exact ⟨_, rfl, law_postV hW' rfl rfl Tryd.underlying4 laidOut (by kernel_rfl) (by kernel_rfl) hb⟩

theorem laid_met (os : Os) : laidMet Tryd.prog Rows.fnExactMirrorSystemRow.laid ((laidWorld os).forCall (fun _ _ => 0) ⟨#[], #[.agg #[.int .i64 0, .slice none 0 0]], []⟩).memory :=
  laidMet_of_run' 8 (by kernel_rfl) (by kernel_rfl)
theorem reads (os : Os) {H : Type} (enc : TypeId × Value → H) : ∃ places, DataW.whole enc Tryd.prog ((laidWorld os).forCall (fun _ _ => 0) ⟨#[], #[.agg #[.int .i64 0, .slice none 0 0]], []⟩).memory Tryd.f7.params.toList Rows.fnExactMirrorSystemSpec.vars false (#[.agg #[.int .i64 0, .slice none 0 0]] : Array Value).toList 8 = some ([.agg [.lit (.int .i64 0), .nil]], [Rows.laid_loop_example_g03201_impl_letters], places) :=
  ⟨MemPlace.row ⟨0, 0, none⟩ 4, by kernel_rfl⟩
set_option maxRecDepth 100000 in
theorem lifted (os : Os) (started : os.Started) (H : Type) (enc : TypeId × Value → H) (F : Stop.Interp) :
    ReturnsInHanded {} Tryd.checked os 7 .any ((OpenSpec.ofChange Rows.fnExactMirrorSystemSpec).preRow enc Tryd.prog Tryd.f7 Rows.fnExactMirrorSystemRow.domain false Rows.fnExactMirrorSystemRow.laid) (((OpenSpec.ofChange Rows.fnExactMirrorSystemSpec).at F).post enc Tryd.prog Tryd.f7 false true false false) := by
  obtain ⟨places, hx⟩ := reads os enc
  refine returnsInHanded_of_row (C := Tryd.checked) (s := OpenSpec.ofChange Rows.fnExactMirrorSystemSpec) own started (by kernel_rfl) Tryd.func7
    (witness_row_atRef (enc := enc) (C := Tryd.checked) false (laidWorld os) #[.agg #[.int .i64 0, .slice none 0 0]] rfl (by kernel_rfl) (by kernel_rfl) (by kernel_rfl)
      (OpenSpec.preRow_of_cond 8 hx (by kernel_rfl) (fun k hk => by cases hk) (by kernel_rfl) (laid_met os))) ?_
  intro W base args ds gs before hval hW _ _ _ hL _ _
  exact contract H enc W base args ds gs before hval hW hL
theorem said : Rows.FnExactMirrorSystemSaid :=
  OpenClaim.holds_of_cond 7 Tryd.f7 rfl rfl rfl rfl rfl rfl rfl ⟨rfl, rfl, rfl, rfl, rfl⟩ rfl rfl rfl rfl rfl (by kernel_rfl) Tryd.func7 (by kernel_rfl)
    (of_decide_eq_true (by kernel_rfl)) (by unfold Func.isWrapper; first | (rw [if_pos (by decide +kernel)]; kernel_rfl) | (rw [if_neg (by decide +kernel)]; exact ⟨rfl, rfl⟩))
    (fun os started H enc _ F => by rw [OpenClaim.pre_eq_preRow]; exact lifted os started H enc F)
theorem plain (f : FuncId) (fn : Func) (hf : Tryd.pinned.checked.prog.funcNamed Rows.fnExactMirrorSystemRow.func = some f) (hfn : Tryd.pinned.checked.prog.funcs[f]? = some fn) :
    true = Tryd.pinned.checked.prog.looks [] ∧ ∀ (j : Nat) t, fn.params[j]? = some t → Tryd.pinned.checked.prog.wantsStandIn t = false := by
  obtain rfl : f = 7 := Option.some.inj ((show Tryd.prog.funcNamed Rows.fnExactMirrorSystemRow.func = some 7 by kernel_rfl).symm.trans hf) |>.symm
  obtain rfl : fn = Tryd.f7 := (Option.some.inj (Tryd.func7.symm.trans hfn)).symm
  refine ⟨by kernel_rfl, fun j t ht => ?_⟩
  rw [Tryd.params7] at ht
  match j, ht with
  | 0, ht => (simp at ht; subst ht; exact (show Tryd.prog.wantsStandIn 31 = false by kernel_rfl))
  | n + 1, ht => simp at ht
theorem proved : Rows.FnExactMirrorSystemCardSaid :=
  Claim7.holds_tied_plain_at .later [] _ _ _ _ said (fun _ h => by cases h) (by kernel_rfl) (fun _ h => by cases h) fnExactMirrorSystem_row_tie rfl ⟨rfl, rfl⟩ (by kernel_rfl) rfl plain (by kernel_rfl)
end Go.Proofs.YtpmghdecfpfahaaDoor.fnExactMirrorSystem
