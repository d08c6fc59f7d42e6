/- For every table, impl.OppositeTable answers as its model, in memory of its own: FnExactOppositeTable returns true. -/
import Derived.Test.YtlehdmflnglipaaSpecOpp
import Derived.Test.YtlehdmflnglipaaImplOpp
import Derived.Test.YtlehdmflnglipaaHeldTable
import Derived.Test.YtlehdmflnglipaaLeaving
namespace Go.Proofs.Ytlehdmflnglipaa.fnExactOppositeTable
open Go.ChangeShapes Go.WideShapes Go.ChangeAt Go.RowKit
set_option maxRecDepth 100000 in
set_option maxHeartbeats 6400000 in
theorem walk (k : Int) (_wk : (Lit.int .i64 k).wf = true) (A : Option Addr) (n c : Nat) (xs : List Int) (w : World) (hI : InI w A n c xs) :
    Calls Try.prog 4 #[tabV k A n c] w fun e w' => e = .returned (.bool true) ∧ Below w.heap.size w w' := by
  have HI := Lib.hid (fun (w' : World) (hb : Below w.heap.size w w') => hI.keep hb)
  have hmx := Nat.le_trans hI.2.1 hI.2.2.1
  clear hI
  go_enter Try.func4, Try.ntmps4
  go_wp2_with fail
  refine (szTable_any k A n c 1048576 _ hmx (Nat.le_refl _)).mono ?_
  rintro e w1 ⟨q, rfl, hq, hb1⟩
  have b1 := (bel1 w _).trans (hb1.mono (by simp))
  have B1 := Lib.hid ((Blk.new1 w _ _).below hb1 (by simp))
  obtain ⟨q0, q1, -, -, ql⟩ := B1.out.two
  clear hb1
  by_cases hq0 : q < 0
  · go_wp2_with fail
    go_ret
    exact ⟨rfl, b1⟩
  have Hn : Hid (n ≤ 1048576) := by rcases hq with h | h <;> (show _ ≤ _; omega)
  have hlenM := oppOf_len k xs
  clear hq
  go_wp2_with fail
  refine (toTable_any k A n c xs _ (HI.out _ b1) Hn.out).mono ?_
  rintro e w2 ⟨A2, c2, rfl, o2, hb2⟩
  have b2 := b1.trans (hb2.mono b1.size)
  have B2 := Lib.hid (B1.out.below hb2 (by omega))
  clear q0 q1 ql hb2
  go_wp2_with fail
  refine (specOppositeTable k A2 n c2 _ xs _ o2 Hn.out).mono ?_
  rintro e w3 h3
  obtain ⟨A3, c3, rfl, o3, hb3⟩ := h3
  have HM := Lib.hid (fun (A : Option Addr) (c B : Nat) (W : World) (ho : Own B W (.slice A n c) 1 n (ints xs)) (_hb : Below w.heap.size w W) => implOppositeTable k A n c B xs W ho Hn.out)
  generalize hSS : oppOf k xs = SS at *
  have HSS := Lib.hid hSS
  clear hSS o2
  obtain ⟨KK, RL, CC⟩ := SS
  unfold TabAns at HM
  dsimp only at o3 hlenM HM ⊢
  generalize hNN : RL.length = N at *
  have HNN := Lib.hid hNN
  clear hNN
  have hNx : N ≤ 1048576 := by omega
  have b3 := b2.trans (hb3.mono b2.size)
  have B3 := Lib.hid (B2.out.below hb3 B2.out.lt)
  have O3 := Lib.hid o3
  clear o3 hb3
  obtain ⟨q0, q1, -, -, ql⟩ := B3.out.two
  go_wp2_with fail
  have b4 := b3.alloc b3.size (.cells #[.int .i64 KK, .slice A3 N c3] 27)
  have X4 := Lib.hid (Blk.new1 w3 #[.int .i64 KK, .slice A3 N c3] 27)
  have O4 := Lib.hid (O3.out.below (bel1 w3 (.cells #[.int .i64 KK, .slice A3 N c3] 27)))
  have B4 := Lib.hid (B3.out.alloc (.cells #[.int .i64 KK, .slice A3 N c3] 27))
  clear q0 q1 ql O3 B3
  generalize w3.alloc (.cells #[.int .i64 KK, .slice A3 N c3] 27) = w4 at *
  have hb04 := B4.out.lt
  have hb34 := X4.out.lt
  refine (toTable_any k A n c xs _ (HI.out _ b4) Hn.out).mono ?_
  rintro e w5 ⟨A5, c5, rfl, o5, hb5⟩
  have C5 := Lib.hid hb5
  have h45 := hb5.size
  have hP5 := Lib.hid (fun hn => o5.blk_lt hn)
  have P5 := Lib.hid o5
  clear hb5 o5
  go_wp2_with fail
  have C6 := Lib.hid (C5.out.alloc h45 (.cells #[.int .i64 k, .slice A5 n c5] 27))
  have Z6 := Lib.hid (Blk.new1 w5 #[.int .i64 k, .slice A5 n c5] 27)
  have P6 := Lib.hid (P5.out.below (bel1 w5 (.cells #[.int .i64 k, .slice A5 n c5] 27)))
  have h56 : w5.heap.size < (w5.alloc (.cells #[.int .i64 k, .slice A5 n c5] 27)).heap.size := by simp
  clear P5
  generalize w5.alloc (.cells #[.int .i64 k, .slice A5 n c5] 27) = w6 at *
  refine (HM.out A5 c5 _ _ P6.out (b4.trans (C6.out.mono b4.size))).mono ?_
  rintro e w7 ⟨A7, c7, rfl, o7, hb7⟩
  have C7 := Lib.hid (C6.out.trans (hb7.mono (by omega)))
  have Z7 := Lib.hid (Z6.out.below hb7 Z6.out.lt)
  have P7 := Lib.hid (P6.out.below hb7)
  have Q7 := Lib.hid o7
  have hQ7 := Lib.hid (fun hn => o7.blk_lt hn)
  have h67 := hb7.size
  clear hb7 o7 P6 Z6 C6
  obtain ⟨x0, x1, -, -, xl⟩ := (X4.out.below C7.out hb34).two
  go_wp2_with fail
  have C8 := Lib.hid (C7.out.alloc (by omega) (.cells #[.int .i64 KK, .slice A7 N c7] 27))
  have Z8 := Lib.hid (Z7.out.alloc (.cells #[.int .i64 KK, .slice A7 N c7] 27))
  have P8 := Lib.hid (P7.out.below (bel1 w7 (.cells #[.int .i64 KK, .slice A7 N c7] 27)))
  have Q8 := Lib.hid (Q7.out.below (bel1 w7 (.cells #[.int .i64 KK, .slice A7 N c7] 27)))
  have Y8 := Lib.hid (Blk.new1 w7 #[.int .i64 KK, .slice A7 N c7] 27)
  have h78 : w7.heap.size < (w7.alloc (.cells #[.int .i64 KK, .slice A7 N c7] 27)).heap.size := by simp
  clear P7 Q7 Z7 C7 x0 x1 xl
  generalize w7.alloc (.cells #[.int .i64 KK, .slice A7 N c7] 27) = w8 at *
  refine (eqTable_yes KK A7 A3 N c7 c3 _ _ RL _ Q8.out (O4.out.below C8.out) hNx).mono ?_
  rintro e w9 ⟨rfl, hb9⟩
  have C9 := Lib.hid (C8.out.trans (hb9.mono (by omega)))
  have Z9 := Lib.hid (Z8.out.below hb9 Z8.out.lt)
  have P9 := Lib.hid (P8.out.below hb9)
  have Q9 := Lib.hid (Q8.out.below hb9)
  have Y9 := Lib.hid (Y8.out.below hb9 Y8.out.lt)
  have h89 := hb9.size
  have b9 := b4.trans (C9.out.mono b4.size)
  clear hb9 P8 Q8 Z8 Y8 C8
  obtain ⟨q0, q1, -, -, ql⟩ := (B4.out.below C9.out hb04).two
  obtain ⟨z0, z1, -, -, zl⟩ := Z9.out.two
  have P9d : Hid (Own w4.heap.size w9.drew (.slice A5 n c5) 1 n (ints xs)) := P9
  go_wp2_with fail
  go_region_held3 (fun w' => w'.cell? ⟨w5.heap.size, 0, none⟩ = some (.int .i64 k) ∧ w'.cell? ⟨w5.heap.size, 1, none⟩ = some (.slice A5 n c5) ∧ w'.cell? ⟨w.heap.size, 0, none⟩ = some (.int .i64 k) ∧ w'.cell? ⟨w.heap.size, 1, none⟩ = some (.slice A n c) ∧ Below w9.heap.size w9 w')
    (first | exact ⟨z0, z1, q0, q1, (Below.refl _ w9).drew⟩ | exact held4_keep (by assumption) hb10 (Nat.le_refl _) zl ql | exact held4_keep (by assumption) hb11 (Nat.le_refl _) zl ql)
    ((first | (go_at_call 8; refine (toTable_any k A n c xs _ (HI.out _ b9.drew) Hn.out).mono ?_; rintro e w10 ⟨A10, c10, rfl, o10, hb10⟩) | (go_at_call 10; refine (eqTable_yes k A5 _ n c5 _ _ _ xs _ (P9d.out.below hb10) o10 Hn.out).mono ?_; rintro e w11 ⟨rfl, hb11⟩)))
  have hS := (‹_ ∧ _ ∧ _ ∧ _ ∧ Below w9.heap.size w9 w11›).2.2.2.2
  have C11 := Lib.hid (C9.out.trans (hS.mono (by omega)))
  have Z11 := Lib.hid (Z9.out.below hS Z9.out.lt)
  have P11 := Lib.hid (P9.out.below hS)
  have Q11 := Lib.hid (Q9.out.below hS)
  have Y11 := Lib.hid (Y9.out.below hS Y9.out.lt)
  have h911 := hS.size
  clear hS q0 q1 ql z0 z1 zl P9d P9 Q9 Y9 Z9 C9 b9
  clear hb10 hb11
  obtain ⟨z0, z1, -, -, zl⟩ := Z11.out.two
  obtain ⟨x0, x1, -, -, xl⟩ := (X4.out.below C11.out hb34).two
  obtain ⟨y0, y1, -, -, yl⟩ := Y11.out.two
  have hN := Hn.out
  go_wp2_with fail
  refine (markTable_any k A5 n c5 _ 1 xs _ P11.out (by omega) (by omega) (by omega)).mono ?_
  rintro e w12 ⟨rfl, p12, hb12, k12⟩
  have C12 := Lib.hid (C11.out.trans hb12)
  have h12 : w11.heap.size ≤ w12.heap.size := hb12.size
  have Y12 := Lib.hid (k12.blk Y11.out (fun hn => by have := (hP5.out hn).2; omega))
  have Q12 := Lib.hid (Own.keptA Q11.out k12 h12 (fun h1 h2 => by have := (hQ7.out h1).1; have := (hP5.out h2).2; omega))
  clear p12 hb12 k12 P11 Z11 Q11 Y11 C11 z0 z1 zl x0 x1 xl y0 y1 yl
  obtain ⟨x0, x1, -, -, xl⟩ := (X4.out.below C12.out hb34).two
  obtain ⟨y0, y1, -, -, yl⟩ := Y12.out.two
  go_wp2_with fail
  refine (eqTable_yes KK A7 A3 N c7 c3 _ _ RL _ Q12.out (O4.out.below C12.out) hNx).mono ?_
  rintro e w13 ⟨rfl, hb13⟩
  have h12w := C12.out.size
  have C13 := Lib.hid (C12.out.trans (hb13.mono h12w))
  have Q13 := Lib.hid (Q12.out.below hb13)
  have Y13 := Lib.hid (Y12.out.below hb13 Y12.out.lt)
  have h13 := hb13.size
  clear hb13 Q12 Y12 C12 x0 x1 xl y0 y1 yl
  obtain ⟨x0, x1, -, -, xl⟩ := (X4.out.below C13.out hb34).two
  obtain ⟨y0, y1, -, -, yl⟩ := Y13.out.two
  go_wp2_with fail
  refine (markTable_any KK A7 N c7 w4.heap.size 1 RL _ (Q13.out.mono (by omega)) (by omega) (by omega) (by omega)).mono ?_
  rintro e w14 ⟨rfl, q14, hb14, k14⟩
  have C14 := Lib.hid (C13.out.trans hb14)
  have Y14 := Lib.hid (k14.blk Y13.out (fun hn => by have := (hQ7.out hn).2; omega))
  have Q14 := Lib.hid q14
  have h14 := C14.out.size
  clear q14 hb14 k14 Q13 Y13 C13 x0 x1 xl y0 y1 yl
  obtain ⟨y0, y1, -, -, yl⟩ := Y14.out.two
  go_wp2_with fail
  refine (heldTable_yes KK 1 A7 N c7 _ _ Q14.out (by omega) (by omega)).mono ?_
  rintro e w15 ⟨rfl, hb15⟩
  have C15 := Lib.hid (C14.out.trans (hb15.mono h14))
  have Y15 := Lib.hid (Y14.out.below hb15 Y14.out.lt)
  have Q15 := Lib.hid (Q14.out.below hb15)
  have h15 := C15.out.size
  have b15 := b4.trans (C15.out.mono b4.size)
  clear hb15 Q14 Y14 C14 y0 y1 yl
  obtain ⟨q0, q1, -, -, ql⟩ := (B4.out.below C15.out hb04).two
  go_wp2_with fail
  refine (toTable_any k A n c xs _ (HI.out _ b15) Hn.out).mono ?_
  rintro e w16 ⟨A16, c16, rfl, o16, hb16⟩
  have C16 := Lib.hid (C15.out.trans (hb16.mono h15))
  have Y16 := Lib.hid (Y15.out.below hb16 Y15.out.lt)
  have Q16 := Lib.hid (Q15.out.below hb16)
  have h16 := C16.out.size
  have b16 := b4.trans (C16.out.mono b4.size)
  clear hb16 Q15 Y15 C15 b15 q0 q1 ql
  go_wp2_with fail
  refine (HM.out A16 c16 _ _ o16 b16).mono ?_
  rintro e w17 ⟨A17, c17, rfl, o17, hb17⟩
  have C17 := Lib.hid (C16.out.trans (hb17.mono h16))
  have Y17 := Lib.hid (Y16.out.below hb17 Y16.out.lt)
  have Q17 := Lib.hid (Q16.out.below hb17)
  have R17 := Lib.hid o17
  have h17 := C17.out.size
  clear hb17 o16 o17 Q16 Y16 C16 b16
  obtain ⟨x0, x1, -, -, xl⟩ := (X4.out.below C17.out hb34).two
  go_wp2_with fail
  have C18 := Lib.hid (C17.out.alloc h17 (.cells #[.int .i64 KK, .slice A17 N c17] 27))
  have Y18 := Lib.hid (Y17.out.alloc (.cells #[.int .i64 KK, .slice A17 N c17] 27))
  have Q18 := Lib.hid (Q17.out.below (bel1 w17 (.cells #[.int .i64 KK, .slice A17 N c17] 27)))
  have R18 := Lib.hid (R17.out.below (bel1 w17 (.cells #[.int .i64 KK, .slice A17 N c17] 27)))
  clear Q17 R17 Y17 C17 x0 x1 xl
  generalize w17.alloc (.cells #[.int .i64 KK, .slice A17 N c17] 27) = w18 at *
  refine (eqTable_yes KK A17 A3 N c17 c3 _ _ RL _ R18.out (O4.out.below C18.out) hNx).mono ?_
  rintro e w19 ⟨rfl, hb19⟩
  have h18 := C18.out.size
  have C19 := Lib.hid (C18.out.trans (hb19.mono h18))
  have Y19 := Lib.hid (Y18.out.below hb19 Y18.out.lt)
  have Q19 := Lib.hid (Q18.out.below hb19)
  have h19 := C19.out.size
  clear hb19 Q18 R18 Y18 C18
  obtain ⟨y0, y1, -, -, yl⟩ := Y19.out.two
  go_wp2_with fail
  refine (heldTable_yes KK 1 A7 N c7 _ _ Q19.out (by omega) (by omega)).mono ?_
  rintro e w20 ⟨rfl, hb20⟩
  have b20 := b4.trans ((C19.out.trans (hb20.mono h19)).mono b4.size)
  clear hb20 y0 y1 yl
  go_wp2_with fail
  go_ret
  exact ⟨rfl, b20⟩
set_option maxRecDepth 100000 in
theorem contract (H : Type) (enc : TypeId × Value → H) (W : World) (base : Nat) (args : Array Value) (ds gs : List (DataW H)) (before : List MemPlace)
    (hval : ∀ (j : Nat) t v, Try.f4.params[j]? = some t → args[j]? = some v → Value.okWide Try.prog W .any base t v)
    (hW : DataW.Whole enc Try.prog Try.f4.params.toList Rows.fnExactOppositeTableSpec.vars false W args.toList ds gs before) :
    Calls Try.prog 4 args W fun e W' => ∃ v, e = .returned v ∧ Rows.fnExactOppositeTableSpec.post enc Try.prog Try.f4 false true false false W args v W' := by
  have hW' := hW
  obtain ⟨p, q, hA0, hV, rfl, hfz, hnd⟩ := hW
  have hA : DataW.TrodAll enc Try.prog W 0 (fun _ => true) true Try.f4.params.toList args.toList ds p := hA0
  rw [Try.params4] at hA hval
  obtain ⟨v0, vs0, d0, ds0, p0, q0, hargs, rfl, rfl, h0, r0⟩ := trodAll_cons hA
  obtain ⟨rfl, rfl, rfl⟩ := trodAll_nil r0
  obtain rfl : args = #[v0] := by first | exact Array.toList_inj.1 hargs | exact Array.toList_inj.1 hargs.symm | (cases args; simp_all)
  obtain ⟨k0, A0, n0, c0, xs0, rfl, wk0, I0⟩ := open_table Try.underlying24 (by kernel_rfl) (by kernel_rfl) Try.underlying3 Try.underlying22 Try.underlying3 (by kernel_rfl) (hval 0 24 v0 rfl rfl) h0
  refine (walk k0 wk0 A0 n0 c0 xs0 W I0).mono fun e W' ⟨he, hb⟩ => ?_
  subst he
  exact ⟨_, rfl, law_post hW' rfl rfl rfl Try.underlying4 laidOut (by kernel_rfl) hb⟩

set_option maxRecDepth 100000 in
theorem lifted (os : Os) (started : os.Started) (H : Type) (enc : TypeId × Value → H) :
    ReturnsInHanded {} Try.checked os 4 .any (Rows.fnExactOppositeTableSpec.pre6 enc Try.prog Try.f4 Rows.fnExactOppositeTableRow.domain false) (Rows.fnExactOppositeTableSpec.post enc Try.prog Try.f4 false true false false) := by
  refine returnsInHanded_of_change (C := Try.checked) own started (by kernel_rfl) Try.func4
    (ChangeSpec.witness6 (enc := enc) (C := Try.checked) false ⟨#[], #[.agg #[.int .i64 0, .slice none 0 0]], []⟩ 8 (by kernel_rfl) (by kernel_rfl) (by kernel_rfl) (by kernel_rfl)) ?_
  intro W base args ds gs before hval hW _ _
  exact contract H enc W base args ds gs before hval hW

theorem proved : Rows.FnExactOppositeTableSaid :=
  OpenClaim.holds_of_wide 4 Try.f4 rfl rfl rfl rfl rfl rfl rfl ⟨rfl, rfl, rfl, rfl, rfl⟩ rfl rfl rfl rfl rfl (by kernel_rfl) Try.func4 (by kernel_rfl)
    (of_decide_eq_true (by kernel_rfl)) (by unfold Func.isWrapper; first | (rw [if_pos (by decide +kernel)]; kernel_rfl) | (rw [if_neg (by decide +kernel)]; exact ⟨rfl, rfl⟩))
    (fun os started H enc _ => lifted os started H enc)
end Go.Proofs.Ytlehdmflnglipaa.fnExactOppositeTable
