/- For every system, string and list of links, impl.ShortenProof answers as its model, writes into no argument, and its answer owns its memory: FnExactShortenProof returns true. The table of letters is tied to the program's text. -/
import Derived.Test.YtddifhbjjiphiaaDoorShorten
import Derived.Test.YtddifhbjjiphiaaDoorLinks
import Derived.Test.YtddifhbjjiphiaaDoorArgsLink
import Derived.Test.YtddifhbjjiphiaaDoorWorld
import Derived.Deep.RegionHeld3
namespace Go.Proofs.YtddifhbjjiphiaaDoor.fnExactShortenProof
open Go.ChangeShapes Go.WideShapes Go.ChangeAt Go.RowKit
open Go.ChangeMaps (open_string)
set_option maxRecDepth 100000 in
set_option maxHeartbeats 3200000 in
theorem walk (k : Int) (_wk : (Lit.int .i64 k).wf = true) (A : Option Addr) (n c : Nat) (xs : List R) (s : ByteArray) (hss : s.size ≤ maxLen) (A' : Option Addr) (m c' : Nat) (ys : List LK) (w : World) (hI : InR w A n c xs) (hJ : InK w A' m c' ys) (h : Let w) :
    Calls Tryd.prog 7 #[.agg #[.int .i64 k, .slice A n c], .string s, .slice A' m c'] w fun e w' => e = .returned (.bool true) ∧ Below w.heap.size w w' := by
  have HL := Lib.hid (fun (w' : World) (hb : Below w.heap.size w w') => h.keep hb (Nat.le_refl _))
  have HI := Lib.hid (fun (w' : World) (hb : Below w.heap.size w w') => hI.keep hb)
  have HJ := Lib.hid (fun (w' : World) (hb : Below w.heap.size w w') => hJ.keep hb)
  have hmm : m ≤ maxLen := Nat.le_trans hJ.2.1 hJ.2.2.1
  have Hmm := Lib.hid hmm
  unfold maxLen at hss
  clear h hI hJ hmm
  by_cases hbig : 1048576 < s.size
  · go_enter Tryd.func7, Tryd.ntmps7
    go_wp2_with fail
    go_ret
    exact ⟨rfl, bel1 _ _⟩
  have hs : s.size ≤ 1048576 := by omega
  go_enter Tryd.func7, Tryd.ntmps7
  go_wp2_with fail
  refine (szSystem_any k A n c xs 1048576 _ (HI.out _ (bel1 _ _)) (Nat.le_refl _)).mono ?_
  rintro e w1 ⟨q, rfl, hq, hb1⟩
  have b1 := (bel1 w _).trans (hb1.mono (by simp))
  have B1 := Lib.hid ((Blk.new1 w _ _).below hb1 (by simp))
  obtain ⟨q0, q1, -, -, ql⟩ := B1.out.two
  clear hb1
  by_cases hq0 : q < 0
  · go_wp2_with fail
    go_ret
    exact ⟨rfl, b1⟩
  have Hsz : Hid (n + rulesSz xs ≤ 1048576) := by rcases hq with h | h <;> (show _ ≤ _; omega)
  have Hn : Hid (n ≤ 1048576) := by have := Hsz.out; show _ ≤ _; omega
  have Hsm : Hid (smallR xs) := small_of xs (by have := Hsz.out; omega)
  obtain ⟨q', rfl⟩ : ∃ q' : Nat, q = q' := ⟨q.toNat, by omega⟩
  have hq' : q' ≤ 1048576 := by rcases hq with h | h <;> omega
  clear hq
  go_wp2_with fail
  refine (szLinkS_any A' m c' q' _ Hmm.out hq').mono ?_
  rintro e w1 ⟨q2, rfl, hqq, rfl⟩
  by_cases hq20 : q2 < 0
  · go_wp2_with fail
    go_ret
    exact ⟨rfl, b1⟩
  have Hm : Hid (m ≤ 1048576) := by rcases hqq with h | h <;> (show _ ≤ _; omega)
  clear hqq
  go_wp2_with fail
  refine (toSystem_any k A n c xs _ (HI.out _ b1) Hn.out).mono ?_
  rintro e w2 ⟨v2, rfl, o2, hb2⟩
  have b2 := b1.trans (hb2.mono b1.size)
  have B2 := Lib.hid (B1.out.below hb2 B1.out.lt)
  obtain ⟨A2, c2, rfl⟩ := o2.form
  have O2 := Lib.hid o2
  clear hb2 o2
  go_wp2_with fail
  refine (toLinkS_any A' m c' ys _ (HJ.out _ b2) Hm.out).mono ?_
  rintro e w3 ⟨v3, rfl, o3, hb3⟩
  have b3 := b2.trans (hb3.mono b2.size)
  have B3 := Lib.hid (B2.out.below hb3 B2.out.lt)
  have O3 := Lib.hid (O2.out.below hb3)
  obtain ⟨A3, c3, rfl⟩ := o3.form
  have Y3 := Lib.hid o3
  clear hb3 o3 O2 B2
  go_wp2_with fail
  have HLN := Lib.hid (shortS_len k xs s ys)
  have HM := Lib.hid (fun A5 c5 B5 A7 c7 B7 w5 (o5 : Own B5 w5 (.slice A5 n c5) 2 n (rulesC xs)) (o7 : Own B7 w5 (.slice A7 m c7) 3 m (linksC ys)) (b5 : Below w.heap.size w w5) => implShortenProof k A5 A7 n c5 B5 m c7 B7 xs s ys w5 o5 Hsm.out hs o7 (HL.out _ b5))
  refine (specShortenProof k A2 A3 n c2 _ m c3 _ xs s ys _ O3.out Hsm.out hs Y3.out).mono ?_
  rintro e w4 ⟨v4, rfl, o4, hb4⟩
  have b4 := b3.trans (hb4.mono b3.size)
  have B4 := Lib.hid (B3.out.below hb4 B3.out.lt)
  have R4 := Lib.hid o4
  have hlt4 := B4.out.lt
  obtain ⟨A4, c4, rfl⟩ := o4.form
  have h34 := hb4.size
  clear hb4 o4 O3 Y3 B3 q0 q1 ql
  obtain ⟨⟨L, ok⟩, hrr⟩ : ∃ rr, shortS k xs s ys = rr := ⟨_, rfl⟩
  rw [hrr] at HLN HM R4
  rw [hrr]
  clear hrr
  dsimp only at HLN HM R4 ⊢
  generalize hN : L.length = N at *
  have hNb : N ≤ 200 := HLN.out
  have hR4 := Lib.hid (fun hn : 0 < N => R4.out.blk_lt hn)
  obtain ⟨q0, q1, -, -, ql⟩ := B4.out.two
  go_wp2_with fail
  refine (toSystem_any k A n c xs _ (HI.out _ b4) Hn.out).mono ?_
  rintro e w5 ⟨v5, rfl, o5, hb5⟩
  have b5 := b4.trans (hb5.mono b4.size)
  have B5 := Lib.hid (B4.out.below hb5 B4.out.lt)
  have R5 := Lib.hid (R4.out.below hb5)
  obtain ⟨A5, c5, rfl⟩ := o5.form
  have hP5 := Lib.hid (fun hn : 0 < n => o5.blk_lt hn)
  have O5 := Lib.hid o5
  have h45 := hb5.size
  clear hb5 o5 q0 q1 ql B4 R4
  go_wp2_with fail
  have h56 : w5.heap.size < (w5.alloc (.cells #[.int .i64 k, .slice A5 n c5] 32)).heap.size := by simp
  have b6 := b5.alloc b5.size (.cells #[.int .i64 k, .slice A5 n c5] 32)
  have B6 := Lib.hid (B5.out.alloc (.cells #[.int .i64 k, .slice A5 n c5] 32))
  have X6 := Lib.hid (Blk.new1 w5 #[.int .i64 k, .slice A5 n c5] 32)
  have P6 := Lib.hid (O5.out.below (bel1 w5 (.cells #[.int .i64 k, .slice A5 n c5] 32)))
  have R6 := Lib.hid (R5.out.below (bel1 w5 (.cells #[.int .i64 k, .slice A5 n c5] 32)))
  clear b5 B5 O5 R5
  generalize w5.alloc (.cells #[.int .i64 k, .slice A5 n c5] 32) = w6 at *
  refine (toLinkS_any A' m c' ys _ (HJ.out _ b6) Hm.out).mono ?_
  rintro e w7 ⟨v7, rfl, o7, hb7⟩
  have b7 := b6.trans (hb7.mono b6.size)
  have B7 := Lib.hid (B6.out.below hb7 B6.out.lt)
  have X7 := Lib.hid (X6.out.below hb7 X6.out.lt)
  have P7 := Lib.hid (P6.out.below hb7)
  have R7 := Lib.hid (R6.out.below hb7)
  obtain ⟨A7, c7, rfl⟩ := o7.form
  have hY7 := Lib.hid (fun hn : 0 < m => o7.blk_lt hn)
  have Y7 := Lib.hid o7
  have h67 := hb7.size
  clear hb7 o7 P6 X6 B6 R6 b6
  obtain ⟨x0, x1, -, -, xl⟩ := X7.out.two
  go_wp2_with fail
  refine (HM.out A5 c5 _ A7 c7 _ _ P7.out Y7.out b7).mono ?_
  rintro e w8 ⟨v8, rfl, o8, hb8⟩
  obtain ⟨A8, c8, rfl⟩ := o8.form
  have Q8 := Lib.hid o8
  have hQ8 := Lib.hid (fun hn : 0 < N => o8.blk_lt hn)
  have b8 := b7.trans (hb8.mono b7.size)
  have B8 := Lib.hid (B7.out.below hb8 B7.out.lt)
  have X8 := Lib.hid (X7.out.below hb8 X7.out.lt)
  have P8 := Lib.hid (P7.out.below hb8)
  have R8 := Lib.hid (R7.out.below hb8)
  have Y8 := Lib.hid (Y7.out.below hb8)
  have h78 := hb8.size
  clear hb8 o8 x0 x1 xl P7 X7 B7 Y7 R7 b7
  go_wp2_with fail
  refine (eqLinkS_yes A8 A4 N c8 c4 _ _ L _ Q8.out R8.out).mono ?_
  rintro e w9 ⟨rfl, hb9⟩
  have b9 := b8.trans (hb9.mono b8.size)
  have B9 := Lib.hid (B8.out.below hb9 B8.out.lt)
  have X9 := Lib.hid (X8.out.below hb9 X8.out.lt)
  have P9 := Lib.hid (P8.out.below hb9)
  have Q9 := Lib.hid (Q8.out.below hb9)
  have R9 := Lib.hid (R8.out.below hb9)
  have Y9 := Lib.hid (Y8.out.below hb9)
  have h89 := hb9.size
  clear hb9 B8 X8 P8 Q8 R8 Y8 b8
  obtain ⟨q0, q1, -, -, ql⟩ := B9.out.two
  obtain ⟨x0, x1, -, -, xl⟩ := X9.out.two
  have P9d : Hid (Own w4.heap.size w9.drew (.slice A5 n c5) 2 n (rulesC xs)) := P9
  go_wp2_with fail
  go_region_held3 (fun w' => w'.cell? ⟨w5.heap.size, 0, none⟩ = some (.int .i64 k) ∧ w'.cell? ⟨w5.heap.size, 1, none⟩ = some (.slice A5 n c5) ∧ w'.cell? ⟨w.heap.size, 0, none⟩ = some (.int .i64 k) ∧ w'.cell? ⟨w.heap.size, 1, none⟩ = some (.slice A n c) ∧ Below w9.heap.size w9 w')
    (first | exact ⟨x0, x1, q0, q1, (Below.refl _ w9).drew⟩ | exact held4_keep (by assumption) hb10 (Nat.le_refl _) xl ql | exact held4_keep (by assumption) hb11 (Nat.le_refl _) xl ql)
    ((first | (go_at_call 11; refine (toSystem_any k A n c xs _ (HI.out _ b9.drew) Hn.out).mono ?_; rintro e w10 ⟨v10, rfl, o10, hb10⟩; obtain ⟨A10, c10, rfl⟩ := o10.form) | (go_at_call 14; refine (eqSystem_yes k A5 _ n c5 _ _ _ xs _ (P9d.out.below hb10) o10).mono ?_; rintro e w11 ⟨rfl, hb11⟩)))
  have hS := (‹_ ∧ _ ∧ _ ∧ _ ∧ Below w9.heap.size w9 w11›).2.2.2.2
  have b11 := b9.trans (hS.mono b9.size)
  have B11 := Lib.hid (B9.out.below hS B9.out.lt)
  have X11 := Lib.hid (X9.out.below hS X9.out.lt)
  have P11 := Lib.hid (P9.out.below hS)
  have Q11 := Lib.hid (Q9.out.below hS)
  have R11 := Lib.hid (R9.out.below hS)
  have Y11 := Lib.hid (Y9.out.below hS)
  have h911 := hS.size
  clear hb10 hb11 hS o10 B9 X9 P9 Q9 R9 Y9 P9d b9 q0 q1 ql x0 x1 xl
  go_wp2_with fail
  refine (toLinkS_any A' m c' ys _ (HJ.out _ b11) Hm.out).mono ?_
  rintro e w12 ⟨v12, rfl, o12, hb12⟩
  have b12 := b11.trans (hb12.mono b11.size)
  have B12 := Lib.hid (B11.out.below hb12 B11.out.lt)
  have X12 := Lib.hid (X11.out.below hb12 X11.out.lt)
  have P12 := Lib.hid (P11.out.below hb12)
  have Q12 := Lib.hid (Q11.out.below hb12)
  have R12 := Lib.hid (R11.out.below hb12)
  have Y12 := Lib.hid (Y11.out.below hb12)
  obtain ⟨A12, c12, rfl⟩ := o12.form
  have V12 := Lib.hid o12
  have h1112 := hb12.size
  clear hb12 o12 B11 X11 P11 Q11 R11 Y11 b11
  go_wp2_with fail
  refine (eqLinkS_yes A7 A12 m c7 c12 _ _ ys _ Y12.out V12.out).mono ?_
  rintro e w13 ⟨rfl, hb13⟩
  have b13 := b12.trans (hb13.mono b12.size)
  have B13 := Lib.hid (B12.out.below hb13 B12.out.lt)
  have X13 := Lib.hid (X12.out.below hb13 X12.out.lt)
  have P13 := Lib.hid (P12.out.below hb13)
  have Q13 := Lib.hid (Q12.out.below hb13)
  have R13 := Lib.hid (R12.out.below hb13)
  have Y13 := Lib.hid (Y12.out.below hb13)
  have h1213 := hb13.size
  clear hb13 B12 X12 P12 Q12 R12 Y12 V12 b12
  obtain ⟨x0, x1, -, -, xl⟩ := X13.out.two
  have hnb := Hn.out
  have hmb := Hm.out
  have hw4 := b4.size
  have hwx := B13.out.lt
  go_wp2_with fail
  refine (markSystem_any k 1 A5 n c5 _ xs _ P13.out (by omega) (by omega) (by omega)).mono ?_
  rintro e w14 ⟨rfl, -, hb14, k14⟩
  have h1314 := hb14.size
  have b14 := b13.trans (hb14.mono hw4)
  have B14 := Lib.hid (k14.blk B13.out (fun hn => by have := (hP5.out hn).1; omega))
  have Q14 := Lib.hid (Own.keptA Q13.out k14 h1314 (fun h1 h2 => by have := (hQ8.out h1).1; have := (hP5.out h2).2; omega))
  have R14 := Lib.hid (Own.keptA R13.out k14 h1314 (fun h1 h2 => by have := (hR4.out h1).2; have := (hP5.out h2).1; omega))
  have Y14 := Lib.hid (Own.keptA Y13.out k14 h1314 (fun h1 h2 => by have := (hY7.out h1).1; have := (hP5.out h2).2; omega))
  clear hb14 k14 B13 X13 P13 Q13 R13 Y13 x0 x1 xl b13
  go_wp2_with fail
  refine (markLinkS_any A7 m c7 _ (1 + 2 * n) ys _ Y14.out (by omega) (by omega)).mono ?_
  rintro e w15 ⟨rfl, -, hb15, k15⟩
  have h1415 := hb15.size
  have b15 := b14.trans (hb15.mono (by omega))
  have B15 := Lib.hid (k15.blk B14.out (fun hn => by have := (hY7.out hn).1; omega))
  have Q15 := Lib.hid (Own.keptA Q14.out k15 h1415 (fun h1 h2 => by have := (hQ8.out h1).1; have := (hY7.out h2).2; omega))
  have R15 := Lib.hid (Own.keptA R14.out k15 h1415 (fun h1 h2 => by have := (hR4.out h1).2; have := (hY7.out h2).1; omega))
  clear hb15 k15 B14 Q14 R14 Y14 b14
  go_wp2_with fail
  refine (eqLinkS_yes A8 A4 N c8 c4 _ _ L _ Q15.out R15.out).mono ?_
  rintro e w16 ⟨rfl, hb16⟩
  have b16 := b15.trans (hb16.mono b15.size)
  have B16 := Lib.hid (B15.out.below hb16 B15.out.lt)
  have Q16 := Lib.hid (Q15.out.below hb16)
  have R16 := Lib.hid (R15.out.below hb16)
  have h1516 := hb16.size
  clear hb16 B15 Q15 R15 b15
  go_wp2_with fail
  refine (markLinkS_any A8 N c8 _ 1 L _ Q16.out (by omega) (by omega)).mono ?_
  rintro e w17 ⟨rfl, o17, hb17, k17⟩
  have h1617 := hb17.size
  have b17 := b16.trans (hb17.mono (by omega))
  have B17 := Lib.hid (k17.blk B16.out (fun hn => by have := (hQ8.out hn).1; omega))
  have R17 := Lib.hid (Own.keptA R16.out k17 h1617 (fun h1 h2 => by have := (hR4.out h1).2; have := (hQ8.out h2).1; omega))
  have Q17 := Lib.hid o17
  clear hb17 k17 o17 B16 Q16 R16 b16
  go_wp2_with fail
  refine (heldLinkS_yes A8 N c8 _ 1 _ Q17.out (by omega) (by omega)).mono ?_
  rintro e w18 ⟨rfl, hb18⟩
  have b18 := b17.trans (hb18.mono b17.size)
  have B18 := Lib.hid (B17.out.below hb18 B17.out.lt)
  have Q18 := Lib.hid (Q17.out.below hb18)
  have R18 := Lib.hid (R17.out.below hb18)
  clear hb18 B17 Q17 R17 b17
  obtain ⟨q0, q1, -, -, ql⟩ := B18.out.two
  go_wp2_with fail
  refine (toSystem_any k A n c xs _ (HI.out _ b18) Hn.out).mono ?_
  rintro e w19 ⟨v19, rfl, o19, hb19⟩
  obtain ⟨A19, c19, rfl⟩ := o19.form
  have b19 := b18.trans (hb19.mono b18.size)
  have Q19 := Lib.hid (Q18.out.below hb19)
  have R19 := Lib.hid (R18.out.below hb19)
  have O19 := Lib.hid o19
  clear hb19 o19 B18 Q18 R18 b18 q0 q1 ql
  go_wp2_with fail
  refine (toLinkS_any A' m c' ys _ (HJ.out _ b19) Hm.out).mono ?_
  rintro e w20 ⟨v20, rfl, o20, hb20⟩
  obtain ⟨A20, c20, rfl⟩ := o20.form
  have b20 := b19.trans (hb20.mono b19.size)
  have Q20 := Lib.hid (Q19.out.below hb20)
  have R20 := Lib.hid (R19.out.below hb20)
  have O20 := Lib.hid (O19.out.below hb20)
  have Y20 := Lib.hid o20
  clear hb20 o20 O19 Q19 R19 b19
  go_wp2_with fail
  refine (HM.out A19 c19 _ A20 c20 _ _ O20.out Y20.out b20).mono ?_
  rintro e w21 ⟨v21, rfl, o21, hb21⟩
  obtain ⟨A21, c21, rfl⟩ := o21.form
  have b21 := b20.trans (hb21.mono b20.size)
  have Q21 := Lib.hid (Q20.out.below hb21)
  have R21 := Lib.hid (R20.out.below hb21)
  have V21 := Lib.hid o21
  clear hb21 Q20 R20 O20 Y20 b20 o21
  go_wp2_with fail
  refine (eqLinkS_yes A21 A4 N c21 c4 _ _ L _ V21.out R21.out).mono ?_
  rintro e w22 ⟨rfl, hb22⟩
  have b22 := b21.trans (hb22.mono b21.size)
  have Q22 := Lib.hid (Q21.out.below hb22)
  clear hb22 Q21 R21 V21 b21
  go_wp2_with fail
  refine (heldLinkS_yes A8 N c8 _ 1 _ Q22.out (by omega) (by omega)).mono ?_
  rintro e w23 ⟨rfl, hb23⟩
  have b23 := b22.trans (hb23.mono b22.size)
  clear hb23
  go_wp2_with fail
  go_ret
  exact ⟨rfl, b23⟩
set_option maxRecDepth 100000 in
theorem contract (H : Type) (enc : TypeId × Value → H) (W : World) (base : Nat) (args : Array Value) (ds gs : List (DataW H)) (before : List MemPlace)
    (hval : ∀ (j : Nat) t v, Tryd.f7.params[j]? = some t → args[j]? = some v → Value.okWide Tryd.prog W .any base t v)
    (hW : DataW.Whole enc Tryd.prog Tryd.f7.params.toList Rows.fnExactShortenProofSpec.vars false W args.toList ds gs before) (hL : laidMetH Tryd.prog Rows.fnExactShortenProofRow.laid W) :
    Calls Tryd.prog 7 args W fun e W' => ∃ v, e = .returned v ∧ Rows.fnExactShortenProofSpec.post enc Tryd.prog Tryd.f7 false true false false W args v W' := by
  have hW' := hW
  have hL' : laidMet Tryd.prog [("loop.example/g03201/impl.letters", Rows.laid_loop_example_g03201_impl_letters)] W := hL
  obtain ⟨p, q, hA0, hV, rfl, hfz, hnd⟩ := hW
  obtain ⟨g0, rfl⟩ := vars_len1 (trodVars_len hV)
  have hA : DataW.TrodAll enc Tryd.prog W 0 (fun _ => true) true Tryd.f7.params.toList args.toList ds p := hA0
  rw [Tryd.params7] at hA hval
  obtain ⟨v0, vs0, d0, ds0, p0, q0, hargs, rfl, rfl, h0, r0⟩ := trodAll_cons hA
  obtain ⟨v1, vs1, d1, ds1, p1, q1, rfl, rfl, rfl, h1, r1⟩ := trodAll_cons r0
  obtain ⟨v2, vs2, d2, ds2, p2, q2, rfl, rfl, rfl, h2, r2⟩ := trodAll_cons r1
  obtain ⟨rfl, rfl, rfl⟩ := trodAll_nil r2
  obtain rfl : args = #[v0, v1, v2] := by first | exact Array.toList_inj.1 hargs | exact Array.toList_inj.1 hargs.symm | (cases args; simp_all)
  obtain ⟨k0, A0, n0, c0, xs0, rfl, wk0, I0⟩ := open_system Tryd.underlying24 (by kernel_rfl) (by kernel_rfl) Tryd.underlying3 Tryd.underlying22 Tryd.underlying91 (by kernel_rfl) (by kernel_rfl) Tryd.underlying9 Tryd.underlying9 (hval 0 24 v0 rfl rfl) h0
  obtain ⟨a1, rfl, rfl, rfl, b1⟩ := open_string Tryd.underlying9 (hval 1 9 v1 rfl rfl) h1
  obtain ⟨A2, n2, c2, xs2, rfl, B2⟩ := open_links Tryd.underlying38 Tryd.underlying26 (by kernel_rfl) (by kernel_rfl) Tryd.underlying3 Tryd.underlying3 Tryd.underlying4 (hval 2 38 v2 rfl rfl) h2
  refine (walk k0 wk0 A0 n0 c0 xs0 a1 b1 A2 n2 c2 xs2 W I0 B2 (let_of hL')).mono fun e W' ⟨he, hb⟩ => ?_
  subst he
  exact ⟨_, rfl, law_postV hW' rfl rfl Tryd.underlying4 laidOut (by kernel_rfl) (by kernel_rfl) hb⟩

theorem laid_met (os : Os) : laidMet Tryd.prog Rows.fnExactShortenProofRow.laid ((laidWorld os).forCall (fun _ _ => 0) ⟨#[], #[.agg #[.int .i64 0, .slice none 0 0], .string .empty, .slice none 0 0], []⟩).memory :=
  laidMet_of_run' 8 (by kernel_rfl) (by kernel_rfl)
theorem reads (os : Os) {H : Type} (enc : TypeId × Value → H) : ∃ places, DataW.whole enc Tryd.prog ((laidWorld os).forCall (fun _ _ => 0) ⟨#[], #[.agg #[.int .i64 0, .slice none 0 0], .string .empty, .slice none 0 0], []⟩).memory Tryd.f7.params.toList Rows.fnExactShortenProofSpec.vars false (#[.agg #[.int .i64 0, .slice none 0 0], .string .empty, .slice none 0 0] : Array Value).toList 8 = some ([.agg [.lit (.int .i64 0), .nil], .lit (.string []), .nil], [Rows.laid_loop_example_g03201_impl_letters], places) :=
  ⟨MemPlace.row ⟨0, 0, none⟩ 4, by kernel_rfl⟩
set_option maxRecDepth 100000 in
theorem lifted (os : Os) (started : os.Started) (H : Type) (enc : TypeId × Value → H) (F : Stop.Interp) :
    ReturnsInHanded {} Tryd.checked os 7 .any ((OpenSpec.ofChange Rows.fnExactShortenProofSpec).preRow enc Tryd.prog Tryd.f7 Rows.fnExactShortenProofRow.domain false Rows.fnExactShortenProofRow.laid) (((OpenSpec.ofChange Rows.fnExactShortenProofSpec).at F).post enc Tryd.prog Tryd.f7 false true false false) := by
  obtain ⟨places, hx⟩ := reads os enc
  refine returnsInHanded_of_row (C := Tryd.checked) (s := OpenSpec.ofChange Rows.fnExactShortenProofSpec) own started (by kernel_rfl) Tryd.func7
    (witness_row_at (enc := enc) (C := Tryd.checked) false (laidWorld os) #[.agg #[.int .i64 0, .slice none 0 0], .string .empty, .slice none 0 0] rfl (by kernel_rfl) (by kernel_rfl) (by kernel_rfl)
      (OpenSpec.preRow_of_cond 8 hx (by kernel_rfl) (fun k hk => by cases hk) (by kernel_rfl) (laid_met os))) ?_
  intro W base args ds gs before hval hW _ _ _ hL _ _
  exact contract H enc W base args ds gs before hval hW hL
theorem said : Rows.FnExactShortenProofSaid :=
  OpenClaim.holds_of_cond 7 Tryd.f7 rfl rfl rfl rfl rfl rfl rfl ⟨rfl, rfl, rfl, rfl, rfl⟩ rfl rfl rfl rfl rfl (by kernel_rfl) Tryd.func7 (by kernel_rfl)
    (of_decide_eq_true (by kernel_rfl)) (by unfold Func.isWrapper; first | (rw [if_pos (by decide +kernel)]; kernel_rfl) | (rw [if_neg (by decide +kernel)]; exact ⟨rfl, rfl⟩))
    (fun os started H enc _ F => by rw [OpenClaim.pre_eq_preRow]; exact lifted os started H enc F)
theorem plain (f : FuncId) (fn : Func) (hf : Tryd.pinned.checked.prog.funcNamed Rows.fnExactShortenProofRow.func = some f) (hfn : Tryd.pinned.checked.prog.funcs[f]? = some fn) :
    false = Tryd.pinned.checked.prog.looks [] ∧ ∀ (j : Nat) t, fn.params[j]? = some t → Tryd.pinned.checked.prog.wantsStandIn t = false := by
  obtain rfl : f = 7 := Option.some.inj ((show Tryd.prog.funcNamed Rows.fnExactShortenProofRow.func = some 7 by kernel_rfl).symm.trans hf) |>.symm
  obtain rfl : fn = Tryd.f7 := (Option.some.inj (Tryd.func7.symm.trans hfn)).symm
  refine ⟨by kernel_rfl, fun j t ht => ?_⟩
  rw [Tryd.params7] at ht
  match j, ht with
  | 0, ht => (simp at ht; subst ht; exact (show Tryd.prog.wantsStandIn 24 = false by kernel_rfl))
  | 1, ht => (simp at ht; subst ht; exact (show Tryd.prog.wantsStandIn 9 = false by kernel_rfl))
  | 2, ht => (simp at ht; subst ht; exact (show Tryd.prog.wantsStandIn 38 = false by kernel_rfl))
  | n + 3, ht => simp at ht
theorem proved : Rows.FnExactShortenProofCardSaid :=
  Claim7.holds_tied_plain_at .later [] _ _ _ _ said (fun _ h => by cases h) (by kernel_rfl) (fun _ h => by cases h) fnExactShortenProof_row_tie rfl ⟨rfl, rfl⟩ (by kernel_rfl) rfl plain (by kernel_rfl)
end Go.Proofs.YtddifhbjjiphiaaDoor.fnExactShortenProof
