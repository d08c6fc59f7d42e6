/- For every system and table, impl.FirstMap answers as its model, and its answer owns its memory: FnExactFirstMap returns true. The table of letters is tied to the program's text. -/
import Derived.Test.YtlgaihofaiigcaaDoorImplFirst
import Derived.Test.YtlgaihofaiigcaaDoorSpecMaps
import Derived.Test.YtlgaihofaiigcaaDoorArgs
import Derived.Test.YtlgaihofaiigcaaDoorWorld
import Derived.Deep.RegionHeld3
namespace Go.Proofs.YtlgaihofaiigcaaDoor.fnExactFirstMap
open Go.ChangeShapes Go.WideShapes Go.ChangeAt Go.RowKit
open Go.ChangeMaps (open_string)
set_option maxRecDepth 100000 in
set_option maxHeartbeats 3200000 in
theorem walk (k : Int) (_wk : (Lit.int .i64 k).wf = true) (Z : Option Addr) (nz cz : Nat) (l : List R) (t : Int) (_wt : (Lit.int .i64 t).wf = true) (A : Option Addr) (n c : Nat) (xs : List Int) (w : World) (hR : InR w Z nz cz l) (hI : InI w A n c xs) (hlet : Let w) :
    Calls Tryd.prog 6 #[.agg #[.int .i64 k, .slice Z nz cz], tabV t A n c] w fun e w' => e = .returned (.bool true) ∧ Below w.heap.size w w' := by
  have HL := Lib.hid (fun (w' : World) (hb : Below w.heap.size w w') => hlet.keep hb (Nat.le_refl _))
  have HR := Lib.hid (fun (w' : World) (hb : Below w.heap.size w w') => hR.keep hb)
  have HI := Lib.hid (fun (w' : World) (hb : Below w.heap.size w w') => hI.keep hb)
  have hmx := Nat.le_trans hI.2.1 hI.2.2.1
  clear hI hR hlet
  have b0 := bel2 w (.cells #[.int .i64 k, .slice Z nz cz] 36) (.cells #[.int .i64 t, .slice A n c] 24)
  have X0 := Lib.hid ((Blk.new1 w #[.int .i64 k, .slice Z nz cz] 36).alloc (.cells #[.int .i64 t, .slice A n c] 24))
  have Y0 := Lib.hid (Blk.new2 w (.cells #[.int .i64 k, .slice Z nz cz] 36) #[.int .i64 t, .slice A n c] 24)
  go_enter Tryd.func6, Tryd.ntmps6
  go_wp2_with fail
  generalize (w.alloc (.cells #[.int .i64 k, .slice Z nz cz] 36)).alloc (.cells #[.int .i64 t, .slice A n c] 24) = w0 at *
  refine (szSystem_any k Z nz cz l 1048576 _ (HR.out _ b0) (Nat.le_refl _)).mono ?_
  rintro e w1 ⟨q, rfl, hq, hb1⟩
  have b1 := b0.trans (hb1.mono b0.size)
  have X1 := Lib.hid (X0.out.below hb1 X0.out.lt)
  have Y1 := Lib.hid (Y0.out.below hb1 Y0.out.lt)
  clear hb1 X0 Y0
  by_cases hq0 : q < 0
  · go_wp2_with fail
    go_ret
    exact ⟨rfl, b1⟩
  have hq2 : q + (nz + rulesSz l : Nat) = (1048576 : Nat) := by rcases hq with h | h <;> omega
  have Hsz : Hid (nz + rulesSz l ≤ 1048576) := by show _ ≤ _; omega
  have Hnz : Hid (nz ≤ 1048576) := by have := Hsz.out; show _ ≤ _; omega
  have Hsm : Hid (smallR l) := small_of l (by have := Hsz.out; omega)
  obtain ⟨q', rfl⟩ : ∃ q' : Nat, q = q' := ⟨q.toNat, by omega⟩
  have hq' : q' ≤ 1048576 := by omega
  clear hq hq2
  obtain ⟨y0, y1, -, -, yl⟩ := Y1.out.two
  go_wp2_with fail
  clear y0 y1 yl
  refine (szTable_any t A n c q' _ hmx hq').mono ?_
  rintro e w2 ⟨p, rfl, hp, hb2⟩
  have b2 := b1.trans (hb2.mono b1.size)
  have X2 := Lib.hid (X1.out.below hb2 X1.out.lt)
  have Y2 := Lib.hid (Y1.out.below hb2 Y1.out.lt)
  clear hb2 X1 Y1
  by_cases hp0 : p < 0
  · go_wp2_with fail
    go_ret
    exact ⟨rfl, b2⟩
  have Hn : Hid (n ≤ 1048576) := by rcases hp with h | h <;> (show _ ≤ _; omega)
  clear hp
  obtain ⟨x0, x1, -, -, xl⟩ := X2.out.two
  obtain ⟨y0, y1, -, -, yl⟩ := Y2.out.two
  go_wp2_with fail
  go_region_held3 (fun w' => w'.cell? ⟨w.heap.size, 0, none⟩ = some (.int .i64 k) ∧ w'.cell? ⟨w.heap.size, 1, none⟩ = some (.slice Z nz cz) ∧ w'.cell? ⟨w.heap.size + 1, 0, none⟩ = some (.int .i64 t) ∧ w'.cell? ⟨w.heap.size + 1, 1, none⟩ = some (.slice A n c) ∧ Below w2.heap.size w2 w')
    (first | exact ⟨x0, x1, y0, y1, (Below.refl _ w2).drew⟩ | exact held4_keep (by assumption) hb3 (Nat.le_refl _) xl yl | exact held4_keep (by assumption) hb4 (Nat.le_refl _) xl yl | exact held4_keep (by assumption) hb6 (Nat.le_refl _) xl yl)
    ((first
      | (go_at_call 18; refine (toSystem_any k Z nz cz l _ (HR.out _ ?_) Hnz.out).mono ?_; (first | exact b2.drew | exact b2.trans ((by assumption : _ ∧ _ ∧ _ ∧ _ ∧ Below w2.heap.size w2 _).2.2.2.2.mono b2.size)); rintro e w3 ⟨v3, rfl, o3, hb3⟩; obtain ⟨A3, c3, rfl⟩ := o3.form)
      | (go_at_call 11; refine (toTable_any t A n c xs _ (HI.out _ ?_) Hn.out).mono ?_; (first | exact b2.drew | exact b2.trans ((by assumption : _ ∧ _ ∧ _ ∧ _ ∧ Below w2.heap.size w2 _).2.2.2.2.mono b2.size)); rintro e w4 ⟨A4, c4, rfl, o4, hb4⟩)
      | (go_at_call 23; refine (specFirstMap k A3 nz c3 _ l t A4 n c4 _ xs _ (o3.below hb4) Hsm.out o4 Hn.out).mono ?_; rintro e w6 ⟨⟨v6, rfl, o6⟩, hb6⟩; obtain ⟨A6, c6, rfl⟩ := o6.form)))
  have hS := (‹_ ∧ _ ∧ _ ∧ _ ∧ Below w2.heap.size w2 w6›).2.2.2.2
  have b6 := b2.trans (hS.mono b2.size)
  have X6 := Lib.hid (X2.out.below hS X2.out.lt)
  have Y6 := Lib.hid (Y2.out.below hS Y2.out.lt)
  have HLN := Lib.hid (firstMap_len k l t xs)
  have HM := Lib.hid (fun A5 c5 B5 (AA : Option Addr) cc BB w5 (o5 : Own B5 w5 (.slice A5 nz c5) 2 nz (rulesC l)) (p5 : Own BB w5 (.slice AA n cc) 1 n (ints xs)) (hw5 : Below w.heap.size w w5) => implFirstMap k A5 nz c5 B5 l t AA n cc BB xs w5 o5 Hsm.out p5 (HL.out _ hw5))
  obtain ⟨L, bb, hLb⟩ : ∃ L bb, firstMap k l t xs = (L, bb) := ⟨_, _, rfl⟩
  rw [hLb] at HM HLN o6 ⊢
  dsimp only at o6
  have R6 := Lib.hid o6
  clear hS hb3 hb4 hb6 o3 o4 o6 x0 x1 xl y0 y1 yl X2 Y2 hLb
  generalize hN : L.length = N at *
  have hNb : N ≤ 4 := HLN.out
  have hR6 := Lib.hid (fun hn : 0 < N => R6.out.blk_lt hn)
  have hw6 := b6.size
  have hY6 : w.heap.size + 1 < w6.heap.size := Y6.out.lt
  clear hN
  obtain ⟨x0, x1, -, -, xl⟩ := X6.out.two
  go_wp2_with fail
  refine (toSystem_any k Z nz cz l _ (HR.out _ b6) Hnz.out).mono ?_
  rintro e w7 ⟨v7, rfl, o7, hb7⟩
  obtain ⟨A7, c7, rfl⟩ := o7.form
  have hP7 := Lib.hid (fun hn : 0 < nz => o7.blk_lt hn)
  have h67 := hb7.size
  have R8 := Lib.hid ((R6.out.below hb7).below (bel1 w7 (.cells #[.int .i64 k, .slice A7 nz c7] 41)))
  have b8 := (b6.trans (hb7.mono b6.size)).alloc (by have := b6.size; have := hb7.size; omega) (.cells #[.int .i64 k, .slice A7 nz c7] 41)
  have X8 := Lib.hid ((X6.out.below hb7 xl).alloc (.cells #[.int .i64 k, .slice A7 nz c7] 41))
  have Y8 := Lib.hid ((Y6.out.below hb7 Y6.out.lt).alloc (.cells #[.int .i64 k, .slice A7 nz c7] 41))
  have S8 := Lib.hid (Blk.new1 w7 #[.int .i64 k, .slice A7 nz c7] 41)
  have O8 := Lib.hid (o7.below (bel1 w7 (.cells #[.int .i64 k, .slice A7 nz c7] 41)))
  have h78 : w7.heap.size < (w7.alloc (.cells #[.int .i64 k, .slice A7 nz c7] 41)).heap.size := by simp
  clear hb7 o7 x0 x1 xl X6 Y6 R6
  obtain ⟨y0, y1, -, -, yl⟩ := Y8.out.two
  go_wp2_with fail
  generalize w7.alloc (.cells #[.int .i64 k, .slice A7 nz c7] 41) = w8 at *
  refine (toTable_any t A n c xs _ (HI.out _ b8) Hn.out).mono ?_
  rintro e w9 ⟨A9, c9, rfl, o9, hb9⟩
  have hO9 := Lib.hid (fun hn : 0 < n => o9.blk_lt hn)
  have h89 := hb9.size
  have R10 := Lib.hid ((R8.out.below hb9).below (bel1 w9 (.cells #[.int .i64 t, .slice A9 n c9] 28)))
  have b10 := (b8.trans (hb9.mono b8.size)).alloc (by have := b8.size; have := hb9.size; omega) (.cells #[.int .i64 t, .slice A9 n c9] 28)
  have X10 := Lib.hid ((X8.out.below hb9 X8.out.lt).alloc (.cells #[.int .i64 t, .slice A9 n c9] 28))
  have Y10 := Lib.hid ((Y8.out.below hb9 Y8.out.lt).alloc (.cells #[.int .i64 t, .slice A9 n c9] 28))
  have S10 := Lib.hid ((S8.out.below hb9 S8.out.lt).alloc (.cells #[.int .i64 t, .slice A9 n c9] 28))
  have T10 := Lib.hid (Blk.new1 w9 #[.int .i64 t, .slice A9 n c9] 28)
  have P10 := Lib.hid ((O8.out.below hb9).below (bel1 w9 (.cells #[.int .i64 t, .slice A9 n c9] 28)))
  have O10 := Lib.hid (o9.below (bel1 w9 (.cells #[.int .i64 t, .slice A9 n c9] 28)))
  have h910 : w9.heap.size < (w9.alloc (.cells #[.int .i64 t, .slice A9 n c9] 28)).heap.size := by simp
  clear hb9 o9 y0 y1 yl X8 Y8 S8 O8 R8
  obtain ⟨s0, s1, -, -, sl⟩ := S10.out.two
  obtain ⟨t0, t1, -, -, tl⟩ := T10.out.two
  go_wp2_with fail
  generalize w9.alloc (.cells #[.int .i64 t, .slice A9 n c9] 28) = w10 at *
  refine (HM.out A7 c7 _ A9 c9 _ w10 P10.out O10.out b10).mono ?_
  rintro e w12 ⟨⟨v12, rfl, o12⟩, hb12⟩
  dsimp only at o12 ⊢
  obtain ⟨A12, c12, rfl⟩ := o12.form
  have Q12 := Lib.hid o12
  have hQ := Lib.hid (fun hn : 0 < N => o12.blk_lt hn)
  have b12 := b10.trans (hb12.mono b10.size)
  have X12 := Lib.hid (X10.out.below hb12 X10.out.lt)
  have Y12 := Lib.hid (Y10.out.below hb12 Y10.out.lt)
  have S12 := Lib.hid (S10.out.below hb12 sl)
  have T12 := Lib.hid (T10.out.below hb12 tl)
  have P12 := Lib.hid (P10.out.below hb12)
  have O12 := Lib.hid (O10.out.below hb12)
  have R12 := Lib.hid (R10.out.below hb12)
  have h1012 := hb12.size
  clear hb12 o12 s0 s1 sl t0 t1 tl X10 Y10 S10 T10 P10 O10 R10
  go_wp2_with fail
  refine (eqIntB A12 A6 N c12 c6 _ _ L _ Q12.out R12.out (by omega)).mono ?_
  rintro e w13 ⟨rfl, hb13⟩
  have b13 := b12.trans (hb13.mono b12.size)
  have X13 := Lib.hid (X12.out.below hb13 X12.out.lt)
  have Y13 := Lib.hid (Y12.out.below hb13 Y12.out.lt)
  have S13 := Lib.hid (S12.out.below hb13 S12.out.lt)
  have T13 := Lib.hid (T12.out.below hb13 T12.out.lt)
  have P13 := Lib.hid (P12.out.below hb13)
  have O13 := Lib.hid (O12.out.below hb13)
  have R13 := Lib.hid (R12.out.below hb13)
  have Q13 := Lib.hid (Q12.out.below hb13)
  have h1213 := hb13.size
  clear hb13 X12 Y12 S12 T12 P12 O12 R12 Q12
  obtain ⟨x0, x1, -, -, xl⟩ := X13.out.two
  obtain ⟨s0, s1, -, -, sl⟩ := S13.out.two
  have P13d : Hid (Own w6.heap.size w13.drew (.slice A7 nz c7) 2 nz (rulesC l)) := P13
  go_wp2_with fail
  go_region_held3 (fun w' => w'.cell? ⟨w7.heap.size, 0, none⟩ = some (.int .i64 k) ∧ w'.cell? ⟨w7.heap.size, 1, none⟩ = some (.slice A7 nz c7) ∧ w'.cell? ⟨w.heap.size, 0, none⟩ = some (.int .i64 k) ∧ w'.cell? ⟨w.heap.size, 1, none⟩ = some (.slice Z nz cz) ∧ Below w13.heap.size w13 w')
    (first | exact ⟨s0, s1, x0, x1, (Below.refl _ w13).drew⟩ | exact held4_keep (by assumption) hb14 (Nat.le_refl _) sl xl | exact held4_keep (by assumption) hb15 (Nat.le_refl _) sl xl)
    ((first | (go_at_call 18; refine (toSystem_any k Z nz cz l _ (HR.out _ b13.drew) Hnz.out).mono ?_; rintro e w14 ⟨v14, rfl, o14, hb14⟩; obtain ⟨A14, c14, rfl⟩ := o14.form) | (go_at_call 20; refine (eqSystem_yes k A7 _ nz c7 _ _ _ l _ (P13d.out.below hb14) o14).mono ?_; rintro e w15 ⟨rfl, hb15⟩)))
  have hS := (‹_ ∧ _ ∧ _ ∧ _ ∧ Below w13.heap.size w13 w15›).2.2.2.2
  have b15 := b13.trans (hS.mono b13.size)
  have X15 := Lib.hid (X13.out.below hS X13.out.lt)
  have Y15 := Lib.hid (Y13.out.below hS Y13.out.lt)
  have S15 := Lib.hid (S13.out.below hS S13.out.lt)
  have T15 := Lib.hid (T13.out.below hS T13.out.lt)
  have P15 := Lib.hid (P13.out.below hS)
  have O15 := Lib.hid (O13.out.below hS)
  have R15 := Lib.hid (R13.out.below hS)
  have Q15 := Lib.hid (Q13.out.below hS)
  have h1315 := hS.size
  clear hS hb14 hb15 o14 x0 x1 xl s0 s1 sl X13 Y13 S13 T13 P13 O13 R13 Q13 P13d
  obtain ⟨y0, y1, -, -, yl⟩ := Y15.out.two
  obtain ⟨t0, t1, -, -, tl⟩ := T15.out.two
  have O15d : Hid (Own w8.heap.size w15.drew (.slice A9 n c9) 1 n (ints xs)) := O15
  go_wp2_with fail
  go_region_held3 (fun w' => w'.cell? ⟨w9.heap.size, 0, none⟩ = some (.int .i64 t) ∧ w'.cell? ⟨w9.heap.size, 1, none⟩ = some (.slice A9 n c9) ∧ w'.cell? ⟨w.heap.size + 1, 0, none⟩ = some (.int .i64 t) ∧ w'.cell? ⟨w.heap.size + 1, 1, none⟩ = some (.slice A n c) ∧ Below w15.heap.size w15 w')
    (first | exact ⟨t0, t1, y0, y1, (Below.refl _ w15).drew⟩ | exact held4_keep (by assumption) hb16 (Nat.le_refl _) tl yl | exact held4_keep (by assumption) hb17 (Nat.le_refl _) tl yl)
    ((first | (go_at_call 11; refine (toTable_any t A n c xs _ (HI.out _ b15.drew) Hn.out).mono ?_; rintro e w16 ⟨A16, c16, rfl, o16, hb16⟩) | (go_at_call 14; refine (eqTable_yes t A9 _ n c9 _ _ _ xs _ (O15d.out.below hb16) o16 Hn.out).mono ?_; rintro e w17 ⟨rfl, hb17⟩)))
  have hS := (‹_ ∧ _ ∧ _ ∧ _ ∧ Below w15.heap.size w15 w17›).2.2.2.2
  have b17 := b15.trans (hS.mono b15.size)
  have X17 := Lib.hid (X15.out.below hS X15.out.lt)
  have Y17 := Lib.hid (Y15.out.below hS Y15.out.lt)
  have S17 := Lib.hid (S15.out.below hS S15.out.lt)
  have T17 := Lib.hid (T15.out.below hS T15.out.lt)
  have P17 := Lib.hid (P15.out.below hS)
  have O17 := Lib.hid (O15.out.below hS)
  have R17 := Lib.hid (R15.out.below hS)
  have Q17 := Lib.hid (Q15.out.below hS)
  have h1517 := hS.size
  clear hS hb16 hb17 o16 y0 y1 yl t0 t1 tl X15 Y15 S15 T15 P15 O15 R15 Q15 O15d
  obtain ⟨s0, s1, -, -, sl⟩ := S17.out.two
  have hnz := Hnz.out
  have hnn := Hn.out
  go_wp2_with fail
  refine (markSystem_any k 1 A7 nz c7 _ l _ P17.out (by omega) (by omega) (by omega)).mono ?_
  rintro e w18 ⟨rfl, -, hb18, k18⟩
  have h1718 := hb18.size
  have b18 := b17.trans (hb18.mono hw6)
  have X18 := Lib.hid (k18.blk X17.out (fun hn => by have := (hP7.out hn).1; omega))
  have Y18 := Lib.hid (k18.blk Y17.out (fun hn => by have := (hP7.out hn).1; omega))
  have T18 := Lib.hid (k18.blk T17.out (fun hn => by have := (hP7.out hn).2; omega))
  have O18 := Lib.hid (Own.keptA O17.out k18 (by omega) (fun h1 h2 => by have := (hO9.out h1).1; have := (hP7.out h2).2; omega))
  have R18 := Lib.hid (Own.keptA R17.out k18 (by omega) (fun h1 h2 => by have := (hR6.out h1).2; have := (hP7.out h2).1; omega))
  have Q18 := Lib.hid (Own.keptA Q17.out k18 (by omega) (fun h1 h2 => by have := (hQ.out h1).1; have := (hP7.out h2).2; omega))
  clear hb18 k18 X17 Y17 S17 T17 P17 O17 R17 Q17 s0 s1 sl
  obtain ⟨t0, t1, -, -, tl⟩ := T18.out.two
  go_wp2_with fail
  refine (markTable_any t A9 n c9 _ (1 + 2 * (nz : Int)) xs _ O18.out (by omega) (by omega) (by omega)).mono ?_
  rintro e w20 ⟨rfl, -, hb20, k20⟩
  have h1820 := hb20.size
  have b20 := b18.trans (hb20.mono (by omega))
  have X20 := Lib.hid (k20.blk X18.out (fun hn => by have := (hO9.out hn).1; omega))
  have Y20 := Lib.hid (k20.blk Y18.out (fun hn => by have := (hO9.out hn).1; omega))
  have R20 := Lib.hid (Own.keptA R18.out k20 (by omega) (fun h1 h2 => by have := (hR6.out h1).2; have := (hO9.out h2).1; omega))
  have Q20 := Lib.hid (Own.keptA Q18.out k20 (by omega) (fun h1 h2 => by have := (hQ.out h1).1; have := (hO9.out h2).2; omega))
  clear hb20 k20 X18 Y18 T18 O18 R18 Q18 t0 t1 tl
  go_wp2_with fail
  refine (eqIntB A12 A6 N c12 c6 _ _ L _ Q20.out R20.out (by omega)).mono ?_
  rintro e w21 ⟨rfl, hb21⟩
  have h2021 := hb21.size
  have b21 := b20.trans (hb21.mono b20.size)
  have X21 := Lib.hid (X20.out.below hb21 X20.out.lt)
  have Y21 := Lib.hid (Y20.out.below hb21 Y20.out.lt)
  have R21 := Lib.hid (R20.out.below hb21)
  have Q21 := Lib.hid (Q20.out.below hb21)
  clear hb21 X20 Y20 R20 Q20
  go_wp2_with fail
  refine (markIntK A12 N c12 _ 1 L _ Q21.out (by omega) (by omega)).mono ?_
  rintro e w22 ⟨rfl, o22, hb22, k22⟩
  have h2122 := hb22.size
  have b22 := b21.trans (hb22.mono (by omega))
  have X22 := Lib.hid (k22.blk X21.out (fun hn => by have := (hQ.out hn).1; omega))
  have Y22 := Lib.hid (k22.blk Y21.out (fun hn => by have := (hQ.out hn).1; omega))
  have R22 := Lib.hid (Own.keptA R21.out k22 (by omega) (fun h1 h2 => by have := (hR6.out h1).2; have := (hQ.out h2).1; omega))
  have Q22 := Lib.hid o22
  clear hb22 k22 o22 X21 Y21 R21 Q21
  go_wp2_with fail
  refine (heldIntB A12 N c12 _ 1 _ Q22.out (by omega) (by omega)).mono ?_
  rintro e w23 ⟨rfl, hb23⟩
  have b23 := b22.trans (hb23.mono b22.size)
  have X23 := Lib.hid (X22.out.below hb23 X22.out.lt)
  have Y23 := Lib.hid (Y22.out.below hb23 Y22.out.lt)
  have R23 := Lib.hid (R22.out.below hb23)
  have Q23 := Lib.hid (Q22.out.below hb23)
  clear hb23 X22 Y22 R22 Q22
  obtain ⟨x0, x1, -, -, xl⟩ := X23.out.two
  obtain ⟨y0, y1, -, -, yl⟩ := Y23.out.two
  go_wp2_with fail
  go_region_held3 (fun w' => w'.cell? ⟨w.heap.size, 0, none⟩ = some (.int .i64 k) ∧ w'.cell? ⟨w.heap.size, 1, none⟩ = some (.slice Z nz cz) ∧ w'.cell? ⟨w.heap.size + 1, 0, none⟩ = some (.int .i64 t) ∧ w'.cell? ⟨w.heap.size + 1, 1, none⟩ = some (.slice A n c) ∧ Below w23.heap.size w23 w')
    (first | exact ⟨x0, x1, y0, y1, (Below.refl _ w23).drew⟩ | exact held4_keep (by assumption) hb24 (Nat.le_refl _) xl yl | exact held4_keep (by assumption) hb25 (Nat.le_refl _) xl yl | exact held4_keep (by assumption) hb26 (Nat.le_refl _) xl yl)
    ((first
      | (go_at_call 18; refine (toSystem_any k Z nz cz l _ (HR.out _ ?_) Hnz.out).mono ?_; (first | exact b23.drew | exact b23.trans ((by assumption : _ ∧ _ ∧ _ ∧ _ ∧ Below w23.heap.size w23 _).2.2.2.2.mono b23.size)); rintro e w24 ⟨v24, rfl, o24, hb24⟩; obtain ⟨A24, c24, rfl⟩ := o24.form)
      | (go_at_call 11; refine (toTable_any t A n c xs _ (HI.out _ ?_) Hn.out).mono ?_; (first | exact b23.drew | exact b23.trans ((by assumption : _ ∧ _ ∧ _ ∧ _ ∧ Below w23.heap.size w23 _).2.2.2.2.mono b23.size)); rintro e w25 ⟨A25, c25, rfl, o25, hb25⟩)
      | (go_at_call 24; refine (HM.out A24 c24 _ A25 c25 _ _ (o24.below hb25) o25 (b23.trans ((by assumption : _ ∧ _ ∧ _ ∧ _ ∧ Below w23.heap.size w23 _).2.2.2.2.mono b23.size))).mono ?_; rintro e w26 ⟨⟨v26, rfl, o26⟩, hb26⟩; obtain ⟨A26, c26, rfl⟩ := o26.form)))
  have hS := (‹_ ∧ _ ∧ _ ∧ _ ∧ Below w23.heap.size w23 w26›).2.2.2.2
  have b26 := b23.trans (hS.mono b23.size)
  have R26 := Lib.hid (R23.out.below hS)
  have Q26 := Lib.hid (Q23.out.below hS)
  have V26 := Lib.hid o26
  clear hS hb24 hb25 hb26 o24 o25 o26 x0 x1 xl y0 y1 yl X23 Y23 R23 Q23
  go_wp2_with fail
  refine (eqIntB A26 A6 N c26 c6 _ _ L _ V26.out R26.out (by omega)).mono ?_
  rintro e w27 ⟨rfl, hb27⟩
  have b27 := b26.trans (hb27.mono b26.size)
  have Q27 := Lib.hid (Q26.out.below hb27)
  clear hb27 R26 Q26 V26
  go_wp2_with fail
  refine (heldIntB A12 N c12 _ 1 _ Q27.out (by omega) (by omega)).mono ?_
  rintro e w28 ⟨rfl, hb28⟩
  have b28 := b27.trans (hb28.mono b27.size)
  clear hb28
  go_wp2_with fail
  go_ret
  exact ⟨rfl, b28⟩
set_option maxRecDepth 100000 in
theorem contract (H : Type) (enc : TypeId × Value → H) (W : World) (base : Nat) (args : Array Value) (ds gs : List (DataW H)) (before : List MemPlace)
    (hval : ∀ (j : Nat) t v, Tryd.f6.params[j]? = some t → args[j]? = some v → Value.okWide Tryd.prog W .any base t v)
    (hW : DataW.Whole enc Tryd.prog Tryd.f6.params.toList Rows.fnExactFirstMapSpec.vars false W args.toList ds gs before) (hL : laidMetH Tryd.prog Rows.fnExactFirstMapRow.laid W) :
    Calls Tryd.prog 6 args W fun e W' => ∃ v, e = .returned v ∧ Rows.fnExactFirstMapSpec.post enc Tryd.prog Tryd.f6 false true false false W args v W' := by
  have hW' := hW
  have hL' : laidMet Tryd.prog [("loop.example/g03201/impl.letters", Rows.laid_loop_example_g03201_impl_letters)] W := hL
  obtain ⟨p, q, hA0, hV, rfl, hfz, hnd⟩ := hW
  obtain ⟨g0, rfl⟩ := vars_len1 (trodVars_len hV)
  have hA : DataW.TrodAll enc Tryd.prog W 0 (fun _ => true) true Tryd.f6.params.toList args.toList ds p := hA0
  rw [Tryd.params6] at hA hval
  obtain ⟨v0, vs0, d0, ds0, p0, q0, hargs, rfl, rfl, h0, r0⟩ := trodAll_cons hA
  obtain ⟨v1, vs1, d1, ds1, p1, q1, rfl, rfl, rfl, h1, r1⟩ := trodAll_cons r0
  obtain ⟨rfl, rfl, rfl⟩ := trodAll_nil r1
  obtain rfl : args = #[v0, v1] := by first | exact Array.toList_inj.1 hargs | exact Array.toList_inj.1 hargs.symm | (cases args; simp_all)
  obtain ⟨k0, A0, n0, c0, xs0, rfl, wk0, I0⟩ := open_system Tryd.underlying36 (by kernel_rfl) (by kernel_rfl) Tryd.underlying3 Tryd.underlying34 Tryd.underlying99 (by kernel_rfl) (by kernel_rfl) Tryd.underlying9 Tryd.underlying9 (hval 0 36 v0 rfl rfl) h0
  obtain ⟨k1, A1, n1, c1, xs1, rfl, wk1, I1⟩ := open_table Tryd.underlying24 (by kernel_rfl) (by kernel_rfl) Tryd.underlying3 Tryd.underlying22 Tryd.underlying3 (by kernel_rfl) (hval 1 24 v1 rfl rfl) h1
  refine (walk k0 wk0 A0 n0 c0 xs0 k1 wk1 A1 n1 c1 xs1 W I0 I1 (let_of hL')).mono fun e W' ⟨he, hb⟩ => ?_
  subst he
  exact ⟨_, rfl, law_postV hW' rfl rfl Tryd.underlying4 laidOut (by kernel_rfl) (by kernel_rfl) hb⟩

theorem laid_met (os : Os) : laidMet Tryd.prog Rows.fnExactFirstMapRow.laid ((laidWorld os).forCall (fun _ _ => 0) ⟨#[], #[.agg #[.int .i64 0, .slice none 0 0], .agg #[.int .i64 0, .slice none 0 0]], []⟩).memory :=
  laidMet_of_run' 8 (by kernel_rfl) (by kernel_rfl)
theorem reads (os : Os) {H : Type} (enc : TypeId × Value → H) : ∃ places, DataW.whole enc Tryd.prog ((laidWorld os).forCall (fun _ _ => 0) ⟨#[], #[.agg #[.int .i64 0, .slice none 0 0], .agg #[.int .i64 0, .slice none 0 0]], []⟩).memory Tryd.f6.params.toList Rows.fnExactFirstMapSpec.vars false (#[.agg #[.int .i64 0, .slice none 0 0], .agg #[.int .i64 0, .slice none 0 0]] : Array Value).toList 8 = some ([.agg [.lit (.int .i64 0), .nil], .agg [.lit (.int .i64 0), .nil]], [Rows.laid_loop_example_g03201_impl_letters], places) :=
  ⟨MemPlace.row ⟨0, 0, none⟩ 4, by kernel_rfl⟩
set_option maxRecDepth 100000 in
theorem lifted (os : Os) (started : os.Started) (H : Type) (enc : TypeId × Value → H) (F : Stop.Interp) :
    ReturnsInHanded {} Tryd.checked os 6 .any ((OpenSpec.ofChange Rows.fnExactFirstMapSpec).preRow enc Tryd.prog Tryd.f6 Rows.fnExactFirstMapRow.domain false Rows.fnExactFirstMapRow.laid) (((OpenSpec.ofChange Rows.fnExactFirstMapSpec).at F).post enc Tryd.prog Tryd.f6 false true false false) := by
  obtain ⟨places, hx⟩ := reads os enc
  refine returnsInHanded_of_row (C := Tryd.checked) (s := OpenSpec.ofChange Rows.fnExactFirstMapSpec) own started (by kernel_rfl) Tryd.func6
    (witness_row_at (enc := enc) (C := Tryd.checked) false (laidWorld os) #[.agg #[.int .i64 0, .slice none 0 0], .agg #[.int .i64 0, .slice none 0 0]] rfl (by kernel_rfl) (by kernel_rfl) (by kernel_rfl)
      (OpenSpec.preRow_of_cond 8 hx (by kernel_rfl) (fun k hk => by cases hk) (by kernel_rfl) (laid_met os))) ?_
  intro W base args ds gs before hval hW _ _ _ hL _ _
  exact contract H enc W base args ds gs before hval hW hL
theorem said : Rows.FnExactFirstMapSaid :=
  OpenClaim.holds_of_cond 6 Tryd.f6 rfl rfl rfl rfl rfl rfl rfl ⟨rfl, rfl, rfl, rfl, rfl⟩ rfl rfl rfl rfl rfl (by kernel_rfl) Tryd.func6 (by kernel_rfl)
    (of_decide_eq_true (by kernel_rfl)) (by unfold Func.isWrapper; first | (rw [if_pos (by decide +kernel)]; kernel_rfl) | (rw [if_neg (by decide +kernel)]; exact ⟨rfl, rfl⟩))
    (fun os started H enc _ F => by rw [OpenClaim.pre_eq_preRow]; exact lifted os started H enc F)
theorem plain (f : FuncId) (fn : Func) (hf : Tryd.pinned.checked.prog.funcNamed Rows.fnExactFirstMapRow.func = some f) (hfn : Tryd.pinned.checked.prog.funcs[f]? = some fn) :
    false = Tryd.pinned.checked.prog.looks [] ∧ ∀ (j : Nat) t, fn.params[j]? = some t → Tryd.pinned.checked.prog.wantsStandIn t = false := by
  obtain rfl : f = 6 := Option.some.inj ((show Tryd.prog.funcNamed Rows.fnExactFirstMapRow.func = some 6 by kernel_rfl).symm.trans hf) |>.symm
  obtain rfl : fn = Tryd.f6 := (Option.some.inj (Tryd.func6.symm.trans hfn)).symm
  refine ⟨by kernel_rfl, fun j t ht => ?_⟩
  rw [Tryd.params6] at ht
  match j, ht with
  | 0, ht => (simp at ht; subst ht; exact (show Tryd.prog.wantsStandIn 36 = false by kernel_rfl))
  | 1, ht => (simp at ht; subst ht; exact (show Tryd.prog.wantsStandIn 24 = false by kernel_rfl))
  | n + 2, ht => simp at ht
theorem proved : Rows.FnExactFirstMapCardSaid :=
  Claim7.holds_tied_plain_at .later [] _ _ _ _ said (fun _ h => by cases h) (by kernel_rfl) (fun _ h => by cases h) fnExactFirstMap_row_tie rfl ⟨rfl, rfl⟩ (by kernel_rfl) rfl plain (by kernel_rfl)
end Go.Proofs.YtlgaihofaiigcaaDoor.fnExactFirstMap
