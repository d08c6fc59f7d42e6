/- The program's CountReached. -/
import Derived.Test.YtjndopogjiacpaaDoorRoundAt
import Derived.Test.YtjndopogjiacpaaDoorSpecReached
namespace Go.Proofs.YtjndopogjiacpaaDoor
open Go.RowKit Go.Shelf
attribute [local go_sem] Oper.semAt_some

set_option maxRecDepth 100000 in
set_option maxHeartbeats 2000000 in
theorem implCountReached (k : Int) (A : Option Addr) (n c B : Nat) (l : List R) (s : ByteArray) (w : World) (h : Own B w (.slice A n c) 2 n (rulesC l)) (hsm : smallR l) (hs : s.size ≤ 1048576) (hlet : Let w) :
    Calls Tryd.prog 24 #[.agg #[.int .i64 k, .slice A n c], .string s] w fun e w' => e = .returned (.int .i64 (countS k l s)) ∧ Below w.heap.size w w' := by
  have HO := Lib.hid h
  have Hlen := Lib.hid h.rlen
  have HL := Lib.hid (fun (w' : World) (hb : Below w.heap.size w w') => hlet.keep hb (Nat.le_refl _))
  clear h hlet
  refine (callsIn_wide (n := 6)).1 ?_
  refine callsIn_of_wp_marks Tryd.func24 rfl trivial ?_ rfl
  simp only [Tryd.ntmps24, List.size_toArray, List.length_cons, List.length_nil, Nat.reduceAdd, Nat.reduceSub, Array.replicate_succ, Array.replicate_zero, List.push_toArray, List.append_toArray, List.nil_append, List.cons_append]
  gi_wp2_with fail
  refine ⟨trivial, (callsIn_wide.2 (canReduce_any k A n c B l s _ (HO.out.below (bel1 _ _)) hsm hs (HL.out _ (bel1 _ _)))).mono ?_⟩
  rintro e w1 ⟨rfl, hb1⟩
  have b1 := (bel1 w _).trans (hb1.mono (by simp))
  have HB1 := Lib.hid ((Blk.new1 w _ _).below hb1 (by simp))
  clear hb1
  cases h1 : canRed k l s
  · have HF := Lib.hid (countS_no1 h1)
    clear h1
    gi_wp2_with fail
    refine ⟨.int .i64 (-1), ?_, by rw [HF.out], b1⟩
    simp [results, Tryd.f24, go_sem]
  by_cases h8 : ¬ s.size ≤ 8
  · have HF := Lib.hid (countS_no2 (k := k) (l := l) h8)
    clear h1
    gi_wp2_with fail
    refine ⟨.int .i64 (-1), ?_, by rw [HF.out], b1⟩
    simp [results, Tryd.f24, go_sem]
  have h8' : s.size ≤ 8 := by omega
  have HF := Lib.hid (countS_yes h1 h8')
  have HS0 := Lib.hid (SearchAt.start h1 h8')
  have hn12 : n ≤ 12 := by rw [← Hlen.out]; exact rulesOk_len (canRed_rules h1)
  clear h1 h8
  have hmm := @run_makeMap Tryd.prog
  have hsm8 : s.size ≤ maxLen := by unfold maxLen; omega
  obtain ⟨w2, hrun2, hM2, hg2⟩ := (SetM.made w1).add s hsm8 rfl (by unfold maxLen; simp)
  rw [List.nil_append] at hM2
  gi_wp2_with fail
  have hMR : w1.heap.size < w2.heap.size := hM2.lt
  have hwM : w.heap.size < w1.heap.size := HB1.out.lt
  have b2 : Below w1.heap.size w1 w2 := (bel1 w1 (.map #[] 0)).grown hg2 (by simp) (fun k e => by injection e with e; omega)
  have b3 : Below w.heap.size w (((w2.alloc (.cells #[.map (some w1.heap.size)] 75)).alloc (.cells #[.string s] 9)).alloc (.cells #[.slice (some ⟨w2.heap.size + 1, 0, none⟩) 1 1] 76)) :=
    b1.trans ((b2.trans ((bel3 w2 _ _ _).mono (by omega))).mono (by omega))
  have HB3 := Lib.hid ((((HB1.out.below b2 HB1.out.lt).alloc (.cells #[.map (some w1.heap.size)] 75)).alloc (.cells #[.string s] 9)).alloc (.cells #[.slice (some ⟨w2.heap.size + 1, 0, none⟩) 1 1] 76))
  have HR3 := Lib.hid (((Blk.new1 w2 #[.map (some w1.heap.size)] 75).alloc (.cells #[.string s] 9)).alloc (.cells #[.slice (some ⟨w2.heap.size + 1, 0, none⟩) 1 1] 76))
  have HW3 := Lib.hid (Blk.new3 w2 (.cells #[.map (some w1.heap.size)] 75) (.cells #[.string s] 9) #[.slice (some ⟨w2.heap.size + 1, 0, none⟩) 1 1] 76)
  have HQ3 : Hid (Wait (((w2.alloc (.cells #[.map (some w1.heap.size)] 75)).alloc (.cells #[.string s] 9)).alloc (.cells #[.slice (some ⟨w2.heap.size + 1, 0, none⟩) 1 1] 76)) (w2.heap.size + 1) (.slice (some ⟨w2.heap.size + 1, 0, none⟩) 1 1) [s]) :=
    ⟨0, 1, #[.string s], rfl, Nat.le_refl _, by unfold maxLen; omega, (Blk.new2 w2 _ #[.string s] 9).alloc _, by simp, fun j y hj => by
      match j, hj with
      | 0, hj => simp at hj; subst hj; rfl⟩
  have HM3 := Lib.hid (hM2.below (bel3 w2 (.cells #[.map (some w1.heap.size)] 75) (.cells #[.string s] 9) (.cells #[.slice (some ⟨w2.heap.size + 1, 0, none⟩) 1 1] 76)))
  clear hrun2 hg2 hM2 b2 HB1
  generalize ((w2.alloc (.cells #[.map (some w1.heap.size)] 75)).alloc (.cells #[.string s] 9)).alloc (.cells #[.slice (some ⟨w2.heap.size + 1, 0, none⟩) 1 1] 76) = w3 at *
  clear b1
  generalize w1.heap.size = Mb at *
  generalize w2.heap.size = Rb at *
  clear w1 w2
  obtain ⟨Wb, hWb⟩ : ∃ x, x = Rb + 1 + 1 := ⟨_, rfl⟩
  rw [← hWb] at HW3 ⊢
  have hRW : Rb < Wb := by omega
  have hRW2 : Rb + 1 < Wb := by omega
  clear hWb
  refine wpIn_loop (fun a' W => ∃ (Q : List ByteArray) (a : Nat) (Ds : List Nat) (g : Nat) (v : Value), (Hid (SearchAt k l s Q a) ∧ Ds.length = a ∧ Hid (SetM W Mb Q) ∧ Hid (Blk W Rb 75 #[.map (some Mb)]) ∧ Hid (Blk W Wb 76 #[v]) ∧ Hid (Wait W g v (Q.drop a)) ∧ Mb < g ∧ Hid (Blk W w.heap.size 25 #[.int .i64 k, .slice A n c]) ∧ Below w.heap.size w W ∧ Hid (Ds.Nodup ∧ ∀ D ∈ Ds, w.heap.size ≤ D ∧ W.heap[D]? = some (.deferred (some [])))) ∧
    ∃ u7 u8 u9 u10 u25 u26 u27 u28 u29 u30 u31 u32 u33 u34 u35 u36 u37 u38 u39 u40 u41 u42 u43 u44 u45 u46 u47 u48 u49 u50 u51 u52 u53 : Value, a' = { tmps := #[.agg #[.int .i64 k, .slice A n c], .string s, .pointer (some ⟨w.heap.size, 0, none⟩), undef, .int .i64 0, .pointer (some ⟨Rb, 0, none⟩), .pointer (some ⟨Wb, 0, none⟩), u7, u8, u9, u10, .agg #[.int .i64 k, .slice A n c], .string s, .bool true, .bool false, .bool false, .string s, .int .i64 s.size, .bool (decide (8 < (s.size : Int))), .bool (decide (8 < (s.size : Int))), .map (some Mb), .string s, .map (some Mb), .string s, .slice (some ⟨Rb + 1, 0, none⟩) 1 1, u25, u26, u27, u28, u29, u30, u31, u32, u33, u34, u35, u36, u37, u38, u39, u40, u41, u42, u43, u44, u45, u46, u47, u48, u49, u50, u51, u52, u53, undef, undef], defers := Ds.map markD }) (fun a' _ => 87381 - a'.defers.length) ?start ?round
  case start => exact ⟨[s], 0, [], Rb + 1, _, ⟨HS0, rfl, HM3, HR3, HW3, HQ3, by omega, HB3, b3, List.nodup_nil, fun D hD => by cases hD⟩, _, _, _, _, _, _, _, _, _, _, _, _, _, _, _, _, _, _, _, _, _, _, _, _, _, _, _, _, _, _, _, _, _, rfl⟩
  case round =>
    rintro a' W ⟨Q, a, Ds, g, v, ⟨HS, hDl, HM, HR, HW, HQ, hg, HB, hb, HD⟩, u7, u8, u9, u10, u25, u26, u27, u28, u29, u30, u31, u32, u33, u34, u35, u36, u37, u38, u39, u40, u41, u42, u43, u44, u45, u46, u47, u48, u49, u50, u51, u52, u53, rfl⟩
    have hbs := hb.size
    have hQl := HS.out.good.len
    by_cases hlt : a < Q.length
    · obtain ⟨y0, hy0⟩ : ∃ y, Q[a]? = some y := ⟨_, List.getElem?_eq_getElem hlt⟩
      have hq := HQ.out
      rw [drop_step Q a y0 hy0] at hq
      obtain ⟨off, c9, m, hmq, rfl, hlc, hcm, hc0, o9, hsl, hq2⟩ := hq.head
      have HY := Lib.hid hy0
      have hQd : m ≤ 87381 := by rw [← hmq]; simp; omega
      have HMQ := Lib.hid hmq
      have T1 := (turn_below (S := [Wb]) (bel1 W (.cells #[.string y0] 9))).trans (turn_set _ Wb 0 (.slice (some ⟨g, o9, none⟩) m (c9 - 1)) (List.mem_singleton.2 rfl))
      have HWa := HW.out.alloc (.cells #[.string y0] 9)
      have z0 := HW.out.cell 0
      have z1 := HWa.cell 0
      have zf := HWa.frozen 0
      have N1 := Lib.hid ((Blk.new1 W #[.string y0] 9).far (p := ⟨Wb, 0, none⟩) (by have := HW.out.lt; simp; omega) (.slice (some ⟨g, o9, none⟩) m (c9 - 1)))
      have W1' := Lib.hid (HWa.set_ 0 (.slice (some ⟨g, o9, none⟩) m (c9 - 1)))
      have HB1 := Lib.hid ((HB.out.alloc (.cells #[.string y0] 9)).far (p := ⟨Wb, 0, none⟩) (by have := HM.out.lt; simp; omega) (.slice (some ⟨g, o9, none⟩) m (c9 - 1)))
      have hwl := HS.out.good.word y0 (List.mem_of_getElem? HY.out)
      have hcan := Lib.hid hwl.1
      have hy8 : y0.size ≤ 8 := hwl.2
      have hys : y0.size ≤ 1048576 := by omega
      have HSz1 := Lib.hid (show ((W.alloc (.cells #[.string y0] 9)).setCell ⟨Wb, 0, none⟩ (.slice (some ⟨g, o9, none⟩) m (c9 - 1))).heap.size = W.heap.size + 1 by simp [World.size_setCell])
      have HT1 := Lib.hid T1
      obtain ⟨q0, q1, -, -, ql⟩ := HB1.out.two
      have n0 := N1.out.cell 0
      unfold maxLen at hcm
      clear hwl T1
      clear hy0 hq HQ hmq
      gi_wp2_with fail
      clear q0 q1 ql n0 z0 z1 zf HWa hc0 hsl
      generalize (W.alloc (.cells #[.string y0] 9)).setCell ⟨Wb, 0, none⟩ (.slice (some ⟨g, o9, none⟩) m (c9 - 1)) = W1 at *
      refine ⟨trivial, (callsIn_wide.2 (stepsFrom_any k A n c y0 0 _)).mono ?_⟩
      rintro e w4 ⟨rfl, hw4⟩
      gi_wp2_with fail
      have hsz1 := HSz1.out
      have hsz4 : w4.heap.size = W1.heap.size + 3 := by rw [hw4]; simp
      have b4 : Below W1.heap.size W1 w4 := by rw [hw4]; exact bel3 _ _ _ _
      have T4 := HT1.out.trans (turn_below b4)
      have hWbW := HW.out.lt
      have hMbW := HM.out.lt
      have hRbW := HR.out.lt
      have hgW := hq2.lt
      have hSp : Spots w.heap.size Mb Rb Wb W.heap.size g w4.heap.size := ⟨hwM, hMR, hRW, hWbW, by omega, hg, hgW, hq2.apart HR.out (by decide), hq2.apart HW.out (by decide)⟩
      have HSp := Lib.hid hSp
      have hDlt : ∀ D ∈ Ds, D < w4.heap.size := fun D hD => by
        have := (Array.getElem?_eq_some_iff.1 (HD.out.2 D hD).2).1
        omega
      have HDlt := Lib.hid hDlt
      have hR0 : RoundAt k A n c l y0 Q a Ds w Mb Rb Wb W.heap.size g w4.heap.size [] g w4 := by
        refine ⟨T4.setM HM.out (by simp; omega), T4.blk HR.out (by simp; omega), ⟨_, W1'.out.below b4 (by omega), ?_⟩, .inl rfl, N1.out.below b4 (by omega), HB1.out.below b4 (by omega), fun D hD => ?_, Nat.le_refl _, hb.trans (T4.below (fun b hb => by simp at hb; omega) hbs)⟩
        · exact hq2.turn T4 (by simp; exact hq2.apart HW.out (by decide))
        · refine T4.obj (HD.out.2 D hD).2 (fun e => ?_)
          simp at e
          subst e
          have h1 := (HD.out.2 D hD).2
          have h2 := HW.out
          unfold Blk at h2
          rw [h1] at h2; cases h2
      have hS : SeqAt l y0 0 W1.heap.size (W1.heap.size + 1) (W1.heap.size + 2) (fun j => j < w4.heap.size ∧ j ∉ [Mb, g, Wb]) w4 := by
        have nm : ∀ j, W.heap.size ≤ j ∨ j < Mb → j < w4.heap.size → j < w4.heap.size ∧ j ∉ [Mb, g, Wb] := fun j h1 h2 => ⟨h2, by simp; omega⟩
        refine ⟨⟨k, A, n, c, B, ?_, HO.out.below hR0.bl, hn12, fun hn => nm _ ?_ ?_⟩, ?_, ?_, nm _ (by omega) (by omega), nm _ (by omega) (by omega), nm _ (by omega) (by omega)⟩
        · rw [hw4]; exact ((Blk.new1 _ _ _).alloc _).alloc _
        · have := (HO.out.blk_lt hn).2; omega
        · have := (HO.out.blk_lt hn).2; omega
        · rw [hw4]; exact (Blk.new2 _ _ _ _).alloc _
        · rw [hw4]; exact Blk.new3 _ _ _ _ _
      have e0 : ((W1.alloc (.cells #[.int .i64 k, .slice A n c] 25)).alloc (.cells #[.string y0] 9)).alloc (.cells #[.int .i64 0] 67) = w4 := hw4.symm
      rw [e0]
      clear e0 hw4 N1 W1' HB1 HT1 T4 b4 hq2 HM HR HW HB
      have HR0 := Lib.hid hR0
      clear hR0 hSp hDlt
      refine wpIn_rangeFunc_ownH rfl (by omega) (gf := 83) (lb := #[.pointer (some ⟨W1.heap.size + 1, 0, none⟩), .pointer (some ⟨W1.heap.size + 2, 0, none⟩), .pointer (some ⟨W1.heap.size, 0, none⟩)]) rfl trivial (enters_of Tryd.func83 (by kernel_rfl) rfl)
        (steps_stops 5 (by omega) l y0 0 hys _ _ _ _ w4 hS (fun _ h => h.1)) keeps_t (keeps_b (fun _ h => h.1)) (Below.refl _ _) (fun _ => rfl)
        (fun pre X => ∃ g', RoundAt k A n c l y0 Q a Ds w Mb Rb Wb W.heap.size g w4.heap.size (vals pre) g' X)
        (fun _ _ _ => False)
        (fun _ _ _ _ h hg hr => by obtain ⟨g', h⟩ := h; exact ⟨g', h.kept HSp.out HDlt.out hg hr⟩)
        (fun _ _ _ _ _ hs _ _ => hs)
        ⟨g, HR0.out⟩
        (fun x a' X => ∃ Bx, w4.heap.size ≤ Bx ∧ Blk X Bx 37 #[.int .i64 x.1.1, .int .i64 x.1.2] ∧ ∃ u9 u10 u25 u26 u27 u28 u29 u30 u31 u32 u33 u34 u35 u36 u37 u38 u39 u40 u41 u42 u43 u44 u45 u46 u47 u48 u49 u50 u51 u52 u53 : Value, a' = { tmps := #[.agg #[.int .i64 k, .slice A n c], .string s, .pointer (some ⟨w.heap.size, 0, none⟩), undef, .int .i64 0, .pointer (some ⟨Rb, 0, none⟩), .pointer (some ⟨Wb, 0, none⟩), .pointer (some ⟨W.heap.size, 0, none⟩), .pointer (some ⟨Bx, 0, none⟩), u9, u10, .agg #[.int .i64 k, .slice A n c], .string s, .bool true, .bool false, .bool false, .string s, .int .i64 s.size, .bool (decide (8 < (s.size : Int))), .bool (decide (8 < (s.size : Int))), .map (some Mb), .string s, .map (some Mb), .string s, .slice (some ⟨Rb + 1, 0, none⟩) 1 1, u25, u26, u27, u28, u29, u30, u31, u32, u33, u34, u35, u36, u37, u38, u39, u40, u41, u42, u43, u44, u45, u46, u47, u48, u49, u50, u51, u52, u53, undef, undef], defers := [] })
        (fun x a' _ _ _ _ h hg hr => by obtain ⟨Bx, h1, h2, h3⟩ := h; exact ⟨Bx, h1, blk_kept h2 hg (fun r e => (hr r e).2), h3⟩)
        ?assign ?body ?done ?stop
      case assign =>
        rintro lp pre x X K ⟨g', R⟩ hK
        gi_wp2_with fail
        have hXs := R.sz
        have b := bel1 X (.cells #[.int .i64 x.1.1, .int .i64 x.1.2] 37)
        exact hK _ _ (keepsFrom_below b) (keeps_of b (fun j hj => by have := hj.1; omega)) ⟨g', R.below HSp.out b⟩ ⟨X.heap.size, hXs, Blk.new1 _ _ _, _, _, _, _, _, _, _, _, _, _, _, _, _, _, _, _, _, _, _, _, _, _, _, _, _, _, _, _, _, _, _, rfl⟩
      case body =>
        rintro lp pre ⟨x, hx⟩ a' X hl hr ⟨g', R⟩ ⟨Bx, hB, hX, u9, u10, u25, u26, u27, u28, u29, u30, u31, u32, u33, u34, u35, u36, u37, u38, u39, u40, u41, u42, u43, u44, u45, u46, u47, u48, u49, u50, u51, u52, u53, rfl⟩ hlt2
        obtain ⟨ii, pp, rfl, hi, hp, rr, hrr, hat⟩ := isStepB_parts hx
        obtain ⟨hs1, hs2, -, hs4⟩ := step_props hcan.out hx
        have HA := Lib.hid (growL_snoc l y0 (vals pre) ((ii : Int), (pp : Int)) Q)
        have HL5 := Lib.hid (growL_len hcan.out hy8 HS.out.good (pre ++ [⟨_, hx⟩]))
        have HV := Lib.hid (vals_snoc pre (⟨_, hx⟩ : StepAt l y0))
        have HL4 := Lib.hid (growL_len hcan.out hy8 HS.out.good pre)
        have HLa : Hid (a + 1 ≤ (growL l y0 (vals pre) Q).length) := by
          have h1 := (growL_pre l y0 (vals pre) Q).length_le
          show _ ≤ _; omega
        have hrs := hsm rr (List.mem_of_getElem? hrr)
        generalize hyv : (afterS l y0 ((ii : Int), (pp : Int))).1 = y at *
        have HR5 := Lib.hid R
        obtain ⟨q0, q1, -, -, ql⟩ := R.sy.two
        have n0 := R.nw.cell 0
        dsimp only at hX
        obtain ⟨x0, x1, -, -, xl⟩ := hX.two
        have Hs1 := Lib.hid hs1
        have Hrr := Lib.hid hrr
        clear hs1 R hat hrr
        gi_wp2_with fail
        refine ⟨trivial, ((callsIn_wide.2 (afterStep_any k A n c B l y0 ii pp rr _ (HO.out.below HR5.out.bl) Hrr.out hrs hys (by omega))).inRound lp).mono ?_⟩
        rintro e X1 ⟨rfl, hX1⟩
        rw [Hs1.out]
        dsimp only
        have HR6 := Lib.hid (HR5.out.below HSp.out hX1)
        have HT1 := Lib.hid (turn_below (S := [Mb, g', Wb]) hX1)
        clear q0 q1 ql n0 x0 x1 xl hX1
        have r0 := HR6.out.r.cell 0
        have hyl : y.size ≤ maxLen := by unfold maxLen; omega
        have hlk := HR6.out.m.lookup y hyl
        cases hbb : hasW (growL l y0 (vals pre) Q) y
        · rw [hbb] at hlk
          obtain ⟨X2, hrun2, hM2, hg2⟩ := HR6.out.m.add y hyl hbb (by have := HL4.out; unfold maxLen; omega)
          have hgr : Hid (growL l y0 (vals pre ++ [((ii : Int), (pp : Int))]) Q = growL l y0 (vals pre) Q ++ [y]) := by show _ = _; rw [HA.out, grow1, hbb]; rfl
          obtain ⟨vw, hw1, hw2⟩ := HR6.out.wt
          have hgWb := hw2.apart hw1 (by decide)
          have hgMb : g' ≠ Mb := by
            have h1 := HSp.out.f
            have h2 := HSp.out.h
            have h3 := HSp.out.e
            rcases HR5.out.gg with h | h <;> omega
          have hWM : Wb ≠ Mb := by omega
          have TM := turn_grown (S := [Mb]) hg2 (by simp)
          have HT2 := Lib.hid (TM.mono (S' := [Mb, g', Wb]) (by simp))
          have k2 := Lib.hid (TM.blk hw1 (by simpa using hWM))
          have hq3 := Lib.hid ((hw2.turn TM (by simpa using hgMb)).turn (S := []) (turn_below (bel1 X2 (.cells #[.string y] 9))) (by simp))
          have HM2 := Lib.hid hM2
          have w0 := k2.out.cell 0
          have r2 := (TM.blk HR6.out.r (by have := HSp.out.b; simp; omega)).cell 0
          have hql : ((growL l y0 (vals pre) Q).drop (a + 1)).length + 1 ≤ 87381 := by
            have h1 := HL4.out
            have h2 := HLa.out
            simp; omega
          have HQL := Lib.hid hql
          have HgW := Lib.hid hgWb
          have HgM := Lib.hid hgMb
          clear hbb hg2 hw1 hw2 hM2 TM hql hgWb hgMb
          gi_wp2_with (gi_at_builtin; refine wpListIn_append_wait (y := y) _ rfl _ _ rfl hq3.out HQL.out rfl rfl ?c2 ?_)
          case c2 => exact (Blk.new1 X2 #[.string y] 9).cell 0
          intro v4 X4 g4 hq4 T4 hg4
          have HQ4 := Lib.hid hq4
          have HT4 := Lib.hid T4
          have HG4 := Lib.hid hg4
          obtain ⟨o4, c4, m4, hm4, rfl⟩ := hq4.form
          have k4 := Lib.hid (T4.blk (k2.out.alloc (.cells #[.string y] 9)) (by have := HgW.out; simp; omega))
          have y1 := k4.out.cell 0
          have yf := k4.out.frozen 0
          clear hq4 T4 hg4 hm4
          gi_wp2_with fail
          have T := HT2.out.trans ((turn_below (bel1 X2 (.cells #[.string y] 9))).trans ((HT4.out.mono (by simp)).trans (turn_set X4 Wb 0 (.slice (some ⟨g4, o4, none⟩) m4 c4) (by simp))))
          have TB := (HT4.out.mono (S' := [g', Wb]) (by simp)).trans (turn_set X4 Wb 0 (.slice (some ⟨g4, o4, none⟩) m4 c4) (by simp))
          obtain ⟨kk1, kk2⟩ := HR5.out.keeps HSp.out (HT1.out.trans T)
          refine ⟨kk1, kk2, g4, ?_⟩
          rw [HV.out]
          have h4 := HQ4.out
          have hgW4 := h4.apart k4.out (by decide)
          refine HR6.out.turn HSp.out T ?_ ⟨_, k4.out.set_ 0 _, ?_⟩ ?_
          · rw [hgr.out]
            exact TB.setM (HM2.out.below (bel1 X2 _)) (by have := HgM.out; simp; omega)
          · rw [hgr.out, List.drop_append_of_le_length HLa.out]
            exact h4.turn (turn_set (S := [Wb]) _ _ _ _ (by simp)) (by simpa using hgW4)
          · rcases HG4.out with rfl | h
            · exact HR5.out.gg
            · have h1 := HR6.out.sz
              have h2 := HT2.out.size
              try simp at h
              exact .inr (by omega)
        · rw [hbb] at hlk
          have hgr : Hid (growL l y0 (vals pre ++ [((ii : Int), (pp : Int))]) Q = growL l y0 (vals pre) Q) := by show _ = _; rw [HA.out, grow1, hbb]; rfl
          clear hbb
          gi_wp2_with fail
          obtain ⟨kk1, kk2⟩ := HR5.out.keeps HSp.out HT1.out
          refine ⟨kk1, kk2, g', ?_⟩
          rw [HV.out]
          exact HR6.out.turn HSp.out (Turn.refl _ _) (by rw [hgr.out]; exact HR6.out.m) (by rw [hgr.out]; exact HR6.out.wt) HR6.out.gg
      case done =>
        rintro Dn ys X hDn hys ⟨g', R⟩ hK
        gi_wp2_with fail
        have R1 := R
        rw [show vals ys = stepsD l y0 0 from hys] at R1
        obtain ⟨vw, k1, k2⟩ := R1.wt
        have hs1 := HSp.out.a
        have hs2 := HSp.out.b
        have hs3 := HSp.out.c
        have hs4 := HSp.out.d
        have hs5 := HSp.out.e
        have hs6 := HSp.out.f
        refine ⟨⟨grow l Q y0, a + 1, Dn :: Ds, g', vw, ⟨HS.out.next HY.out, by simp [hDl], R1.m, R1.r, k1, k2, ?_, R1.sy, R1.bl, ?_⟩, _, _, _, _, _, _, _, _, _, _, _, _, _, _, _, _, _, _, _, _, _, _, _, _, _, _, _, _, _, _, _, _, _, rfl⟩, ?_⟩
        · rcases R1.gg with h | h <;> omega
        · exact ⟨List.nodup_cons.2 ⟨fun hm => by have := HDlt.out Dn hm; omega, HD.out.1⟩, fun D hD => by
            rcases List.mem_cons.1 hD with rfl | hD
            · exact ⟨by omega, hK⟩
            · exact ⟨(HD.out.2 D hD).1, R1.ds D hD⟩⟩
        · show 87381 - (_ :: Ds.map markD).length < 87381 - (Ds.map markD).length
          rw [List.length_cons, List.length_map, hDl]
          omega
      case stop =>
        rintro D cc pre X hD _ h _
        exact h.elim
    · have hla : a = Q.length := by have := HS.out.le; omega
      have hq := HQ.out
      rw [hla, List.drop_length] at hq
      obtain ⟨o9, c9, m9, hm9, rfl⟩ := hq.form
      rw [List.length_nil] at hm9
      subst hm9
      have hlen := fun ty => HM.out.len ty
      have z0 := HW.out.cell 0
      have r0 := HR.out.cell 0
      clear hq HQ hla
      gi_wp2_with fail
      refine leaves_marks (v := .int .i64 Q.length) (fun w' => ?_) Ds W HD.out.1 hbs HD.out.2 (fun w' hw => ⟨?_, hb.trans hw⟩)
      · simp [results, Tryd.f24, go_sem]
      · rw [HF.out, HS.out.done (by omega)]
end Go.Proofs.YtjndopogjiacpaaDoor
