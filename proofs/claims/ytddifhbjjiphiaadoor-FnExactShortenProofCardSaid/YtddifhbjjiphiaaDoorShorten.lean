/- Chains made shorter: both ShortenProof. -/
import Derived.Test.YtddifhbjjiphiaaDoorWithout
import Derived.Test.YtddifhbjjiphiaaDoorTurnLinks
namespace Go.Proofs.YtddifhbjjiphiaaDoor
open Go.RowKit

def lenV : Value → Nat
  | .slice _ n _ => n
  | _ => 0
set_option maxRecDepth 100000 in
set_option maxHeartbeats 3200000 in
theorem implShortenProof (k : Int) (A A' : Option Addr) (n c B m c' B' : Nat) (l : List R) (s : ByteArray) (xs : List LK) (w : World) (h : Own B w (.slice A n c) 2 n (rulesC l)) (hsm : smallR l) (hs : s.size ≤ 1048576) (hX : Own B' w (.slice A' m c') 3 m (linksC xs)) (hlet : Let w) :
    Calls Tryd.prog 31 #[.agg #[.int .i64 k, .slice A n c], .string s, .slice A' m c'] w fun e w' => ∃ v, e = .returned (.tuple #[v, .bool (shortS k l s xs).2]) ∧ Own w.heap.size w' v 3 (shortS k l s xs).1.length (linksC (shortS k l s xs).1) ∧ Below w.heap.size w w' := by
  have HO := Lib.hid h
  have HX := Lib.hid (hX.mono (Nat.zero_le _))
  have Hlen := Lib.hid hX.llen
  have HL := Lib.hid (fun (w' : World) (hb : Below w.heap.size w w') => hlet.keep hb (Nat.le_refl _))
  clear h hX hlet
  go_enter Tryd.func31, Tryd.ntmps31
  go_wp2_with fail
  refine (implChainOf k A A' n c B m c' 0 l s xs _ (HO.out.below (bel1 _ _)) hsm hs (HX.out.below (bel1 _ _)) (HL.out _ (bel1 _ _))).mono ?_
  rintro e w1 ⟨v1, rfl, o1, hb1⟩
  have b1 := (bel1 w _).trans (hb1.mono (by simp))
  have HX1 := Lib.hid (HX.out.below b1)
  clear hb1
  cases hok : (chainS k l s xs).2
  · have HF : Hid (shortS k l s xs = ([], false)) := shortS_no hok
    clear hok
    obtain ⟨A1, c1, rfl⟩ := o1.form
    clear o1
    generalize (chainS k l s xs).1.length = n1 at *
    go_wp2_with fail
    go_ret2
    exact ⟨.slice none 0 0, ret_vb rfl (by rw [HF.out]), by rw [HF.out]; exact Own.none_, b1⟩
  · have HF : Hid (shortS k l s xs = (shortL (chainS k l s xs).1 xs, true)) := shortS_yes hok
    obtain ⟨h200, hch⟩ := chainS_yes hok
    have hlW := chainL_len k l xs s _ hch
    have Hrl := Lib.hid (shortS_len k l s xs)
    clear hok hch
    generalize (chainS k l s xs).1 = W0 at *
    have Hst : Hid (shortL W0 xs = shortTo W0.length 0 W0 xs) := rfl
    obtain ⟨A1, c1, rfl⟩ := o1.form
    have HW1 := Lib.hid (o1.mono (Nat.zero_le _))
    obtain ⟨N0, hN0⟩ : ∃ N0, W0.length = N0 := ⟨_, rfl⟩
    have hm200 : m ≤ 200 := by rw [← Hlen.out]; exact h200
    have hN0a : N0 ≤ m + 1 := by rw [← hN0, hlW, Hlen.out]; exact Nat.le_refl _
    have hN0b : m + 1 ≤ N0 := by rw [← hN0, hlW, Hlen.out]; exact Nat.le_refl _
    have Hlw := Lib.hid hlW
    clear hlW h200 o1
    rw [hN0] at HW1 ⊢
    have HN0 := Lib.hid hN0
    clear hN0
    go_wp2_with fail
    go_loopw [8, 10, 11] (fun ow ol i wr => ∃ (j f N M : Nat) (W : List ByteArray) (K : List LK) (Aw : Option Addr) (cw : Nat) (Al : Option Addr) (cl : Nat), i = .int .i64 j ∧ ow = .slice Aw N cw ∧ ol = .slice Al M cl ∧ j ≤ N ∧ N ≤ 201 ∧ N ≤ M + 1 ∧ M + 1 ≤ N ∧ N - j ≤ f ∧ Hid (W.length = N) ∧ Hid (shortL W0 xs = shortTo f j W K) ∧ Hid (Own 0 wr (.slice Aw N cw) 1 N (strs W)) ∧ Hid (Own 0 wr (.slice Al M cl) 3 M (linksC K)) ∧ Below w.heap.size w wr) (fun ow _ i _ => lenV ow - (intOf i).toNat)
    case atStart => exact ⟨0, N0, N0, m, W0, xs, A1, c1, A', c', rfl, rfl, rfl, Nat.zero_le _, by omega, hN0a, hN0b, Nat.le_refl _, HN0, by show _ = _; rw [Hst.out, HN0.out], HW1, HX1, b1⟩
    case round =>
      clear HW1 HX1 b1
      obtain ⟨j, f, N, M, W, K, Aw, cw, Al, cl, rfl, rfl, rfl, hj, hN201, hNM, hMN, hf, HWl, HS, HW, HK, hb⟩ := hrel
      by_cases hlt : j < N
      · obtain ⟨f, rfl⟩ : ∃ f', f = f' + 1 := ⟨f - 1, by omega⟩
        have hjW : j < W.length := by rw [HWl.out]; exact hlt
        obtain ⟨hl1, hl2, -, -⟩ := lastI_spec hjW
        rw [HWl.out] at hl2
        obtain ⟨g, off, rfl, -, hgl, hc⟩ := HW.out.str (by omega)
        obtain ⟨u, hu, y, -⟩ := hc j hlt
        have hau : atW W j = u := by rw [atW, List.getD_eq_getElem?_getD, hu]; rfl
        have Hau := Lib.hid hau
        have hwmax := HW.out.bound
        unfold maxLen at hwmax
        clear hc hu hau
        go_wp2_with fail
        refine (lastPlace_any _ N cw 0 j W u _ HW.out hlt Hau.out).mono ?_
        rintro e w2 ⟨rfl, rfl⟩
        by_cases hcut : j < lastI W j
        · have hst2 := Lib.hid (shortTo_cut (K := K) f hjW rfl hcut)
          generalize lastI W j = p at *
          have HS2 : Hid (shortL W0 xs = shortTo f (j + 1) (cutL W j p) (cutL K j p)) := by show _ = _; rw [HS.out, hst2.out]
          have HWl2 : Hid ((cutL W j p).length = j + (N - p)) := by show _ = _; rw [cutL_length _ _ _ (by omega) (by rw [HWl.out]; omega), HWl.out]; omega
          go_wp2_with fail
          refine (withoutS _ N cw 0 j p W _ HW.out hcut hl2 (by omega)).mono ?_
          rintro e w3 ⟨v3, rfl, o3, hb3⟩
          obtain ⟨A3, c3, rfl⟩ := o3.form
          have HW3 := Lib.hid (o3.mono (Nat.zero_le _))
          have HK3 := Lib.hid (HK.out.below hb3)
          have b3 := hb.trans (hb3.mono hb.size)
          clear o3 hb3 hb
          go_wp2_with fail
          refine (withoutK _ M cl 0 j p K _ HK3.out hcut (by omega) (by omega) (Nat.zero_le _)).mono ?_
          rintro e w4 ⟨v4, rfl, o4, hb4⟩
          obtain ⟨A4, c4, rfl⟩ := o4.form
          have HK4 := Lib.hid o4
          have HW4 := Lib.hid (HW3.out.below hb4)
          have b4 := b3.trans (hb4.mono b3.size)
          clear o4 hb4 b3
          obtain ⟨N2, hN2⟩ : ∃ N2, j + (N - p) = N2 := ⟨_, rfl⟩
          obtain ⟨M2, hM2⟩ : ∃ M2, j + (M - p) = M2 := ⟨_, rfl⟩
          rw [hN2] at HW4 HWl2 ⊢
          rw [hM2] at HK4 ⊢
          go_wp2_with fail
          go_roundw
          case rel => exact ⟨j + 1, f, N2, M2, cutL W j p, cutL K j p, A3, c3, A4, c4, by go_num, rfl, rfl, by omega, by omega, by omega, by omega, by omega, HWl2, HS2, HW4, HK4, b4⟩
          case measure => simp [intOf, lenV]; omega
        · have hst2 := Lib.hid (shortTo_step (K := K) f hjW (by omega : lastI W j = j))
          generalize lastI W j = p at *
          have HS2 : Hid (shortL W0 xs = shortTo f (j + 1) W K) := by show _ = _; rw [HS.out, hst2.out]
          go_wp2_with fail
          go_roundw
          case rel => exact ⟨j + 1, f, N, M, W, K, _, cw, Al, cl, by go_num, rfl, rfl, by omega, by omega, by omega, by omega, by omega, HWl, HS2, HW, HK, hb⟩
          case measure => simp [intOf, lenV]; omega
      · have hend : shortL W0 xs = K := by rw [HS.out, shortTo_end f j W K (by rw [HWl.out]; omega)]
        have HF2 : Hid (shortS k l s xs = (K, true)) := by show _ = _; rw [HF.out, hend]
        have hKl := HK.out.llen
        have HKl := Lib.hid hKl
        clear hend hKl
        go_wp2_with fail
        refine (copied_any Al M cl 0 K _ HK.out (by omega)).mono ?_
        rintro e w2 ⟨rfl, o2, hb2⟩
        have b2 := hb.trans (hb2.mono hb.size)
        have O2 := Lib.hid (o2.mono hb.size)
        clear o2 hb2
        go_wp2_with fail
        go_ret2
        exact ⟨_, ret_vb rfl (by rw [HF2.out]), by rw [HF2.out]; dsimp only; rw [HKl.out]; exact O2.out, b2⟩

theorem wpList_appendRun {P : Program} {w w' : World} {ops : Array Oper} {rest : List Oper} {o : Oper} {a : Act} {Q : Exit → Act → World → Prop} {v sv xv : Value} (hgd : o.guard = none) (s x : Operand) (t : TypeId)
    (ho : o.op = .call { callee := .builtin .append, args := #[s, x], argTypes := #[t, t] }) (hs : a.eval s = sv) (hx : a.eval x = xv)
    (hr : (Builtin.append_ #[t, t] o.type #[sv, xv]).run P w = .ok v w') (h : wpList P ops Q rest (a.put o.dst v) w') : wpList P ops Q (o :: rest) a w :=
  wpList_plain hgd fun _ hK => wp_appendRun s x t ho hs hx hr (hK _ _ h)
set_option maxRecDepth 100000 in
set_option maxHeartbeats 3200000 in
theorem specShortenProof (k : Int) (A A' : Option Addr) (n c B m c' B' : Nat) (l : List R) (s : ByteArray) (xs : List LK) (w : World) (h : Own B w (.slice A n c) 2 n (rulesC l)) (hsm : smallR l) (hs : s.size ≤ 1048576) (hX : Own B' w (.slice A' m c') 3 m (linksC xs)) :
    Calls Tryd.prog 30 #[.agg #[.int .i64 k, .slice A n c], .string s, .slice A' m c'] w fun e w' => ∃ v, e = .returned (.tuple #[v, .bool (shortS k l s xs).2]) ∧ Own w.heap.size w' v 3 (shortS k l s xs).1.length (linksC (shortS k l s xs).1) ∧ Below w.heap.size w w' := by
  obtain ⟨i0, hi, hz0, hz1, hz2⟩ := infoR_parts infoLink
  obtain ⟨j0, ji, jz0, jz1, jz2⟩ := info_parts infoStr
  have HO := Lib.hid h
  have HX := Lib.hid (hX.mono (Nat.zero_le _))
  have Hlen := Lib.hid hX.llen
  clear h hX
  go_enter Tryd.func30, Tryd.ntmps30
  go_wp2_with fail
  refine (specChainOf k A A' n c B m c' 0 l s xs _ (HO.out.below (bel1 _ _)) hsm hs (HX.out.below (bel1 _ _))).mono ?_
  rintro e w1 ⟨v1, rfl, o1, hb1⟩
  have b1 := (bel1 w _).trans (hb1.mono (by simp))
  have HX1 := Lib.hid (HX.out.below b1)
  have o1 := o1.mono (B' := w.heap.size) (by simp)
  clear hb1
  cases hok : (chainS k l s xs).2
  · have HF : Hid (shortS k l s xs = ([], false)) := shortS_no hok
    clear hok
    obtain ⟨A1, c1, rfl⟩ := o1.form
    clear o1
    generalize (chainS k l s xs).1.length = n1 at *
    go_wp2_with fail
    go_ret2
    exact ⟨.slice none 0 0, ret_vb rfl (by rw [HF.out]), by rw [HF.out]; exact Own.none_, b1⟩
  · have HF : Hid (shortS k l s xs = (shortL (chainS k l s xs).1 xs, true)) := shortS_yes hok
    obtain ⟨h200, hch⟩ := chainS_yes hok
    have hlW := chainL_len k l xs s _ hch
    clear hok hch
    generalize (chainS k l s xs).1 = W0 at *
    obtain ⟨A1, c1, rfl⟩ := o1.form
    obtain ⟨N0, hN0⟩ : ∃ N0, W0.length = N0 := ⟨_, rfl⟩
    have hm200 : m ≤ 200 := by rw [← Hlen.out]; exact h200
    have hN0a : N0 ≤ m + 1 := by rw [← hN0, hlW, Hlen.out]; exact Nat.le_refl _
    have hN0b : m + 1 ≤ N0 := by rw [← hN0, hlW, Hlen.out]; exact Nat.le_refl _
    rw [hN0] at o1 ⊢
    have HN0 := Lib.hid hN0
    have hrow : (w1.alloc (.cells #[] 34)).ownsRow w1.heap.size 34 3 (.slice (some ⟨w1.heap.size, 0, none⟩) 0 0) 0 [] :=
      World.ownsRow_lit (e := 34) (base := w1.heap.size) (size := 3) w1 #[] 0 (Nat.le_refl _) (by unfold maxLen; omega) rfl
    obtain ⟨v2, w2, hr2, o2, g2⟩ := run_appendG (P := Tryd.prog) (ty := 43) Tryd.underlying43 hi hz0 hz1 hz2 rfl (by decide) hrow (by simp) (HX1.out.below (bel1 w1 (.cells #[] 34))) (linksC_one' xs) (by unfold maxLen; omega) (by omega)
    rw [Nat.zero_add, List.nil_append] at o2
    have hb2 : Below w1.heap.size w1 w2 := (bel1 w1 (.cells #[] 34)).grown g2 (by simp) (fun q hq => by simp [Value.ownBlock] at hq; omega)
    have b2 := b1.trans (hb2.mono b1.size)
    have o3 := (Own.of_row o2).mono b1.size
    obtain ⟨A2, c2, rfl⟩ := o3.form
    have HW2 := Lib.hid (o1.below hb2)
    have HK2 := Lib.hid o3
    clear hlW h200 hN0 o1 o2 g2 hb2 o3 hrow b1 HX1
    go_wp2_with (at_builtin; refine wpList_appendRun rfl (.tmp 22) (.tmp 23) 43 rfl rfl rfl hr2 ?_)
    go_wp2_with fail
    clear hr2
    go_loopw [8, 10] (fun ow ol wr => ∃ (N M : Nat) (W : List ByteArray) (K : List LK) (Aw : Option Addr) (cw : Nat) (Al : Option Addr) (cl : Nat), ow = .slice Aw N cw ∧ ol = .slice Al M cl ∧ N ≤ 201 ∧ N ≤ M + 1 ∧ M + 1 ≤ N ∧ Hid (W.length = N) ∧ Hid (shortL W0 xs = shortL W K) ∧ Hid (Own w.heap.size wr (.slice Aw N cw) 1 N (strs W)) ∧ Hid (Own w.heap.size wr (.slice Al M cl) 3 M (linksC K)) ∧ Below w.heap.size w wr) (fun ow _ _ => lenV ow)
    case atStart => exact ⟨N0, m, W0, xs, A1, c1, A2, c2, rfl, rfl, by omega, hN0a, hN0b, HN0, by first | exact trivial | exact (rfl : shortL W0 xs = shortL W0 xs), HW2, HK2, b2⟩
    case round =>
      clear HW2 HK2 b2
      obtain ⟨N, M, W, K, Aw, cw, Al, cl, rfl, rfl, hN201, hNM, hMN, HWl, HS, HW, HK, hb⟩ := hrel
      go_wp2_with fail
      refine (l12Twice_any Aw N cw _ W _ HW.out (by omega)).mono ?_
      rintro e w3 ⟨ti, tk, rfl, hT, rfl⟩
      rcases hT with ⟨rfl, rfl, hO⟩ | ⟨i, p, rfl, rfl, hO, hiW, hlp, hip⟩
      · have hend : shortL W0 xs = K := by rw [HS.out, shortL_once hO]
        have HF2 : Hid (shortS k l s xs = (K, true)) := by show _ = _; rw [HF.out, hend]
        have HKl := Lib.hid HK.out.llen
        clear hend hO
        go_wp2_with fail
        go_ret2
        exact ⟨_, ret_vb rfl (by rw [HF2.out]), by rw [HF2.out]; dsimp only; rw [HKl.out]; exact HK.out, hb⟩
      · have hpN : p < N := by have := (lastI_spec hiW).2.1; rw [hlp, HWl.out] at this; exact this
        have HS2 : Hid (shortL W0 xs = shortL (cutL W i p) (cutL K i p)) := by show _ = _; rw [HS.out]; exact shortL_cut hO hiW hlp hip
        have HWl2 : Hid ((cutL W i p).length = i + (N - p)) := by show _ = _; rw [cutL_length _ _ _ (by omega) (by rw [HWl.out]; omega), HWl.out]; omega
        obtain ⟨g, off, cl', hv⟩ := HK.out.formR (by omega)
        obtain ⟨rfl, rfl⟩ : Al = some ⟨g, off, none⟩ ∧ cl = cl' := by injection hv with a _ b; exact ⟨a, b⟩
        obtain ⟨gw, offw, cw', hvw⟩ := HW.out.formR (by omega)
        obtain ⟨rfl, rfl⟩ : Aw = some ⟨gw, offw, none⟩ ∧ cw = cw' := by injection hvw with a _ b; exact ⟨a, b⟩
        have hcl := HK.out.bound
        have hcw := HW.out.bound
        obtain ⟨q1, x1, q2, x2, hr1, hr2, o5, hb5⟩ := run_cut2 (P := Tryd.prog) (ty := 43) Tryd.underlying43 hi hz0 hz1 hz2 rfl (by decide) HK.out (linksC_one' K) hip (by omega : p ≤ M) (if cl = p then some ⟨g, off, none⟩ else some ⟨g, off + p * 3, none⟩) (fun hlt => if_neg (by omega)) (by omega)
        rw [links_cut] at o5
        have hbs := hb.size
        have b5 := hb.trans (hb5.mono hbs)
        have HW5 := Lib.hid (HW.out.below hb5)
        obtain ⟨A5, c5, rfl⟩ := o5.form
        have HK5 := Lib.hid (o5.mono hbs)
        obtain ⟨y1, z1, y2, z2, hs1, hs2, o6, hb6⟩ := run_cut2 (P := Tryd.prog) (ty := 40) Tryd.underlying40 ji jz0 jz1 jz2 rfl (by decide) HW5.out (strs_one' W) hip (by omega : p ≤ N) (some ⟨gw, offw + p * 1, none⟩) (fun _ => rfl) (by omega)
        rw [strs_cut] at o6
        have b6 := b5.trans (hb6.mono b5.size)
        have HK6 := Lib.hid (HK5.out.below hb6)
        obtain ⟨A6, c6, rfl⟩ := o6.form
        have HW6 := Lib.hid (o6.mono b5.size)
        unfold maxLen at hcl hcw
        have f1 : (0 : Int) ≤ (i : Int) := by omega
        have f2 : (i : Int) ≤ (cl : Int) := by omega
        have f3 : (p : Int) ≤ (M : Int) := by omega
        have f4 : (i : Int) ≤ (cw : Int) := by omega
        have f5 : (p : Int) ≤ (N : Int) := by omega
        have f6 : ¬ cw = p := by omega
        have f7 : (0 : Int) ≤ (p : Int) := by omega
        rw [Nat.mul_one] at hs2
        obtain ⟨N2, hN2⟩ : ∃ N2, i + (N - p) = N2 := ⟨_, rfl⟩
        obtain ⟨M2, hM2⟩ : ∃ M2, i + (M - p) = M2 := ⟨_, rfl⟩
        rw [hN2] at HW6 HWl2 hs2
        rw [hM2] at HK6 HK5 hr2
        clear hO hiW hlp hv hvw o5 hb5 hb6 o6 hb b5 HW5 HK HW
        go_wp2_with fail
        go_region_law (first
          | (refine (id ?_); rw [if_pos (by simp [Region.wanted])]; refine wp_appendRun (.tmp 33) (.tmp 36) 43 rfl (by first | rfl | simp [Act.eval, Act.put]) (by first | rfl | simp [Act.eval, Act.put]) hr1 ?_)
          | (refine (id ?_); rw [if_pos (by simp [Region.wanted])]; refine wp_appendRun (.tmp 37) (.tmp 40) 43 rfl (by first | rfl | simp [Act.eval, Act.put]) (by first | rfl | simp [Act.eval, Act.put]) hr2 ?_))
        go_wp2_with fail
        all_goals
          go_region_law (first
            | (refine (id ?_); rw [if_pos (by simp [Region.wanted])]; refine wp_appendRun (.tmp 42) (.tmp 45) 40 rfl (by first | rfl | simp [Act.eval, Act.put]) (by first | rfl | simp [Act.eval, Act.put]) hs1 ?_)
            | (refine (id ?_); rw [if_pos (by simp [Region.wanted])]; refine wp_appendRun (.tmp 46) (.tmp 49) 40 rfl (by first | rfl | simp [Act.eval, Act.put]) (by first | rfl | simp [Act.eval, Act.put]) hs2 ?_))
          clear hr1 hr2 hs1 hs2
          simp only [Act.put, List.getElem_toArray, List.getElem_cons_succ, List.getElem_cons_zero, List.setIfInBounds_toArray, List.set_cons_succ, List.set_cons_zero]
          go_wp2_with fail
          go_roundw
          case rel => exact ⟨N2, M2, cutL W i p, cutL K i p, A6, c6, A5, c5, rfl, rfl, by omega, by omega, by omega, HWl2, HS2, HW6, HK6, b6⟩
          case measure => simp [lenV]; omega
end Go.Proofs.YtddifhbjjiphiaaDoor
