/- Proofs by reduction: both ProofOf, l12Links. -/
import Derived.Test.YtddifhbjjiphiaaDoorLinksTo
import Derived.Test.YtddifhbjjiphiaaDoorTurnLinks
import Derived.Test.YtddifhbjjiphiaaDoorWithout
namespace Go.Proofs.YtddifhbjjiphiaaDoor
open Go.RowKit

theorem wpList_appendRun2 {P : Program} {w w' : World} {ops : Array Oper} {rest : List Oper} {o : Oper} {a : Act} {Q : Exit → Act → World → Prop} {v sv xv : Value} (hgd : o.guard = none) (s x : Operand) (t : TypeId)
    (ho : o.op = .call { callee := .builtin .append, args := #[s, x], argTypes := #[t, t] }) (hs : a.eval s = sv) (hx : a.eval x = xv)
    (hr : (Builtin.append_ #[t, t] o.type #[sv, xv]).run P w = .ok v w') (h : wpList P ops Q rest (a.put o.dst v) w') : wpList P ops Q (o :: rest) a w :=
  wpList_plain hgd fun _ hK => wp_appendRun s x t ho hs hx hr (hK _ _ h)
/-- May u and v be joined by their reductions, in 200 links at most? -/
def joinB (k : Int) (l : List R) (u v : ByteArray) : Bool := canRed k l u && canRed k l v && decide ((traceOf l u).length + (traceOf l v).length ≤ 200) && ((formOf l 0 u).toList == (formOf l 0 v).toList)
def joinL (l : List R) (u v : ByteArray) : List LK := (traceOf l u).map linkOf ++ turnL ((traceOf l v).map linkOf)
def proofL (k : Int) (l : List R) (u v : ByteArray) : List LK × Bool := if joinB k l u v then (joinL l u v, true) else ([], false)
theorem proofL_no {k : Int} {l : List R} {u v : ByteArray} (h : joinB k l u v = false) : proofL k l u v = ([], false) := by rw [proofL, h]; rfl
theorem proofL_yes {k : Int} {l : List R} {u v : ByteArray} (h : joinB k l u v = true) : proofL k l u v = (joinL l u v, true) := by rw [proofL, h]; rfl
theorem joinL_len (l : List R) (u v : ByteArray) : (joinL l u v).length = (traceOf l u).length + (traceOf l v).length := by rw [joinL, List.length_append, turnL_length, List.length_map, List.length_map]
theorem proofL_len (k : Int) (l : List R) (u v : ByteArray) : (proofL k l u v).1.length ≤ 200 := by
  unfold proofL
  split
  · rename_i h
    unfold joinB at h
    simp only [Bool.and_eq_true, decide_eq_true_eq] at h
    show (joinL l u v).length ≤ 200
    rw [joinL_len]; exact h.1.2
  · simp
theorem toForm_no {k : Int} {l : List R} {s : ByteArray} (h : (canRed k l s && decide ((traceOf l s).length ≤ 200)) = false) : toFormS k l s = ([], ⟨#[]⟩, false) := by rw [toFormS, h]; rfl
theorem toForm_yes {k : Int} {l : List R} {s : ByteArray} (h : (canRed k l s && decide ((traceOf l s).length ≤ 200)) = true) : toFormS k l s = ((traceOf l s).map linkOf, formOf l 0 s, true) := by rw [toFormS, h]; rfl
theorem joinB_no {k : Int} {l : List R} {u v : ByteArray} (h : (canRed k l u && decide ((traceOf l u).length ≤ 200)) = false ∨ (canRed k l v && decide ((traceOf l v).length ≤ 200)) = false) : joinB k l u v = false := by
  unfold joinB
  rcases h with h | h
  all_goals
    rw [Bool.and_eq_false_iff] at h
    rcases h with h | h
    · simp [h]
    · have h := of_decide_eq_false h
      rw [decide_eq_false (by omega)]; simp
set_option maxRecDepth 100000 in
set_option maxHeartbeats 1600000 in
theorem implProofOf (k : Int) (A : Option Addr) (n c B : Nat) (l : List R) (s u : ByteArray) (w : World) (h : Own B w (.slice A n c) 2 n (rulesC l)) (hsm : smallR l) (hs : s.size ≤ 1048576) (hu : u.size ≤ 1048576) (hlet : Let w) :
    Calls Tryd.prog 28 #[.agg #[.int .i64 k, .slice A n c], .string s, .string u] w fun e w' => ∃ v, e = .returned (.tuple #[v, .bool (proofL k l s u).2]) ∧ Own w.heap.size w' v 3 (proofL k l s u).1.length (linksC (proofL k l s u).1) ∧ Below w.heap.size w w' := by
  obtain ⟨i0, hi, hz0, hz1, hz2⟩ := infoR_parts infoLink
  have HO := Lib.hid h
  have HL := Lib.hid (fun (w' : World) (hb : Below w.heap.size w w') => hlet.keep hb (Nat.le_refl _))
  clear h hlet
  go_enter Tryd.func28, Tryd.ntmps28
  go_wp2_with fail
  refine (linksToForm_any k A n c B l s _ (HO.out.below (bel1 _ _)) hsm hs (HL.out _ (bel1 _ _))).mono ?_
  rintro e w1 ⟨v1, rfl, o1, hb1⟩
  have b1 := (bel1 w _).trans (hb1.mono (by simp))
  have HB1 := Lib.hid ((Blk.new1 w _ _).below hb1 (by simp))
  have R1 := Lib.hid (row_mono o1 (b' := w.heap.size) (by simp))
  obtain ⟨A1, c1, rfl⟩ := (Own.of_row o1).form
  obtain ⟨q0, q1, -, -, ql⟩ := HB1.out.two
  clear hb1 o1
  obtain ⟨⟨K1, f1, ok1⟩, hK1⟩ : ∃ t, toFormS k l s = t := ⟨_, rfl⟩
  rw [hK1] at R1 ⊢
  dsimp only at R1 ⊢
  obtain ⟨N1, hN1⟩ : ∃ N, K1.length = N := ⟨_, rfl⟩
  rw [hN1] at R1 ⊢
  go_wp2_with fail
  refine (linksToForm_any k A n c B l u _ (HO.out.below b1) hsm hu (HL.out _ b1)).mono ?_
  rintro e w2 ⟨v2, rfl, o2, hb2⟩
  have b2 := b1.trans (hb2.mono b1.size)
  have R2 := Lib.hid (ownsRow_below R1.out hb2)
  have O2 := Lib.hid (Own.of_row o2)
  obtain ⟨A2, c2, rfl⟩ := (Own.of_row o2).form
  clear hb2 o2 q0 q1 ql R1 HB1
  obtain ⟨⟨K2, f2, ok2⟩, hK2⟩ : ∃ t, toFormS k l u = t := ⟨_, rfl⟩
  rw [hK2] at O2 ⊢
  dsimp only at O2 ⊢
  obtain ⟨N2, hN2⟩ : ∃ N, K2.length = N := ⟨_, rfl⟩
  rw [hN2] at O2 ⊢
  have Hk1 := Lib.hid hK1
  have Hk2 := Lib.hid hK2
  have Hn1 := Lib.hid hN1
  have Hn2 := Lib.hid hN2
  clear hK1 hK2 hN1 hN2
  cases e1 : (canRed k l s && decide ((traceOf l s).length ≤ 200))
  · have h1 := toForm_no e1
    rw [Hk1.out] at h1
    obtain ⟨rfl, rfl, rfl⟩ : K1 = [] ∧ f1 = ⟨#[]⟩ ∧ ok1 = false := by injection h1 with x1 x2; injection x2 with x2 x3; exact ⟨x1, x2, x3⟩
    have HF := Lib.hid (proofL_no (joinB_no (.inl e1) : joinB k l s u = false))
    clear e1 h1
    go_wp2_with fail
    go_ret2
    exact ⟨.slice none 0 0, ret_vb rfl (by rw [HF.out]), by rw [HF.out]; exact Own.none_, b2⟩
  have h1 := toForm_yes e1
  rw [Hk1.out] at h1
  obtain ⟨g1, g2, rfl⟩ : K1 = (traceOf l s).map linkOf ∧ f1 = formOf l 0 s ∧ ok1 = true := by injection h1 with x1 x2; injection x2 with x2 x3; exact ⟨x1, x2, x3⟩
  cases e2 : (canRed k l u && decide ((traceOf l u).length ≤ 200))
  · have h2 := toForm_no e2
    rw [Hk2.out] at h2
    obtain ⟨rfl, rfl, rfl⟩ : K2 = [] ∧ f2 = ⟨#[]⟩ ∧ ok2 = false := by injection h2 with x1 x2; injection x2 with x2 x3; exact ⟨x1, x2, x3⟩
    have HF := Lib.hid (proofL_no (joinB_no (.inr e2) : joinB k l s u = false))
    clear e1 e2 h1 h2 g1 g2
    go_wp2_with fail
    go_ret2
    exact ⟨.slice none 0 0, ret_vb rfl (by rw [HF.out]), by rw [HF.out]; exact Own.none_, b2⟩
  have h2 := toForm_yes e2
  rw [Hk2.out] at h2
  obtain ⟨g3, g4, rfl⟩ : K2 = (traceOf l u).map linkOf ∧ f2 = formOf l 0 u ∧ ok2 = true := by injection h2 with x1 x2; injection x2 with x2 x3; exact ⟨x1, x2, x3⟩
  rw [Bool.and_eq_true] at e1 e2
  have l1 : N1 = (traceOf l s).length := by rw [← Hn1.out, g1, List.length_map]
  have l2 : N2 = (traceOf l u).length := by rw [← Hn2.out, g3, List.length_map]
  have hN1 : N1 ≤ 200 := by rw [l1]; exact of_decide_eq_true e1.2
  have hN2 : N2 ≤ 200 := by rw [l2]; exact of_decide_eq_true e2.2
  have hjb : joinB k l s u = (decide (N1 + N2 ≤ 200) && (f1.toList == f2.toList)) := by rw [joinB, e1.1, e2.1, ← l1, ← l2, ← g2, ← g4]; simp
  have Hjl : Hid (joinL l s u = K1 ++ turnL K2) := by show _ = _; rw [joinL, ← g1, ← g3]
  have Hjb := Lib.hid hjb
  clear hjb l1 l2 g1 g2 g3 g4 h1 h2 e1 e2
  cases hq : (f1.toList == f2.toList)
  · have HF : Hid (proofL k l s u = ([], false)) := proofL_no (by rw [Hjb.out, hq, Bool.and_false])
    go_wp2_with fail
    go_ret2
    exact ⟨.slice none 0 0, ret_vb rfl (by rw [HF.out]), by rw [HF.out]; exact Own.none_, b2⟩
  by_cases hlen : 200 < N1 + N2
  · have HF : Hid (proofL k l s u = ([], false)) := proofL_no (by rw [Hjb.out, decide_eq_false (by omega), Bool.false_and])
    have hlen2 : (200 : Int) < (N1 : Int) + (N2 : Int) := by omega
    go_wp2_with fail
    go_ret2
    exact ⟨.slice none 0 0, ret_vb rfl (by rw [HF.out]), by rw [HF.out]; exact Own.none_, b2⟩
  · have HF : Hid (proofL k l s u = (K1 ++ turnL K2, true)) := by show _ = _; rw [proofL_yes (by rw [Hjb.out, hq, decide_eq_true (by omega)]; rfl), Hjl.out]
    have hlen2 : ¬ (200 : Int) < (N1 : Int) + (N2 : Int) := by omega
    go_wp2_with fail
    refine (implTurnProof A2 N2 c2 _ K2 _ O2.out (by omega)).mono ?_
    rintro e w3 ⟨v3, rfl, o3, hb3⟩
    have b3 := b2.trans (hb3.mono b2.size)
    obtain ⟨A3, c3, rfl⟩ := o3.form
    obtain ⟨v4, w4, hr4, o4, g4⟩ := run_appendG (P := Tryd.prog) (ty := 43) Tryd.underlying43 hi hz0 hz1 hz2 rfl (by decide) (ownsRow_below R2.out hb3) b3.size o3 (linksC_one' _) (by unfold maxLen; omega) (by omega)
    have b4 := b3.grown g4 b3.size (fun q hq => ownsRow_ge (ownsRow_below R2.out hb3) hq.symm)
    have O4 := Lib.hid (Own.of_row o4)
    obtain ⟨A4, c4, rfl⟩ := (Own.of_row o4).form
    rw [← linksC_append] at O4
    have Hl4 : Hid ((K1 ++ turnL K2).length = N1 + N2) := by show _ = _; rw [List.length_append, turnL_length, Hn1.out, Hn2.out]
    clear hb3 o3 g4 o4
    go_wp2_with (at_builtin; refine wpList_appendRun2 rfl (.tmp 47) (.tmp 49) 43 rfl rfl rfl hr4 ?_)
    clear hr4
    go_wp2_with fail
    go_ret2
    exact ⟨_, ret_vb rfl (by rw [HF.out]), by rw [HF.out]; dsimp only; rw [Hl4.out]; exact O4.out, b4⟩

set_option maxRecDepth 100000 in
set_option maxHeartbeats 1600000 in
theorem l12Links_any (A : Option Addr) (n c B : Nat) (T : List ST) (w : World) (h : Own B w (.slice A n c) 2 n (stepsC T)) (hn : n ≤ 1048576) :
    Calls Tryd.prog 51 #[.slice A n c] w fun e w' => ∃ v, e = .returned v ∧ w'.ownsRow w.heap.size 34 3 v n (linksC (T.map linkOf)) ∧ Below w.heap.size w w' := by
  obtain ⟨i0, hi, hz0, hz1, hz2⟩ := infoR_parts infoLink
  have HO := Lib.hid h
  have Hl := Lib.hid h.slen
  have hR := World.ownsRow_lit (e := 34) (base := w.heap.size) (size := 3) w #[] 0 (Nat.le_refl _) (by unfold maxLen; omega) rfl
  have HR0 : Hid ((w.alloc (.cells #[] 34)).ownsRow w.heap.size 34 3 (.slice (some ⟨w.heap.size, 0, none⟩) 0 0) 0 (linksC ((T.map linkOf).take 0))) := by
    show World.ownsRow _ _ _ _ _ _ _
    rw [List.take_zero]; exact hR
  clear h hR
  go_enter Tryd.func51, Tryd.ntmps51
  go_wp2_with fail
  go_loopw [3, 9] (fun o i wr => ∃ j : Nat, j ≤ n ∧ i = .int .i64 j ∧ Hid (wr.ownsRow w.heap.size 34 3 o j (linksC ((T.map linkOf).take j))) ∧ Below w.heap.size w wr) (fun _ i _ => n - (intOf i).toNat)
  case atStart => exact ⟨0, Nat.zero_le _, rfl, HR0, bel1 _ _⟩
  case round =>
    obtain ⟨j, hj, rfl, HR, hb⟩ := hrel
    have hbs := hb.size
    by_cases hlt : j < n
    · obtain ⟨g, off, c0, hv⟩ := HO.out.formR (by omega)
      obtain ⟨rfl, rfl⟩ : A = some ⟨g, off, none⟩ ∧ c = c0 := by injection hv with a _ b; exact ⟨a, b⟩
      clear hv
      obtain ⟨-, hgl, ⟨x, y⟩, hr, x0, x1, -, -⟩ := (HO.out.below hb).step hlt
      have HT : Hid ((T.map linkOf).take (j + 1) = (T.map linkOf).take j ++ [(x, y, false)]) := by
        show _ = _; exact take_step (T.map linkOf) j (x, y, false) (by rw [List.getElem?_map, hr]; rfl)
      have HR2 := Lib.hid (HR.out.alloc (.cells #[.int .i64 x, .int .i64 y] 102))
      have b2 := hb.alloc hbs (.cells #[.int .i64 x, .int .i64 y] 102)
      dsimp only at x0 x1
      clear hr
      go_wp2_with (at_builtin; refine wpList_append_own _ rfl _ _ 43 rfl w.heap.size 34 i0 (.agg #[.int .i64 0, .int .i64 0, .bool false]) 3 24 Tryd.underlying43 hi hz0 hz1 hz2 rfl (by decide) _ _ _ rfl (HR2.out.alloc _) ⟨wr.heap.size + 1, 0, none⟩ 1 1 [.int .i64 x, .int .i64 y, .bool false] rfl rfl ?c1 ?c2 ?c3 ?c4 ?c5 ?_)
      case c1 =>
        intro q u hq
        match q, hq with
        | 0, hq => simp at hq; subst hq; simp [Addr.add]
        | 1, hq => simp at hq; subst hq; simp [Addr.add]
        | 2, hq => simp at hq; subst hq; simp [Addr.add]
      case c2 => intro u hu; simp at hu; rcases hu with rfl | rfl | rfl <;> rfl
      case c3 => unfold maxLen; omega
      case c4 => omega
      case c5 => simp; omega
      intro v' w6 hown' hgrow _
      have hown2 : w6.ownsRow w.heap.size 34 3 v' (j + 1) (linksC ((T.map linkOf).take (j + 1))) := by
        rw [HT.out, linksC_append]
        exact hown'
      have hbw6 : Below w.heap.size w w6 := grown_one HR2.out hgrow b2 (Nat.le_refl _) (by simp; omega)
      have HR6 := Lib.hid hown2
      clear hown' hgrow hown2 HR2 b2 hb HR
      go_wp2_with fail
      go_roundw
      case rel => exact ⟨j + 1, by omega, by go_num, HR6, hbw6⟩
      case measure => simp [intOf]; omega
    · obtain rfl : j = n := by omega
      have o3 := HR.out
      rw [List.take_of_length_le (by rw [List.length_map, Hl.out]; exact Nat.le_refl _)] at o3
      obtain ⟨A6, c6, hv6⟩ := (Own.of_row o3).form
      subst hv6
      have O3 := Lib.hid o3
      clear o3 HR
      go_wp2_with fail
      go_ret
      exact ⟨_, rfl, O3.out, hb⟩
theorem traceS_of {k : Int} {l : List R} {s : ByteArray} (h : canRed k l s = true) : traceS k l s = traceOf l s := by rw [traceS, if_pos h]
set_option maxRecDepth 100000 in
set_option maxHeartbeats 3200000 in
theorem specProofOf (k : Int) (A : Option Addr) (n c B : Nat) (l : List R) (s u : ByteArray) (w : World) (h : Own B w (.slice A n c) 2 n (rulesC l)) (hsm : smallR l) (hs : s.size ≤ 1048576) (hu : u.size ≤ 1048576) :
    Calls Tryd.prog 27 #[.agg #[.int .i64 k, .slice A n c], .string s, .string u] w fun e w' => ∃ v, e = .returned (.tuple #[v, .bool (proofL k l s u).2]) ∧ Own w.heap.size w' v 3 (proofL k l s u).1.length (linksC (proofL k l s u).1) ∧ Below w.heap.size w w' := by
  obtain ⟨i0, hi, hz0, hz1, hz2⟩ := infoR_parts infoLink
  have HO := Lib.hid h
  clear h
  have HB1' := traceS_bound k l s
  have HB2' := traceS_bound k l u
  go_enter Tryd.func27, Tryd.ntmps27
  go_wp2_with fail
  refine (specTraceOf k A n c B l s _ (HO.out.below (bel1 _ _)) hsm hs).mono ?_
  rintro e w1 ⟨v1, rfl, o1, hb1⟩
  have b1 := (bel1 w _).trans (hb1.mono (by simp))
  have HB1 := Lib.hid ((Blk.new1 w _ _).below hb1 (by simp))
  have o1 := o1.mono (B' := w.heap.size) (by simp)
  obtain ⟨A1, c1, rfl⟩ := o1.form
  obtain ⟨q0, q1, -, -, ql⟩ := HB1.out.two
  obtain ⟨N1, hN1⟩ : ∃ N, (traceS k l s).length = N := ⟨_, rfl⟩
  rw [hN1] at o1 HB1' ⊢
  have O1 := Lib.hid o1
  have Hn1 := Lib.hid hN1
  clear hb1 o1 hN1
  obtain ⟨p1, hp1⟩ : ∃ p, canRed k l s = p := ⟨_, rfl⟩
  rw [hp1]
  have Hp1 := Lib.hid hp1
  clear hp1
  go_wp2_with fail
  refine (specTraceOf k A n c B l u _ (HO.out.below b1) hsm hu).mono ?_
  rintro e w2 ⟨v2, rfl, o2, hb2⟩
  have b2 := b1.trans (hb2.mono b1.size)
  have HB2 := Lib.hid (HB1.out.below hb2 HB1.out.lt)
  have O1b := Lib.hid (O1.out.below hb2)
  have o2 := o2.mono (B' := w.heap.size) b1.size
  obtain ⟨A2, c2, rfl⟩ := o2.form
  obtain ⟨N2, hN2⟩ : ∃ N, (traceS k l u).length = N := ⟨_, rfl⟩
  rw [hN2] at o2 HB2' ⊢
  have O2 := Lib.hid o2
  have Hn2 := Lib.hid hN2
  clear hb2 o2 hN2 q0 q1 ql HB1 O1 b1
  obtain ⟨p2, hp2⟩ : ∃ p, canRed k l u = p := ⟨_, rfl⟩
  rw [hp2]
  have Hp2 := Lib.hid hp2
  clear hp2
  obtain ⟨q0, q1, -, -, ql⟩ := HB2.out.two
  cases p1
  · have HF : Hid (proofL k l s u = ([], false)) := proofL_no (joinB_no (.inl (by rw [Hp1.out]; rfl)))
    go_wp2_with fail
    go_ret2
    exact ⟨.slice none 0 0, ret_vb rfl (by rw [HF.out]), by rw [HF.out]; exact Own.none_, b2⟩
  cases p2
  · have HF : Hid (proofL k l s u = ([], false)) := proofL_no (joinB_no (.inr (by rw [Hp2.out]; rfl)))
    go_wp2_with fail
    go_ret2
    exact ⟨.slice none 0 0, ret_vb rfl (by rw [HF.out]), by rw [HF.out]; exact Own.none_, b2⟩
  have hn1 : N1 = (traceOf l s).length := by rw [← traceS_of Hp1.out]; exact Hn1.out.symm
  have hn2 : N2 = (traceOf l u).length := by rw [← traceS_of Hp2.out]; exact Hn2.out.symm
  have hjb : joinB k l s u = (decide (N1 + N2 ≤ 200) && ((formOf l 0 s).toList == (formOf l 0 u).toList)) := by rw [joinB, Hp1.out, Hp2.out, ← hn1, ← hn2]; simp
  have Hjb := Lib.hid hjb
  have HT1 := Lib.hid (traceS_of Hp1.out)
  have HT2 := Lib.hid (traceS_of Hp2.out)
  have HL1 := Lib.hid hn1
  have HL2 := Lib.hid hn2
  clear hjb hn1 hn2
  by_cases hlen : 200 < N1 + N2
  · have HF : Hid (proofL k l s u = ([], false)) := proofL_no (by rw [Hjb.out, decide_eq_false (by omega), Bool.false_and])
    have hlen2 : (200 : Int) < (N1 : Int) + (N2 : Int) := by omega
    go_wp2_with fail
    go_ret2
    exact ⟨.slice none 0 0, ret_vb rfl (by rw [HF.out]), by rw [HF.out]; exact Own.none_, b2⟩
  have hlen2 : ¬ (200 : Int) < (N1 : Int) + (N2 : Int) := by omega
  go_wp2_with fail
  refine (specNormalForm k A n c B l s _ (HO.out.below b2) hsm hs).mono ?_
  rintro e w3 ⟨rfl, hb3⟩
  have b3 := b2.trans (hb3.mono b2.size)
  have HB3 := Lib.hid (HB2.out.below hb3 HB2.out.lt)
  have O1c := Lib.hid (O1b.out.below hb3)
  have O2c := Lib.hid (O2.out.below hb3)
  clear hb3 q0 q1 ql HB2 O1b O2 b2
  obtain ⟨q0, q1, -, -, ql⟩ := HB3.out.two
  have e1 : formS k l s 0 = (formOf l 0 s, true) := by rw [formS, if_pos Hp1.out]
  rw [e1]
  dsimp only
  clear e1
  obtain ⟨f1, hf1⟩ : ∃ f, formOf l 0 s = f := ⟨_, rfl⟩
  rw [hf1]
  have Hf1 := Lib.hid hf1
  clear hf1
  go_wp2_with fail
  refine (specNormalForm k A n c B l u _ (HO.out.below b3) hsm hu).mono ?_
  rintro e w4 ⟨rfl, hb4⟩
  have b4 := b3.trans (hb4.mono b3.size)
  have O1d := Lib.hid (O1c.out.below hb4)
  have O2d := Lib.hid (O2c.out.below hb4)
  clear hb4 q0 q1 ql HB3 O1c O2c b3
  have e2 : formS k l u 0 = (formOf l 0 u, true) := by rw [formS, if_pos Hp2.out]
  rw [e2]
  dsimp only
  clear e2
  obtain ⟨f2, hf2⟩ : ∃ f, formOf l 0 u = f := ⟨_, rfl⟩
  rw [hf2]
  have Hf2 := Lib.hid hf2
  clear hf2
  cases hq : (f1.toList == f2.toList)
  · have HF : Hid (proofL k l s u = ([], false)) := proofL_no (by rw [Hjb.out, Hf1.out, Hf2.out, hq, Bool.and_false])
    go_wp2_with fail
    go_ret2
    exact ⟨.slice none 0 0, ret_vb rfl (by rw [HF.out]), by rw [HF.out]; exact Own.none_, b4⟩
  have HF : Hid (proofL k l s u = (joinL l s u, true)) := proofL_yes (by rw [Hjb.out, Hf1.out, Hf2.out, hq, decide_eq_true (by omega)]; rfl)
  go_wp2_with fail
  refine (l12Links_any A1 N1 c1 _ _ _ O1d.out (by omega)).mono ?_
  rintro e w5 ⟨v5, rfl, o5, hb5⟩
  have b5 := b4.trans (hb5.mono b4.size)
  have R5 := Lib.hid (row_mono o5 b4.size)
  have O2e := Lib.hid (O2d.out.below hb5)
  obtain ⟨A5, c5, rfl⟩ := (Own.of_row o5).form
  clear hb5 o5 O1d O2d b4
  go_wp2_with fail
  refine (l12Links_any A2 N2 c2 _ _ _ O2e.out (by omega)).mono ?_
  rintro e w6 ⟨v6, rfl, o6, hb6⟩
  have b6 := b5.trans (hb6.mono b5.size)
  have R6 := Lib.hid (ownsRow_below R5.out hb6)
  have O6 := Lib.hid (Own.of_row o6)
  obtain ⟨A6, c6, rfl⟩ := (Own.of_row o6).form
  clear hb6 o6 R5 O2e b5
  go_wp2_with fail
  refine (specTurnProof A6 N2 c6 _ _ _ O6.out (by omega)).mono ?_
  rintro e w7 ⟨v7, rfl, o7, hb7⟩
  have b7 := b6.trans (hb7.mono b6.size)
  obtain ⟨A7, c7, rfl⟩ := o7.form
  obtain ⟨v8, w8, hr8, o8, g8⟩ := run_appendG (P := Tryd.prog) (ty := 43) Tryd.underlying43 hi hz0 hz1 hz2 rfl (by decide) (ownsRow_below R6.out hb7) b7.size o7 (linksC_one' _) (by unfold maxLen; omega) (by omega)
  have b8 := b7.grown g8 b7.size (fun q hq => ownsRow_ge (ownsRow_below R6.out hb7) hq.symm)
  obtain ⟨A8, c8, rfl⟩ := (Own.of_row o8).form
  have Hj : Hid (linksC (joinL l s u) = linksC ((traceS k l s).map linkOf) ++ linksC (turnL ((traceS k l u).map linkOf))) := by show _ = _; rw [joinL, linksC_append, HT1.out, HT2.out]
  have Hl8 : Hid ((joinL l s u).length = N1 + N2) := by show _ = _; rw [joinL_len, HL1.out, HL2.out]
  have O8 := Lib.hid (Own.of_row o8)
  rw [← Hj.out] at O8
  clear hb7 o7 g8 o8 R6
  go_wp2_with (at_builtin; refine wpList_appendRun2 rfl (.tmp 58) (.tmp 61) 43 rfl rfl rfl hr8 ?_)
  clear hr8
  go_wp2_with fail
  go_ret2
  exact ⟨_, ret_vb rfl (by rw [HF.out]), by rw [HF.out]; dsimp only; rw [Hl8.out]; exact O8.out, b8⟩
end Go.Proofs.YtddifhbjjiphiaaDoor
