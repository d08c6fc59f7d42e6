/- TraceOf: the program's. -/
import Derived.Test.YtjndopogjiacpaaDoorReduce
import Derived.Test.YtjndopogjiacpaaDoorCollect
namespace Go.Proofs.YtjndopogjiacpaaDoor
open Go.RowKit Go.Shelf
attribute [local go_sem] Oper.semAt_some

def firsts (pre : List (ST × ByteArray)) : List ST := pre.map (·.1)
theorem firsts_snoc (pre : List (ST × ByteArray)) (x : ST × ByteArray) : firsts (pre ++ [x]) = firsts pre ++ [x.1] := by simp [firsts]
set_option maxRecDepth 100000 in
set_option maxHeartbeats 2000000 in
theorem implTraceOf (k : Int) (A : Option Addr) (n c B : Nat) (l : List R) (s : ByteArray) (w : World) (h : Own B w (.slice A n c) 2 n (rulesC l)) (hsm : smallR l) (hs : s.size ≤ 1048576) (hlet : Let w) :
    Calls Tryd.prog 18 #[.agg #[.int .i64 k, .slice A n c], .string s] w fun e w' => ∃ v, e = .returned (.tuple #[v, .bool (canRed k l s)]) ∧ Own w.heap.size w' v 2 (traceS k l s).length (stepsC (traceS k l s)) ∧ Below w.heap.size w w' := by
  obtain ⟨i0, hi, hz0, hz1, hz2⟩ := infoR_parts infoStep
  have HO := Lib.hid h
  have Hlen := Lib.hid h.rlen
  have HL := Lib.hid (fun (w' : World) (hb : Below w.heap.size w w') => hlet.keep hb (Nat.le_refl _))
  clear h hlet
  refine (callsIn_wide (n := 6)).1 ?_
  refine callsIn_of_wp_marks Tryd.func18 rfl trivial ?_ rfl
  simp only [Tryd.ntmps18, List.size_toArray, List.length_cons, List.length_nil, Nat.reduceAdd, Nat.reduceSub, Array.replicate_succ, Array.replicate_zero, List.push_toArray, List.append_toArray, List.nil_append, List.cons_append]
  gi_wp2_with fail
  refine ⟨trivial, (callsIn_wide.2 (canReduce_any k A n c B l s _ (HO.out.below (bel1 _ _)) hsm hs (HL.out _ (bel1 _ _)))).mono ?_⟩
  rintro e w1 ⟨rfl, hb1⟩
  have b1 := (bel1 w _).trans (hb1.mono (by simp))
  have HB1 := Lib.hid ((Blk.new1 w _ _).below hb1 (by simp))
  obtain ⟨q0, q1, -, -, ql⟩ := HB1.out.two
  clear hb1
  cases h1 : canRed k l s
  · have HF : Hid (traceS k l s = []) := by show _ = _; rw [traceS, h1]; rfl
    have Hc := Lib.hid h1
    clear h1
    gi_wp2_with fail
    refine ⟨.tuple #[.slice none 0 0, .bool false], ?_, .slice none 0 0, by rw [Hc.out], by rw [HF.out]; exact Own.none_, b1⟩
    simp [results, Tryd.f18, go_sem]
  · have HF : Hid (traceS k l s = traceOf l s) := by show _ = _; rw [traceS, if_pos h1]
    have Hcan := Lib.hid h1
    have hn12 : n ≤ 12 := by rw [← Hlen.out]; exact rulesOk_len (canRed_rules h1)
    have htl := traceOf_len h1
    have hrl : (redsOf l 0 s).length ≤ 5726623060 := by rw [traceOf, List.length_map] at htl; exact htl
    clear h1 htl
    have b2 := b1.alloc b1.size (.cells #[.slice none 0 0] 30)
    have HB2 := Lib.hid (HB1.out.alloc (.cells #[.slice none 0 0] 30))
    have HS2 := Lib.hid (Blk.new1 w1 #[.slice none 0 0] 30)
    clear q0 q1 ql
    obtain ⟨q0, q1, -, -, ql⟩ := HB2.out.two
    gi_wp2_with fail
    refine ⟨trivial, (callsIn_wide.2 (reduction_any k A n c s 0 _)).mono ?_⟩
    rintro e w3 ⟨rfl, hw3⟩
    gi_wp2_with fail
    clear q0 q1 ql
    have hsz : w3.heap.size = w1.heap.size + 4 := by rw [hw3]; simp
    have R3 : Blk w3 w1.heap.size 30 #[.slice none 0 0] := by rw [hw3]; exact ((HS2.out.alloc _).alloc _).alloc _
    have b3 : Below w.heap.size w w3 := by rw [hw3]; exact b2.trans ((bel3 _ _ _ _).mono b2.size)
    have hws1 := b1.size
    have hS : SeqAt l s 0 (w1.heap.size + 1) (w1.heap.size + 1 + 1) (w1.heap.size + 1 + 2) (fun k => k < w3.heap.size ∧ k ≠ w1.heap.size) w3 := by
      refine ⟨⟨k, A, n, c, B, ?_, HO.out.below b3, hn12, fun hn => ?_⟩, ?_, ?_, ⟨by omega, by omega⟩, ⟨by omega, by omega⟩, ⟨by omega, by omega⟩⟩
      · rw [hw3]; exact ((Blk.new2 _ _ _ _).alloc _).alloc _
      · have := (HO.out.blk_lt hn).2; exact ⟨by omega, by omega⟩
      · rw [hw3]; exact (Blk.new3 _ _ _ _ _).alloc _
      · rw [hw3]; exact Blk.new4 _ _ _ _ _ _
    have e0 : (((w1.alloc (.cells #[.slice none 0 0] 30)).alloc (.cells #[.int .i64 k, .slice A n c] 25)).alloc (.cells #[.string s] 9)).alloc (.cells #[.int .i64 0] 67) = w3 := hw3.symm
    rw [e0]
    clear e0 hw3 b2 HB2 HS2
    refine wpIn_rangeFunc_ownH rfl (by omega) (gf := 80) (lb := #[.pointer (some ⟨w1.heap.size + 1 + 1, 0, none⟩), .pointer (some ⟨w1.heap.size + 1, 0, none⟩), .pointer (some ⟨w1.heap.size + 1 + 2, 0, none⟩)]) rfl trivial (enters_of Tryd.func80 (by kernel_rfl) rfl)
      (reds_stops 5 (by omega) k l s 0 Hcan.out hsm _ _ _ _ w3 hS (fun _ h => h.1)) keeps_t (keeps_b (fun _ h => h.1)) (Below.refl _ _) (fun _ => rfl)
      (fun pre W => (w3.heap.size ≤ W.heap.size ∧ ∃ v, Blk W w1.heap.size 30 #[v] ∧ W.ownsRow w3.heap.size 37 2 v pre.length (stepsC (firsts pre))) ∧ Below w.heap.size w W)
      (fun _ _ _ => False)
      (OwnFrom.and (fun _ _ _ _ h hg hr => ⟨Nat.le_trans h.1 hg.size, by obtain ⟨v, h1, h2⟩ := h.2; exact ⟨v, blk_kept h1 hg (fun r e => (hr r e).2), row_kept h2 hg (fun r e => (hr r e).2)⟩⟩) (ownFrom_below (Nat.le_refl _) (by omega)))
      (fun _ _ _ _ _ hs _ _ => hs)
      ⟨⟨Nat.le_refl _, _, R3, World.ownsRow_nil _ _ _ _⟩, b3⟩
      (fun x a' W => ∃ Bx, w3.heap.size ≤ Bx ∧ Blk W Bx 37 #[.int .i64 x.1.1, .int .i64 x.1.2] ∧ a' = { tmps := #[.agg #[.int .i64 k, .slice A n c], .string s, .pointer (some ⟨w.heap.size, 0, none⟩), undef, .slice none 0 0, .bool false, .pointer (some ⟨w1.heap.size, 0, none⟩), .pointer (some ⟨Bx, 0, none⟩), .agg #[.int .i64 k, .slice A n c], .string s, .bool true, .bool false, .agg #[.int .i64 k, .slice A n c], .string s, .func (.func 80) #[] #[.pointer (some ⟨w1.heap.size + 1 + 1, 0, none⟩), .pointer (some ⟨w1.heap.size + 1, 0, none⟩), .pointer (some ⟨w1.heap.size + 1 + 2, 0, none⟩)], stepV x.1, .string x.2, undef, undef, undef, undef, undef], defers := [] })
      (fun x a' _ _ _ _ h hg hr => by obtain ⟨Bx, h1, h2, h3⟩ := h; exact ⟨Bx, h1, blk_kept h2 hg (fun r e => (hr r e).2), h3⟩)
      ?assign ?body ?done ?stop
    case assign =>
      rintro lp pre x W K ⟨⟨hws, v, h2, h3⟩, h4⟩ hK
      gi_wp2_with fail
      have hWs := h4.size
      have b := bel1 W (.cells #[.int .i64 x.1.1, .int .i64 x.1.2] 37)
      exact hK _ _ (keepsFrom_below b) (keeps_of b (fun k hk => by have := hk.1; omega)) ⟨⟨by simp; omega, v, h2.alloc _, h3.alloc _⟩, h4.trans (b.mono hWs)⟩ ⟨W.heap.size, by omega, Blk.new1 _ _ _, rfl⟩
    case body =>
      rintro lp pre x a' W hl hr ⟨⟨hws, v, h2, h3⟩, h4⟩ ⟨Bx, hB, hX, rfl⟩ hlt
      obtain ⟨x0, x1, -, -, xl⟩ := hX.two
      have z0 := h2.cell 0
      gi_wp2_with (gi_at_builtin; refine wpListIn_append_own _ rfl _ _ 30 rfl w3.heap.size 37 i0 (.agg #[.int .i64 0, .int .i64 0]) 2 16 Tryd.underlying30 hi hz0 hz1 hz2 rfl (by decide) _ _ _ rfl (h3.alloc _) ⟨W.heap.size, 0, none⟩ 1 1 [.int .i64 x.1.1, .int .i64 x.1.2] rfl rfl ?c1 ?c2 ?c3 ?c4 ?c5 ?_)
      case c1 =>
        intro j u hj
        match j, hj with
        | 0, hj => simp at hj; subst hj; simp [Addr.add]
        | 1, hj => simp at hj; subst hj; simp [Addr.add]
      case c2 => intro u hu; simp at hu; rcases hu with rfl | rfl <;> rfl
      case c3 => unfold maxLen; omega
      case c4 => omega
      case c5 => simp; omega
      intro v' w6 hown' hgrow _
      have hown2 : w6.ownsRow w3.heap.size 37 2 v' (pre.length + 1) (stepsC (firsts (pre ++ [x]))) := by
        rw [firsts_snoc, stepsC_append, hsz]
        exact hown'
      obtain ⟨r1, r2, r3, r4, r5, r6⟩ := box_appended (D := fun k => k < w3.heap.size ∧ k ≠ w1.heap.size) h2 (by omega) hws h3 hown2 hgrow (fun k hk => hk)
      obtain ⟨g4, o4, c4, hv4⟩ := (Own.of_row hown2).formR (by omega)
      subst hv4
      have y0 := r1.cell 0
      have yf := r1.frozen 0
      gi_wp2_with fail
      exact ⟨r4.from _, r5, ⟨by have := r6.size; omega, _, r2, by rw [List.length_append]; exact r3⟩, h4.trans (r6.mono (by omega))⟩
    case done =>
      rintro D ys W hD rfl ⟨⟨hws, v, h2, h3⟩, h4⟩ hK
      have z0 := h2.cell 0
      gi_wp2_with fail
      refine ⟨by simp, .inl ⟨_, _, rfl, run_takeDeferred hK, ?_⟩⟩
      have hg := grownBy_putObj' W D (.deferred none)
      refine ⟨.tuple #[v, .bool true], ?_, v, by rw [Hcan.out], ?_, h4.trans (belowK_b (w := w) (Nat.le_refl _) _ D _ _ (by omega) hK rfl rfl)⟩
      · simp [results, Tryd.f18, go_sem]
      · have h5 := row_kept h3 hg (fun r e => by cases e; exact ⟨_, hK, rfl⟩)
        have h6 := (Own.of_row h5).mono (B' := w.heap.size) (by omega)
        rw [HF.out, traceOf, List.length_map]
        exact h6
    case stop =>
      rintro D c pre W hD _ h _
      exact h.elim
theorem traceS_bound (k : Int) (l : List R) (s : ByteArray) : (traceS k l s).length ≤ 5726623060 := by
  unfold traceS
  split
  · rename_i hk
    exact traceOf_len hk
  · simp
end Go.Proofs.YtjndopogjiacpaaDoor
