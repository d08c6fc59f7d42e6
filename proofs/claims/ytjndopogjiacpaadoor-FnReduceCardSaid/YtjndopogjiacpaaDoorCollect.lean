/- StepsOf: the program's; slices.Collect at steps. -/
import Derived.Maps.AppendAt
import Derived.Test.YtjndopogjiacpaaDoorNextStep
namespace Go.Proofs.YtjndopogjiacpaaDoor
open Go.RowKit Go.Shelf
attribute [local go_sem] Oper.semAt_some

/-- A variable's box B holds a slice whose row lies beyond; behind an append and the store back. -/
theorem box_appended {W w1 : World} {base B : Nat} {t e : TypeId} {size : Nat} {v v' : Value} {k m : Nat} {xs ys : List Value} {tmp : Obj} {D : Nat → Prop} (hv : Blk W B t #[v]) (hB : B < base) (hb : base ≤ W.heap.size)
    (hrow : W.ownsRow base e size v k xs) (hown' : w1.ownsRow base e size v' m ys) (hgrow : (W.alloc tmp).grownBy w1 v.ownBlock) (hD : ∀ k, D k → k < base ∧ k ≠ B) :
    Blk w1 B t #[v] ∧ Blk (w1.setCell ⟨B, 0, none⟩ v') B t #[v'] ∧ (w1.setCell ⟨B, 0, none⟩ v').ownsRow base e size v' m ys ∧ KeepsOthers W (w1.setCell ⟨B, 0, none⟩ v') ∧ Keeps D W (w1.setCell ⟨B, 0, none⟩ v') ∧ Below B W (w1.setCell ⟨B, 0, none⟩ v') := by
  have hold : ∀ d, d < base → w1.heap[d]? = W.heap[d]? := fun d hd => grown_block hrow hgrow hd hb
  have hv1 : Blk w1 B t #[v] := (hold B hB).trans hv
  have hsz : W.heap.size ≤ w1.heap.size := by have := hgrow.size; simp at this; omega
  refine ⟨hv1, hv1.set_ 0 v', ?_, ?_, ⟨by simp [World.size_setCell]; omega, fun j hj => ?_⟩, ?_⟩
  · refine hown'.kept (grownBy_setCell' w1 B v') (.inr (fun e => ?_))
    have h1 := (hown'.lt B e).1
    omega
  · refine ((KeepsOthers.alloc W tmp).trans (KeepsOthers.of_grownBy hgrow fun j o ej hj => ?_)).trans (KeepsOthers.setCell _ _ _)
    rcases (hrow.alloc tmp).2 with ⟨rfl, _⟩ | ⟨g, cap, cur, rfl, _, hgb, _⟩
    · simp [Value.ownBlock] at ej
    · have e1 : g = j := by simpa [Value.ownBlock] using ej
      subst e1
      rw [hgb] at hj; injection hj with hj; rw [← hj]; rfl
  · obtain ⟨h1, h2⟩ := hD j hj
    exact (Below.heap_setCell w1 ⟨B, 0, none⟩ v' j (by simpa using h2)).trans (hold j h1)
  · have hb1 : Below B W w1 := ⟨hgrow.os.trans rfl, hgrow.tape.trans rfl, hgrow.output.trans rfl, hsz, fun j hj => hold j (by omega)⟩
    exact hb1.setCell (Nat.le_refl _) _
theorem row_kept {W W' : World} {row : Option Nat} {base : Nat} {e : TypeId} {size : Nat} {v : Value} {k : Nat} {xs : List Value} (h : W.ownsRow base e size v k xs) (hg : W.grownBy W' row) (hr : ∀ r, row = some r → ∃ o : Obj, W.heap[r]? = some o ∧ o.isCells = false) : W'.ownsRow base e size v k xs := by
  refine h.kept hg ?_
  rcases h.2 with ⟨rfl, _⟩ | ⟨g, cap, cur, rfl, _, hgb, _⟩
  · exact .inl rfl
  · refine .inr fun e' => ?_
    obtain ⟨o, ho, hc⟩ := hr g (by simpa [Value.ownBlock] using e'.symm)
    rw [hgb] at ho; cases ho; cases hc
theorem steps_bound (l : List R) (s : ByteArray) (d : Int) (hs : s.size ≤ 1048576) (hl : l.length ≤ 12) : (stepsD l s d).length ≤ 12582912 := by
  have h1 := rowsTo_len l s d s.size
  have h2 : s.size * l.length ≤ 1048576 * 12 := Nat.mul_le_mul hs hl
  unfold stepsD
  omega

set_option maxRecDepth 100000 in
set_option maxHeartbeats 2000000 in
theorem appendSeq_any (l : List R) (s : ByteArray) (d : Int) (bs bw bd : Nat) (w : World) (hs : s.size ≤ 1048576) (hl : l.length ≤ 12) (hS : SeqAt l s d bs bw bd (· < w.heap.size) w) :
    Calls Tryd.prog 87 #[.slice none 0 0, .func (.func 83) #[] #[.pointer (some ⟨bw, 0, none⟩), .pointer (some ⟨bd, 0, none⟩), .pointer (some ⟨bs, 0, none⟩)]] w fun e w' =>
      ∃ v, e = .returned v ∧ Own w.heap.size w' v 2 (stepsD l s d).length (stepsC (stepsD l s d)) ∧ Below w.heap.size w w' := by
  have hN := steps_bound l s d hs hl
  obtain ⟨i0, hi, hz0, hz1, hz2⟩ := infoR_parts infoStep
  refine (callsIn_wide (n := 6)).1 ?_
  refine callsIn_of_wp_marks Tryd.func87 rfl trivial ?_ rfl
  simp only [Tryd.ntmps87, List.size_toArray, List.length_cons, List.length_nil, Nat.reduceAdd, Nat.reduceSub, Array.replicate_succ, Array.replicate_zero, List.push_toArray, List.append_toArray, List.nil_append, List.cons_append]
  gi_wp2_with fail
  have hsz : (w.alloc (.cells #[.slice none 0 0] 30)).heap.size = w.heap.size + 1 := by simp
  have R1 : Blk (w.alloc (.cells #[.slice none 0 0] 30)) w.heap.size 30 #[.slice none 0 0] := Blk.new1 _ _ _
  have b1 := bel1 w (.cells #[.slice none 0 0] 30)
  have hS1 := hS.keeps (keeps_of b1 (fun _ h => h))
  generalize w.alloc (.cells #[.slice none 0 0] 30) = w1 at *
  refine wpIn_rangeFunc_ownH rfl (by omega) (gf := 83) (lb := #[.pointer (some ⟨bw, 0, none⟩), .pointer (some ⟨bd, 0, none⟩), .pointer (some ⟨bs, 0, none⟩)]) rfl trivial (enters_of Tryd.func83 (by kernel_rfl) rfl)
    (steps_stops 5 (by omega) l s d hs _ _ _ _ w1 hS1 (fun _ h => by show _ < w1.heap.size; omega)) keeps_t (keeps_b (fun _ h => by show _ < w1.heap.size; omega)) (Below.refl _ _) (fun _ => rfl)
    (fun pre W => (w.heap.size + 1 ≤ W.heap.size ∧ ∃ v, Blk W w.heap.size 30 #[v] ∧ W.ownsRow (w.heap.size + 1) 37 2 v pre.length (stepsC (vals pre))) ∧ Below w.heap.size w W)
    (fun _ _ _ => False)
    (OwnFrom.and (fun _ _ _ _ h hg hr => ⟨Nat.le_trans h.1 hg.size, by obtain ⟨v, h1, h2⟩ := h.2; exact ⟨v, blk_kept h1 hg (fun r e => (hr r e).2), row_kept h2 hg (fun r e => (hr r e).2)⟩⟩) (ownFrom_below (Nat.le_refl _) (by omega)))
    (fun _ _ _ _ _ hs _ _ => hs)
    ⟨⟨by omega, _, R1, World.ownsRow_nil _ _ _ _⟩, b1⟩
    (fun x a' W => ∃ Bx, w1.heap.size ≤ Bx ∧ Blk W Bx 37 #[.int .i64 x.1.1, .int .i64 x.1.2] ∧ a' = { tmps := #[.slice none 0 0, .func (.func 83) #[] #[.pointer (some ⟨bw, 0, none⟩), .pointer (some ⟨bd, 0, none⟩), .pointer (some ⟨bs, 0, none⟩)], .pointer (some ⟨w.heap.size, 0, none⟩), undef, .slice none 0 0, .pointer (some ⟨Bx, 0, none⟩), .func (.func 83) #[] #[.pointer (some ⟨bw, 0, none⟩), .pointer (some ⟨bd, 0, none⟩), .pointer (some ⟨bs, 0, none⟩)], stepV x.1, undef, undef, undef, undef, undef], defers := [] })
    (fun x a' _ _ _ _ h hg hr => by obtain ⟨Bx, h1, h2, h3⟩ := h; exact ⟨Bx, h1, blk_kept h2 hg (fun r e => (hr r e).2), h3⟩)
    ?assign ?body ?done ?stop
  case assign =>
    rintro lp pre x W K ⟨⟨hws, v, h2, h3⟩, h4⟩ hK
    gi_wp2_with fail
    have hWs := h4.size
    have b := bel1 W (.cells #[.int .i64 x.1.1, .int .i64 x.1.2] 37)
    exact hK _ _ (keepsFrom_below b) (keeps_of b (fun k (hk : k < _) => by omega)) ⟨⟨by simp; omega, v, h2.alloc _, h3.alloc _⟩, h4.trans (b.mono hWs)⟩ ⟨W.heap.size, by omega, Blk.new1 _ _ _, rfl⟩
  case body =>
    rintro lp pre x a' W hl hr ⟨⟨hws, v, h2, h3⟩, h4⟩ ⟨Bx, hB, hX, rfl⟩ hlt
    obtain ⟨x0, x1, -, -, xl⟩ := hX.two
    have z0 := h2.cell 0
    gi_wp2_with (gi_at_builtin; refine wpListIn_append_own _ rfl _ _ 30 rfl (w.heap.size + 1) 37 i0 (.agg #[.int .i64 0, .int .i64 0]) 2 16 Tryd.underlying30 hi hz0 hz1 hz2 rfl (by decide) _ _ _ rfl (h3.alloc _) ⟨W.heap.size, 0, none⟩ 1 1 [.int .i64 x.1.1, .int .i64 x.1.2] rfl rfl ?c1 ?c2 ?c3 ?c4 ?c5 ?_)
    case c1 =>
      intro j u hj
      match j, hj with
      | 0, hj => simp at hj; subst hj; simp [Addr.add]
      | 1, hj => simp at hj; subst hj; simp [Addr.add]
    case c2 => intro u hu; simp at hu; rcases hu with rfl | rfl <;> rfl
    case c3 => unfold maxLen; omega
    case c4 => omega
    case c5 => simp; omega
    intro v' w6 hown' hgrow _
    have hown2 : w6.ownsRow (w.heap.size + 1) 37 2 v' (pre.length + 1) (stepsC (vals (pre ++ [x]))) := by
      rw [vals_snoc, stepsC_append]
      exact hown'
    obtain ⟨r1, r2, r3, r4, r5, r6⟩ := box_appended (D := (· < w.heap.size)) h2 (by omega) hws h3 hown2 hgrow (fun k (hk : k < _) => ⟨by omega, by omega⟩)
    obtain ⟨g4, o4, c4, hv4⟩ := (Own.of_row hown2).formR (by simp)
    subst hv4
    have y0 := r1.cell 0
    have yf := r1.frozen 0
    gi_wp2_with fail
    exact ⟨r4.from _, r5, ⟨by have := r6.size; omega, _, r2, by rw [List.length_append]; exact r3⟩, h4.trans r6⟩
  case done =>
    rintro D ys W hD hys ⟨⟨hws, v, h2, h3⟩, h4⟩ hK
    have z0 := h2.cell 0
    have hly : ys.length = (stepsD l s d).length := by rw [← hys]; simp [vals]
    gi_wp2_with fail
    refine ⟨by simp, .inl ⟨_, _, rfl, run_takeDeferred hK, ?_⟩⟩
    have hg := grownBy_putObj' W D (.deferred none)
    refine ⟨v, ?_, v, rfl, ?_, h4.trans (belowK_b (w := w) (Nat.le_refl _) _ D _ _ (by omega) hK rfl rfl)⟩
    · simp [results, Tryd.f87, go_sem]
    · have h5 := row_kept h3 hg (fun r e => by cases e; exact ⟨_, hK, rfl⟩)
      rw [hys, hly] at h5
      exact (Own.of_row h5).mono (by omega)
  case stop =>
    rintro D c pre W hD _ h _
    exact h.elim

theorem stepsOf_bound (k : Int) (l : List R) (s : ByteArray) (hs : s.size ≤ 1048576) : (stepsOf k l s).length ≤ 5726623060 := by
  unfold stepsOf
  split
  · rename_i hk
    exact Nat.le_trans (steps_bound l s 0 hs (rulesOk_len hk)) (by omega)
  · simp
set_option maxHeartbeats 800000 in
theorem collect_any (l : List R) (s : ByteArray) (d : Int) (bs bw bd : Nat) (w : World) (hs : s.size ≤ 1048576) (hl : l.length ≤ 12) (hS : SeqAt l s d bs bw bd (· < w.heap.size) w) :
    Calls Tryd.prog 59 #[.func (.func 83) #[] #[.pointer (some ⟨bw, 0, none⟩), .pointer (some ⟨bd, 0, none⟩), .pointer (some ⟨bs, 0, none⟩)]] w fun e w' =>
      ∃ v, e = .returned v ∧ Own w.heap.size w' v 2 (stepsD l s d).length (stepsC (stepsD l s d)) ∧ Below w.heap.size w w' := by
  have HS := Lib.hid (appendSeq_any l s d bs bw bd w hs hl hS)
  clear hS
  go_enter Tryd.func59, Tryd.ntmps59
  go_wp2_with fail
  refine HS.out.mono ?_
  rintro e w1 ⟨v, rfl, o1, b1⟩
  go_wp2_with fail
  go_ret
  exact ⟨v, rfl, o1, b1⟩

set_option maxRecDepth 100000 in
set_option maxHeartbeats 1600000 in
theorem implStepsOf (k : Int) (A : Option Addr) (n c B : Nat) (l : List R) (s : ByteArray) (w : World) (h : Own B w (.slice A n c) 2 n (rulesC l)) (hsm : smallR l) (hs : s.size ≤ 1048576) (hlet : Let w) :
    Calls Tryd.prog 25 #[.agg #[.int .i64 k, .slice A n c], .string s] w fun e w' => ∃ v, e = .returned v ∧ Own w.heap.size w' v 2 (stepsOf k l s).length (stepsC (stepsOf k l s)) ∧ Below w.heap.size w w' := by
  have HO := Lib.hid h
  have Hlen := Lib.hid h.rlen
  have HL := Lib.hid (fun (w' : World) (hb : Below w.heap.size w w') => hlet.keep hb (Nat.le_refl _))
  clear h hlet
  go_enter Tryd.func25, Tryd.ntmps25
  go_wp2_with fail
  refine (implRulesOk k A n c B l _ (HO.out.below (bel1 _ _)) hsm (HL.out _ (bel1 _ _))).mono ?_
  rintro e w1 ⟨rfl, hb1⟩
  have b1 := (bel1 w _).trans (hb1.mono (by simp))
  obtain ⟨q0, q1, -, -, ql⟩ := ((Blk.new1 w _ _).below hb1 (by simp)).two
  clear hb1
  cases h1 : rulesOk k l
  · have He := Lib.hid (stepsOf_no (l := l) s h1)
    clear h1
    go_wp2_with fail
    go_ret
    exact ⟨_, rfl, by rw [He.out]; exact Own.none_, b1⟩
  · have He := Lib.hid (stepsOf_yes (l := l) s h1)
    have hl12 := rulesOk_len h1
    have hn12 : n ≤ 12 := by rw [← Hlen.out]; exact hl12
    clear h1
    have hws1 := b1.size
    have b4 := bel3 w1 (.cells #[.int .i64 k, .slice A n c] 25) (.cells #[.string s] 9) (.cells #[.int .i64 0] 67)
    have HS : Hid (SeqAt l s 0 w1.heap.size (w1.heap.size + 1) (w1.heap.size + 2) (· < (((w1.alloc (.cells #[.int .i64 k, .slice A n c] 25)).alloc (.cells #[.string s] 9)).alloc (.cells #[.int .i64 0] 67)).heap.size) (((w1.alloc (.cells #[.int .i64 k, .slice A n c] 25)).alloc (.cells #[.string s] 9)).alloc (.cells #[.int .i64 0] 67))) := by
      refine ⟨⟨k, A, n, c, B, ((Blk.new1 _ _ _).alloc _).alloc _, (HO.out.below b1).below b4, hn12, fun hn => ?_⟩, (Blk.new2 _ _ _ _).alloc _, Blk.new3 _ _ _ _ _, by simp; omega, by simp, by simp⟩
      have := (HO.out.blk_lt hn).2; simp; omega
    go_wp2_with fail
    refine (stepsFrom_any k A n c s 0 _).mono ?_
    rintro e w4 ⟨rfl, rfl⟩
    have b5 := b1.trans (b4.mono hws1)
    clear q0 q1 ql b4 b1
    generalize ((w1.alloc (.cells #[.int .i64 k, .slice A n c] 25)).alloc (.cells #[.string s] 9)).alloc (.cells #[.int .i64 0] 67) = w4 at *
    go_wp2_with fail
    refine (collect_any l s 0 _ _ _ w4 hs hl12 HS.out).mono ?_
    rintro e w5 ⟨v, rfl, o5, hb5⟩
    have b6 := b5.trans (hb5.mono b5.size)
    go_wp2_with fail
    go_ret
    exact ⟨v, rfl, by rw [He.out]; exact o5.mono b5.size, b6⟩
end Go.Proofs.YtjndopogjiacpaaDoor
