/- The steps of a reduction as links: linksToForm. -/
import Derived.Test.YtddifhbjjiphiaaDoorTrace
import Derived.Test.YtddifhbjjiphiaaDoorLinks
namespace Go.Proofs.YtddifhbjjiphiaaDoor
open Go.RowKit Go.Shelf
attribute [local go_sem] Oper.semAt_some

def linkOf (x : ST) : LK := (x.1, x.2, false)
def lksOf (pre : List (ST × ByteArray)) : List LK := (firsts pre).map linkOf
theorem lksOf_snoc (pre : List (ST × ByteArray)) (x : ST × ByteArray) : lksOf (pre ++ [x]) = lksOf pre ++ [(x.1.1, x.1.2, false)] := by simp [lksOf, firsts, linkOf]
/-- What linksToForm answers. -/
def toFormS (k : Int) (l : List R) (s : ByteArray) : List LK × ByteArray × Bool :=
  if canRed k l s && decide ((traceOf l s).length ≤ 200) then ((traceOf l s).map linkOf, formOf l 0 s, true) else ([], ⟨#[]⟩, false)
theorem row_far {W : World} {base : Nat} {e : TypeId} {size : Nat} {v : Value} {m : Nat} {xs : List Value} (h : W.ownsRow base e size v m xs) {d : Nat} (hd : d < base) (u : Value) : (W.setCell ⟨d, 0, none⟩ u).ownsRow base e size v m xs :=
  h.kept (grownBy_setCell' W d u) (.inr (fun e => by have h1 := (h.lt d e).1; omega))
set_option maxRecDepth 100000 in
set_option maxHeartbeats 4000000 in
theorem linksToForm_any (k : Int) (A : Option Addr) (n c B : Nat) (l : List R) (s : ByteArray) (w : World) (h : Own B w (.slice A n c) 2 n (rulesC l)) (hsm : smallR l) (hs : s.size ≤ 1048576) (hlet : Let w) :
    Calls Tryd.prog 53 #[.agg #[.int .i64 k, .slice A n c], .string s] w fun e w' => ∃ v, e = .returned (.tuple #[v, .string (toFormS k l s).2.1, .bool (toFormS k l s).2.2]) ∧ w'.ownsRow w.heap.size 34 3 v (toFormS k l s).1.length (linksC (toFormS k l s).1) ∧ Below w.heap.size w w' := by
  obtain ⟨i0, hi, hz0, hz1, hz2⟩ := infoR_parts infoLink
  have HO := Lib.hid h
  have Hlen := Lib.hid h.rlen
  have HL := Lib.hid (fun (w' : World) (hb : Below w.heap.size w w') => hlet.keep hb (Nat.le_refl _))
  clear h hlet
  refine (callsIn_wide (n := 6)).1 ?_
  refine callsIn_of_wp_marks Tryd.func53 rfl trivial ?_ rfl
  simp only [Tryd.ntmps53, List.size_toArray, List.length_cons, List.length_nil, Nat.reduceAdd, Nat.reduceSub, Array.replicate_succ, Array.replicate_zero, List.push_toArray, List.append_toArray, List.nil_append, List.cons_append]
  gi_wp2_with fail
  refine ⟨trivial, (callsIn_wide.2 (canReduce_any k A n c B l s _ (HO.out.below (bel4 _ _ _ _ _)) hsm hs (HL.out _ (bel4 _ _ _ _ _)))).mono ?_⟩
  rintro e w1 ⟨rfl, hb1⟩
  have b1 := (bel4 w _ _ _ _).trans (hb1.mono (by simp; omega))
  have hws1 : w.heap.size + 4 ≤ w1.heap.size := by have := hb1.size; simp at this; omega
  have HB1 := Lib.hid (((((Blk.new1 w #[.int .i64 k, .slice A n c] 32).alloc (.cells #[.slice none 0 0] 43)).alloc (.cells #[.string ⟨#[]⟩] 9)).alloc (.cells #[.bool false] 4)).below hb1 (by simp; omega))
  have HR1 : Hid (Blk w1 (w.heap.size + 1) 43 #[.slice none 0 0]) := ((((Blk.new2 w _ #[.slice none 0 0] 43).alloc (.cells #[.string ⟨#[]⟩] 9)).alloc (.cells #[.bool false] 4)).below hb1 (by simp <;> omega))
  have HF1 : Hid (Blk w1 (w.heap.size + 1 + 1) 9 #[.string ⟨#[]⟩]) := (((Blk.new3 w _ _ #[.string ⟨#[]⟩] 9).alloc (.cells #[.bool false] 4)).below hb1 (by simp <;> omega))
  have HG1 : Hid (Blk w1 (w.heap.size + 1 + 1 + 1) 4 #[.bool false]) := ((Blk.new4 w _ _ _ #[.bool false] 4).below hb1 (by simp <;> omega))
  obtain ⟨q0, q1, -, -, ql⟩ := HB1.out.two
  clear hb1
  cases h1 : canRed k l s
  · have HF : Hid (toFormS k l s = ([], ⟨#[]⟩, false)) := by show _ = _; rw [toFormS, h1]; rfl
    clear h1
    have r0 := HR1.out.cell 0
    have rf0 := HR1.out.frozen 0
    have r1 := HF1.out.cell 0
    have rf1 := HF1.out.frozen 0
    have r2 := HG1.out.cell 0
    have rf2 := HG1.out.frozen 0
    gi_wp2_with fail
    have c0 := (((HR1.out.set_ 0 (.slice none 0 0)).far (p := ⟨w.heap.size + 1 + 1, 0, none⟩) (by first | (simp; done) | (simp; omega) | omega) (.string ⟨#[]⟩)).far (p := ⟨w.heap.size + 1 + 1 + 1, 0, none⟩) (by first | (simp; done) | (simp; omega) | omega) (.bool false)).cell 0
    have c1 := (((HF1.out.far (p := ⟨w.heap.size + 1, 0, none⟩) (by first | (simp; done) | (simp; omega) | omega) (.slice none 0 0)).set_ 0 (.string ⟨#[]⟩)).far (p := ⟨w.heap.size + 1 + 1 + 1, 0, none⟩) (by first | (simp; done) | (simp; omega) | omega) (.bool false)).cell 0
    have c2 := (((HG1.out.far (p := ⟨w.heap.size + 1, 0, none⟩) (by first | (simp; done) | (simp; omega) | omega) (.slice none 0 0)).far (p := ⟨w.heap.size + 1 + 1, 0, none⟩) (by first | (simp; done) | (simp; omega) | omega) (.string ⟨#[]⟩)).set_ 0 (.bool false)).cell 0
    have b4 := ((b1.setCell (p := ⟨w.heap.size + 1, 0, none⟩) (by first | (simp; done) | (simp; omega) | omega) (.slice none 0 0)).setCell (p := ⟨w.heap.size + 1 + 1, 0, none⟩) (by first | (simp; done) | (simp; omega) | omega) (.string ⟨#[]⟩)).setCell (p := ⟨w.heap.size + 1 + 1 + 1, 0, none⟩) (by first | (simp; done) | (simp; omega) | omega) (.bool false)
    refine ⟨.tuple #[.slice none 0 0, .string ⟨#[]⟩, .bool false], ?_, .slice none 0 0, by rw [HF.out], by rw [HF.out]; exact World.ownsRow_nil _ _ _ _, b4⟩
    simp [results, Tryd.f53, go_sem, c0, c1, c2]
  · have HF : Hid (canRed k l s = true) := h1
    have hn12 : n ≤ 12 := by rw [← Hlen.out]; exact rulesOk_len (canRed_rules h1)
    clear h1
    have b2 := (b1.alloc b1.size (.cells #[.slice none 0 0] 43)).alloc (by have := b1.size; simp; omega) (.cells #[.string s] 9)
    have HB2 := Lib.hid ((HB1.out.alloc (.cells #[.slice none 0 0] 43)).alloc (.cells #[.string s] 9))
    clear q0 q1 ql
    obtain ⟨q0, q1, -, -, ql⟩ := HB2.out.two
    gi_wp2_with fail
    refine ⟨trivial, (callsIn_wide.2 (reduction_any k A n c s 0 _)).mono ?_⟩
    rintro e w3 ⟨rfl, hw3⟩
    gi_wp2_with fail
    clear q0 q1 ql
    have hsz : w3.heap.size = w1.heap.size + 5 := by rw [hw3]; simp
    have L3 : Blk w3 w1.heap.size 43 #[.slice none 0 0] := by rw [hw3]; exact ((((Blk.new1 w1 #[.slice none 0 0] 43).alloc _).alloc _).alloc _).alloc _
    have F3 : Blk w3 (w1.heap.size + 1) 9 #[.string s] := by rw [hw3]; exact (((Blk.new2 w1 _ #[.string s] 9).alloc _).alloc _).alloc _
    have b3 : Below w.heap.size w w3 := by rw [hw3]; exact b2.trans ((bel3 _ _ _ _).mono b2.size)
    have b13 : Below w1.heap.size w1 w3 := by rw [hw3]; exact (bel4 w1 _ _ _ _).alloc (by simp; omega) _
    have R3 : Blk w3 (w.heap.size + 1) 43 #[.slice none 0 0] := HR1.out.below b13 (by omega)
    have S3 : Blk w3 (w.heap.size + 1 + 1) 9 #[.string ⟨#[]⟩] := HF1.out.below b13 (by omega)
    have T3 : Blk w3 (w.heap.size + 1 + 1 + 1) 4 #[.bool false] := HG1.out.below b13 (by omega)
    have hS : SeqAt l s 0 (w1.heap.size + 1 + 1) (w1.heap.size + 1 + 1 + 1) (w1.heap.size + 1 + 1 + 2) (fun q => q < w3.heap.size ∧ q ≠ w1.heap.size ∧ q ≠ w1.heap.size + 1) w3 := by
      refine ⟨⟨k, A, n, c, B, ?_, HO.out.below b3, hn12, fun hn => ?_⟩, ?_, ?_, ⟨by omega, by omega, by omega⟩, ⟨by omega, by omega, by omega⟩, ⟨by omega, by omega, by omega⟩⟩
      · rw [hw3]; exact ((Blk.new3 _ _ _ _ _).alloc _).alloc _
      · have := (HO.out.blk_lt hn).2; exact ⟨by omega, by omega, by omega⟩
      · rw [hw3]; exact (Blk.new4 _ _ _ _ _ _).alloc _
      · rw [hw3]
        have := Blk.new1 ((((w1.alloc (.cells #[.slice none 0 0] 43)).alloc (.cells #[.string s] 9)).alloc (.cells #[.int .i64 k, .slice A n c] 32)).alloc (.cells #[.string s] 9)) #[.int .i64 0] 106
        simpa using this
    have e0 : ((((w1.alloc (.cells #[.slice none 0 0] 43)).alloc (.cells #[.string s] 9)).alloc (.cells #[.int .i64 k, .slice A n c] 32)).alloc (.cells #[.string s] 9)).alloc (.cells #[.int .i64 0] 106) = w3 := hw3.symm
    rw [e0]
    clear e0 hw3 b2 HB2 HR1 HF1 HG1 HB1 b13
    refine wpIn_rangeFunc_ownH rfl (by omega) (gf := 82) (lb := #[.pointer (some ⟨w1.heap.size + 1 + 1 + 1, 0, none⟩), .pointer (some ⟨w1.heap.size + 1 + 1, 0, none⟩), .pointer (some ⟨w1.heap.size + 1 + 1 + 2, 0, none⟩)]) rfl trivial (enters_of Tryd.func82 (by kernel_rfl) rfl)
      (reds_stops 5 (by omega) k l s 0 HF.out hsm _ _ _ _ w3 hS (fun _ h => h.1)) keeps_t (keeps_b (fun _ h => h.1)) (Below.refl _ _) (fun _ => rfl)
      (fun pre W => (w3.heap.size ≤ W.heap.size ∧ pre.length ≤ 200 ∧ (∃ v, Blk W w1.heap.size 43 #[v] ∧ W.ownsRow w3.heap.size 34 3 v pre.length (linksC (lksOf pre))) ∧ Blk W (w1.heap.size + 1) 9 #[.string (lastOf s pre)] ∧ Blk W (w.heap.size + 1) 43 #[.slice none 0 0] ∧ Blk W (w.heap.size + 1 + 1) 9 #[.string ⟨#[]⟩] ∧ Blk W (w.heap.size + 1 + 1 + 1) 4 #[.bool false]) ∧ Below w.heap.size w W)
      (fun c pre W => (c = .ret ∧ 200 < pre.length ∧ Blk W (w.heap.size + 1) 43 #[.slice none 0 0] ∧ Blk W (w.heap.size + 1 + 1) 9 #[.string ⟨#[]⟩] ∧ Blk W (w.heap.size + 1 + 1 + 1) 4 #[.bool false]) ∧ Below w.heap.size w W)
      (OwnFrom.and (fun _ _ _ _ h hg hr => by
        obtain ⟨h1, h2, ⟨v, h3, h4⟩, h5, h6, h7, h8⟩ := h
        exact ⟨Nat.le_trans h1 hg.size, h2, ⟨v, blk_kept h3 hg (fun r e => (hr r e).2), row_kept h4 hg (fun r e => (hr r e).2)⟩, blk_kept h5 hg (fun r e => (hr r e).2), blk_kept h6 hg (fun r e => (hr r e).2), blk_kept h7 hg (fun r e => (hr r e).2), blk_kept h8 hg (fun r e => (hr r e).2)⟩) (ownFrom_below (Nat.le_refl _) (by omega)))
      (fun c => OwnFrom.and (fun _ _ _ _ h hg hr => ⟨h.1, h.2.1, blk_kept h.2.2.1 hg (fun r e => (hr r e).2), blk_kept h.2.2.2.1 hg (fun r e => (hr r e).2), blk_kept h.2.2.2.2 hg (fun r e => (hr r e).2)⟩) (ownFrom_below (Nat.le_refl _) (by omega)))
      ⟨⟨Nat.le_refl _, Nat.zero_le _, ⟨_, L3, World.ownsRow_nil _ _ _ _⟩, F3, R3, S3, T3⟩, b3⟩
      (fun x a' W => ∃ Bx, w3.heap.size ≤ Bx ∧ Blk W Bx 102 #[.int .i64 x.1.1, .int .i64 x.1.2] ∧ a' = { tmps := #[.agg #[.int .i64 k, .slice A n c], .string s, .pointer (some ⟨w.heap.size, 0, none⟩), undef, .pointer (some ⟨w.heap.size + 1, 0, none⟩), .pointer (some ⟨w.heap.size + 1 + 1, 0, none⟩), .pointer (some ⟨w.heap.size + 1 + 1 + 1, 0, none⟩), .pointer (some ⟨w1.heap.size, 0, none⟩), .pointer (some ⟨w1.heap.size + 1, 0, none⟩), .pointer (some ⟨Bx, 0, none⟩), .string x.2, .agg #[.int .i64 k, .slice A n c], .string s, .bool true, .bool false, .string s, .agg #[.int .i64 k, .slice A n c], .string s, .func (.func 82) #[] #[.pointer (some ⟨w1.heap.size + 1 + 1 + 1, 0, none⟩), .pointer (some ⟨w1.heap.size + 1 + 1, 0, none⟩), .pointer (some ⟨w1.heap.size + 1 + 1 + 2, 0, none⟩)], stepV x.1, .string x.2, undef, undef, undef, undef, undef, undef, undef, undef, undef, undef, undef, undef, undef, undef], defers := [] })
      (fun x a' _ _ _ _ h hg hr => by obtain ⟨Bx, h1, h2, h3⟩ := h; exact ⟨Bx, h1, blk_kept h2 hg (fun r e => (hr r e).2), h3⟩)
      ?assign ?body ?done ?stop
    case assign =>
      rintro lp pre x W K ⟨⟨hws, h200, ⟨v, h2, h3⟩, h5, h6, h7, h8⟩, h4⟩ hK
      gi_wp2_with fail
      have hWs := h4.size
      have b := bel1 W (.cells #[.int .i64 x.1.1, .int .i64 x.1.2] 102)
      exact hK _ _ (keepsFrom_below b) (keeps_of b (fun q hq => by have := hq.1; omega)) ⟨⟨by simp; omega, h200, ⟨v, h2.alloc _, h3.alloc _⟩, h5.alloc _, h6.alloc _, h7.alloc _, h8.alloc _⟩, h4.trans (b.mono hWs)⟩ ⟨W.heap.size, by omega, Blk.new1 _ _ _, rfl⟩
    case body =>
      rintro lp pre x a' W hl hr ⟨⟨hws, h200, ⟨v, h2, h3⟩, h5, h6, h7, h8⟩, h4⟩ ⟨Bx, hB, hX, rfl⟩ hlt
      obtain ⟨x0, x1, -, -, xl⟩ := hX.two
      have z0 := h2.cell 0
      obtain ⟨Av, cv, hv⟩ := (Own.of_row h3).form
      subst hv
      by_cases hbig : pre.length = 200
      · have hb' : ((pre.length : Int) == 200) = true := by rw [hbig]; rfl
        have r0 := h6.cell 0
        have rf0 := h6.frozen 0
        have r1 := h7.cell 0
        have rf1 := h7.frozen 0
        have r2 := h8.cell 0
        have rf2 := h8.frozen 0
        gi_wp2_with fail
        refine ⟨(((KeepsOthers.setCell _ _ _).trans (KeepsOthers.setCell _ _ _)).trans (KeepsOthers.setCell _ _ _)).from _, ⟨rfl, by simp; omega, ?_, ?_, ?_⟩, ?_⟩
        · exact ((h6.set_ 0 (.slice none 0 0)).far (by first | (simp; done) | (simp; omega) | omega) _).far (by first | (simp; done) | (simp; omega) | omega) _
        · exact ((h7.far (by first | (simp; done) | (simp; omega) | omega) _).set_ 0 (.string ⟨#[]⟩)).far (by first | (simp; done) | (simp; omega) | omega) _
        · exact ((h8.far (by first | (simp; done) | (simp; omega) | omega) _).far (by first | (simp; done) | (simp; omega) | omega) _).set_ 0 (.bool false)
        · exact ((h4.setCell (by first | (simp; done) | (simp; omega) | omega) _).setCell (by first | (simp; done) | (simp; omega) | omega) _).setCell (by first | (simp; done) | (simp; omega) | omega) _
      · have hb' : ((pre.length : Int) == 200) = false := by simp; omega
        gi_wp2_with (gi_at_builtin; refine wpListIn_append_own _ rfl _ _ 43 rfl w3.heap.size 34 i0 (.agg #[.int .i64 0, .int .i64 0, .bool false]) 3 24 Tryd.underlying43 hi hz0 hz1 hz2 rfl (by decide) _ _ _ rfl (h3.alloc _) ⟨W.heap.size, 0, none⟩ 1 1 [.int .i64 x.1.1, .int .i64 x.1.2, .bool false] rfl rfl ?c1 ?c2 ?c3 ?c4 ?c5 ?_)
        case c1 =>
          intro j u hj
          match j, hj with
          | 0, hj => simp at hj; subst hj; simp [Addr.add]
          | 1, hj => simp at hj; subst hj; simp [Addr.add]
          | 2, hj => simp at hj; subst hj; simp [Addr.add]
        case c2 => intro u hu; simp at hu; rcases hu with rfl | rfl | rfl <;> rfl
        case c3 => unfold maxLen; omega
        case c4 => omega
        case c5 => simp; omega
        intro v' w6 hown' hgrow _
        have hown2 : w6.ownsRow w3.heap.size 34 3 v' (pre.length + 1) (linksC (lksOf (pre ++ [x]))) := by
          rw [lksOf_snoc, linksC_append, hsz]
          exact hown'
        obtain ⟨r1, r2, r3, r4, r5, r6⟩ := box_appended (D := fun q => q < w3.heap.size ∧ q ≠ w1.heap.size ∧ q ≠ w1.heap.size + 1) h2 (by omega) hws h3 hown2 hgrow (fun q hq => ⟨hq.1, hq.2.1⟩)
        obtain ⟨g4, o4, c4, hv4⟩ := (Own.of_row hown2).formR (by omega)
        subst hv4
        have hold : ∀ d, d < w3.heap.size → w6.heap[d]? = W.heap[d]? := fun d hd => grown_block h3 hgrow hd hws
        have g5 : Blk w6 (w1.heap.size + 1) 9 #[.string (lastOf s pre)] := (hold _ (by omega)).trans h5
        have g6 : Blk w6 (w.heap.size + 1) 43 #[.slice none 0 0] := (hold _ (by omega)).trans h6
        have g7 : Blk w6 (w.heap.size + 1 + 1) 9 #[.string ⟨#[]⟩] := (hold _ (by omega)).trans h7
        have g8 : Blk w6 (w.heap.size + 1 + 1 + 1) 4 #[.bool false] := (hold _ (by omega)).trans h8
        have y0 := r1.cell 0
        have yf := r1.frozen 0
        have k5 := g5.far (p := ⟨w1.heap.size, 0, none⟩) (by first | (simp; done) | (simp; omega) | omega) (.slice (some ⟨g4, o4, none⟩) (pre.length + 1) c4)
        have u0 := k5.cell 0
        have uf := k5.frozen 0
        gi_wp2_with fail
        refine ⟨(r4.trans (KeepsOthers.setCell _ _ _)).from _, r5.trans ⟨by simp [World.size_setCell], fun j hj => Below.heap_setCell _ _ _ _ hj.2.2⟩, ⟨by have := r6.size; simp [World.size_setCell] at this ⊢; omega, by rw [List.length_append]; simp; omega, ⟨_, r2.far (by first | (simp; done) | (simp; omega) | omega) _, ?_⟩, ?_, ?_, ?_, ?_⟩, ?_⟩
        · rw [List.length_append]
          exact r3.kept (grownBy_setCell' _ (w1.heap.size + 1) (.string x.2)) (.inr (fun e => by have h1 := (r3.lt _ e).1; omega))
        · rw [lastOf_snoc]; exact k5.set_ 0 (.string x.2)
        · exact (g6.far (by first | (simp; done) | (simp; omega) | omega) _).far (by first | (simp; done) | (simp; omega) | omega) _
        · exact (g7.far (by first | (simp; done) | (simp; omega) | omega) _).far (by first | (simp; done) | (simp; omega) | omega) _
        · exact (g8.far (by first | (simp; done) | (simp; omega) | omega) _).far (by first | (simp; done) | (simp; omega) | omega) _
        · exact (h4.trans (r6.mono (by omega))).setCell (by first | (simp; done) | (simp; omega) | omega) _
    case done =>
      rintro D ys W hD rfl ⟨⟨hws, h200, ⟨v, h2, h3⟩, h5, h6, h7, h8⟩, h4⟩ hK
      obtain ⟨Av, cv, hv⟩ := (Own.of_row h3).form
      subst hv
      have z0 := h2.cell 0
      have z1 := h5.cell 0
      have r0 := h6.cell 0
      have rf0 := h6.frozen 0
      have r1 := h7.cell 0
      have rf1 := h7.frozen 0
      have r2 := h8.cell 0
      have rf2 := h8.frozen 0
      gi_wp2_with fail
      gi_region
      gi_wp2_with fail
      obtain ⟨NR, hNR⟩ : ∃ NR, redsOf l 0 s = NR := ⟨_, rfl⟩
      have HV : toFormS k l s = ((traceOf l s).map linkOf, formOf l 0 s, true) := by
        rw [toFormS, HF.out, decide_eq_true (by rw [traceOf, List.length_map]; exact h200)]; rfl
      have hfo : lastOf s (redsOf l 0 s) = formOf l 0 s := rfl
      have htr : (traceOf l s).length = (redsOf l 0 s).length := by rw [traceOf, List.length_map]
      have hlk : lksOf (redsOf l 0 s) = (traceOf l s).map linkOf := by rw [lksOf, firsts, traceOf]
      have hws0 := h4.size
      have hK' := (((KeepsOthers.setCell W ⟨w.heap.size + 1, 0, none⟩ (.slice Av (redsOf l 0 s).length cv)).trans (KeepsOthers.setCell _ ⟨w.heap.size + 1 + 1, 0, none⟩ (.string (lastOf s (redsOf l 0 s))))).trans (KeepsOthers.setCell _ ⟨w.heap.size + 1 + 1 + 1, 0, none⟩ (.bool true))).same D _ hK rfl
      have h6' : Blk _ (w.heap.size + 1) 43 #[.slice Av (redsOf l 0 s).length cv] := ((h6.set_ 0 (.slice Av (redsOf l 0 s).length cv)).far (p := ⟨w.heap.size + 1 + 1, 0, none⟩) (by first | (simp; done) | (simp; omega) | omega) (.string (lastOf s (redsOf l 0 s)))).far (p := ⟨w.heap.size + 1 + 1 + 1, 0, none⟩) (by first | (simp; done) | (simp; omega) | omega) (.bool true)
      have h7' : Blk _ (w.heap.size + 1 + 1) 9 #[.string (lastOf s (redsOf l 0 s))] := ((h7.far (p := ⟨w.heap.size + 1, 0, none⟩) (by first | (simp; done) | (simp; omega) | omega) (.slice Av (redsOf l 0 s).length cv)).set_ 0 (.string (lastOf s (redsOf l 0 s)))).far (p := ⟨w.heap.size + 1 + 1 + 1, 0, none⟩) (by first | (simp; done) | (simp; omega) | omega) (.bool true)
      have h8' : Blk _ (w.heap.size + 1 + 1 + 1) 4 #[.bool true] := ((h8.far (p := ⟨w.heap.size + 1, 0, none⟩) (by first | (simp; done) | (simp; omega) | omega) (.slice Av (redsOf l 0 s).length cv)).far (p := ⟨w.heap.size + 1 + 1, 0, none⟩) (by first | (simp; done) | (simp; omega) | omega) (.string (lastOf s (redsOf l 0 s)))).set_ 0 (.bool true)
      have h3' := row_far (row_far (row_far h3 (d := w.heap.size + 1) (by omega) (.slice Av (redsOf l 0 s).length cv)) (d := w.heap.size + 1 + 1) (by omega) (.string (lastOf s (redsOf l 0 s)))) (d := w.heap.size + 1 + 1 + 1) (by omega) (.bool true)
      have h4' := (((h4.setCell (p := ⟨w.heap.size + 1, 0, none⟩) (by first | (simp; done) | (simp; omega) | omega) (.slice Av (redsOf l 0 s).length cv)).setCell (p := ⟨w.heap.size + 1 + 1, 0, none⟩) (by first | (simp; done) | (simp; omega) | omega) (.string (lastOf s (redsOf l 0 s)))).setCell (p := ⟨w.heap.size + 1 + 1 + 1, 0, none⟩) (by first | (simp; done) | (simp; omega) | omega) (.bool true))
      have hsX : ((W.setCell ⟨w.heap.size + 1, 0, none⟩ (.slice Av (redsOf l 0 s).length cv)).setCell ⟨w.heap.size + 1 + 1, 0, none⟩ (.string (lastOf s (redsOf l 0 s)))).setCell ⟨w.heap.size + 1 + 1 + 1, 0, none⟩ (.bool true) = ((W.setCell ⟨w.heap.size + 1, 0, none⟩ (.slice Av (redsOf l 0 s).length cv)).setCell ⟨w.heap.size + 1 + 1, 0, none⟩ (.string (lastOf s (redsOf l 0 s)))).setCell ⟨w.heap.size + 1 + 1 + 1, 0, none⟩ (.bool true) := rfl
      generalize ((W.setCell ⟨w.heap.size + 1, 0, none⟩ (.slice Av (redsOf l 0 s).length cv)).setCell ⟨w.heap.size + 1 + 1, 0, none⟩ (.string (lastOf s (redsOf l 0 s)))).setCell ⟨w.heap.size + 1 + 1 + 1, 0, none⟩ (.bool true) = X at *
      have hKd : X.drew.heap[D]? = some (.deferred (some [])) := hK'
      have h4d : Below w.heap.size w X.drew := h4'.drew
      refine ⟨by simp, .inl ⟨_, _, rfl, run_takeDeferred hKd, ?_⟩⟩
      have c0 := (blk_kept (W := X.drew) h6' (grownBy_putObj' _ D (.deferred none)) (fun r e => by cases e; exact ⟨_, hKd, rfl⟩)).cell 0
      have c1 := (blk_kept (W := X.drew) h7' (grownBy_putObj' _ D (.deferred none)) (fun r e => by cases e; exact ⟨_, hKd, rfl⟩)).cell 0
      have c2 := (blk_kept (W := X.drew) h8' (grownBy_putObj' _ D (.deferred none)) (fun r e => by cases e; exact ⟨_, hKd, rfl⟩)).cell 0
      have c3 := row_kept (W := X.drew) h3' (grownBy_putObj' _ D (.deferred none)) (fun r e => by cases e; exact ⟨_, hKd, rfl⟩)
      refine ⟨.tuple #[.slice Av (redsOf l 0 s).length cv, .string (lastOf s (redsOf l 0 s)), .bool true], ?_, .slice Av (redsOf l 0 s).length cv, by rw [HV]; rfl, ?_, h4d.trans (belowK_b (w := w) (Nat.le_refl _) _ D _ _ (by omega) hKd rfl rfl)⟩
      · simp [results, Tryd.f53, go_sem, c0, c1, c2]
      · rw [HV]; dsimp only; rw [List.length_map, htr, ← hlk]; exact row_mono c3 (by omega)
    case stop =>
      rintro D c pre W hD hpre ⟨⟨rfl, h200, h6, h7, h8⟩, h4⟩ hK
      gi_wp2_with fail
      have HN : toFormS k l s = ([], ⟨#[]⟩, false) := by
        obtain ⟨r, hr⟩ := hpre
        rw [toFormS, HF.out, decide_eq_false (by rw [traceOf, List.length_map, ← hr, List.length_append]; omega)]; rfl
      refine ⟨by simp, .inl ⟨_, _, rfl, run_takeDeferred hK, ?_⟩⟩
      have c0 := (blk_kept h6 (grownBy_putObj' _ D (.deferred none)) (fun r e => by cases e; exact ⟨_, hK, rfl⟩)).cell 0
      have c1 := (blk_kept h7 (grownBy_putObj' _ D (.deferred none)) (fun r e => by cases e; exact ⟨_, hK, rfl⟩)).cell 0
      have c2 := (blk_kept h8 (grownBy_putObj' _ D (.deferred none)) (fun r e => by cases e; exact ⟨_, hK, rfl⟩)).cell 0
      refine ⟨.tuple #[.slice none 0 0, .string ⟨#[]⟩, .bool false], ?_, .slice none 0 0, by rw [HN], by rw [HN]; exact World.ownsRow_nil _ _ _ _, h4.trans (belowK_b (w := w) (Nat.le_refl _) _ D _ _ (by omega) hK rfl rfl)⟩
      simp [results, Tryd.f53, go_sem, c0, c1, c2]
end Go.Proofs.YtddifhbjjiphiaaDoor
