/- The first step from a side: nextStep. -/
import Derived.Test.YtddifhbjjiphiaaDoorStepsFrom
namespace Go.Proofs.YtddifhbjjiphiaaDoor
open Go.RowKit Go.Shelf
attribute [local go_sem] Oper.semAt_some

theorem blk_kept {W W' : World} {row : Option Nat} {g : Nat} {t : TypeId} {cs : Array Value} (h : Blk W g t cs) (hg : W.grownBy W' row) (hr : ∀ r, row = some r → ∃ o : Obj, W.heap[r]? = some o ∧ o.isCells = false) : Blk W' g t cs :=
  (hg.block g h.lt (fun e => by obtain ⟨o, ho, hc⟩ := hr g e.symm; unfold Blk at h; rw [h] at ho; cases ho; cases hc)).trans h
theorem keepsFrom_below {B : Nat} {W W' : World} (h : Below W.heap.size W W') : KeepsFrom B W W' := KeepsFrom.of_grownBy (grown_of_below h) (fun _ e => by cases e)

set_option maxRecDepth 100000 in
set_option maxHeartbeats 2000000 in
theorem nextStep_any (k : Int) (A : Option Addr) (n c B : Nat) (l : List R) (s : ByteArray) (d : Int) (w : World) (hs : s.size ≤ 1048576) (hn12 : n ≤ 12) (hO : Own B w (.slice A n c) 2 n (rulesC l)) :
    Calls Tryd.prog 83 #[.agg #[.int .i64 k, .slice A n c], .string s, .int .i64 d] w fun e w' =>
      e = .returned (.tuple #[stepV ((stepsD l s d).head?.getD (0, 0)), .bool (stepsD l s d).head?.isSome]) ∧ Below w.heap.size w w' := by
  refine (callsIn_wide (n := 6)).1 ?_
  refine callsIn_of_wp_marks Tryd.func83 rfl trivial ?_ rfl
  simp only [Tryd.ntmps83, List.size_toArray, List.length_cons, List.length_nil, Nat.reduceAdd, Nat.reduceSub, Array.replicate_succ, Array.replicate_zero, List.push_toArray, List.append_toArray, List.nil_append, List.cons_append]
  gi_wp2_with fail
  refine ⟨trivial, (callsIn_wide.2 (stepsFrom_any k A n c s d _)).mono ?_⟩
  rintro e w1 ⟨rfl, hw1⟩
  gi_wp2_with fail
  have hsz : w1.heap.size = w.heap.size + 6 := by rw [hw1]; simp
  have R1 : Blk w1 (w.heap.size + 1) 102 #[.int .i64 0, .int .i64 0] := by rw [hw1]; exact ((((Blk.new2 _ _ _ _).alloc _).alloc _).alloc _).alloc _
  have R2 : Blk w1 (w.heap.size + 1 + 1) 4 #[.bool false] := by rw [hw1]; exact (((Blk.new3 _ _ _ _ _).alloc _).alloc _).alloc _
  have b1 : Below w.heap.size w w1 := by rw [hw1]; exact ((bel4 w _ _ _ _).alloc (by simp; omega) _).alloc (by simp; omega) _
  have hS : SeqAt l s d (w.heap.size + 1 + 1 + 1) (w.heap.size + 1 + 1 + 1 + 1) (w.heap.size + 1 + 1 + 1 + 2) (· < w1.heap.size) w1 := by
    refine ⟨⟨k, A, n, c, B, ?_, hO.below b1, hn12, fun hn => ?_⟩, ?_, ?_, by show _ < _; omega, by show _ < _; omega, by show _ < _; omega⟩
    · rw [hw1]; exact ((Blk.new4 _ _ _ _ _ _).alloc _).alloc _
    · show _ < _; have := (hO.blk_lt hn).2; omega
    · rw [hw1]
      have := (Blk.new1 ((((w.alloc (.cells #[.int .i64 k, .slice A n c] 32)).alloc (.cells #[.int .i64 0, .int .i64 0] 102)).alloc (.cells #[.bool false] 4)).alloc (.cells #[.int .i64 k, .slice A n c] 32)) #[.string s] 9).alloc (.cells #[.int .i64 d] 106)
      simpa using this
    · rw [hw1]
      have := Blk.new1 (((((w.alloc (.cells #[.int .i64 k, .slice A n c] 32)).alloc (.cells #[.int .i64 0, .int .i64 0] 102)).alloc (.cells #[.bool false] 4)).alloc (.cells #[.int .i64 k, .slice A n c] 32)).alloc (.cells #[.string s] 9)) #[.int .i64 d] 106
      simpa using this
  have e0 : ((((((w.alloc (.cells #[.int .i64 k, .slice A n c] 32)).alloc (.cells #[.int .i64 0, .int .i64 0] 102)).alloc (.cells #[.bool false] 4)).alloc (.cells #[.int .i64 k, .slice A n c] 32)).alloc (.cells #[.string s] 9)).alloc (.cells #[.int .i64 d] 106)) = w1 := hw1.symm
  rw [e0]
  clear e0 hw1
  refine wpIn_rangeFunc_ownH rfl (by omega) (gf := 90) (lb := #[.pointer (some ⟨w.heap.size + 1 + 1 + 1 + 1, 0, none⟩), .pointer (some ⟨w.heap.size + 1 + 1 + 1 + 2, 0, none⟩), .pointer (some ⟨w.heap.size + 1 + 1 + 1, 0, none⟩)]) rfl trivial (enters_of Tryd.func90 (by kernel_rfl) rfl)
    (steps_stops 5 (by omega) l s d hs _ _ _ _ w1 hS (fun _ h => h)) keeps_t (keeps_b (fun _ h => h)) (Below.refl _ _) (fun _ => rfl)
    (fun pre W => (pre = [] ∧ w1.heap.size ≤ W.heap.size ∧ Blk W (w.heap.size + 1) 102 #[.int .i64 0, .int .i64 0] ∧ Blk W (w.heap.size + 1 + 1) 4 #[.bool false]) ∧ Below w.heap.size w W)
    (fun c pre W => (c = .ret ∧ (∃ x, pre = [x] ∧ Blk W (w.heap.size + 1) 102 #[.int .i64 x.1.1, .int .i64 x.1.2]) ∧ Blk W (w.heap.size + 1 + 1) 4 #[.bool true]) ∧ Below w.heap.size w W)
    (OwnFrom.and (fun _ _ _ _ h hg hr => ⟨h.1, Nat.le_trans h.2.1 hg.size, blk_kept h.2.2.1 hg (fun r e => (hr r e).2), blk_kept h.2.2.2 hg (fun r e => (hr r e).2)⟩) (ownFrom_below (Nat.le_refl _) (by omega)))
    (fun c => OwnFrom.and (fun _ _ _ _ h hg hr => ⟨h.1, by obtain ⟨x, hx, hb⟩ := h.2.1; exact ⟨x, hx, blk_kept hb hg (fun r e => (hr r e).2)⟩, blk_kept h.2.2 hg (fun r e => (hr r e).2)⟩) (ownFrom_below (Nat.le_refl _) (by omega)))
    ⟨⟨rfl, Nat.le_refl _, R1, R2⟩, b1⟩
    (fun x a' W => ∃ Bx, w1.heap.size ≤ Bx ∧ Blk W Bx 102 #[.int .i64 x.1.1, .int .i64 x.1.2] ∧ a' = { tmps := #[.agg #[.int .i64 k, .slice A n c], .string s, .int .i64 d, .pointer (some ⟨w.heap.size, 0, none⟩), undef, undef, .pointer (some ⟨w.heap.size + 1, 0, none⟩), .pointer (some ⟨w.heap.size + 1 + 1, 0, none⟩), .pointer (some ⟨Bx, 0, none⟩), .agg #[.int .i64 k, .slice A n c], .string s, .int .i64 d, .func (.func 90) #[] #[.pointer (some ⟨w.heap.size + 1 + 1 + 1 + 1, 0, none⟩), .pointer (some ⟨w.heap.size + 1 + 1 + 1 + 2, 0, none⟩), .pointer (some ⟨w.heap.size + 1 + 1 + 1, 0, none⟩)], stepV x.1, undef, undef], defers := [] })
    (fun x a' _ _ _ _ h hg hr => by obtain ⟨Bx, h1, h2, h3⟩ := h; exact ⟨Bx, h1, blk_kept h2 hg (fun r e => (hr r e).2), h3⟩)
    ?assign ?body ?done ?stop
  case assign =>
    rintro lp pre x W K ⟨⟨h1, hws, h2, h3⟩, h4⟩ hK
    gi_wp2_with fail
    have hWs := h4.size
    have b := bel1 W (.cells #[.int .i64 x.1.1, .int .i64 x.1.2] 102)
    exact hK _ _ (keepsFrom_below b) (keeps_of b (fun k (hk : k < _) => by omega)) ⟨⟨h1, by simp; omega, h2.alloc _, h3.alloc _⟩, h4.trans (b.mono hWs)⟩ ⟨W.heap.size, by omega, Blk.new1 _ _ _, rfl⟩
  case body =>
    rintro lp pre x a' W hl hr ⟨⟨rfl, hws, h2, h3⟩, h4⟩ ⟨Bx, hB, hX, rfl⟩ hlt
    obtain ⟨x0, x1, -, -, xl⟩ := hX.two
    obtain ⟨y0, y1, f0, f1, yl⟩ := h2.two
    have z0 := h3.cell 0
    have zf := h3.frozen 0
    gi_wp2_with fail
    refine ⟨(((KeepsOthers.setCell _ _ _).trans (KeepsOthers.setCell _ _ _)).trans (KeepsOthers.setCell _ _ _)).from _, ⟨rfl, ⟨x, rfl, ?_⟩, ?_⟩, ?_⟩
    · exact ((h2.set_ 0 (.int .i64 x.1.1)).set_ 1 (.int .i64 x.1.2)).far (by simp) _
    · exact ((h3.far (by simp) _).far (by simp) _).set_ 0 (.bool true)
    · exact ((h4.setCell (by simp) _).setCell (by simp) _).setCell (by simp; omega) _
  case done =>
    rintro D ys W hD hys ⟨⟨rfl, hws, h2, h3⟩, h4⟩ hK
    have He : (stepsD l s d) = [] := hys.symm
    obtain ⟨y0, y1, f0, f1, yl⟩ := h2.two
    have z0 := h3.cell 0
    have zf := h3.frozen 0
    gi_wp2_with fail
    have hK' := (((KeepsOthers.setCell W ⟨w.heap.size + 1, 0, none⟩ (.int .i64 0)).trans (KeepsOthers.setCell _ ⟨w.heap.size + 1, 1, none⟩ (.int .i64 0))).trans (KeepsOthers.setCell _ ⟨w.heap.size + 1 + 1, 0, none⟩ (.bool false))).same D _ hK rfl
    have h2' : Blk _ (w.heap.size + 1) 102 #[.int .i64 0, .int .i64 0] := ((h2.set_ 0 (.int .i64 0)).set_ 1 (.int .i64 0)).far (p := ⟨w.heap.size + 1 + 1, 0, none⟩) (by simp) (.bool false)
    have h3' : Blk _ (w.heap.size + 1 + 1) 4 #[.bool false] := ((h3.far (p := ⟨w.heap.size + 1, 0, none⟩) (by simp) (.int .i64 0)).far (p := ⟨w.heap.size + 1, 1, none⟩) (by simp) (.int .i64 0)).set_ 0 (.bool false)
    have h4' := ((h4.setCell (p := ⟨w.heap.size + 1, 0, none⟩) (by simp) (.int .i64 0)).setCell (p := ⟨w.heap.size + 1, 1, none⟩) (by simp) (.int .i64 0)).setCell (p := ⟨w.heap.size + 1 + 1, 0, none⟩) (by simp; omega) (.bool false)
    refine ⟨by simp, .inl ⟨_, _, rfl, run_takeDeferred hK', ?_⟩⟩
    obtain ⟨c0, c1, -, -, cl⟩ := (blk_kept h2' (grownBy_putObj' _ D (.deferred none)) (fun r e => by cases e; exact ⟨_, hK', rfl⟩)).two
    have c2 := (blk_kept h3' (grownBy_putObj' _ D (.deferred none)) (fun r e => by cases e; exact ⟨_, hK', rfl⟩)).cell 0
    refine ⟨.tuple #[stepV (0, 0), .bool false], ?_, by rw [He]; rfl, h4'.trans (belowK_b (w := w) (Nat.le_refl _) _ D _ _ (by omega) hK' rfl rfl)⟩
    simp [results, Tryd.f83, go_sem, c0, c1, c2]
  case stop =>
    rintro D c pre W hD hpre ⟨⟨rfl, ⟨x, rfl, h2⟩, h3⟩, h4⟩ hK
    gi_wp2_with fail
    refine ⟨by simp, .inl ⟨_, _, rfl, run_takeDeferred hK, ?_⟩⟩
    have He : (stepsD l s d).head? = some x.1 := by
      obtain ⟨r, hr⟩ := hpre
      rw [← hr]; rfl
    obtain ⟨c0, c1, -, -, cl⟩ := (blk_kept h2 (grownBy_putObj' _ D (.deferred none)) (fun r e => by cases e; exact ⟨_, hK, rfl⟩)).two
    have c2 := (blk_kept h3 (grownBy_putObj' _ D (.deferred none)) (fun r e => by cases e; exact ⟨_, hK, rfl⟩)).cell 0
    refine ⟨.tuple #[stepV x.1, .bool true], ?_, by rw [He]; rfl, h4.trans (belowK_b (w := w) (Nat.le_refl _) _ D _ _ (by omega) hK rfl rfl)⟩
    simp [results, Tryd.f83, go_sem, c0, c1, c2]
end Go.Proofs.YtddifhbjjiphiaaDoor
