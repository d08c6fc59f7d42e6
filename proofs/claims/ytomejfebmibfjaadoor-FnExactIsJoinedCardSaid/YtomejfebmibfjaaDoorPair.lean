/- Pairs (a string and two steps): how they lie; the laws' szPair, toPair; arguments that are pairs. -/
import Derived.Test.YtomejfebmibfjaaDoorArgsStep
import Derived.Deep.Strs
namespace Go.Proofs.YtomejfebmibfjaaDoor
open Go.RowKit Go.WideShapes Go.ChangeShapes Go.Joins Go.Deep

abbrev PA := ByteArray × ST × ST
abbrev pairV (p : PA) : Value := .agg #[.string p.1, .int .i64 p.2.1.1, .int .i64 p.2.1.2, .int .i64 p.2.2.1, .int .i64 p.2.2.2]
theorem array5 {α : Type} {cs : Array α} (h : cs.size = 5) : ∃ c0 c1 c2 c3 c4, cs = #[c0, c1, c2, c3, c4] := by
  obtain ⟨l⟩ := cs
  match l, h with
  | [c0, c1, c2, c3, c4], _ => exact ⟨c0, c1, c2, c3, c4, rfl⟩
section
variable {H : Type} {enc : TypeId × Value → H} {P : Program} {w : World}
theorem open_pair {r : Reach} {b0 : Nat} {t : TypeId} {g0 g1 g2 f0 f1 : Field} {v : Value} {d : DataW H} {ps : List MemPlace} (ht : P.underlying t = some (.struct #[g0, g1, g2])) (hoff : (g0.offset, g1.offset, g2.offset) = (0, 1, 3)) (hcl : (P.cellsOf g0.type, P.cellsOf g1.type, P.cellsOf g2.type, P.cellsOf t) = (1, 2, 2, 5))
    (s0 : P.underlying g0.type = some .string) (e1 : P.underlying g1.type = some (.struct #[f0, f1])) (e2 : P.underlying g2.type = some (.struct #[f0, f1])) (hone : oneCellFields P #[f0, f1] = true)
    (i0 : P.underlying f0.type = some (.int .i64)) (i1 : P.underlying f1.type = some (.int .i64))
    (hval : Value.okWide P w r b0 t v) (hd : DataW.Trod enc P w 0 (fun _ => true) true t v d ps) : ∃ s a b a' b', v = .agg #[.string s, .int .i64 a, .int .i64 b, .int .i64 a', .int .i64 b'] ∧ s.size ≤ maxLen := by
  simp only [Prod.mk.injEq] at hoff hcl
  obtain ⟨o0, o1, o2⟩ := hoff
  obtain ⟨k0, k1, k2, k⟩ := hcl
  obtain ⟨cs, rfl, hsz⟩ := okWide_struct ht hval
  obtain ⟨c0, c1, c2, c3, c4, rfl⟩ := array5 (hsz.trans k)
  obtain ⟨fuel, hf⟩ := hd
  obtain ⟨y0, y1, y2, n, hx, _, h0, h1, h2⟩ := trod_struct3 ht hf
  rw [o0, k0] at h0
  rw [o1, k1] at h1
  rw [o2, k2] at h2
  obtain ⟨s, q, -, hs⟩ := DataW.trod_string s0 (by simpa [Value.cells] using h0 : DataW.trod enc P w 0 (fun _ => true) true n g0.type [c0] = some y0)
  obtain ⟨z0, z1, n1, -, -, t0, t1⟩ := trod_struct2 e1 (by simpa [Value.cells] using h1 : DataW.trod enc P w 0 (fun _ => true) true n g1.type [c1, c2] = some y1)
  obtain ⟨z2, z3, n2, -, -, t2, t3⟩ := trod_struct2 e2 (by simpa [Value.cells] using h2 : DataW.trod enc P w 0 (fun _ => true) true n g2.type [c3, c4] = some y2)
  obtain ⟨p0, j0⟩ := hone_of hone 0 f0 rfl
  obtain ⟨p1, j1⟩ := hone_of hone 1 f1 rfl
  obtain ⟨a, qa, -, -⟩ := DataW.trod_int i0 (by simpa [p0, j0] using t0 : DataW.trod enc P w 0 (fun _ => true) true n1 f0.type [c1] = some z0)
  obtain ⟨b, qb, -, -⟩ := DataW.trod_int i1 (by simpa [p1, j1] using t1 : DataW.trod enc P w 0 (fun _ => true) true n1 f1.type [c2] = some z1)
  obtain ⟨a', qa', -, -⟩ := DataW.trod_int i0 (by simpa [p0, j0] using t2 : DataW.trod enc P w 0 (fun _ => true) true n2 f0.type [c3] = some z2)
  obtain ⟨b', qb', -, -⟩ := DataW.trod_int i1 (by simpa [p1, j1] using t3 : DataW.trod enc P w 0 (fun _ => true) true n2 f1.type [c4] = some z3)
  simp only [List.cons.injEq, and_true] at q qa qb qa' qb'
  subst q qa qb qa' qb'
  exact ⟨s, a, b, a', b', rfl, hs⟩
end
set_option maxHeartbeats 400000 in
theorem szPair_any (s : ByteArray) (a b a' b' : Int) (left : Nat) (w : World) (hs : s.size ≤ maxLen) (hl : left ≤ 1048576) :
    Calls Tryd.prog 19 #[pairV (s, (a, b), (a', b')), .int .i64 left] w fun e w' => ∃ q : Int, e = .returned (.int .i64 q) ∧ SzPost q s.size left ∧ Below w.heap.size w w' := by
  unfold maxLen at hs
  by_cases h : left < s.size
  · go_enter Tryd.func19, Tryd.ntmps19
    go_wp2
    go_ret
    exact ⟨-1, rfl, Or.inl rfl, bel1 _ _⟩
  · go_enter Tryd.func19, Tryd.ntmps19
    go_wp2
    go_ret
    exact ⟨(left : Int) - s.size, rfl, Or.inr ⟨by omega, by omega⟩, bel1 _ _⟩
theorem Blk.five {w : World} {g : Nat} {t : TypeId} {a b c d e : Value} (h : Blk w g t #[a, b, c, d, e]) :
    w.cell? ⟨g, 0, none⟩ = some a ∧ w.cell? ⟨g, 1, none⟩ = some b ∧ w.cell? ⟨g, 2, none⟩ = some c ∧ w.cell? ⟨g, 3, none⟩ = some d ∧ w.cell? ⟨g, 4, none⟩ = some e ∧
      w.frozen? ⟨g, 0, none⟩ = false ∧ w.frozen? ⟨g, 1, none⟩ = false ∧ w.frozen? ⟨g, 2, none⟩ = false ∧ w.frozen? ⟨g, 3, none⟩ = false ∧ w.frozen? ⟨g, 4, none⟩ = false ∧ g < w.heap.size :=
  ⟨h.cell 0, h.cell 1, h.cell 2, h.cell 3, h.cell 4, h.frozen 0, h.frozen 1, h.frozen 2, h.frozen 3, h.frozen 4, h.lt⟩
set_option maxHeartbeats 1600000 in
theorem toPair_any (p : PA) (w : World) :
    Calls Tryd.prog 21 #[pairV p] w fun e w' => e = .returned (pairV p) ∧ Below w.heap.size w w' := by
  obtain ⟨s, ⟨a, b⟩, a', b'⟩ := p
  go_enter Tryd.func21, Tryd.ntmps21
  go_wp2_with fail
  refine (toStep_any a b _).mono ?_
  rintro e w1 ⟨rfl, hb1⟩
  have R1 := Lib.hid (((Blk.new2 w _ _ _).alloc _).below hb1 (by simp))
  have X1 := Lib.hid ((Blk.new3 w _ _ _ _).below hb1 (by simp))
  have A1 := Lib.hid ((((Blk.new1 w _ _).alloc _).alloc _).below hb1 (by simp; omega))
  have b1 := (bel3 w _ _ _).trans (hb1.mono (by simp; omega))
  clear hb1
  obtain ⟨c0, c1, c2, c3, c4, f0, f1, f2, f3, f4, l0⟩ := X1.out.five
  obtain ⟨d0, d1, d2, d3, d4, -, -, -, -, -, -⟩ := A1.out.five
  go_wp2_with fail
  refine (toStep_any a' b' _).mono ?_
  rintro e w2 ⟨rfl, hb2⟩
  have l1 := b1.size
  simp only [World.size_setCell] at hb2
  have X2 := Lib.hid (((X1.out.set_ 1 (.int .i64 a)).set_ 2 (.int .i64 b)).below hb2 (by simpa using X1.out.lt))
  have R2 := Lib.hid (((R1.out.far (by simp) (.int .i64 a)).far (by simp) (.int .i64 b)).below hb2 (by simpa using R1.out.lt))
  have b2 := ((b1.setCell (p := ⟨w.heap.size + 1 + 1, 1, none⟩) (by simp; omega) (.int .i64 a)).setCell (p := ⟨w.heap.size + 1 + 1, 2, none⟩) (by simp; omega) (.int .i64 b)).trans (hb2.mono l1)
  clear hb2 b1 c0 c1 c2 c3 c4 f0 f1 f2 f3 f4 l0 d0 d1 d2 d3 d4 A1 R1 X1 l1
  obtain ⟨c0, c1, c2, c3, c4, f0, f1, f2, f3, f4, l0⟩ := X2.out.five
  obtain ⟨d0, d1, d2, d3, d4, g0, g1, g2, g3, g4, l1⟩ := R2.out.five
  have hb := Lib.hid b2
  clear b2
  go_wp2_with fail
  refine bodyPost_ret (v := pairV (s, (a, b), a', b')) (by simp [results, Tryd.results21, go_sem, *]) rfl ⟨rfl, ?_⟩
  exact (((((((hb.out.setCell (by simp; omega) _).setCell (by simp; omega) _).setCell (by simp) _).setCell (by simp) _).setCell (by simp) _).setCell (by simp) _).setCell (by simp) _)
end Go.Proofs.YtomejfebmibfjaaDoor
