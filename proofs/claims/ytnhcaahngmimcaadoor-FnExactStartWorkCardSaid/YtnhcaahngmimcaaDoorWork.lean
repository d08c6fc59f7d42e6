/- Works (a system, a queue of equations, a count of turns): how they lie; the laws' szWork, toWork, eqWork. -/
import Derived.Test.YtnhcaahngmimcaaDoorRulesOk
import Derived.Test.YtnhcaahngmimcaaDoorArgs
import Derived.Test.YtnhcaahngmimcaaDoorMarkRules
namespace Go.Proofs.YtnhcaahngmimcaaDoor
open Go.RowKit Go.WideShapes Go.ChangeShapes Go.Joins Go.Deep

abbrev workV (k : Int) (A : Option Addr) (n c : Nat) (Q : Option Addr) (m d : Nat) (t : Int) : Value := .agg #[.int .i64 k, .slice A n c, .slice Q m d, .int .i64 t]
theorem Blk.four {w : World} {g : Nat} {t : TypeId} {a b c d : Value} (h : Blk w g t #[a, b, c, d]) :
    w.cell? ⟨g, 0, none⟩ = some a ∧ w.cell? ⟨g, 1, none⟩ = some b ∧ w.cell? ⟨g, 2, none⟩ = some c ∧ w.cell? ⟨g, 3, none⟩ = some d ∧
      w.frozen? ⟨g, 0, none⟩ = false ∧ w.frozen? ⟨g, 1, none⟩ = false ∧ w.frozen? ⟨g, 2, none⟩ = false ∧ w.frozen? ⟨g, 3, none⟩ = false ∧ g < w.heap.size :=
  ⟨h.cell 0, h.cell 1, h.cell 2, h.cell 3, h.frozen 0, h.frozen 1, h.frozen 2, h.frozen 3, h.lt⟩
theorem array4 {α : Type} {cs : Array α} (h : cs.size = 4) : ∃ c0 c1 c2 c3, cs = #[c0, c1, c2, c3] := by
  obtain ⟨l⟩ := cs
  match l, h with
  | [c0, c1, c2, c3], _ => exact ⟨c0, c1, c2, c3, rfl⟩
section
variable {H : Type} {enc : TypeId × Value → H} {P : Program} {w : World}
theorem open_work {r : Reach} {b0 : Nat} {t e : TypeId} {g0 g1 g2 h0 h1 f0 f1 : Field} {v : Value} {d : DataW H} {ps : List MemPlace} (ht : P.underlying t = some (.struct #[g0, g1, g2])) (hoff : (g0.offset, g1.offset, g2.offset) = (0, 2, 3)) (hcl : (P.cellsOf g0.type, P.cellsOf g1.type, P.cellsOf g2.type, P.cellsOf t) = (2, 1, 1, 4))
    (e0 : P.underlying g0.type = some (.struct #[h0, h1])) (hone : oneCellFields P #[h0, h1] = true) (i0 : P.underlying h0.type = some (.int .i64)) (i1 : P.underlying h1.type = some (.slice e))
    (e1 : P.underlying g1.type = some (.slice e)) (e2 : P.underlying g2.type = some (.int .i64))
    (he : P.underlying e = some (.struct #[f0, f1])) (hone' : oneCellFields P #[f0, f1] = true) (hC' : P.cellsOf e = 2)
    (s0 : P.underlying f0.type = some .string) (s1 : P.underlying f1.type = some .string)
    (hval : Value.okWide P w r b0 t v) (hd : DataW.Trod enc P w 0 (fun _ => true) true t v d ps) : ∃ k A n c xs Q m d qs t, v = workV k A n c Q m d t ∧ InR w A n c xs ∧ InR w Q m d qs := by
  simp only [Prod.mk.injEq] at hoff hcl
  obtain ⟨o0, o1, o2⟩ := hoff
  obtain ⟨k0, k1, k2, kk⟩ := hcl
  obtain ⟨cs, rfl, hsz⟩ := okWide_struct ht hval
  obtain ⟨c0, c1, c2, c3, rfl⟩ := array4 (hsz.trans kk)
  obtain ⟨fuel, hf⟩ := hd
  obtain ⟨y0, y1, y2, nn, hx, _, u0, u1, u2⟩ := trod_struct3 ht hf
  rw [o0, k0] at u0
  rw [o1, k1] at u1
  rw [o2, k2] at u2
  obtain ⟨z0, z1, n1, -, -, t0, t1⟩ := trod_struct2 e0 (by simpa [Value.cells] using u0 : DataW.trod enc P w 0 (fun _ => true) true nn g0.type [c0, c1] = some y0)
  obtain ⟨p0, j0⟩ := hone_of hone 0 h0 rfl
  obtain ⟨p1, j1⟩ := hone_of hone 1 h1 rfl
  obtain ⟨a, qa, -, -⟩ := DataW.trod_int i0 (by simpa [p0, j0] using t0 : DataW.trod enc P w 0 (fun _ => true) true n1 h0.type [c0] = some z0)
  obtain ⟨A, n, c, xs, qb, I1⟩ := open_rules i1 he hone' hC' s0 s1 (by simpa [p1, j1] using t1 : DataW.trod enc P w 0 (fun _ => true) true n1 h1.type [c1] = some z1)
  obtain ⟨Q, m, d, qs, qc, I2⟩ := open_rules e1 he hone' hC' s0 s1 (by simpa [Value.cells] using u1 : DataW.trod enc P w 0 (fun _ => true) true nn g1.type [c2] = some y1)
  obtain ⟨tt, qd, -, -⟩ := DataW.trod_int e2 (by simpa [Value.cells] using u2 : DataW.trod enc P w 0 (fun _ => true) true nn g2.type [c3] = some y2)
  simp only [List.cons.injEq, and_true] at qa qd
  subst qa qb qc qd
  exact ⟨_, _, _, _, _, _, _, _, _, _, rfl, I1, I2⟩
end
set_option maxHeartbeats 400000 in
theorem szWork_any (k t : Int) (A Q : Option Addr) (n c m d : Nat) (xs qs : List R) (left : Nat) (w : World) (h : InR w A n c xs) (h' : InR w Q m d qs) (hl : left ≤ 1048576) :
    Calls Tryd.prog 33 #[workV k A n c Q m d t, .int .i64 left] w fun e w' => ∃ q : Int, e = .returned (.int .i64 q) ∧ SzPost q (n + rulesSz xs + (m + rulesSz qs)) left ∧ Below w.heap.size w w' := by
  have HI := Lib.hid (fun (w' : World) (hb : Below w.heap.size w w') => h.keep hb)
  have HI' := Lib.hid (fun (w' : World) (hb : Below w.heap.size w w') => h'.keep hb)
  clear h h'
  go_enter Tryd.func33, Tryd.ntmps33
  go_wp2_with fail
  refine (szSystem_any k A n c xs left _ (HI.out _ (bel1 _ _)) hl).mono ?_
  rintro e w1 ⟨q, rfl, hq, hb1⟩
  have b1 := (bel1 w _).trans (hb1.mono (by simp))
  have B1 := Lib.hid ((Blk.new1 w _ _).below hb1 (by simp))
  obtain ⟨q0, q1, q2, q3, -, -, -, -, ql⟩ := B1.out.four
  clear hb1
  by_cases hq0 : q < 0
  · go_wp2_with fail
    go_ret
    exact ⟨-1, rfl, Or.inl rfl, b1⟩
  obtain ⟨r, rfl⟩ : ∃ r : Nat, q = r := ⟨q.toNat, by omega⟩
  have Hq : Hid (r + (n + rulesSz xs) = left) := by rcases hq with h | h <;> (show _ = _; omega)
  have Hr : Hid (r ≤ 1048576) := by have := Hq.out; show _ ≤ _; omega
  clear hq
  go_wp2_with fail
  refine (szRuleS_any Q m d qs r _ (HI'.out _ b1) Hr.out).mono ?_
  rintro e w2 ⟨q', rfl, hq', hb2⟩
  have b2 := b1.trans (hb2.mono b1.size)
  clear hb2
  by_cases hq0' : q' < 0
  · go_wp2_with fail
    go_ret
    exact ⟨-1, rfl, Or.inl rfl, b2⟩
  · have Hq' : Hid (SzPost q' (n + rulesSz xs + (m + rulesSz qs)) left) := by have := Hq.out; exact Or.inr ⟨by omega, by rcases hq' with h | h <;> omega⟩
    clear hq'
    go_wp2_with fail
    go_ret
    exact ⟨q', rfl, Hq'.out, b2⟩
set_option maxHeartbeats 1600000 in
theorem toWork_any (k t : Int) (A Q : Option Addr) (n c m d : Nat) (xs qs : List R) (w : World) (h : InR w A n c xs) (h' : InR w Q m d qs) (hn : n ≤ 1048576) (hm : m ≤ 1048576) :
    Calls Tryd.prog 35 #[workV k A n c Q m d t] w fun e w' => ∃ A' c' Q' d', e = .returned (workV k A' n c' Q' m d' t) ∧ Own w.heap.size w' (.slice A' n c') 2 n (rulesC xs) ∧ Own w.heap.size w' (.slice Q' m d') 2 m (rulesC qs) ∧ (0 < n → 0 < m → blockOf A' ≠ blockOf Q') ∧ Below w.heap.size w w' := by
  have HI := Lib.hid (fun (w' : World) (hb : Below w.heap.size w w') => h.keep hb)
  have HI' := Lib.hid (fun (w' : World) (hb : Below w.heap.size w w') => h'.keep hb)
  clear h h'
  go_enter Tryd.func35, Tryd.ntmps35
  go_wp2_with fail
  refine (toSystem_any k A n c xs _ (HI.out _ (bel3 _ _ _ _)) hn).mono ?_
  rintro e w1 ⟨v1, rfl, o1, hb1⟩
  obtain ⟨A1, c1, rfl⟩ := o1.form
  have R1 := Lib.hid (((Blk.new2 w _ _ _).alloc _).below hb1 (by simp))
  have X1 := Lib.hid ((Blk.new3 w _ _ _ _).below hb1 (by simp))
  have P1 := Lib.hid ((((Blk.new1 w _ _).alloc _).alloc _).below hb1 (by simp; omega))
  have b1 := (bel3 w _ _ _).trans (hb1.mono (by simp; omega))
  have O1 := Lib.hid (o1.mono (show w.heap.size + 1 + 1 + 1 ≤ _ by simp))
  clear hb1 o1
  obtain ⟨c0, c2, c3, c4, f0, f1, f2, f3, l0⟩ := X1.out.four
  obtain ⟨d0, d1, d2, d3, -, -, -, -, l1⟩ := P1.out.four
  go_wp2_with fail
  have hB1 := (b1.setCell (p := ⟨w.heap.size + 1 + 1, 0, none⟩) (by simp; omega) (.int .i64 k)).setCell (p := ⟨w.heap.size + 1 + 1, 1, none⟩) (by simp; omega) (.slice A1 n c1)
  have hX1 := (X1.out.set_ 0 (.int .i64 k)).set_ 1 (.slice A1 n c1)
  have hR1 := (R1.out.far (p := ⟨w.heap.size + 1 + 1, 0, none⟩) (by simp) (.int .i64 k)).far (p := ⟨w.heap.size + 1 + 1, 1, none⟩) (by simp) (.slice A1 n c1)
  have hP1 := (P1.out.far (p := ⟨w.heap.size + 1 + 1, 0, none⟩) (by simp; omega) (.int .i64 k)).far (p := ⟨w.heap.size + 1 + 1, 1, none⟩) (by simp; omega) (.slice A1 n c1)
  have hO1 := (O1.out.far (p := ⟨w.heap.size + 1 + 1, 0, none⟩) (by simp) (.int .i64 k)).far (p := ⟨w.heap.size + 1 + 1, 1, none⟩) (by simp) (.slice A1 n c1)
  clear c0 c2 c3 c4 f0 f1 f2 f3 l0 d0 d1 d2 d3 l1 R1 X1 P1 O1 b1
  generalize (w1.setCell ⟨w.heap.size + 1 + 1, 0, none⟩ (.int .i64 k)).setCell ⟨w.heap.size + 1 + 1, 1, none⟩ (.slice A1 n c1) = w2 at *
  have hX2 : Hid (Blk w2 (w.heap.size + 1 + 1) 29 #[.int .i64 k, .slice A1 n c1, .slice none 0 0, .int .i64 0]) := hX1
  have hlx := hX1.lt
  have hlr := hR1.lt
  have hlp := hP1.lt
  clear hX1
  refine (toRuleS_any Q m d qs _ (HI'.out _ hB1) hm).mono ?_
  rintro e w3 ⟨v3, rfl, o3, hb3⟩
  obtain ⟨Q3, d3, rfl⟩ := o3.form
  have hne : 0 < n → 0 < m → blockOf A1 ≠ blockOf Q3 := fun hn hm => by have := (hO1.blk_lt hn).2; have := (o3.blk_lt hm).1; omega
  have X3 := Lib.hid (hX2.out.below hb3 (by omega))
  have R3 := Lib.hid (hR1.below hb3 (by omega))
  have P3 := Lib.hid (hP1.below hb3 (by omega))
  have O3 := Lib.hid (hO1.below hb3)
  have Q3' := Lib.hid (o3.mono (show w.heap.size + 1 + 1 + 1 ≤ _ by omega))
  have b3 := Lib.hid (hB1.trans (hb3.mono hB1.size))
  have Hne := Lib.hid hne
  clear hne hb3 o3 hB1 hR1 hP1 hO1 hX2
  have hl3 := X3.out.lt
  have hl4 := R3.out.lt
  have hl5 := P3.out.lt
  obtain ⟨c0, c2, c3, c4, f0, f1, f2, f3, l0⟩ := X3.out.four
  obtain ⟨d0, d1, d2, d3', -, -, -, -, l1⟩ := P3.out.four
  obtain ⟨e0, e1, e2, e3, g0, g1, g2, g3, l2⟩ := R3.out.four
  go_wp2_with fail
  refine bodyPost_ret (v := workV k A1 n c1 Q3 m d3 t) (by simp [results, Tryd.results35, go_sem, *]) rfl ⟨A1, c1, Q3, d3, rfl, ?_, ?_, Hne.out, ?_⟩
  · exact ((((((O3.out.far (by simp) _).far (by simp) _).far (by simp) _).far (by simp) _).far (by simp) _).far (by simp) _).mono (by omega)
  · exact ((((((Q3'.out.far (by simp) _).far (by simp) _).far (by simp) _).far (by simp) _).far (by simp) _).far (by simp) _).mono (by omega)
  · exact (((((b3.out.setCell (by simp; omega) _).setCell (by simp; omega) _).setCell (by simp) _).setCell (by simp) _).setCell (by simp) _).setCell (by simp) _
set_option maxHeartbeats 800000 in
theorem eqWork_yes (k t : Int) (A A' Q Q' : Option Addr) (n c c' m d d' B B' D D' : Nat) (l q : List R) (w : World) (h : Own B w (.slice A n c) 2 n (rulesC l)) (h' : Own B' w (.slice A' n c') 2 n (rulesC l))
    (g : Own D w (.slice Q m d) 2 m (rulesC q)) (g' : Own D' w (.slice Q' m d') 2 m (rulesC q)) :
    Calls Tryd.prog 36 #[workV k A n c Q m d t, workV k A' n c' Q' m d' t] w fun e w' => e = .returned (.bool true) ∧ Below w.heap.size w w' := by
  have HO := Lib.hid (fun o1 o2 => h.below (bel2 w o1 o2))
  have HO' := Lib.hid (fun o1 o2 => h'.below (bel2 w o1 o2))
  have HQ := Lib.hid (fun (w' : World) (hb : Below w.heap.size w w') => g.below hb)
  have HQ' := Lib.hid (fun (w' : World) (hb : Below w.heap.size w w') => g'.below hb)
  clear h h' g g'
  go_enter Tryd.func36, Tryd.ntmps36
  go_wp2_with fail
  refine (eqSystem_yes k _ _ _ _ _ _ _ l _ (HO.out _ _) (HO'.out _ _)).mono ?_
  rintro e w1 ⟨rfl, hb1⟩
  have b1 := (bel2 w _ _).trans (hb1.mono (by simp; omega))
  have P1 := Lib.hid (((Blk.new1 w _ _).alloc _).below hb1 (by simp; omega))
  have R1 := Lib.hid ((Blk.new2 w _ _ _).below hb1 (by simp))
  clear hb1
  obtain ⟨d0, d1, d2, d3, -, -, -, -, l1⟩ := P1.out.four
  obtain ⟨e0, e1, e2, e3, -, -, -, -, l2⟩ := R1.out.four
  have hB1 := Lib.hid b1
  have hs1 := b1.size
  clear b1
  go_wp2_with fail
  refine (eqRuleS_yes _ _ _ _ _ _ _ q _ (HQ.out _ hB1.out) (HQ'.out _ hB1.out)).mono ?_
  rintro e w2 ⟨rfl, hb2⟩
  have hB2 := Lib.hid (hB1.out.trans (hb2.mono hs1))
  have P2 := Lib.hid (P1.out.below hb2 (by omega))
  have R2 := Lib.hid (R1.out.below hb2 (by omega))
  clear hb2 d0 d1 d2 d3 l1 e0 e1 e2 e3 l2 P1 R1
  obtain ⟨d0, d1, d2, d3, -, -, -, -, l1⟩ := P2.out.four
  obtain ⟨e0, e1, e2, e3, -, -, -, -, l2⟩ := R2.out.four
  go_wp2_with fail
  go_ret
  exact ⟨rfl, hB2.out⟩

theorem held8_keep {W W1 : World} {g g' : Nat} {a b c d a' b' c' d' : Value} {B : Nat} {w : World}
    (h : W.cell? ⟨g, 0, none⟩ = some a ∧ W.cell? ⟨g, 1, none⟩ = some b ∧ W.cell? ⟨g, 2, none⟩ = some c ∧ W.cell? ⟨g, 3, none⟩ = some d ∧ W.cell? ⟨g', 0, none⟩ = some a' ∧ W.cell? ⟨g', 1, none⟩ = some b' ∧ W.cell? ⟨g', 2, none⟩ = some c' ∧ W.cell? ⟨g', 3, none⟩ = some d' ∧ Below B w W) (hb : Below W.heap.size W W1) (hB : B ≤ w.heap.size) (hg : g < w.heap.size) (hg' : g' < w.heap.size) :
    W1.cell? ⟨g, 0, none⟩ = some a ∧ W1.cell? ⟨g, 1, none⟩ = some b ∧ W1.cell? ⟨g, 2, none⟩ = some c ∧ W1.cell? ⟨g, 3, none⟩ = some d ∧ W1.cell? ⟨g', 0, none⟩ = some a' ∧ W1.cell? ⟨g', 1, none⟩ = some b' ∧ W1.cell? ⟨g', 2, none⟩ = some c' ∧ W1.cell? ⟨g', 3, none⟩ = some d' ∧ Below B w W1 := by
  obtain ⟨h1, h2, h3, h4, h5, h6, h7, h8, h9⟩ := h
  have hs := h9.size
  have k : ∀ o, W1.cell? ⟨g, o, none⟩ = W.cell? ⟨g, o, none⟩ := fun o => hb.cell (by show g < _; omega)
  have k' : ∀ o, W1.cell? ⟨g', o, none⟩ = W.cell? ⟨g', o, none⟩ := fun o => hb.cell (by show g' < _; omega)
  exact ⟨(k _).trans h1, (k _).trans h2, (k _).trans h3, (k _).trans h4, (k' _).trans h5, (k' _).trans h6, (k' _).trans h7, (k' _).trans h8, h9.trans (hb.mono (by omega))⟩
/-- A work in order? -/
def turnsOk (t : Int) : Bool := decide (0 ≤ t) && decide (t ≤ 200)
def bothOk (k : Int) (r : R) : Bool := wordOk k r.1 && wordOk k r.2
def workOk (k : Int) (l q : List R) (t : Int) : Bool := systemOk k l && decide (q.length ≤ 400) && turnsOk t && q.all (bothOk k)
theorem workOk_1 {k t : Int} {l q : List R} (h : systemOk k l = false) : workOk k l q t = false := by simp [workOk, h]
theorem workOk_2 {k t : Int} {l q : List R} (h : ¬ q.length ≤ 400) : workOk k l q t = false := by simp [workOk]; omega
theorem workOk_3 {k t : Int} {l q : List R} (h : turnsOk t = false) : workOk k l q t = false := by simp [workOk, h]
theorem workOk_4 {k t : Int} {l q : List R} (h : q.all (bothOk k) = false) : workOk k l q t = false := by simp only [workOk, h, Bool.and_false]
theorem workOk_5 {k t : Int} {l q : List R} (h1 : systemOk k l = true) (h2 : q.length ≤ 400) (h3 : turnsOk t = true) (h4 : q.all (bothOk k) = true) : workOk k l q t = true := by
  simp only [workOk, h1, h3, h4, decide_eq_true h2]; rfl
end Go.Proofs.YtnhcaahngmimcaaDoor
