/- Arguments that are links and lists of links: how they read. -/
import Derived.Test.YtddifhbjjiphiaaDoorArgs
import Derived.Test.YtddifhbjjiphiaaDoorLinks
import Derived.Deep.Strs
namespace Go.Proofs.YtddifhbjjiphiaaDoor
open Go.RowKit Go.WideShapes Go.ChangeShapes Go.Joins Go.Deep

section
variable {H : Type} {enc : TypeId × Value → H} {P : Program} {w : World}
theorem trod_link {t : TypeId} {f0 f1 f2 : Field} {fuel : Nat} {c0 c1 c2 : Value} {x : DataW H × List MemPlace} (ht : P.underlying t = some (.struct #[f0, f1, f2])) (hoff : (f0.offset, f1.offset, f2.offset) = (0, 1, 2)) (hcl : (P.cellsOf f0.type, P.cellsOf f1.type, P.cellsOf f2.type, P.cellsOf t) = (1, 1, 1, 3))
    (e0 : P.underlying f0.type = some (.int .i64)) (e1 : P.underlying f1.type = some (.int .i64)) (e2 : P.underlying f2.type = some .bool)
    (h : DataW.trod enc P w 0 (fun _ => true) true fuel t [c0, c1, c2] = some x) : ∃ a b z, c0 = .int .i64 a ∧ c1 = .int .i64 b ∧ c2 = .bool z ∧ (Lit.int .i64 a).wf = true ∧ (Lit.int .i64 b).wf = true := by
  simp only [Prod.mk.injEq] at hoff hcl
  obtain ⟨o0, o1, o2⟩ := hoff
  obtain ⟨k0, k1, k2, k⟩ := hcl
  obtain ⟨y0, y1, y2, n, hx, _, h0, h1, h2⟩ := trod_struct3 ht h
  rw [o0, k0] at h0
  rw [o1, k1] at h1
  rw [o2, k2] at h2
  obtain ⟨a, q0, -, w0⟩ := DataW.trod_int e0 (by simpa using h0 : DataW.trod enc P w 0 (fun _ => true) true n f0.type [c0] = some y0)
  obtain ⟨b, q1, -, w1⟩ := DataW.trod_int e1 (by simpa using h1 : DataW.trod enc P w 0 (fun _ => true) true n f1.type [c1] = some y1)
  obtain ⟨z, q2, -⟩ := DataW.trod_bool e2 (by simpa using h2 : DataW.trod enc P w 0 (fun _ => true) true n f2.type [c2] = some y2)
  simp only [List.cons.injEq, and_true] at q0 q1 q2
  exact ⟨a, b, z, q0, q1, q2, w0, w1⟩
theorem open_link {r : Reach} {b0 : Nat} {t : TypeId} {f0 f1 f2 : Field} {v : Value} {d : DataW H} {ps : List MemPlace} (ht : P.underlying t = some (.struct #[f0, f1, f2])) (hoff : (f0.offset, f1.offset, f2.offset) = (0, 1, 2)) (hcl : (P.cellsOf f0.type, P.cellsOf f1.type, P.cellsOf f2.type, P.cellsOf t) = (1, 1, 1, 3))
    (e0 : P.underlying f0.type = some (.int .i64)) (e1 : P.underlying f1.type = some (.int .i64)) (e2 : P.underlying f2.type = some .bool)
    (hval : Value.okWide P w r b0 t v) (hd : DataW.Trod enc P w 0 (fun _ => true) true t v d ps) : ∃ a b z, v = .agg #[.int .i64 a, .int .i64 b, .bool z] ∧ (Lit.int .i64 a).wf = true ∧ (Lit.int .i64 b).wf = true := by
  obtain ⟨cs, rfl, hsz⟩ := okWide_struct ht hval
  have hk : P.cellsOf t = 3 := by simp only [Prod.mk.injEq] at hcl; exact hcl.2.2.2
  obtain ⟨c0, c1, c2, rfl⟩ := array3 (hsz.trans hk)
  obtain ⟨fuel, hf⟩ := hd
  obtain ⟨a, b, z, rfl, rfl, rfl, w0, w1⟩ := trod_link ht hoff hcl e0 e1 e2 (by simpa [Value.cells] using hf : DataW.trod enc P w 0 (fun _ => true) true fuel t [c0, c1, c2] = some (d, ps))
  exact ⟨a, b, z, rfl, w0, w1⟩
theorem open_links0 {t e : TypeId} {f0 f1 f2 : Field} {fuel : Nat} {v : Value} {x : DataW H × List MemPlace} (ht : P.underlying t = some (.slice e)) (he : P.underlying e = some (.struct #[f0, f1, f2])) (hoff : (f0.offset, f1.offset, f2.offset) = (0, 1, 2)) (hcl : (P.cellsOf f0.type, P.cellsOf f1.type, P.cellsOf f2.type, P.cellsOf e) = (1, 1, 1, 3))
    (e0 : P.underlying f0.type = some (.int .i64)) (e1 : P.underlying f1.type = some (.int .i64)) (e2 : P.underlying f2.type = some .bool)
    (h : DataW.trod enc P w 0 (fun _ => true) true fuel t [v] = some x) : ∃ A n c xs, v = .slice A n c ∧ InK w A n c xs := by
  have hC : P.cellsOf e = 3 := by simp only [Prod.mk.injEq] at hcl; exact hcl.2.2.2
  rcases open_slice ht h with ⟨hcs, -⟩ | ⟨a, len, cap, m, n, D, Pl, hcs, -, hl, hm, hmm, -, hi⟩
  · have hv : v = .slice none 0 0 := by simpa using hcs
    exact ⟨none, 0, 0, [], hv, rfl, Nat.le_refl _, by unfold maxLen; omega, fun k hk => by omega⟩
  · have hv : v = .slice (some a) len cap := by simpa using hcs
    simp only [if_true] at hmm
    have hcell : ∀ k, k < len → ∃ r : LK, a.block < w.heap.size ∧ w.cell? (a.add (k * 3)) = some (.int .i64 r.1) ∧ w.cell? ⟨(a.add (k * 3)).block, (a.add (k * 3)).off + 1, none⟩ = some (.int .i64 r.2.1) ∧ w.cell? ⟨(a.add (k * 3)).block, (a.add (k * 3)).off + 2, none⟩ = some (.bool r.2.2) ∧ (Lit.int .i64 r.1).wf = true ∧ (Lit.int .i64 r.2.1).wf = true := by
      intro k hk
      obtain ⟨cs', hc, ht'⟩ := hi k (by omega)
      rw [hC] at hc
      obtain ⟨-, hcl', hat⟩ := World.cells?_some hc
      match cs', hcl' with
      | [c0, c1, c2], _ =>
        obtain ⟨u, u', z, rfl, rfl, rfl, s0, s1⟩ := trod_link he hoff hcl e0 e1 e2 ht'
        have a0 : w.cell? (a.add (k * 3)) = some (.int .i64 u) := by have h := hat 0 (by omega); rw [Addr.add_zero'] at h; simpa using h
        have a1 : w.cell? ((a.add (k * 3)).add 1) = some (.int .i64 u') := by simpa using hat 1 (by omega)
        have a2 : w.cell? ((a.add (k * 3)).add 2) = some (.bool z) := by simpa using hat 2 (by omega)
        have hb := World.block_lt_of_cell? w _ a0
        rw [addR_block] at hb
        exact ⟨(u, u', z), hb, a0, a1, a2, s0, s1⟩
    let pick : Nat → LK := fun k => if hk : k < len then Classical.choose (hcell k hk) else (0, 0, false)
    refine ⟨some a, len, cap, (List.range len).map pick, hv, by simp, hl, hm, fun k hk => ?_⟩
    have hs := Classical.choose_spec (hcell k hk)
    have hp : pick k = Classical.choose (hcell k hk) := by simp [pick, hk]
    rw [← hp] at hs
    exact ⟨a, pick k, rfl, by simp [hk], hs.1, hs.2.1, hs.2.2.1, hs.2.2.2.1, hs.2.2.2.2.1, hs.2.2.2.2.2⟩
theorem open_links {r : Reach} {b0 : Nat} {t e : TypeId} {f0 f1 f2 : Field} {v : Value} {d : DataW H} {ps : List MemPlace} (ht : P.underlying t = some (.slice e)) (he : P.underlying e = some (.struct #[f0, f1, f2])) (hoff : (f0.offset, f1.offset, f2.offset) = (0, 1, 2)) (hcl : (P.cellsOf f0.type, P.cellsOf f1.type, P.cellsOf f2.type, P.cellsOf e) = (1, 1, 1, 3))
    (e0 : P.underlying f0.type = some (.int .i64)) (e1 : P.underlying f1.type = some (.int .i64)) (e2 : P.underlying f2.type = some .bool)
    (hval : Value.okWide P w r b0 t v) (hd : DataW.Trod enc P w 0 (fun _ => true) true t v d ps) : ∃ A n c xs, v = .slice A n c ∧ InK w A n c xs := by
  obtain ⟨a, len, cap, rfl⟩ := okWide_slice ht hval
  obtain ⟨fuel, hf⟩ := hd
  exact open_links0 ht he hoff hcl e0 e1 e2 hf
end
end Go.Proofs.YtddifhbjjiphiaaDoor
