/- Arguments that are rules and systems: how they read. -/
import Derived.Test.YtddifhbjjiphiaaDoorRules
import Derived.Lib.SmallJoins
import Derived.Deep.Slices
import Derived.Deep.Fields
import Derived.ChangeSame
namespace Go.Proofs.YtddifhbjjiphiaaDoor
open Go.RowKit Go.WideShapes Go.ChangeShapes Go.Joins Go.Deep

section
variable {H : Type} {enc : TypeId × Value → H} {P : Program} {w : World}
theorem open_rule {r : Reach} {b0 : Nat} {t : TypeId} {f0 f1 : Field} {v : Value} {d : DataW H} {ps : List MemPlace} (ht : P.underlying t = some (.struct #[f0, f1])) (hone : oneCellFields P #[f0, f1] = true) (hC : P.cellsOf t = 2)
    (e0 : P.underlying f0.type = some .string) (e1 : P.underlying f1.type = some .string)
    (hval : Value.okWide P w r b0 t v) (hd : DataW.Trod enc P w 0 (fun _ => true) true t v d ps) : ∃ a b, v = .agg #[.string a, .string b] ∧ a.size ≤ maxLen ∧ b.size ≤ maxLen := by
  obtain ⟨v0, v1, y0, y1, n, rfl, rfl, rfl, h0, h1⟩ := open_agg2 ht hone hC hval hd
  obtain ⟨a, c0, -, s0⟩ := DataW.trod_string e0 h0
  obtain ⟨b, c1, -, s1⟩ := DataW.trod_string e1 h1
  simp only [List.cons.injEq, and_true] at c0 c1
  exact ⟨a, b, by rw [c0, c1], s0, s1⟩
theorem open_rules {t e : TypeId} {f0 f1 : Field} {fuel : Nat} {v : Value} {x : DataW H × List MemPlace} (ht : P.underlying t = some (.slice e)) (he : P.underlying e = some (.struct #[f0, f1])) (hone : oneCellFields P #[f0, f1] = true) (hC : P.cellsOf e = 2)
    (e0 : P.underlying f0.type = some .string) (e1 : P.underlying f1.type = some .string)
    (h : DataW.trod enc P w 0 (fun _ => true) true fuel t [v] = some x) : ∃ A n c xs, v = .slice A n c ∧ InR w A n c xs := by
  rcases open_slice ht h with ⟨hcs, -⟩ | ⟨a, len, cap, m, n, D, Pl, hcs, -, hl, hm, hmm, -, hi⟩
  · have hv : v = .slice none 0 0 := by simpa using hcs
    exact ⟨none, 0, 0, [], hv, rfl, Nat.le_refl _, by unfold maxLen; omega, fun k hk => by omega⟩
  · have hv : v = .slice (some a) len cap := by simpa using hcs
    simp only [if_true] at hmm
    have hcell : ∀ k, k < len → ∃ r : R, a.block < w.heap.size ∧ w.cell? (a.add (k * 2)) = some (.string r.1) ∧ w.cell? ⟨(a.add (k * 2)).block, (a.add (k * 2)).off + 1, none⟩ = some (.string r.2) ∧ r.1.size ≤ maxLen ∧ r.2.size ≤ maxLen := by
      intro k hk
      obtain ⟨cs', hc, ht'⟩ := hi k (by omega)
      rw [hC] at hc
      obtain ⟨y0, y1, n', -, hlen, h0, h1⟩ := trod_struct2 he ht'
      obtain ⟨o0, k0⟩ := hone_of hone 0 f0 rfl
      obtain ⟨o1, k1⟩ := hone_of hone 1 f1 rfl
      obtain ⟨-, hcl, hat⟩ := World.cells?_some hc
      match cs', hcl with
      | [c0, c1], _ =>
        have g0 : DataW.trod enc P w 0 (fun _ => true) true n' f0.type [c0] = some y0 := by simpa [o0, k0] using h0
        have g1 : DataW.trod enc P w 0 (fun _ => true) true n' f1.type [c1] = some y1 := by simpa [o1, k1] using h1
        obtain ⟨u, q0, -, s0⟩ := DataW.trod_string e0 g0
        obtain ⟨u', q1, -, s1⟩ := DataW.trod_string e1 g1
        simp only [List.cons.injEq, and_true] at q0 q1
        subst q0
        subst q1
        have a0 : w.cell? (a.add (k * 2)) = some (.string u) := by have h := hat 0 (by omega); rw [Addr.add_zero'] at h; simpa using h
        have a1 : w.cell? ((a.add (k * 2)).add 1) = some (.string u') := by simpa using hat 1 (by omega)
        have hb := World.block_lt_of_cell? w _ a0
        rw [addR_block] at hb
        exact ⟨(u, u'), hb, a0, a1, s0, s1⟩
    let pick : Nat → R := fun k => if hk : k < len then Classical.choose (hcell k hk) else (⟨#[]⟩, ⟨#[]⟩)
    refine ⟨some a, len, cap, (List.range len).map pick, hv, by simp, hl, hm, fun k hk => ?_⟩
    have hs := Classical.choose_spec (hcell k hk)
    have hp : pick k = Classical.choose (hcell k hk) := by simp [pick, hk]
    rw [← hp] at hs
    exact ⟨a, pick k, rfl, by simp [hk], hs.1, hs.2.1, hs.2.2.1, hs.2.2.2.1, hs.2.2.2.2⟩
theorem open_rulesA {r : Reach} {b0 : Nat} {t e : TypeId} {f0 f1 : Field} {v : Value} {d : DataW H} {ps : List MemPlace} (ht : P.underlying t = some (.slice e)) (he : P.underlying e = some (.struct #[f0, f1])) (hone : oneCellFields P #[f0, f1] = true) (hC : P.cellsOf e = 2)
    (e0 : P.underlying f0.type = some .string) (e1 : P.underlying f1.type = some .string)
    (hval : Value.okWide P w r b0 t v) (hd : DataW.Trod enc P w 0 (fun _ => true) true t v d ps) : ∃ A n c xs, v = .slice A n c ∧ InR w A n c xs := by
  obtain ⟨a, len, cap, rfl⟩ := okWide_slice ht hval
  obtain ⟨fuel, hf⟩ := hd
  exact open_rules ht he hone hC e0 e1 hf
theorem open_system {r : Reach} {b0 : Nat} {t e : TypeId} {g0 g1 : Field} {f0 f1 : Field} {v : Value} {d : DataW H} {ps : List MemPlace} (ht : P.underlying t = some (.struct #[g0, g1])) (hone : oneCellFields P #[g0, g1] = true) (hC : P.cellsOf t = 2)
    (e0 : P.underlying g0.type = some (.int .i64)) (e1 : P.underlying g1.type = some (.slice e)) (he : P.underlying e = some (.struct #[f0, f1])) (hone' : oneCellFields P #[f0, f1] = true) (hC' : P.cellsOf e = 2)
    (s0 : P.underlying f0.type = some .string) (s1 : P.underlying f1.type = some .string)
    (hval : Value.okWide P w r b0 t v) (hd : DataW.Trod enc P w 0 (fun _ => true) true t v d ps) : ∃ k A n c xs, v = .agg #[.int .i64 k, .slice A n c] ∧ (Lit.int .i64 k).wf = true ∧ InR w A n c xs := by
  obtain ⟨v0, v1, y0, y1, n, rfl, rfl, rfl, h0, h1⟩ := open_agg2 ht hone hC hval hd
  obtain ⟨k, c0, -, wk⟩ := DataW.trod_int e0 h0
  simp only [List.cons.injEq, and_true] at c0
  obtain ⟨A, m, c, xs, rfl, hI⟩ := open_rules e1 he hone' hC' s0 s1 h1
  exact ⟨k, A, m, c, xs, by rw [c0], wk, hI⟩
end
end Go.Proofs.YtddifhbjjiphiaaDoor
