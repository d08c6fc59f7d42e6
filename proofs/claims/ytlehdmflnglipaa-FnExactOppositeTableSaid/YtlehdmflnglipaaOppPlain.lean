/- What OppositeTable and ProductTable answer. -/
import Derived.Test.YtlehdmflnglipaaGridPlain
import Derived.Test.YtlehdmflnglipaaTable
namespace Go.Proofs.Ytlehdmflnglipaa
open Go.RowKit

noncomputable def oppOf (q : Int) (xs : List Int) : Int × List Int × Bool := if tableOk q xs then (q, grid q.toNat (oppF q.toNat xs), true) else (0, [], false)
theorem oppOf_yes {N : Nat} {xs : List Int} (h : TabOk N xs) : oppOf N xs = ((N : Int), grid N (oppF N xs), true) := by unfold oppOf; rw [tableOk_yes h]; rfl
theorem oppOf_no {q : Int} {xs : List Int} (h : tableOk q xs = false) : oppOf q xs = (0, [], false) := by unfold oppOf; rw [h]; rfl
/-- A table and a bool are answered. -/
def TabAns (w : World) (a : Int × List Int × Bool) (e : Ending) (w' : World) : Prop := ∃ A c, e = .returned (.tuple #[tabV a.1 A a.2.1.length c, .bool a.2.2]) ∧ Own w.heap.size w' (.slice A a.2.1.length c) 1 a.2.1.length (ints a.2.1) ∧ Below w.heap.size w w'
noncomputable def prodOf (q : Int) (xs : List Int) (r : Int) (ys : List Int) : Int × List Int × Bool :=
  if tableOk q xs && tableOk r ys && decide (q.toNat * r.toNat ≤ 40) then (((q.toNat * r.toNat : Nat) : Int), grid (q.toNat * r.toNat) (prodF q.toNat r.toNat xs ys), true) else (0, [], false)
theorem prodOf_yes {N M : Nat} {xs ys : List Int} (h : TabOk N xs) (h' : TabOk M ys) (h40 : N * M ≤ 40) : prodOf N xs M ys = (((N * M : Nat) : Int), grid (N * M) (prodF N M xs ys), true) := by
  unfold prodOf; rw [tableOk_yes h, tableOk_yes h', if_pos (by simpa using h40)]; rfl
theorem prodOf_no1 {q r : Int} {xs ys : List Int} (h : tableOk q xs = false) : prodOf q xs r ys = (0, [], false) := by unfold prodOf; rw [h]; rfl
theorem prodOf_no2 {q r : Int} {xs ys : List Int} (h : tableOk r ys = false) : prodOf q xs r ys = (0, [], false) := by unfold prodOf; rw [h, Bool.and_false]; rfl
theorem prodOf_no3 {N M : Nat} {xs ys : List Int} (h : 40 < N * M) : prodOf N xs M ys = (0, [], false) := by
  unfold prodOf
  rw [if_neg (by simp; intros; omega)]
/-- The parts of a product in a product of tables, with all that a walk asks of their numbers. -/
theorem prod_parts {N M : Nat} {xs ys : List Int} {i j : Nat} (hT : TabOk N xs) (hT2 : TabOk M ys) (hi : i < N * M) (hk : j < N * M) :
    ∃ a b c d U V : Nat, (a < N ∧ IntKind.i64.wrap ((i : Int) / (M : Int)) = (a : Int)) ∧ (b < N ∧ IntKind.i64.wrap ((j : Int) / (M : Int)) = (b : Int)) ∧
      (c < M ∧ (i : Int) % (M : Int) = (c : Int) ∧ (i : Int).tmod (M : Int) = (c : Int)) ∧ (d < M ∧ (j : Int) % (M : Int) = (d : Int) ∧ (j : Int).tmod (M : Int) = (d : Int)) ∧
      (tmul N xs a b = U ∧ U < N ∧ U * M ≤ 1600) ∧ (tmul M ys c d = V ∧ V < M) ∧ prodF N M xs ys i j = U * M + V := by
  have h40 := hT.hi
  have h40' := hT2.hi
  have hNMu : N * M ≤ 1600 := Nat.mul_le_mul h40 h40'
  have hM0 : 0 < M := by have := hT2.lo; omega
  have hia : i / M < N := Nat.div_lt_of_lt_mul (by rw [Nat.mul_comm]; exact hi)
  have hka : j / M < N := Nat.div_lt_of_lt_mul (by rw [Nat.mul_comm]; exact hk)
  have hib : i % M < M := Nat.mod_lt i hM0
  have hkb : j % M < M := Nat.mod_lt j hM0
  have q1 : (i : Int) / (M : Int) = ((i / M : Nat) : Int) := (Int.natCast_ediv i M).symm
  have q2 : (j : Int) / (M : Int) = ((j / M : Nat) : Int) := (Int.natCast_ediv j M).symm
  have q3 : (i : Int) % (M : Int) = ((i % M : Nat) : Int) := (Int.natCast_emod i M).symm
  have q4 : (j : Int) % (M : Int) = ((j % M : Nat) : Int) := (Int.natCast_emod j M).symm
  have q5 : (i : Int).tmod (M : Int) = ((i % M : Nat) : Int) := (Int.tmod_eq_emod_of_nonneg (by omega)).trans q3
  have q6 : (j : Int).tmod (M : Int) = ((j % M : Nat) : Int) := (Int.tmod_eq_emod_of_nonneg (by omega)).trans q4
  have hf1 := hT.lt hia hka
  have e1 := Nat.div_le_self i M
  have e2 := Nat.div_le_self j M
  exact ⟨i / M, j / M, i % M, j % M, _, _, ⟨hia, by rw [q1]; generalize i / M = t at *; exact IntWalk.i64_in _ (by omega)⟩, ⟨hka, by rw [q2]; generalize j / M = t at *; exact IntWalk.i64_in _ (by omega)⟩, ⟨hib, q3, q5⟩, ⟨hkb, q4, q6⟩, ⟨rfl, hf1, Nat.mul_le_mul (by omega : _ ≤ 40) h40'⟩, ⟨rfl, hT2.lt hib hkb⟩, rfl⟩
theorem ownsRow_sameH {W w : World} {base n : Nat} {e : TypeId} {size : Nat} {v : Value} {xs : List Value} (h : W.ownsRow base e size v n xs) (hk : ∀ b, base ≤ b → w.heap[b]? = W.heap[b]?) : w.ownsRow base e size v n xs := by
  obtain ⟨hl, h2⟩ := h
  refine ⟨hl, ?_⟩
  rcases h2 with ⟨rfl, rfl⟩ | ⟨g, cap, cur, rfl, hg, hh, r⟩
  · exact .inl ⟨rfl, rfl⟩
  · exact .inr ⟨g, cap, cur, rfl, hg, (hk g hg).trans hh, r⟩
theorem news1G {W : World} {g : Nat} {v : Value} (h : W.cell? ⟨g, 0, none⟩ = some v) : ∀ j x, [v][j]? = some x → W.cell? ((⟨g, 0, none⟩ : Addr).add j) = some x := fun j x hj => by
  match j, hj with
  | 0, hj => simp at hj; subst hj; simpa [Addr.add] using h
theorem one_intG (u : Int) : ∀ x ∈ [Value.int .i64 u], x.oneCell' = true := fun x hx => by simp at hx; subst hx; rfl
end Go.Proofs.Ytlehdmflnglipaa
