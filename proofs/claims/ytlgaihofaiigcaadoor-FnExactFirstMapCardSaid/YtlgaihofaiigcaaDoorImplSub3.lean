/- The program's subgroupWith, SubgroupOf. -/
import Derived.Test.YtlgaihofaiigcaaDoorImplSub2
import Derived.Lib.SliceRun
namespace Go.Proofs.YtlgaihofaiigcaaDoor
open Go.RowKit

set_option maxRecDepth 100000 in
set_option maxHeartbeats 800000 in
theorem cloneInt_any (A : Option Addr) (n c B : Nat) (l : List Int) (w : World) (hn : 0 < n) (hn2 : n ≤ 2097152) (h : Own B w (.slice A n c) 1 n (ints l)) :
    Calls Tryd.prog 51 #[.slice A n c] w fun e w' => ∃ v, e = .returned v ∧ w'.ownsRow w.heap.size 3 1 v n (ints l) ∧ Below w.heap.size w w' := by
  obtain ⟨i0, hi, hz0, hz1, hz2⟩ := infoR_parts infoInt
  have q22 : ∀ (w : World) (a : Option Addr) (n c n' c' : Nat), (binOp .eql 22 (.slice a n c) (.slice none n' c')).run Tryd.prog w = .ok (.bool a.isNone) w := fun w a n c n' c' => Lib.run_eql_slice_nil w _ _ a n c n' c' Tryd.underlying22
  obtain ⟨g, off, c0, hv⟩ := h.formR hn
  obtain ⟨rfl, rfl⟩ : A = some ⟨g, off, none⟩ ∧ c = c0 := by injection hv with a _ b; exact ⟨a, b⟩
  have hlen := h.ilen
  have HI := Lib.hid (fun j (hj : j < n) => h.iget hj)
  clear hv h
  go_enter Tryd.func51, Tryd.ntmps51
  go_wp2_with (at_builtin; refine wpList_append_own _ rfl _ _ 22 rfl w.heap.size 3 i0 (.int .i64 0) 1 8 Tryd.underlying22 hi hz0 hz1 hz2 rfl (by decide) _ _ _ rfl (row_empty w 3) ⟨g, off, none⟩ n c (ints l) rfl ?qc1 ?qc2 ?qc3 ?qc4 ?qc5 ?qc6 ?_)
  case qc1 => rw [ints_length]; omega
  case qc2 =>
    intro j u hj
    have hjn : j < n := by have := (List.getElem?_eq_some_iff.1 hj).1; rw [ints_length] at this; omega
    rw [Addr.add_lit]
    refine Lib.cell?_alloc_some _ ?_
    obtain ⟨s, hs, hx⟩ := HI.out j hjn
    rw [hx]
    simp only [ints, List.getElem?_map, hs] at hj
    exact hj
  case qc3 => intro u hu; obtain ⟨x, _, rfl⟩ := List.mem_map.1 hu; rfl
  case qc4 => unfold maxLen; omega
  case qc5 => omega
  case qc6 => simp
  intro v' w1 hown hgrow hnil
  have HX := Lib.hid (show w1.ownsRow w.heap.size 3 1 v' n (ints l) by simpa using hown)
  have hb : Below w.heap.size w w1 := ((Below.refl _ w).alloc (Nat.le_refl _) _).grown hgrow (by simp) (by intro k hk; simp [Value.ownBlock] at hk; omega)
  clear hown hgrow hnil
  go_wp2_with fail
  go_ret
  exact ⟨_, rfl, HX.out, hb⟩
theorem row_mono {w : World} {base base' : Nat} {e : TypeId} {size : Nat} {v : Value} {k : Nat} {xs : List Value} (h : w.ownsRow base e size v k xs) (hb : base' ≤ base) : w.ownsRow base' e size v k xs := by
  obtain ⟨h1, h2⟩ := h
  refine ⟨h1, ?_⟩
  rcases h2 with h2 | ⟨g, cap, cur, rfl, hg, r⟩
  · exact .inl h2
  · exact .inr ⟨g, cap, cur, rfl, by omega, r⟩
def GensPost (N : Nat) (xs : List Int) (P : List Nat) (B : Nat) (e : Ending) (w' : World) : Prop :=
  ∃ v Hs, e = .returned v ∧ w'.ownsRow B 3 1 v Hs.length (ints (nints Hs)) ∧ Hs.length ≤ P.length + 1 ∧ SameGen N xs Hs P ∧ ∀ g ∈ Hs, g < N
theorem take_snoc_nat {G : List Nat} {k y : Nat} (h : G[k]? = some y) : G.take (k + 1) = G.take k ++ [y] := by
  rw [List.take_add_one, h]; rfl
end Go.Proofs.YtlgaihofaiigcaaDoor
