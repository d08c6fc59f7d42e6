/- Tables: how they lie; the laws' szTable, toTable, eqTable, markTable. -/
import Derived.Test.YtlehdmflnglipaaDoorTabPlain
import Derived.Test.YtlehdmflnglipaaDoorInts
import Derived.Test.YtlehdmflnglipaaDoorMarkRules
import Derived.Test.YtlehdmflnglipaaDoorMarkInts
import Derived.Test.YtlehdmflnglipaaDoorRules
import Derived.Lib.SmallJoins
import Derived.Laws.Rows
import Derived.Deep.Slices
import Derived.Deep.Fields
import Derived.ChangeSame
import Derived.ChangeSlices
namespace Go.Proofs.YtlehdmflnglipaaDoor
open Go.RowKit Go.WideShapes Go.ChangeShapes Go.Joins Go.Deep

abbrev tabV (n : Int) (A : Option Addr) (m c : Nat) : Value := .agg #[.int .i64 n, .slice A m c]
/-- A slice of ints that came in: its cells hold xs. -/
def InI (w : World) (A : Option Addr) (n c : Nat) (xs : List Int) : Prop :=
  xs.length = n ∧ n ≤ c ∧ c ≤ maxLen ∧ ∀ k, k < n → ∃ a s, A = some a ∧ xs[k]? = some s ∧ a.block < w.heap.size ∧ w.cell? (a.add k) = some (.int .i64 s) ∧ (Lit.int .i64 s).wf = true
theorem InI.keep {w w' : World} {A : Option Addr} {n c : Nat} {xs : List Int} (h : InI w A n c xs) (hb : Below w.heap.size w w') : InI w' A n c xs := by
  obtain ⟨h1, h2, h3, h4⟩ := h
  refine ⟨h1, h2, h3, fun k hk => ?_⟩
  obtain ⟨a, s, e, hs, hlt, hc, hm⟩ := h4 k hk
  exact ⟨a, s, e, hs, by have := hb.size; omega, (hb.cell (by rw [addR_block]; exact hlt)).trans hc, hm⟩
section
variable {H : Type} {enc : TypeId × Value → H} {P : Program} {w : World}
theorem open_intsI {t e : TypeId} {fuel : Nat} {v : Value} {x : DataW H × List MemPlace} (ht : P.underlying t = some (.slice e)) (he : P.underlying e = some (.int .i64)) (hc : P.cellsOf e = 1)
    (h : DataW.trod enc P w 0 (fun _ => true) true fuel t [v] = some x) : ∃ A n c xs, v = .slice A n c ∧ InI w A n c xs := by
  rcases open_ints ht he hc h with ⟨hcs, -⟩ | ⟨a, len, cap, zs, hcs, _, hl, hm, hz, -, hcell, hwf⟩
  · have hv : v = .slice none 0 0 := by simpa using hcs
    exact ⟨none, 0, 0, [], hv, rfl, Nat.le_refl _, by unfold maxLen; omega, fun k hk => by omega⟩
  · have hv : v = .slice (some a) len cap := by simpa using hcs
    simp only [if_true] at hz
    refine ⟨some a, len, cap, zs.take len, hv, by rw [List.length_take]; omega, hl, hm, fun k hk => ?_⟩
    have hk' : k < zs.length := by omega
    have hc1 := hcell k hk'
    rw [List.getD_eq_getElem?_getD, List.getElem?_eq_getElem hk', Option.getD_some] at hc1
    refine ⟨a, zs[k], rfl, by rw [List.getElem?_take_of_lt hk, List.getElem?_eq_getElem hk'], ?_, hc1, hwf _ (List.getElem_mem _)⟩
    have := World.block_lt_of_cell? w _ hc1
    rwa [addR_block] at this
theorem open_table {r : Reach} {b0 : Nat} {t e : TypeId} {g0 g1 : Field} {v : Value} {d : DataW H} {ps : List MemPlace} (ht : P.underlying t = some (.struct #[g0, g1])) (hone : oneCellFields P #[g0, g1] = true) (hC : P.cellsOf t = 2)
    (e0 : P.underlying g0.type = some (.int .i64)) (e1 : P.underlying g1.type = some (.slice e)) (he : P.underlying e = some (.int .i64)) (hC' : P.cellsOf e = 1)
    (hval : Value.okWide P w r b0 t v) (hd : DataW.Trod enc P w 0 (fun _ => true) true t v d ps) : ∃ k A n c xs, v = tabV k A n c ∧ (Lit.int .i64 k).wf = true ∧ InI w A n c xs := by
  obtain ⟨v0, v1, y0, y1, n, rfl, rfl, rfl, h0, h1⟩ := open_agg2 ht hone hC hval hd
  obtain ⟨k, c0, -, wk⟩ := DataW.trod_int e0 h0
  simp only [List.cons.injEq, and_true] at c0
  obtain ⟨A, m, c, xs, rfl, hI⟩ := open_intsI e1 he hC' h1
  exact ⟨k, A, m, c, xs, by rw [c0], wk, hI⟩
end

set_option maxRecDepth 100000 in
set_option maxHeartbeats 400000 in
theorem szIntS_any (A : Option Addr) (n c left : Nat) (w : World) (hc : n ≤ maxLen) (hl : left ≤ 1048576) :
    Calls Tryd.prog 39 #[.slice A n c, .int .i64 left] w fun e w' => ∃ q : Int, e = .returned (.int .i64 q) ∧ SzPost q n left ∧ w = w' := by
  unfold maxLen at hc
  by_cases hbig : left < n
  · go_enter Tryd.func39, Tryd.ntmps39
    go_wp2
    go_ret
    exact ⟨-1, rfl, Or.inl rfl, rfl⟩
  · go_enter Tryd.func39, Tryd.ntmps39
    go_wp2
    go_ret
    exact ⟨(left : Int) - n, rfl, Or.inr ⟨by omega, by omega⟩, rfl⟩
set_option maxRecDepth 100000 in
set_option maxHeartbeats 400000 in
theorem szTable_any (k : Int) (A : Option Addr) (n c left : Nat) (w : World) (hc : n ≤ maxLen) (hl : left ≤ 1048576) :
    Calls Tryd.prog 19 #[tabV k A n c, .int .i64 left] w fun e w' => ∃ q : Int, e = .returned (.int .i64 q) ∧ SzPost q n left ∧ Below w.heap.size w w' := by
  go_enter Tryd.func19, Tryd.ntmps19
  go_wp2_with fail
  refine (szIntS_any A n c left _ hc hl).mono ?_
  rintro e w1 ⟨q, rfl, hq, rfl⟩
  by_cases hq0 : q < 0
  · go_wp2_with fail
    go_ret
    exact ⟨-1, rfl, Or.inl rfl, bel1 _ _⟩
  · have Hq := Lib.hid hq
    clear hq
    go_wp2_with fail
    go_ret
    exact ⟨q, rfl, Hq.out, bel1 _ _⟩

theorem Own.madeI (u : World) (z : Value) (n : Nat) (e : TypeId) (hn : n ≤ maxLen) : Own u.heap.size (u.alloc (.cells (madeCells #[z] n) e)) (.slice (some ⟨u.heap.size, 0, none⟩) n n) 1 n (List.replicate n z) := by
  refine ⟨by simp, _, n, rfl, Nat.le_refl _, hn, fun _ => ⟨u.heap.size, 0, rfl, Nat.le_refl _, by simp, fun j hj => ?_⟩⟩
  have hh := heap_alloc_new u (.cells (madeCells #[z] n) e)
  refine ⟨?_, frozen_of_row _ _ _ _ _ hh⟩
  rw [cell_of_row _ _ _ _ _ _ hh]
  simp only [List.length_replicate] at hj
  simp [madeCells, hj, Nat.mod_one]
theorem take_set_ints (xs : List Int) (n k : Nat) (s : Int) (hs : xs[k]? = some s) (hk : k < n) :
    (ints (xs.take k) ++ List.replicate (n - k) (Value.int .i64 0)).set k (.int .i64 s) = ints (xs.take (k + 1)) ++ List.replicate (n - (k + 1)) (Value.int .i64 0) := by
  have hk' := (List.getElem?_eq_some_iff.1 hs).1
  have he := (List.getElem?_eq_some_iff.1 hs).2
  rw [List.take_succ_eq_append_getElem hk', he, show n - k = (n - (k + 1)) + 1 by omega, List.replicate_succ]
  rw [List.set_append_right _ _ (by rw [ints_length]; simp; omega)]
  have : k - (ints (xs.take k)).length = 0 := by rw [ints_length]; simp; omega
  rw [this]
  simp [ints]
set_option maxRecDepth 100000 in
set_option maxHeartbeats 400000 in
theorem toIntS_any (A : Option Addr) (n c : Nat) (xs : List Int) (w : World) (h : InI w A n c xs) (hn : n ≤ 1048576) :
    Calls Tryd.prog 42 #[.slice A n c] w fun e w' => ∃ v, e = .returned v ∧ Own w.heap.size w' v 1 n (ints xs) ∧ Below w.heap.size w w' := by
  obtain ⟨i0, hi, hz0, hz1, hz2⟩ := infoR_parts infoInt
  have hmk : ∀ u : World, (Instr.makeSlice 30 (.int .i64 (n : Int)) (.int .i64 (n : Int))).run Tryd.prog u =
      .ok (.slice (some ⟨u.heap.size, 0, none⟩) n n) (u.alloc (.cells (madeCells #[.int .i64 0] n) 3)) := fun u => by
    have h := run_make (P := Tryd.prog) u 30 3 i0 (.int .i64 0) Tryd.underlying30 hi hz0 .i64 .i64 (n : Int) (n : Int) (by omega) (Int.le_refl _) (by rw [hz2]; omega) (by omega)
    simpa [hz1, Value.cells] using h
  obtain ⟨h1, h2, h3, h4⟩ := h
  unfold maxLen at h3
  have H4 := Lib.hid h4
  have H1 := Lib.hid h1
  clear h4 h1
  have HM := Lib.hid (Own.madeI w (.int .i64 0) n 3 (by unfold maxLen; omega))
  go_enter Tryd.func42, Tryd.ntmps42
  go_wp2
  go_loopw [4] (fun i wr => ∃ k : Nat, k ≤ n ∧ i = .int .i64 k ∧ Hid (Own w.heap.size wr (.slice (some ⟨w.heap.size, 0, none⟩) n n) 1 n (ints (xs.take k) ++ List.replicate (n - k) (Value.int .i64 0))) ∧ Below w.heap.size w wr) (fun i _ => n - (intOf i).toNat)
  case atStart => exact ⟨0, Nat.zero_le _, rfl, by simpa [ints] using HM, (Below.refl _ w).alloc (Nat.le_refl _) _⟩
  case round =>
    obtain ⟨k, hk, rfl, HO, hb⟩ := hrel
    by_cases hlt : k < n
    · obtain ⟨a, s, rfl, hs, hab, hc, hm⟩ := H4.out k hlt
      have hc' : wr.cell? (a.add k) = some (.int .i64 s) := (hb.cell (by rw [addR_block]; exact hab)).trans hc
      obtain ⟨_, A', c', hv, _, _, hcell⟩ := HO.out
      obtain ⟨g', off', e, _, hg, r⟩ := hcell (by omega)
      have hA : A' = some ⟨w.heap.size, 0, none⟩ := by injection hv with x _ _; exact x.symm
      rw [hA] at e
      obtain ⟨rfl, rfl⟩ : w.heap.size = g' ∧ 0 = off' := by injection e with e; injection e with e1 e2; exact ⟨e1, e2⟩
      have hkl : k < (ints (xs.take k) ++ List.replicate (n - k) (Value.int .i64 0)).length := by simp [ints, H1.out]; omega
      obtain ⟨r1, r2⟩ := r k hkl
      rw [List.getElem?_eq_getElem hkl, Nat.zero_add] at r1
      rw [Nat.zero_add] at r2
      generalize (ints (xs.take k) ++ List.replicate (n - k) (Value.int .i64 0))[k] = old at r1
      have ho2 := Own.set HO.out hkl (.int .i64 s)
      rw [take_set_ints xs n k s hs hlt] at ho2
      rw [Nat.zero_add] at ho2
      have HO2 := Lib.hid ho2
      clear ho2 r hcell hv hA e hkl HO hs hm
      go_wp2
      go_roundw
      case rel => exact ⟨k + 1, by omega, by go_num, HO2, hb.setCell (Nat.le_refl _) _⟩
      case measure => simp [intOf]; omega
    · have ho := HO.out
      have hkn : k = n := by omega
      rw [hkn, Nat.sub_self, List.replicate_zero, List.append_nil, List.take_of_length_le (by rw [H1.out]; exact Nat.le_refl _)] at ho
      have HO3 := Lib.hid ho
      clear ho hkn
      go_wp2
      go_ret
      exact ⟨_, rfl, HO3.out, hb⟩
set_option maxRecDepth 100000 in
set_option maxHeartbeats 400000 in
theorem toTable_any (k : Int) (A : Option Addr) (n c : Nat) (xs : List Int) (w : World) (h : InI w A n c xs) (hn : n ≤ 1048576) :
    Calls Tryd.prog 21 #[tabV k A n c] w fun e w' => ∃ A' c', e = .returned (tabV k A' n c') ∧ Own w.heap.size w' (.slice A' n c') 1 n (ints xs) ∧ Below w.heap.size w w' := by
  have HI := Lib.hid (fun o1 o2 o3 => h.keep (bel3 w o1 o2 o3))
  clear h
  go_enter Tryd.func21, Tryd.ntmps21
  go_wp2_with fail
  refine (toIntS_any _ _ _ _ _ (HI.out _ _ _) hn).mono ?_
  rintro e w1 ⟨v, rfl, ho, hb1⟩
  obtain ⟨A1, m1, rfl⟩ := ho.form
  obtain ⟨c0, c1, f0, f1, l0⟩ := ((Blk.new3 w _ _ _ _).below hb1 (by simp)).two
  obtain ⟨d0, d1, g0, g1, l1⟩ := (((Blk.new2 w _ _ _).alloc _).below hb1 (by simp)).two
  have hs := hb1.size
  have hB := (bel3 w _ _ _).trans (hb1.mono (by simp; omega))
  simp only [World.size_alloc] at ho
  have HO := Lib.hid ho
  clear ho hb1 hs
  go_wp2
  refine bodyPost_ret (v := tabV k A1 n m1) (by simp [results, Tryd.results21, go_sem, *]) rfl ⟨A1, m1, rfl, ?_, ?_⟩
  · exact (((HO.out.far (by simp) _).far (by simp) _).far (by simp) _).mono (by omega)
  · exact ((hB.setCell (by simp; omega) _).setCell (by simp) _).setCell (by simp) _
set_option maxRecDepth 100000 in
set_option maxHeartbeats 400000 in
theorem eqTable_yes (k : Int) (A A' : Option Addr) (n c c' B B' : Nat) (l : List Int) (w : World) (h : Own B w (.slice A n c) 1 n (ints l)) (h' : Own B' w (.slice A' n c') 1 n (ints l)) (hn : n ≤ 1048576) :
    Calls Tryd.prog 23 #[tabV k A n c, tabV k A' n c'] w fun e w' => e = .returned (.bool true) ∧ Below w.heap.size w w' := by
  have HO := Lib.hid (fun o1 o2 => h.below (bel2 w o1 o2))
  have HO' := Lib.hid (fun o1 o2 => h'.below (bel2 w o1 o2))
  clear h h'
  go_enter Tryd.func23, Tryd.ntmps23
  go_wp2_with fail
  refine (eqIntB _ _ _ _ _ _ _ l _ (HO.out _ _) (HO'.out _ _) (by omega)).mono ?_
  rintro e w1 ⟨rfl, hb1⟩
  have hB := (bel2 w _ _).trans (hb1.mono (by simp; omega))
  clear hb1
  go_wp2
  go_ret
  exact ⟨rfl, hB⟩
set_option maxRecDepth 100000 in
set_option maxHeartbeats 400000 in
theorem markTable_any (q : Int) (A : Option Addr) (n c B : Nat) (k : Int) (l : List Int) (w : World) (h : Own B w (.slice A n c) 1 n (ints l)) (hB : B ≤ w.heap.size) (h0 : 0 ≤ k) (hk : k + n ≤ 4611686018427387904) :
    Calls Tryd.prog 24 #[tabV q A n c, .int .i64 k] w fun e w' => e = .returned (.int .i64 (k + n)) ∧ Own B w' (.slice A n c) 1 n (ints (imarks k n)) ∧ Below B w w' ∧ KeptA A n w w' := by
  have HO := Lib.hid (fun o1 => h.below (bel1 w o1))
  clear h
  go_enter Tryd.func24, Tryd.ntmps24
  go_wp2_with fail
  refine (markIntK _ _ _ _ k l _ (HO.out _) h0 hk).mono ?_
  rintro e w1 ⟨rfl, ho, hb, hkp⟩
  have b1 := ((bel1 w _).mono hB).trans hb
  have O1 := Lib.hid ho
  have K1 : Hid (KeptA A n w w1) := fun d hd hn => (hkp d (by simp; omega) hn).trans (Below.heap_alloc _ _ _ hd)
  clear ho hb hkp
  go_wp2_with fail
  go_ret
  exact ⟨rfl, O1.out, b1, K1.out⟩
end Go.Proofs.YtlehdmflnglipaaDoor
