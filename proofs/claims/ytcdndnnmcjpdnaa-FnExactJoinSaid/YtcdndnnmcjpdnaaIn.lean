/- Slices of strings that came in: how they read; the laws' szStringS and toStringS. -/
import Derived.Test.YtcdndnnmcjpdnaaJoinPlain
import Derived.Test.YtcdndnnmcjpdnaaMarks
import Derived.Lib.SmallJoins
import Derived.SliceStrings
import Derived.Laws.Rows
namespace Go.Proofs.Ytcdndnnmcjpdnaa
open Go.RowKit Go.WideShapes Go.ChangeShapes Go.Joins

/-- A slice of strings that came in: its cells hold xs. -/
def InS (w : World) (A : Option Addr) (n c : Nat) (xs : List ByteArray) : Prop :=
  xs.length = n ∧ n ≤ c ∧ c ≤ maxLen ∧ ∀ k, k < n → ∃ a s, A = some a ∧ xs[k]? = some s ∧ a.block < w.heap.size ∧ w.cell? (a.add k) = some (.string s) ∧ s.size ≤ maxLen
theorem add_block (a : Addr) (k : Nat) : (a.add k).block = a.block := by unfold Addr.add; split <;> rfl
theorem InS.keep {w w' : World} {A : Option Addr} {n c : Nat} {xs : List ByteArray} (h : InS w A n c xs) (hb : Below w.heap.size w w') : InS w' A n c xs := by
  obtain ⟨h1, h2, h3, h4⟩ := h
  refine ⟨h1, h2, h3, fun k hk => ?_⟩
  obtain ⟨a, s, e, hs, hlt, hc, hm⟩ := h4 k hk
  exact ⟨a, s, e, hs, by have := hb.size; omega, (hb.cell (by rw [add_block]; exact hlt)).trans hc, hm⟩
theorem open_strs {H : Type} {enc : TypeId × Value → H} {P : Program} {w : World} {r : Reach} {b0 : Nat} {t e : TypeId} {v : Value} {d : DataW H} {ps : List MemPlace} (ht : P.underlying t = some (.slice e)) (he : P.underlying e = some .string) (hc : P.cellsOf e = 1)
    (hval : Value.okWide P w r b0 t v) (hd : DataW.Trod enc P w 0 (fun _ => true) true t v d ps) : ∃ A n c xs, v = .slice A n c ∧ InS w A n c xs := by
  obtain ⟨a, len, cap, rfl⟩ := okWide_slice ht hval
  obtain ⟨fuel, hf⟩ := hd
  rcases open_strings ht he hc hf with ⟨hcs, hx⟩ | ⟨a', len', cap', ss, hcs, _, hl, hm, hz, hx, hcell, hsz⟩
  · have hv : Value.slice a len cap = .slice none 0 0 := by simpa [Value.cells] using hcs
    exact ⟨_, 0, 0, [], hv, rfl, Nat.le_refl _, by unfold maxLen; omega, fun k hk => by omega⟩
  · have hv : Value.slice a len cap = .slice (some a') len' cap' := by simpa [Value.cells] using hcs
    simp only [if_true] at hz
    refine ⟨_, len', cap', ss.take len', hv, by rw [List.length_take]; omega, hl, hm, fun k hk => ?_⟩
    have hk' : k < ss.length := by omega
    have hc1 := hcell k hk'
    rw [List.getD_eq_getElem?_getD, List.getElem?_eq_getElem hk', Option.getD_some] at hc1
    refine ⟨a', ss[k], rfl, by rw [List.getElem?_take_of_lt hk, List.getElem?_eq_getElem hk'], ?_, hc1, hsz _ (List.getElem_mem _)⟩
    have := World.block_lt_of_cell? w _ hc1
    rwa [add_block] at this

set_option maxHeartbeats 400000 in
theorem szStringS_any (A : Option Addr) (n c : Nat) (xs : List ByteArray) (left : Nat) (w : World) (h : InS w A n c xs) (hl : left ≤ 1048576) :
    Calls Try.prog 20 #[.slice A n c, .int .i64 left] w fun e w' => ∃ r : Int, e = .returned (.int .i64 r) ∧ (r = -1 ∨ (0 ≤ r ∧ r + n + total xs = left)) ∧ w = w' := by
  obtain ⟨h1, h2, h3, h4⟩ := h
  unfold maxLen at h3
  by_cases hbig : left < n
  · go_enter Try.func20, Try.ntmps20
    go_wp2
    go_ret
    exact ⟨-1, rfl, Or.inl rfl, rfl⟩
  have H4 := Lib.hid h4
  have H1 := Lib.hid h1
  clear h4 h1
  go_enter Try.func20, Try.ntmps20
  go_wp2
  go_loop [1, 5] (fun q i => ∃ (k : Nat) (r : Int), k ≤ n ∧ q = .int .i64 r ∧ i = .int .i64 k ∧ 0 ≤ r ∧ Hid (r + n + total (xs.take k) = left)) (fun _ i => n - (intOf i).toNat)
  case atStart => exact ⟨0, (left : Int) - n, Nat.zero_le _, rfl, rfl, by omega, by simp [Hid, total]⟩
  case round =>
    obtain ⟨k, r, hk, rfl, rfl, hr, HT⟩ := hrel
    have hrl : r ≤ 1048576 := by have := HT.out; omega
    by_cases hlt : k < n
    · obtain ⟨a, s, rfl, hs, -, hc, hm⟩ := H4.out k hlt
      have Hs := Lib.hid hs
      clear hs
      unfold maxLen at hm
      by_cases hneg : r - s.size < 0
      · go_wp2
        go_ret
        exact ⟨-1, rfl, Or.inl rfl, rfl⟩
      · go_wp2
        go_round
        case rel => exact ⟨k + 1, r - s.size, by omega, rfl, by go_num, by omega, by
          show _ + (n : Int) + (total (xs.take (k + 1)) : Int) = left
          rw [total_step xs k s Hs.out]; have := HT.out; omega⟩
        case measure => simp [intOf]; omega
    · go_wp2
      go_ret
      refine ⟨r, rfl, Or.inr ⟨hr, ?_⟩, rfl⟩
      have := HT.out
      rwa [List.take_of_length_le (by rw [H1.out]; omega)] at this

theorem Own.made (u : World) (z : Value) (n : Nat) (e : TypeId) (hn : n ≤ maxLen) : Own u.heap.size (u.alloc (.cells (madeCells #[z] n) e)) (.slice (some ⟨u.heap.size, 0, none⟩) n n) 1 n (List.replicate n z) := by
  refine ⟨by simp, _, n, rfl, Nat.le_refl _, hn, fun _ => ⟨u.heap.size, 0, rfl, Nat.le_refl _, by simp, fun j hj => ?_⟩⟩
  have hh := heap_alloc_new u (.cells (madeCells #[z] n) e)
  refine ⟨?_, frozen_of_row _ _ _ _ _ hh⟩
  rw [cell_of_row _ _ _ _ _ _ hh]
  simp only [List.length_replicate] at hj
  simp [madeCells, hj, Nat.mod_one]

theorem take_set_strs (xs : List ByteArray) (n k : Nat) (s z : ByteArray) (hs : xs[k]? = some s) (hk : k < n) :
    (strs (xs.take k) ++ List.replicate (n - k) (Value.string z)).set k (.string s) = strs (xs.take (k + 1)) ++ List.replicate (n - (k + 1)) (Value.string z) := by
  have hk' := (List.getElem?_eq_some_iff.1 hs).1
  have he := (List.getElem?_eq_some_iff.1 hs).2
  rw [List.take_succ_eq_append_getElem hk', he, show n - k = (n - (k + 1)) + 1 by omega, List.replicate_succ]
  rw [List.set_append_right _ _ (by rw [strs_length]; simp; omega)]
  have : k - (strs (xs.take k)).length = 0 := by rw [strs_length]; simp; omega
  rw [this]
  simp [strs]

set_option maxHeartbeats 400000 in
theorem toStringS_any (A : Option Addr) (n c : Nat) (xs : List ByteArray) (w : World) (h : InS w A n c xs) (hn : n ≤ 1048576) :
    Calls Try.prog 22 #[.slice A n c] w fun e w' => ∃ v, e = .returned v ∧ Own w.heap.size w' v 1 n (strs xs) ∧ Below w.heap.size w w' := by
  obtain ⟨i0, hi, hz0, hz1, hz2⟩ := info_parts infoStr
  have hmk : ∀ u : World, (Instr.makeSlice 23 (.int .i64 (n : Int)) (.int .i64 (n : Int))).run Try.prog u =
      .ok (.slice (some ⟨u.heap.size, 0, none⟩) n n) (u.alloc (.cells (madeCells #[.string ⟨#[]⟩] n) 9)) := fun u => by
    have h := run_make (P := Try.prog) u 23 9 i0 (.string ⟨#[]⟩) Try.underlying23 hi hz0 .i64 .i64 (n : Int) (n : Int) (by omega) (Int.le_refl _) (by rw [hz2]; omega) (by omega)
    simpa [hz1, Value.cells] using h
  obtain ⟨h1, h2, h3, h4⟩ := h
  unfold maxLen at h3
  have H4 := Lib.hid h4
  have H1 := Lib.hid h1
  clear h4 h1
  have HM := Lib.hid (Own.made w (.string ⟨#[]⟩) n 9 (by unfold maxLen; omega))
  go_enter Try.func22, Try.ntmps22
  go_wp2
  go_loopw [4] (fun i wr => ∃ k : Nat, k ≤ n ∧ i = .int .i64 k ∧ Hid (Own w.heap.size wr (.slice (some ⟨w.heap.size, 0, none⟩) n n) 1 n (strs (xs.take k) ++ List.replicate (n - k) (Value.string ⟨#[]⟩))) ∧ Below w.heap.size w wr) (fun i _ => n - (intOf i).toNat)
  case atStart => exact ⟨0, Nat.zero_le _, rfl, by simpa [strs] using HM, (Below.refl _ w).alloc (Nat.le_refl _) _⟩
  case round =>
    obtain ⟨k, hk, rfl, HO, hb⟩ := hrel
    by_cases hlt : k < n
    · obtain ⟨a, s, rfl, hs, hab, hc, hm⟩ := H4.out k hlt
      have hc' : wr.cell? (a.add k) = some (.string s) := (hb.cell (by rw [add_block]; exact hab)).trans hc
      obtain ⟨_, A', c', hv, _, _, hcell⟩ := HO.out
      obtain ⟨g', off', e, _, hg, r⟩ := hcell (by omega)
      have hA : A' = some ⟨w.heap.size, 0, none⟩ := by injection hv with x _ _; exact x.symm
      rw [hA] at e
      obtain ⟨rfl, rfl⟩ : w.heap.size = g' ∧ 0 = off' := by injection e with e; injection e with e1 e2; exact ⟨e1, e2⟩
      have hkl : k < (strs (xs.take k) ++ List.replicate (n - k) (Value.string ⟨#[]⟩)).length := by simp [strs, H1.out]; omega
      obtain ⟨r1, r2⟩ := r k hkl
      rw [List.getElem?_eq_getElem hkl, Nat.zero_add] at r1
      rw [Nat.zero_add] at r2
      generalize (strs (xs.take k) ++ List.replicate (n - k) (Value.string ⟨#[]⟩))[k] = old at r1
      have ho2 := Own.set HO.out hkl (.string s)
      rw [take_set_strs xs n k s ⟨#[]⟩ hs hlt] at ho2
      rw [Nat.zero_add] at ho2
      have HO2 := Lib.hid ho2
      clear ho2 r hcell hv hA e hkl HO hs
      go_wp2
      go_roundw
      case rel => exact ⟨k + 1, by omega, by go_num, HO2, hb.setCell (Nat.le_refl _) _⟩
      case measure => simp [intOf]; omega
    · have ho := HO.out
      have hkn : k = n := by omega
      rw [hkn, Nat.sub_self, List.replicate_zero, List.append_nil, List.take_of_length_le (by rw [H1.out]; exact Nat.le_refl _)] at ho
      have HO3 := Lib.hid ho
      clear ho hkn
      go_wp2
      go_ret
      exact ⟨_, rfl, HO3.out, hb⟩
end Go.Proofs.Ytcdndnnmcjpdnaa
