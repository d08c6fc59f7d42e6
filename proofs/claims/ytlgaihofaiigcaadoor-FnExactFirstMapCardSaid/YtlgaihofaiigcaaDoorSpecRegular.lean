/- The model's RegularOf; l09List. -/
import Derived.Test.YtlgaihofaiigcaaDoorRegular
namespace Go.Proofs.YtlgaihofaiigcaaDoor
open Go.RowKit

/-- A row of n bools. -/
def bl (n : Nat) (f : Nat → Bool) : List Value := (List.range n).map fun j => .bool (f j)
theorem bl_length (n : Nat) (f : Nat → Bool) : (bl n f).length = n := by simp [bl]
theorem bl_get {n : Nat} {f : Nat → Bool} {j : Nat} (h : j < n) : (bl n f)[j]? = some (.bool (f j)) := by simp [bl, h]
theorem bl_set (n : Nat) (f : Nat → Bool) (i : Nat) (b : Bool) : (bl n f).set i (.bool b) = bl n (fun j => if j = i then b else f j) := by
  apply List.ext_getElem?
  intro j
  rw [List.getElem?_set]
  by_cases hj : j < n
  · by_cases e : i = j
    · subst e; rw [if_pos rfl, if_pos (by rw [bl_length]; exact hj), bl_get hj]; simp
    · rw [if_neg e, bl_get hj, bl_get hj, if_neg (by omega)]
  · have h1 : (bl n f)[j]? = none := List.getElem?_eq_none (by rw [bl_length]; omega)
    have h2 : (bl n (fun j => if j = i then b else f j))[j]? = none := List.getElem?_eq_none (by rw [bl_length]; omega)
    by_cases e : i = j
    · subst e; rw [if_pos rfl, if_neg (by rw [bl_length]; exact hj), h2]
    · rw [if_neg e, h1, h2]
theorem bl_congr {n : Nat} {f g : Nat → Bool} (h : ∀ j, j < n → f j = g j) : bl n f = bl n g := by
  apply List.map_congr_left
  intro j hj
  rw [h j (by simpa using hj)]
theorem Own.bcell {B n g off c : Nat} {w : World} {f : Nat → Bool} (h : Own B w (.slice (some ⟨g, off, none⟩) n c) 1 n (bl n f)) {j : Nat} (hj : j < n) : B ≤ g ∧ g < w.heap.size ∧ w.cell? ⟨g, off + j, none⟩ = some (.bool (f j)) ∧ w.frozen? ⟨g, off + j, none⟩ = false := by
  have hlt := h.blk_lt (by omega)
  obtain ⟨_, A', c', hv, _, _, hcell⟩ := h
  obtain ⟨g', off', e, _, hg, r⟩ := hcell (by omega)
  injection hv with x _ _
  rw [← x] at e
  injection e with e
  injection e with e1 e2
  subst e1 e2
  obtain ⟨r1, r2⟩ := r j (by rw [bl_length]; exact hj)
  rw [bl_get hj] at r1
  exact ⟨hlt.1, hlt.2, r1, r2⟩
theorem infoBool : (Tryd.prog.info? 4).map (fun i => (i.zero, i.size, i.bytes)) = some (some (.bool false), 1, 1) := by kernel_rfl
theorem run_makeBools (u : World) (n : Nat) (hn : n ≤ 1048576) : (Instr.makeSlice 80 (.int .i64 (n : Int)) (.int .i64 (n : Int))).run Tryd.prog u =
      .ok (.slice (some ⟨u.heap.size, 0, none⟩) n n) (u.alloc (.cells (madeCells #[.bool false] n) 4)) := by
  obtain ⟨i0, hi, hz0, hz1, hz2⟩ := infoR_parts infoBool
  have h := run_make (P := Tryd.prog) u 80 4 i0 (.bool false) Tryd.underlying80 hi hz0 .i64 .i64 (n : Int) (n : Int) (by omega) (Int.le_refl _) (by rw [hz2]; omega) (by omega)
  simpa [hz1, Value.cells] using h
theorem own_bools (u : World) (n : Nat) (e : TypeId) (hn : n ≤ maxLen) : Own u.heap.size (u.alloc (.cells (madeCells #[.bool false] n) e)) (.slice (some ⟨u.heap.size, 0, none⟩) n n) 1 n (bl n (fun _ => false)) := by
  have h := Own.madeI u (.bool false) n e hn
  rwa [show List.replicate n (Value.bool false) = bl n (fun _ => false) by simp [bl, List.map_const']] at h
set_option maxRecDepth 100000 in
set_option maxHeartbeats 800000 in
theorem l09List_any (A : Option Addr) (n c B : Nat) (f : Nat → Bool) (w : World) (h : Own B w (.slice A n c) 1 n (bl n f)) (hn : n ≤ 1048576) :
    Calls Tryd.prog 54 #[.slice A n c] w fun e w' => ∃ v, e = .returned v ∧ Own w.heap.size w' v 1 (pick f n).length (ints (pick f n)) ∧ Below w.heap.size w w' := by
  obtain ⟨i0, hi, hz0, hz1, hz2⟩ := infoR_parts infoInt
  have HO := Lib.hid h
  clear h
  go_enter Tryd.func54, Tryd.ntmps54
  go_wp2_with fail
  have HR0 := Lib.hid (row_empty w 3)
  have hbn := bel1 w (.cells #[] 3)
  generalize w.alloc (.cells #[] 3) = wn at *
  have hform : ∀ hn : 0 < n, ∃ g off, A = some ⟨g, off, none⟩ := fun hn => by
    obtain ⟨_, A', c', hv, _, _, hcell⟩ := HO.out
    obtain ⟨g', off', e, _⟩ := hcell hn
    injection hv with x _ _
    exact ⟨g', off', by rw [x, e]⟩
  go_loopw [3, 9] (fun v i' wr => ∃ i : Nat, i' = .int .i64 i ∧ i ≤ n ∧ Hid (wr.ownsRow w.heap.size 3 1 v (pick f i).length (ints (pick f i))) ∧ Hid (Below w.heap.size w wr)) (fun _ i' _ => n - (intOf i').toNat)
  case atStart => exact ⟨0, rfl, Nat.zero_le _, HR0, hbn⟩
  case round =>
    obtain ⟨i, rfl, hiN, HR, HB⟩ := hrel
    by_cases hlt : i < n
    · obtain ⟨g, off, rfl⟩ := hform (by omega)
      have hq := (HO.out.below HB.out).bcell hlt
      have hqc := hq.2.2.1
      have hbs := HB.out.size
      cases hp : f i
      · rw [hp] at hqc
        have HX6 : Hid (wr.ownsRow w.heap.size 3 1 u3 (pick f (i + 1)).length (ints (pick f (i + 1)))) := by
          show World.ownsRow _ _ _ _ _ _ _
          rw [pick_no hp]; exact HR.out
        clear hp hq
        go_wp2_with fail
        go_roundw
        case rel => exact ⟨i + 1, by go_num, by omega, HX6, HB⟩
        case measure => simp [intOf]; omega
      · rw [hp] at hqc
        have Hs := Lib.hid (pick_yes (p := f) hp)
        have hpl := pick_len f i
        clear hp hq
        generalize hPP : pick f i = PP at *
        have HPP := Lib.hid hPP
        clear hPP
        go_wp2_with (at_builtin; refine wpList_append_own _ rfl _ _ 22 rfl w.heap.size 3 i0 (.int .i64 0) 1 8 Tryd.underlying22 hi hz0 hz1 hz2 rfl (by decide) _ _ _ rfl (HR.out.alloc _) ⟨wr.heap.size, 0, none⟩ 1 1 [.int .i64 (i : Int)] rfl rfl ?c1 ?c2 ?c3 ?c4 ?c5 ?_)
        case c1 => intro j u hj; match j, hj with | 0, hj => (simp at hj; subst hj; simp [Addr.add])
        case c2 => intro u hu; simp at hu; subst hu; rfl
        case c3 => unfold maxLen; omega
        case c4 => omega
        case c5 => simp; omega
        intro v' w6 hown' hgrow _
        have HX6 : Hid (w6.ownsRow w.heap.size 3 1 v' (pick f (i + 1)).length (ints (pick f (i + 1)))) := by
          show World.ownsRow _ _ _ _ _ _ _
          rw [Hs.out]; simpa [ints] using hown'
        have hbw6 : Hid (Below w.heap.size w w6) := grown_one HR.out hgrow HB.out (Nat.le_refl _) hbs
        clear hown' hgrow HR
        go_wp2_with fail
        go_roundw
        case rel => exact ⟨i + 1, by go_num, by omega, HX6, hbw6⟩
        case measure => simp [intOf]; omega
    · obtain rfl : n = i := by omega
      go_wp2_with fail
      go_ret
      exact ⟨_, rfl, Own.of_row HR.out, HB.out⟩
/-- What stands at j while the k-th product of i is looked at. -/
noncomputable def regAt (N : Nat) (xs : List Int) (i k j : Nat) : Bool := if j < i then regB N xs j else if j = i then cdec (∃ x, x < k ∧ tmul N xs (tmul N xs i x) i = i) else false
theorem regAt_zero (N : Nat) (xs : List Int) : bl N (regAt N xs 0 0) = bl N (fun _ => false) := bl_congr fun j _ => by
  unfold regAt
  rw [if_neg (by omega)]
  by_cases e : j = 0
  · rw [if_pos e]; exact cdec_no (fun ⟨x, hx, _⟩ => by omega)
  · rw [if_neg e]
theorem regAt_next (N : Nat) (xs : List Int) (i : Nat) : bl N (regAt N xs i N) = bl N (regAt N xs (i + 1) 0) := bl_congr fun j _ => by
  unfold regAt
  by_cases h1 : j < i
  · rw [if_pos h1, if_pos (by omega)]
  · by_cases h2 : j = i
    · subst h2; rw [if_neg (by omega), if_pos rfl, if_pos (by omega)]; rfl
    · rw [if_neg h1, if_neg h2, if_neg (by omega)]
      by_cases h3 : j = i + 1
      · rw [if_pos h3]; exact (cdec_no (fun ⟨x, hx, _⟩ => by omega)).symm
      · rw [if_neg h3]
theorem regAt_done (N : Nat) (xs : List Int) : bl N (regAt N xs N 0) = bl N (regB N xs) := bl_congr fun j hj => by
  unfold regAt; rw [if_pos hj]
theorem regAt_self (N : Nat) (xs : List Int) (i k : Nat) : regAt N xs i k i = cdec (∃ x, x < k ∧ tmul N xs (tmul N xs i x) i = i) := by
  unfold regAt; rw [if_neg (by omega), if_pos rfl]
theorem regAt_set {N : Nat} {xs : List Int} {i k : Nat} {b : Bool} (h : b = cdec (∃ x, x < k + 1 ∧ tmul N xs (tmul N xs i x) i = i)) : (bl N (regAt N xs i k)).set i (.bool b) = bl N (regAt N xs i (k + 1)) := by
  rw [bl_set]
  exact bl_congr fun j _ => by
    by_cases e : j = i
    · subst e; rw [if_pos rfl, regAt_self, h]
    · rw [if_neg e]; unfold regAt; rw [if_neg e, if_neg e]
theorem reg_keep {W W1 : World} {g : Nat} {a b : Value} {w : World} (h : W.cell? ⟨g, 0, none⟩ = some a ∧ W.cell? ⟨g, 1, none⟩ = some b) (hB : Below w.heap.size w W) (hb : Below W.heap.size W W1) (hg : g < w.heap.size) :
    W1.cell? ⟨g, 0, none⟩ = some a ∧ W1.cell? ⟨g, 1, none⟩ = some b := by
  obtain ⟨h1, h2⟩ := h
  have hs := hB.size
  exact ⟨(hb.cell (by show g < _; omega)).trans h1, (hb.cell (by show g < _; omega)).trans h2⟩
theorem reg_store {W : World} {g p i : Nat} {a b v : Value} (h : W.cell? ⟨g, 0, none⟩ = some a ∧ W.cell? ⟨g, 1, none⟩ = some b) (hg : g < p) :
    (W.setCell ⟨p, i, none⟩ v).cell? ⟨g, 0, none⟩ = some a ∧ (W.setCell ⟨p, i, none⟩ v).cell? ⟨g, 1, none⟩ = some b :=
  ⟨(((Below.refl p W).setCell (Nat.le_refl _) v).cell hg).trans h.1, (((Below.refl p W).setCell (Nat.le_refl _) v).cell hg).trans h.2⟩
theorem reg_cell {W W1 : World} {p i : Nat} {v : Value} (h : W.cell? ⟨p, i, none⟩ = some v ∧ W.frozen? ⟨p, i, none⟩ = false) (hb : Below W.heap.size W W1) (hp : p < W.heap.size) : W1.cell? ⟨p, i, none⟩ = some v ∧ W1.frozen? ⟨p, i, none⟩ = false := by
  refine ⟨(hb.cell hp).trans h.1, ?_⟩
  rw [← h.2]; unfold World.frozen?; rw [hb.block p hp]
end Go.Proofs.YtlgaihofaiigcaaDoor
