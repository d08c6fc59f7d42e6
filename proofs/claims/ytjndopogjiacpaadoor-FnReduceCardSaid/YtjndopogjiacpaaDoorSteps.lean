/- Steps (two ints) and lists of them: how they lie; the laws' toStep, eqStep and their lists' helpers. -/
import Derived.Test.YtjndopogjiacpaaDoorRules
import Derived.Test.YtjndopogjiacpaaDoorMarkRules
namespace Go.Proofs.YtjndopogjiacpaaDoor
open Go.RowKit

abbrev ST := Int × Int
abbrev stepV (x : ST) : Value := .agg #[.int .i64 x.1, .int .i64 x.2]
def stepC (x : ST) : List Value := [.int .i64 x.1, .int .i64 x.2]
def stepsC (l : List ST) : List Value := l.flatMap stepC
theorem stepsC_length (l : List ST) : (stepsC l).length = l.length * 2 := by
  induction l with
  | nil => rfl
  | cons r l ih => simp only [stepsC, List.flatMap_cons, List.length_append, List.length_cons] at ih ⊢; rw [ih]; simp [stepC]; omega
theorem stepsC_get (l : List ST) (k : Nat) (r : ST) (h : l[k]? = some r) : (stepsC l)[k * 2]? = some (.int .i64 r.1) ∧ (stepsC l)[k * 2 + 1]? = some (.int .i64 r.2) := by
  induction l generalizing k with
  | nil => simp at h
  | cons a l ih =>
    cases k with
    | zero => simp at h; subst h; simp [stepsC, stepC]
    | succ k =>
      have := ih k (by simpa using h)
      simp only [stepsC, List.flatMap_cons]
      rw [List.getElem?_append_right (by simp [stepC]; omega), List.getElem?_append_right (by simp [stepC]; omega)]
      rw [show (k + 1) * 2 - (stepC a).length = k * 2 by simp [stepC]; omega, show (k + 1) * 2 + 1 - (stepC a).length = k * 2 + 1 by simp [stepC]; omega]
      exact this
theorem stepsC_append (a b : List ST) : stepsC (a ++ b) = stepsC a ++ stepsC b := by simp [stepsC]
theorem stepsC_one (a : ST) : stepsC [a] = [.int .i64 a.1, .int .i64 a.2] := rfl
theorem stepsC_set (l : List ST) (k : Nat) (r : ST) (hk : k < l.length) : ((stepsC l).set (k * 2) (.int .i64 r.1)).set (k * 2 + 1) (.int .i64 r.2) = stepsC (l.set k r) := by
  induction l generalizing k with
  | nil => simp at hk
  | cons a l ih =>
    cases k with
    | zero => rfl
    | succ k =>
      have := ih k (by simpa using hk)
      rw [show stepsC (a :: l) = .int .i64 a.1 :: .int .i64 a.2 :: stepsC l from rfl]
      rw [show (k + 1) * 2 = (k * 2) + 1 + 1 by omega]
      simp only [List.set_cons_succ]
      rw [this]; rfl
theorem Own.step {B n g off c : Nat} {w : World} {l : List ST} (h : Own B w (.slice (some ⟨g, off, none⟩) n c) 2 n (stepsC l)) {k : Nat} (hk : k < n) :
    B ≤ g ∧ g < w.heap.size ∧ ∃ r, l[k]? = some r ∧ w.cell? ⟨g, off + k * 2, none⟩ = some (.int .i64 r.1) ∧ w.cell? ⟨g, off + k * 2 + 1, none⟩ = some (.int .i64 r.2) ∧
      w.frozen? ⟨g, off + k * 2, none⟩ = false ∧ w.frozen? ⟨g, off + k * 2 + 1, none⟩ = false := by
  have hg := h.ge (by omega)
  have h1 := h.1
  rw [stepsC_length] at h1
  have hl : k < l.length := by omega
  have hr : l[k]? = some l[k] := List.getElem?_eq_getElem hl
  obtain ⟨q1, q2⟩ := stepsC_get l k _ hr
  have r1 := h.cellAt (by omega) (i := k * 2) (by rw [stepsC_length]; omega)
  have r2 := h.cellAt (by omega) (i := k * 2 + 1) (by rw [stepsC_length]; omega)
  exact ⟨hg.1, hg.2, l[k], hr, r1.1.trans q1, r2.1.trans q2, r1.2, r2.2⟩
theorem Own.slen {B n : Nat} {w : World} {v : Value} {l : List ST} (h : Own B w v 2 n (stepsC l)) : l.length = n := by have := h.1; rw [stepsC_length] at this; omega
theorem infoStep : (Tryd.prog.info? 37).map (fun i => (i.zero, i.size, i.bytes)) = some (some (.agg #[.int .i64 0, .int .i64 0]), 2, 16) := by kernel_rfl

set_option maxHeartbeats 400000 in
theorem toStep_any (u v : Int) (w : World) :
    Calls Tryd.prog 35 #[.agg #[.int .i64 u, .int .i64 v]] w fun e w' => e = .returned (.agg #[.int .i64 u, .int .i64 v]) ∧ Below w.heap.size w w' := by
  go_enter Tryd.func35, Tryd.ntmps35
  go_wp2
  exact bodyPost_ret (v := .agg #[.int .i64 u, .int .i64 v]) (by simp [results, Tryd.results35, go_sem]) rfl ⟨rfl, bel3 _ _ _ _⟩
set_option maxHeartbeats 400000 in
theorem eqStep_yes (u v : Int) (w : World) :
    Calls Tryd.prog 38 #[.agg #[.int .i64 u, .int .i64 v], .agg #[.int .i64 u, .int .i64 v]] w fun e w' => e = .returned (.bool true) ∧ Below w.heap.size w w' := by
  go_enter Tryd.func38, Tryd.ntmps38
  go_wp2
  go_ret
  exact ⟨rfl, bel2 _ _ _⟩
set_option maxHeartbeats 400000 in
theorem eqStepS_yes (A A' : Option Addr) (n c c' B B' : Nat) (l : List ST) (w : World) (h : Own B w (.slice A n c) 2 n (stepsC l)) (h' : Own B' w (.slice A' n c') 2 n (stepsC l)) :
    Calls Tryd.prog 29 #[.slice A n c, .slice A' n c'] w fun e w' => e = .returned (.bool true) ∧ Below w.heap.size w w' := by
  have hmax := h.bound
  unfold maxLen at hmax
  by_cases hn : 0 < n
  · obtain ⟨g, off, c0, hv⟩ := h.formR hn
    obtain ⟨rfl, rfl⟩ : A = some ⟨g, off, none⟩ ∧ c = c0 := by injection hv with a _ b; exact ⟨a, b⟩
    obtain ⟨g', off', c0', hv'⟩ := h'.formR hn
    obtain ⟨rfl, rfl⟩ : A' = some ⟨g', off', none⟩ ∧ c' = c0' := by injection hv' with a _ b; exact ⟨a, b⟩
    have HO := Lib.hid h
    have HO' := Lib.hid h'
    clear h h' hv hv'
    have hg := (HO.out.step hn).2.1
    have hg' := (HO'.out.step hn).2.1
    go_enter Tryd.func29, Tryd.ntmps29
    go_wp2
    go_loopw [5] (fun i wr => ∃ k : Nat, k ≤ n ∧ i = .int .i64 k ∧ Below w.heap.size w wr) (fun i _ => n - (intOf i).toNat)
    case atStart => exact ⟨0, Nat.zero_le _, rfl, Below.refl _ _⟩
    case round =>
      obtain ⟨k, hk, rfl, hb⟩ := hrel
      by_cases hlt : k < n
      · obtain ⟨-, -, r, hr, x0, x1, -, -⟩ := (HO.out.below hb).step hlt
        obtain ⟨-, -, r', hr', y0, y1, -, -⟩ := (HO'.out.below hb).step hlt
        obtain rfl : r = r' := by rw [hr] at hr'; exact Option.some.inj hr'
        obtain ⟨u, v⟩ := r
        clear hr hr'
        go_wp2
        go_region_held3 (fun w' => w'.cell? ⟨g, off + k * 2, none⟩ = some (.int .i64 u) ∧ w'.cell? ⟨g, off + k * 2 + 1, none⟩ = some (.int .i64 v) ∧ w'.cell? ⟨g', off' + k * 2, none⟩ = some (.int .i64 u) ∧ w'.cell? ⟨g', off' + k * 2 + 1, none⟩ = some (.int .i64 v) ∧ Below w.heap.size w w')
          (first | exact ⟨x0, x1, y0, y1, hb.drew⟩ | exact held4_keep (by assumption) hb1 (Nat.le_refl _) hg hg')
          ((go_at_call 38; refine (eqStep_yes u v _).mono ?_; rintro e w1 ⟨rfl, hb1⟩))
        all_goals go_wp2
        have hS := ‹_ ∧ _ ∧ _ ∧ _ ∧ Below w.heap.size w w1›
        go_roundw
        case rel => exact ⟨k + 1, by omega, by go_num, hS.2.2.2.2⟩
        case measure => simp [intOf]; omega
      · go_wp2
        go_ret
        exact ⟨rfl, hb⟩
  · obtain rfl : n = 0 := by omega
    go_enter Tryd.func29, Tryd.ntmps29
    go_wp2
    refine wp_loop_rounds 1 ?_
    rw [rounds_succ]
    go_wp2
    go_ret
    exact ⟨rfl, Below.refl _ _⟩

def marksS (k : Int) (n : Nat) : List ST := (List.range n).map fun i : Nat => (k + 2 * i, k + 2 * i + 1)
theorem marksS_length (k : Int) (n : Nat) : (marksS k n).length = n := by simp [marksS]
theorem marksS_get (k : Int) (n j : Nat) (h : j < n) : (marksS k n)[j]? = some (k + 2 * j, k + 2 * j + 1) := by simp [marksS, h]
theorem marksS_step (k : Int) (i : Nat) (l : List ST) (hi : i < l.length) : (marksS k i ++ l.drop i).set i (k + 2 * i, k + 2 * i + 1) = marksS k (i + 1) ++ l.drop (i + 1) := by
  have h1 : l.drop i = l[i] :: l.drop (i + 1) := by rw [List.drop_eq_getElem_cons hi]
  have hm : marksS k (i + 1) = marksS k i ++ [(k + 2 * i, k + 2 * i + 1)] := by simp [marksS, List.range_succ]
  rw [h1, hm, List.set_append_right _ _ (by simp [marksS_length]), marksS_length, Nat.sub_self, List.set_cons_zero, List.append_assoc]
  rfl
set_option maxRecDepth 100000 in
set_option maxHeartbeats 800000 in
theorem markStepS_any (A : Option Addr) (n c B : Nat) (k : Int) (l : List ST) (w : World) (h : Own B w (.slice A n c) 2 n (stepsC l)) (h0 : 0 ≤ k) (hk : k + 2 * n ≤ 4611686018427387000) :
    Calls Tryd.prog 32 #[.slice A n c, .int .i64 k] w fun e w' => e = .returned (.int .i64 (k + 2 * n)) ∧ Own B w' (.slice A n c) 2 n (stepsC (marksS k n)) ∧ Below B w w' ∧ KeptA A n w w' := by
  have hl := h.slen
  have hmax := h.bound
  unfold maxLen at hmax
  by_cases hn : 0 < n
  · obtain ⟨g, off, c0, hv⟩ := h.formR hn
    obtain ⟨rfl, rfl⟩ : A = some ⟨g, off, none⟩ ∧ c = c0 := by injection hv with a _ b; exact ⟨a, b⟩
    clear hv
    have hg := (h.ge hn).1
    have Hl := Lib.hid hl
    clear hl
    go_enter Tryd.func32, Tryd.ntmps32
    go_wp2
    go_loopw [1, 5] (fun q i wr => ∃ j : Nat, j ≤ n ∧ q = .int .i64 (k + 2 * j) ∧ i = .int .i64 j ∧ Hid (Own B wr (.slice (some ⟨g, off, none⟩) n c) 2 n (stepsC (marksS k j ++ l.drop j))) ∧ Below B w wr ∧ Hid (w.heap.size ≤ wr.heap.size ∧ KeptA (some ⟨g, off, none⟩) n w wr)) (fun _ i _ => n - (intOf i).toNat)
    case atStart => exact ⟨0, Nat.zero_le _, by simp, rfl, by simpa [marksS, Hid] using h, Below.refl _ _, Nat.le_refl _, fun d _ _ => rfl⟩
    case round =>
      obtain ⟨j, hj, rfl, rfl, ho, hb, HK⟩ := hrel
      have hbs := hb.size
      by_cases hlt : j < n
      · have hlen : (stepsC (marksS k j ++ l.drop j)).length = n * 2 := by rw [stepsC_length]; simp [marksS_length, Hl.out]; omega
        obtain ⟨x0, xf0⟩ := ho.out.cellAt hn (i := j * 2) (by omega)
        obtain ⟨x1, xf1⟩ := ho.out.cellAt hn (i := j * 2 + 1) (by omega)
        rw [List.getElem?_eq_getElem (by omega)] at x0 x1
        generalize (stepsC (marksS k j ++ l.drop j))[j * 2] = old at x0
        generalize (stepsC (marksS k j ++ l.drop j))[j * 2 + 1] = old1 at x1
        have e1 : off + (j * 2 + 1) = off + j * 2 + 1 := by omega
        have ho4 := Own.set (Own.set ho.out (j := j * 2) (by omega) (.int .i64 (k + 2 * j))) (j := j * 2 + 1) (by rw [List.length_set]; omega) (.int .i64 (k + 2 * j + 1))
        rw [stepsC_set _ j (k + 2 * j, k + 2 * j + 1) (by simp [marksS_length, Hl.out]; omega), marksS_step k j l (by rw [Hl.out]; exact hlt)] at ho4
        have b4 := (hb.setCell (p := ⟨g, off + j * 2, none⟩) hg (.int .i64 (k + 2 * j))).setCell (p := ⟨g, off + (j * 2 + 1), none⟩) hg (.int .i64 (k + 2 * j + 1))
        rw [e1] at x1 xf1 ho4 b4
        have HO4 := Lib.hid ho4
        have B4 := Lib.hid b4
        have K4 := Lib.hid ((HK.out.2.setCell hn (off + j * 2) (.int .i64 (k + 2 * j))).setCell hn (off + j * 2 + 1) (.int .i64 (k + 2 * j + 1)))
        have hs := HK.out.1
        clear ho4 b4 e1 ho hb HK
        go_wp2
        go_roundw
        case rel => exact ⟨j + 1, by omega, by go_num, by go_num, HO4, B4.out, by simpa [World.size_setCell] using hs, K4.out⟩
        case measure => simp [intOf]; omega
      · obtain rfl : j = n := by omega
        have ho1 := ho.out
        rw [List.drop_of_length_le (by rw [Hl.out]; exact Nat.le_refl _), List.append_nil] at ho1
        go_wp2_with fail
        go_ret
        exact ⟨rfl, ho1, hb, HK.out.2⟩
  · obtain rfl : n = 0 := by omega
    go_enter Tryd.func32, Tryd.ntmps32
    go_wp2
    refine wp_loop_rounds 1 ?_
    rw [rounds_succ]
    go_wp2
    go_ret
    obtain rfl : l = [] := List.eq_nil_of_length_eq_zero hl
    exact ⟨by simp, h, Below.refl _ _, fun d _ _ => rfl⟩

set_option maxHeartbeats 400000 in
theorem heldStepS_yes (A : Option Addr) (n c B : Nat) (k : Int) (w : World) (h : Own B w (.slice A n c) 2 n (stepsC (marksS k n))) (h0 : 0 ≤ k) (hk : k + 2 * n ≤ 4611686018427387000) :
    Calls Tryd.prog 33 #[.slice A n c, .int .i64 k] w fun e w' => e = .returned (.int .i64 (k + 2 * n)) ∧ Below w.heap.size w w' := by
  have hmax := h.bound
  unfold maxLen at hmax
  by_cases hn : 0 < n
  · obtain ⟨g, off, c0, hv⟩ := h.formR hn
    obtain ⟨rfl, rfl⟩ : A = some ⟨g, off, none⟩ ∧ c = c0 := by injection hv with a _ b; exact ⟨a, b⟩
    clear hv
    have HO := Lib.hid h
    clear h
    go_enter Tryd.func33, Tryd.ntmps33
    go_wp2
    go_loopw [1, 5] (fun q i wr => ∃ j : Nat, j ≤ n ∧ q = .int .i64 (k + 2 * j) ∧ i = .int .i64 j ∧ Below w.heap.size w wr) (fun _ i _ => n - (intOf i).toNat)
    case atStart => exact ⟨0, Nat.zero_le _, by simp, rfl, Below.refl _ _⟩
    case round =>
      obtain ⟨j, hj, rfl, rfl, hb⟩ := hrel
      by_cases hlt : j < n
      · obtain ⟨-, -, r, hr, x0, x1, -, -⟩ := (HO.out.below hb).step hlt
        rw [marksS_get k n j hlt] at hr
        obtain rfl := Option.some.inj hr
        clear hr
        dsimp only at x0 x1
        have kk : IntKind.i64.wrap (k + 2 * (j : Int) + 1) = k + 2 * (j : Int) + 1 := IntWalk.i64_in _ (by omega)
        go_wp2
        clear kk
        go_roundw
        case rel => exact ⟨j + 1, by omega, by go_num, by go_num, hb⟩
        case measure => simp [intOf]; omega
      · obtain rfl : j = n := by omega
        go_wp2_with fail
        go_ret
        exact ⟨rfl, hb⟩
  · obtain rfl : n = 0 := by omega
    go_enter Tryd.func33, Tryd.ntmps33
    go_wp2
    refine wp_loop_rounds 1 ?_
    rw [rounds_succ]
    go_wp2
    go_ret
    exact ⟨by simp, Below.refl _ _⟩

/-- A slice of steps that came in: its cells hold xs. -/
def InS (w : World) (A : Option Addr) (n c : Nat) (xs : List ST) : Prop :=
  xs.length = n ∧ n ≤ c ∧ c ≤ maxLen ∧ ∀ k, k < n → ∃ a r, A = some a ∧ xs[k]? = some r ∧ a.block < w.heap.size ∧ w.cell? (a.add (k * 2)) = some (.int .i64 r.1) ∧ w.cell? ⟨(a.add (k * 2)).block, (a.add (k * 2)).off + 1, none⟩ = some (.int .i64 r.2) ∧ (Lit.int .i64 r.1).wf = true ∧ (Lit.int .i64 r.2).wf = true
theorem InS.keep {w w' : World} {A : Option Addr} {n c : Nat} {xs : List ST} (h : InS w A n c xs) (hb : Below w.heap.size w w') : InS w' A n c xs := by
  obtain ⟨h1, h2, h3, h4⟩ := h
  refine ⟨h1, h2, h3, fun k hk => ?_⟩
  obtain ⟨a, r, e, hs, hlt, hc, hc', hm⟩ := h4 k hk
  exact ⟨a, r, e, hs, by have := hb.size; omega, (hb.cell (by rw [addR_block]; exact hlt)).trans hc, (hb.cell (by show (a.add (k * 2)).block < _; rw [addR_block]; exact hlt)).trans hc', hm⟩
set_option maxHeartbeats 400000 in
theorem szStepS_any (A : Option Addr) (n c left : Nat) (w : World) (hc : n ≤ maxLen) (hl : left ≤ 1048576) :
    Calls Tryd.prog 44 #[.slice A n c, .int .i64 left] w fun e w' => ∃ q : Int, e = .returned (.int .i64 q) ∧ SzPost q n left ∧ w = w' := by
  unfold maxLen at hc
  by_cases hbig : left < n
  · go_enter Tryd.func44, Tryd.ntmps44
    go_wp2
    go_ret
    exact ⟨-1, rfl, Or.inl rfl, rfl⟩
  · go_enter Tryd.func44, Tryd.ntmps44
    go_wp2
    go_ret
    exact ⟨(left : Int) - n, rfl, Or.inr ⟨by omega, by omega⟩, rfl⟩
theorem madeSteps_get (n j : Nat) (hj : j < n * 2) : (madeCells #[Value.int .i64 0, Value.int .i64 0] (n * 2))[j]? = some (.int .i64 0) := by
  have h : j % 2 = 0 ∨ j % 2 = 1 := by omega
  rcases h with h | h <;> simp [madeCells, hj, h]
theorem Own.madeS (u : World) (n : Nat) (e : TypeId) (hn : n ≤ maxLen) : Own u.heap.size (u.alloc (.cells (madeCells #[.int .i64 0, .int .i64 0] (n * 2)) e)) (.slice (some ⟨u.heap.size, 0, none⟩) n n) 2 n (stepsC (List.replicate n (0, 0))) := by
  refine ⟨by rw [stepsC_length]; simp, _, n, rfl, Nat.le_refl _, hn, fun _ => ⟨u.heap.size, 0, rfl, Nat.le_refl _, by simp, fun j hj => ?_⟩⟩
  have hh := heap_alloc_new u (.cells (madeCells #[.int .i64 0, .int .i64 0] (n * 2)) e)
  refine ⟨?_, frozen_of_row _ _ _ _ _ hh⟩
  rw [cell_of_row _ _ _ _ _ _ hh, Nat.zero_add]
  rw [stepsC_length, List.length_replicate] at hj
  rw [madeSteps_get n j hj]
  have h : j = j / 2 * 2 ∨ j = j / 2 * 2 + 1 := by omega
  have hg := stepsC_get (List.replicate n ((0, 0) : ST)) (j / 2) (0, 0) (by rw [List.getElem?_replicate, if_pos (by omega)])
  rcases h with h | h
  · rw [h]; exact hg.1.symm
  · rw [h]; exact hg.2.symm
theorem take_set_any {α : Type} (xs : List α) (n k : Nat) (s z : α) (hs : xs[k]? = some s) (hk : k < n) :
    (xs.take k ++ List.replicate (n - k) z).set k s = xs.take (k + 1) ++ List.replicate (n - (k + 1)) z := by
  have hk' := (List.getElem?_eq_some_iff.1 hs).1
  have he := (List.getElem?_eq_some_iff.1 hs).2
  rw [List.take_succ_eq_append_getElem hk', he, show n - k = (n - (k + 1)) + 1 by omega, List.replicate_succ]
  rw [List.set_append_right _ _ (by simp; omega)]
  have : k - (xs.take k).length = 0 := by simp; omega
  rw [this]
  simp
set_option maxRecDepth 100000 in
set_option maxHeartbeats 400000 in
theorem toStepS_any (A : Option Addr) (n c : Nat) (xs : List ST) (w : World) (h : InS w A n c xs) (hn : n ≤ 1048576) :
    Calls Tryd.prog 46 #[.slice A n c] w fun e w' => ∃ v, e = .returned v ∧ Own w.heap.size w' v 2 n (stepsC xs) ∧ Below w.heap.size w w' := by
  obtain ⟨i0, hi, hz0, hz1, hz2⟩ := infoR_parts infoStep
  have hmk : ∀ u : World, (Instr.makeSlice 30 (.int .i64 (n : Int)) (.int .i64 (n : Int))).run Tryd.prog u =
      .ok (.slice (some ⟨u.heap.size, 0, none⟩) n n) (u.alloc (.cells (madeCells #[.int .i64 0, .int .i64 0] (n * 2)) 37)) := fun u => by
    have h := run_make (P := Tryd.prog) u 30 37 i0 (.agg #[.int .i64 0, .int .i64 0]) Tryd.underlying30 hi hz0 .i64 .i64 (n : Int) (n : Int) (by omega) (Int.le_refl _) (by rw [hz2]; omega) (by omega)
    simpa [hz1, Value.cells] using h
  have HI := Lib.hid h
  obtain ⟨h1, h2, h3, -⟩ := h
  unfold maxLen at h3
  have H1 := Lib.hid h1
  clear h1
  have HM := Lib.hid (Own.madeS w n 37 (by unfold maxLen; omega))
  go_enter Tryd.func46, Tryd.ntmps46
  go_wp2
  go_loopw [4] (fun i wr => ∃ k : Nat, k ≤ n ∧ i = .int .i64 k ∧ Hid (Own w.heap.size wr (.slice (some ⟨w.heap.size, 0, none⟩) n n) 2 n (stepsC (xs.take k ++ List.replicate (n - k) (0, 0)))) ∧ Below w.heap.size w wr) (fun i _ => n - (intOf i).toNat)
  case atStart => exact ⟨0, Nat.zero_le _, rfl, by simpa using HM, bel1 _ _⟩
  case round =>
    obtain ⟨k, hk, rfl, HO, hb⟩ := hrel
    by_cases hlt : k < n
    · obtain ⟨a, ⟨u, v⟩, rfl, hs, -, hc, hc', hm, hm'⟩ := (HI.out.keep hb).2.2.2 k hlt
      have Hs := Lib.hid hs
      clear hs hm hm'
      go_wp2_with fail
      refine (toStep_any u v _).mono ?_
      rintro e w1 ⟨rfl, hb1⟩
      have HO1 := Own.below HO.out hb1
      obtain ⟨-, hlt1, r, -, c1, c2, f1, f2⟩ := HO1.step hlt
      rw [Nat.zero_add] at c1 c2 f1 f2
      have hlen := HO1.slen
      have ho2 := Own.set (Own.set HO1 (j := k * 2) (by rw [stepsC_length]; omega) (.int .i64 u)) (j := k * 2 + 1) (by rw [List.length_set, stepsC_length]; omega) (.int .i64 v)
      rw [stepsC_set _ k (u, v) (by omega), take_set_any xs n k _ _ Hs.out hlt, Nat.zero_add, Nat.zero_add] at ho2
      have HO2 := Lib.hid ho2
      have hb2 := ((hb.trans (hb1.mono hb.size)).setCell (p := ⟨w.heap.size, k * 2, none⟩) (Nat.le_refl _) (.int .i64 u)).setCell (p := ⟨w.heap.size, k * 2 + 1, none⟩) (Nat.le_refl _) (.int .i64 v)
      clear ho2 HO1 hlen HO
      go_wp2
      go_roundw
      case rel => exact ⟨k + 1, by omega, by go_num, HO2, hb2⟩
      case measure => simp [intOf]; omega
    · have ho := HO.out
      have hkn : k = n := by omega
      rw [hkn, Nat.sub_self, List.replicate_zero, List.append_nil, List.take_of_length_le (by rw [H1.out]; exact Nat.le_refl _)] at ho
      have HO3 := Lib.hid ho
      clear ho hkn
      go_wp2
      go_ret
      exact ⟨_, rfl, HO3.out, hb⟩
end Go.Proofs.YtjndopogjiacpaaDoor
