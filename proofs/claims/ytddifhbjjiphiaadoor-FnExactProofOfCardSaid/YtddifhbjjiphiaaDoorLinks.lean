/- Links (two ints and a bool) and lists of them: how they lie; the laws' toLink, eqLink and their lists' helpers. -/
import Derived.Test.YtddifhbjjiphiaaDoorRules
import Derived.Test.YtddifhbjjiphiaaDoorMarkRules
import Derived.Test.YtddifhbjjiphiaaDoorSteps
namespace Go.Proofs.YtddifhbjjiphiaaDoor
open Go.RowKit

abbrev LK := Int × Int × Bool
abbrev linkV (x : LK) : Value := .agg #[.int .i64 x.1, .int .i64 x.2.1, .bool x.2.2]
def linkC (x : LK) : List Value := [.int .i64 x.1, .int .i64 x.2.1, .bool x.2.2]
def linksC (l : List LK) : List Value := l.flatMap linkC
theorem linksC_length (l : List LK) : (linksC l).length = l.length * 3 := by
  induction l with
  | nil => rfl
  | cons r l ih => simp only [linksC, List.flatMap_cons, List.length_append, List.length_cons] at ih ⊢; rw [ih]; simp [linkC]; omega
theorem linksC_get (l : List LK) (k : Nat) (r : LK) (h : l[k]? = some r) : (linksC l)[k * 3]? = some (.int .i64 r.1) ∧ (linksC l)[k * 3 + 1]? = some (.int .i64 r.2.1) ∧ (linksC l)[k * 3 + 2]? = some (.bool r.2.2) := by
  induction l generalizing k with
  | nil => simp at h
  | cons a l ih =>
    cases k with
    | zero => simp at h; subst h; simp [linksC, linkC]
    | succ k =>
      have := ih k (by simpa using h)
      simp only [linksC, List.flatMap_cons]
      rw [List.getElem?_append_right (by simp [linkC]; omega), List.getElem?_append_right (by simp [linkC]; omega), List.getElem?_append_right (by simp [linkC]; omega)]
      rw [show (k + 1) * 3 - (linkC a).length = k * 3 by simp [linkC]; omega, show (k + 1) * 3 + 1 - (linkC a).length = k * 3 + 1 by simp [linkC]; omega, show (k + 1) * 3 + 2 - (linkC a).length = k * 3 + 2 by simp [linkC]; omega]
      exact this
theorem linksC_append (a b : List LK) : linksC (a ++ b) = linksC a ++ linksC b := by simp [linksC]
theorem linksC_one (a : LK) : linksC [a] = [.int .i64 a.1, .int .i64 a.2.1, .bool a.2.2] := rfl
theorem linksC_set (l : List LK) (k : Nat) (r : LK) (hk : k < l.length) : (((linksC l).set (k * 3) (.int .i64 r.1)).set (k * 3 + 1) (.int .i64 r.2.1)).set (k * 3 + 2) (.bool r.2.2) = linksC (l.set k r) := by
  induction l generalizing k with
  | nil => simp at hk
  | cons a l ih =>
    cases k with
    | zero => rfl
    | succ k =>
      have := ih k (by simpa using hk)
      rw [show linksC (a :: l) = .int .i64 a.1 :: .int .i64 a.2.1 :: .bool a.2.2 :: linksC l from rfl]
      rw [show (k + 1) * 3 = (k * 3) + 1 + 1 + 1 by omega]
      simp only [List.set_cons_succ]
      rw [this]; rfl
theorem linksC_setB (l : List LK) (k : Nat) (r : LK) (b : Bool) (hr : l[k]? = some r) : (linksC l).set (k * 3 + 2) (.bool b) = linksC (l.set k (r.1, r.2.1, b)) := by
  have hk := (List.getElem?_eq_some_iff.1 hr).1
  obtain ⟨q0, q1, -⟩ := linksC_get l k r hr
  rw [← linksC_set l k (r.1, r.2.1, b) hk]
  have e0 : (linksC l).set (k * 3) (.int .i64 r.1) = linksC l := by
    obtain ⟨h, e⟩ := List.getElem?_eq_some_iff.1 q0
    rw [← e, List.set_getElem_self]
  have e1 : (linksC l).set (k * 3 + 1) (.int .i64 r.2.1) = linksC l := by
    obtain ⟨h, e⟩ := List.getElem?_eq_some_iff.1 q1
    rw [← e, List.set_getElem_self]
  dsimp only
  rw [e0, e1]
theorem Own.link {B n g off c : Nat} {w : World} {l : List LK} (h : Own B w (.slice (some ⟨g, off, none⟩) n c) 3 n (linksC l)) {k : Nat} (hk : k < n) :
    B ≤ g ∧ g < w.heap.size ∧ ∃ r, l[k]? = some r ∧ w.cell? ⟨g, off + k * 3, none⟩ = some (.int .i64 r.1) ∧ w.cell? ⟨g, off + k * 3 + 1, none⟩ = some (.int .i64 r.2.1) ∧ w.cell? ⟨g, off + k * 3 + 2, none⟩ = some (.bool r.2.2) ∧
      w.frozen? ⟨g, off + k * 3, none⟩ = false ∧ w.frozen? ⟨g, off + k * 3 + 1, none⟩ = false ∧ w.frozen? ⟨g, off + k * 3 + 2, none⟩ = false := by
  have hg := h.ge (by omega)
  have h1 := h.1
  rw [linksC_length] at h1
  have hl : k < l.length := by omega
  have hr : l[k]? = some l[k] := List.getElem?_eq_getElem hl
  obtain ⟨q1, q2, q3⟩ := linksC_get l k _ hr
  have r1 := h.cellAt (by omega) (i := k * 3) (by rw [linksC_length]; omega)
  have r2 := h.cellAt (by omega) (i := k * 3 + 1) (by rw [linksC_length]; omega)
  have r3 := h.cellAt (by omega) (i := k * 3 + 2) (by rw [linksC_length]; omega)
  exact ⟨hg.1, hg.2, l[k], hr, r1.1.trans q1, r2.1.trans q2, r3.1.trans q3, r1.2, r2.2, r3.2⟩
theorem Own.llen {B n : Nat} {w : World} {v : Value} {l : List LK} (h : Own B w v 3 n (linksC l)) : l.length = n := by have := h.1; rw [linksC_length] at this; omega
theorem infoLink : (Tryd.prog.info? 34).map (fun i => (i.zero, i.size, i.bytes)) = some (some (.agg #[.int .i64 0, .int .i64 0, .bool false]), 3, 24) := by kernel_rfl

set_option maxHeartbeats 400000 in
theorem toLink_any (u v : Int) (b : Bool) (w : World) :
    Calls Tryd.prog 12 #[.agg #[.int .i64 u, .int .i64 v, .bool b]] w fun e w' => e = .returned (.agg #[.int .i64 u, .int .i64 v, .bool b]) ∧ Below w.heap.size w w' := by
  go_enter Tryd.func12, Tryd.ntmps12
  go_wp2
  exact bodyPost_ret (v := .agg #[.int .i64 u, .int .i64 v, .bool b]) (by simp [results, Tryd.results12, go_sem]) rfl ⟨rfl, bel3 _ _ _ _⟩
set_option maxHeartbeats 400000 in
theorem eqLink_yes (u v : Int) (b : Bool) (w : World) :
    Calls Tryd.prog 46 #[.agg #[.int .i64 u, .int .i64 v, .bool b], .agg #[.int .i64 u, .int .i64 v, .bool b]] w fun e w' => e = .returned (.bool true) ∧ Below w.heap.size w w' := by
  go_enter Tryd.func46, Tryd.ntmps46
  cases b
  all_goals
    go_wp2
    go_ret
    exact ⟨rfl, bel2 _ _ _⟩
theorem held5_keepL {W W1 : World} {p1 p2 p3 p4 p5 : Addr} {a1 a2 a3 a4 a5 : Value} {B : Nat} {w : World} (h : W.cell? p1 = some a1 ∧ W.cell? p2 = some a2 ∧ W.cell? p3 = some a3 ∧ W.cell? p4 = some a4 ∧ W.cell? p5 = some a5 ∧ Below B w W) (hb : Below W.heap.size W W1) (hB : B ≤ w.heap.size)
    (h1 : p1.block < w.heap.size) (h2 : p2.block < w.heap.size) (h3 : p3.block < w.heap.size) (h4 : p4.block < w.heap.size) (h5 : p5.block < w.heap.size) :
    W1.cell? p1 = some a1 ∧ W1.cell? p2 = some a2 ∧ W1.cell? p3 = some a3 ∧ W1.cell? p4 = some a4 ∧ W1.cell? p5 = some a5 ∧ Below B w W1 := by
  have hs := h.2.2.2.2.2.size
  exact ⟨(hb.cell (by omega)).trans h.1, (hb.cell (by omega)).trans h.2.1, (hb.cell (by omega)).trans h.2.2.1, (hb.cell (by omega)).trans h.2.2.2.1, (hb.cell (by omega)).trans h.2.2.2.2.1, h.2.2.2.2.2.trans (hb.mono (by omega))⟩
theorem held6_keepL {W W1 : World} {p1 p2 p3 p4 p5 p6 : Addr} {a1 a2 a3 a4 a5 a6 : Value} {B : Nat} {w : World} (h : W.cell? p1 = some a1 ∧ W.cell? p2 = some a2 ∧ W.cell? p3 = some a3 ∧ W.cell? p4 = some a4 ∧ W.cell? p5 = some a5 ∧ W.cell? p6 = some a6 ∧ Below B w W) (hb : Below W.heap.size W W1) (hB : B ≤ w.heap.size)
    (h1 : p1.block < w.heap.size) (h2 : p2.block < w.heap.size) (h3 : p3.block < w.heap.size) (h4 : p4.block < w.heap.size) (h5 : p5.block < w.heap.size) (h6 : p6.block < w.heap.size) :
    W1.cell? p1 = some a1 ∧ W1.cell? p2 = some a2 ∧ W1.cell? p3 = some a3 ∧ W1.cell? p4 = some a4 ∧ W1.cell? p5 = some a5 ∧ W1.cell? p6 = some a6 ∧ Below B w W1 := by
  have hs := h.2.2.2.2.2.2.size
  exact ⟨(hb.cell (by omega)).trans h.1, (hb.cell (by omega)).trans h.2.1, (hb.cell (by omega)).trans h.2.2.1, (hb.cell (by omega)).trans h.2.2.2.1, (hb.cell (by omega)).trans h.2.2.2.2.1, (hb.cell (by omega)).trans h.2.2.2.2.2.1, h.2.2.2.2.2.2.trans (hb.mono (by omega))⟩
set_option maxHeartbeats 800000 in
theorem eqLinkS_yes (A A' : Option Addr) (n c c' B B' : Nat) (l : List LK) (w : World) (h : Own B w (.slice A n c) 3 n (linksC l)) (h' : Own B' w (.slice A' n c') 3 n (linksC l)) :
    Calls Tryd.prog 20 #[.slice A n c, .slice A' n c'] w fun e w' => e = .returned (.bool true) ∧ Below w.heap.size w w' := by
  have hmax := h.bound
  unfold maxLen at hmax
  by_cases hn : 0 < n
  · obtain ⟨g, off, c0, hv⟩ := h.formR hn
    obtain ⟨rfl, rfl⟩ : A = some ⟨g, off, none⟩ ∧ c = c0 := by injection hv with a _ b; exact ⟨a, b⟩
    obtain ⟨g', off', c0', hv'⟩ := h'.formR hn
    obtain ⟨rfl, rfl⟩ : A' = some ⟨g', off', none⟩ ∧ c' = c0' := by injection hv' with a _ b; exact ⟨a, b⟩
    have HO := Lib.hid h
    have HO' := Lib.hid h'
    clear h h' hv hv'
    have hg := (HO.out.link hn).2.1
    have hg' := (HO'.out.link hn).2.1
    go_enter Tryd.func20, Tryd.ntmps20
    go_wp2
    go_loopw [5] (fun i wr => ∃ k : Nat, k ≤ n ∧ i = .int .i64 k ∧ Below w.heap.size w wr) (fun i _ => n - (intOf i).toNat)
    case atStart => exact ⟨0, Nat.zero_le _, rfl, Below.refl _ _⟩
    case round =>
      obtain ⟨k, hk, rfl, hb⟩ := hrel
      by_cases hlt : k < n
      · obtain ⟨-, -, r, hr, x0, x1, x2, -, -, -⟩ := (HO.out.below hb).link hlt
        obtain ⟨-, -, r', hr', y0, y1, y2, -, -, -⟩ := (HO'.out.below hb).link hlt
        obtain rfl : r = r' := by rw [hr] at hr'; exact Option.some.inj hr'
        obtain ⟨u, v, b⟩ := r
        clear hr hr'
        go_wp2
        go_region_held3 (fun w' => w'.cell? ⟨g, off + k * 3, none⟩ = some (.int .i64 u) ∧ w'.cell? ⟨g, off + k * 3 + 1, none⟩ = some (.int .i64 v) ∧ w'.cell? ⟨g, off + k * 3 + 2, none⟩ = some (.bool b) ∧ w'.cell? ⟨g', off' + k * 3, none⟩ = some (.int .i64 u) ∧ w'.cell? ⟨g', off' + k * 3 + 1, none⟩ = some (.int .i64 v) ∧ w'.cell? ⟨g', off' + k * 3 + 2, none⟩ = some (.bool b) ∧ Below w.heap.size w w')
          (first | exact ⟨x0, x1, x2, y0, y1, y2, hb.drew⟩ | exact held6_keepL (by assumption) hb1 (Nat.le_refl _) hg hg hg hg' hg' hg')
          ((go_at_call 46; refine (eqLink_yes u v b _).mono ?_; rintro e w1 ⟨rfl, hb1⟩))
        all_goals go_wp2
        have hS := ‹_ ∧ _ ∧ _ ∧ _ ∧ _ ∧ _ ∧ Below w.heap.size w w1›
        go_roundw
        case rel => exact ⟨k + 1, by omega, by go_num, hS.2.2.2.2.2.2⟩
        case measure => simp [intOf]; omega
      · go_wp2
        go_ret
        exact ⟨rfl, hb⟩
  · obtain rfl : n = 0 := by omega
    go_enter Tryd.func20, Tryd.ntmps20
    go_wp2
    refine wp_loop_rounds 1 ?_
    rw [rounds_succ]
    go_wp2
    go_ret
    exact ⟨rfl, Below.refl _ _⟩

def marksK (k : Int) (n : Nat) : List LK := (List.range n).map fun i : Nat => (k + 3 * i, k + 3 * i + 1, (k + 3 * i + 1 + 1) % 3 == 0)
theorem marksK_length (k : Int) (n : Nat) : (marksK k n).length = n := by simp [marksK]
theorem marksK_get (k : Int) (n j : Nat) (h : j < n) : (marksK k n)[j]? = some (k + 3 * j, k + 3 * j + 1, (k + 3 * j + 1 + 1) % 3 == 0) := by simp [marksK, h]
theorem marksK_step (k : Int) (i : Nat) (l : List LK) (hi : i < l.length) : (marksK k i ++ l.drop i).set i (k + 3 * i, k + 3 * i + 1, (k + 3 * i + 1 + 1) % 3 == 0) = marksK k (i + 1) ++ l.drop (i + 1) := by
  have h1 : l.drop i = l[i] :: l.drop (i + 1) := by rw [List.drop_eq_getElem_cons hi]
  have hm : marksK k (i + 1) = marksK k i ++ [(k + 3 * i, k + 3 * i + 1, (k + 3 * i + 1 + 1) % 3 == 0)] := by simp [marksK, List.range_succ]
  rw [h1, hm, List.set_append_right _ _ (by simp [marksK_length]), marksK_length, Nat.sub_self, List.set_cons_zero, List.append_assoc]
  rfl
set_option maxRecDepth 100000 in
set_option maxHeartbeats 800000 in
theorem markLinkS_any (A : Option Addr) (n c B : Nat) (k : Int) (l : List LK) (w : World) (h : Own B w (.slice A n c) 3 n (linksC l)) (h0 : 0 ≤ k) (hk : k + 3 * n ≤ 4611686018427387000) :
    Calls Tryd.prog 22 #[.slice A n c, .int .i64 k] w fun e w' => e = .returned (.int .i64 (k + 3 * n)) ∧ Own B w' (.slice A n c) 3 n (linksC (marksK k n)) ∧ Below B w w' ∧ KeptA A n w w' := by
  have hl := h.llen
  have hmax := h.bound
  unfold maxLen at hmax
  by_cases hn : 0 < n
  · obtain ⟨g, off, c0, hv⟩ := h.formR hn
    obtain ⟨rfl, rfl⟩ : A = some ⟨g, off, none⟩ ∧ c = c0 := by injection hv with a _ b; exact ⟨a, b⟩
    clear hv
    have hg := (h.ge hn).1
    have Hl := Lib.hid hl
    clear hl
    go_enter Tryd.func22, Tryd.ntmps22
    go_wp2
    go_loopw [1, 5] (fun q i wr => ∃ j : Nat, j ≤ n ∧ q = .int .i64 (k + 3 * j) ∧ i = .int .i64 j ∧ Hid (Own B wr (.slice (some ⟨g, off, none⟩) n c) 3 n (linksC (marksK k j ++ l.drop j))) ∧ Below B w wr ∧ Hid (w.heap.size ≤ wr.heap.size ∧ KeptA (some ⟨g, off, none⟩) n w wr)) (fun _ i _ => n - (intOf i).toNat)
    case atStart => exact ⟨0, Nat.zero_le _, by simp, rfl, by simpa [marksK, Hid] using h, Below.refl _ _, Nat.le_refl _, fun d _ _ => rfl⟩
    case round =>
      obtain ⟨j, hj, rfl, rfl, ho, hb, HK⟩ := hrel
      have hbs := hb.size
      by_cases hlt : j < n
      · have hlen : (linksC (marksK k j ++ l.drop j)).length = n * 3 := by rw [linksC_length]; simp [marksK_length, Hl.out]; omega
        obtain ⟨x0, xf0⟩ := ho.out.cellAt hn (i := j * 3) (by omega)
        obtain ⟨x1, xf1⟩ := ho.out.cellAt hn (i := j * 3 + 1) (by omega)
        obtain ⟨x2, xf2⟩ := ho.out.cellAt hn (i := j * 3 + 2) (by omega)
        rw [List.getElem?_eq_getElem (by omega)] at x0 x1 x2
        generalize (linksC (marksK k j ++ l.drop j))[j * 3] = old at x0
        generalize (linksC (marksK k j ++ l.drop j))[j * 3 + 1] = old1 at x1
        generalize (linksC (marksK k j ++ l.drop j))[j * 3 + 2] = old2 at x2
        have e1 : off + (j * 3 + 1) = off + j * 3 + 1 := by omega
        have e2 : off + (j * 3 + 2) = off + j * 3 + 2 := by omega
        obtain ⟨z, hz⟩ : ∃ z, ((k + 3 * (j : Int) + 1 + 1) % 3 == 0) = z := ⟨_, rfl⟩
        have Hz := Lib.hid hz
        have ho4 := Own.set (Own.set (Own.set ho.out (j := j * 3) (by omega) (.int .i64 (k + 3 * j))) (j := j * 3 + 1) (by rw [List.length_set]; omega) (.int .i64 (k + 3 * j + 1))) (j := j * 3 + 2) (by rw [List.length_set, List.length_set]; omega) (.bool z)
        rw [linksC_set _ j (k + 3 * j, k + 3 * j + 1, z) (by simp [marksK_length, Hl.out]; omega), ← Hz.out, marksK_step k j l (by rw [Hl.out]; exact hlt), Hz.out] at ho4
        have b4 := ((hb.setCell (p := ⟨g, off + j * 3, none⟩) hg (.int .i64 (k + 3 * j))).setCell (p := ⟨g, off + (j * 3 + 1), none⟩) hg (.int .i64 (k + 3 * j + 1))).setCell (p := ⟨g, off + (j * 3 + 2), none⟩) hg (.bool z)
        rw [e1] at x1 xf1 ho4 b4
        rw [e2] at x2 xf2 ho4 b4
        have HO4 := Lib.hid ho4
        have B4 := Lib.hid b4
        have K4 := Lib.hid (((HK.out.2.setCell hn (off + j * 3) (.int .i64 (k + 3 * j))).setCell hn (off + j * 3 + 1) (.int .i64 (k + 3 * j + 1))).setCell hn (off + j * 3 + 2) (.bool z))
        have hs := HK.out.1
        clear ho4 b4 e1 e2 ho hb HK
        go_wp2
        go_roundw
        case rel => exact ⟨j + 1, by omega, by go_num, by go_num, HO4, B4.out, by simpa [World.size_setCell] using hs, K4.out⟩
        case measure => simp [intOf]; omega
      · obtain rfl : j = n := by omega
        have ho1 := ho.out
        rw [List.drop_of_length_le (by rw [Hl.out]; exact Nat.le_refl _), List.append_nil] at ho1
        go_wp2_with fail
        go_ret
        exact ⟨rfl, ho1, hb, HK.out.2⟩
  · obtain rfl : n = 0 := by omega
    go_enter Tryd.func22, Tryd.ntmps22
    go_wp2
    refine wp_loop_rounds 1 ?_
    rw [rounds_succ]
    go_wp2
    go_ret
    obtain rfl : l = [] := List.eq_nil_of_length_eq_zero hl
    exact ⟨by simp, h, Below.refl _ _, fun d _ _ => rfl⟩

set_option maxHeartbeats 400000 in
theorem heldLinkS_yes (A : Option Addr) (n c B : Nat) (k : Int) (w : World) (h : Own B w (.slice A n c) 3 n (linksC (marksK k n))) (h0 : 0 ≤ k) (hk : k + 3 * n ≤ 4611686018427387000) :
    Calls Tryd.prog 29 #[.slice A n c, .int .i64 k] w fun e w' => e = .returned (.int .i64 (k + 3 * n)) ∧ Below w.heap.size w w' := by
  have hmax := h.bound
  unfold maxLen at hmax
  by_cases hn : 0 < n
  · obtain ⟨g, off, c0, hv⟩ := h.formR hn
    obtain ⟨rfl, rfl⟩ : A = some ⟨g, off, none⟩ ∧ c = c0 := by injection hv with a _ b; exact ⟨a, b⟩
    clear hv
    have HO := Lib.hid h
    clear h
    go_enter Tryd.func29, Tryd.ntmps29
    go_wp2
    go_loopw [1, 5] (fun q i wr => ∃ j : Nat, j ≤ n ∧ q = .int .i64 (k + 3 * j) ∧ i = .int .i64 j ∧ Below w.heap.size w wr) (fun _ i _ => n - (intOf i).toNat)
    case atStart => exact ⟨0, Nat.zero_le _, by simp, rfl, Below.refl _ _⟩
    case round =>
      obtain ⟨j, hj, rfl, rfl, hb⟩ := hrel
      by_cases hlt : j < n
      · obtain ⟨-, -, r, hr, x0, x1, x2, -, -, -⟩ := (HO.out.below hb).link hlt
        rw [marksK_get k n j hlt] at hr
        obtain rfl := Option.some.inj hr
        clear hr
        dsimp only at x0 x1 x2
        have kk : IntKind.i64.wrap (k + 3 * (j : Int) + 1) = k + 3 * (j : Int) + 1 := IntWalk.i64_in _ (by omega)
        
        go_wp2
        go_roundw
        case rel => exact ⟨j + 1, by omega, by go_num, by go_num, hb⟩
        case measure => simp [intOf]; omega
      · obtain rfl : j = n := by omega
        go_wp2_with fail
        go_ret
        exact ⟨rfl, hb⟩
  · obtain rfl : n = 0 := by omega
    go_enter Tryd.func29, Tryd.ntmps29
    go_wp2
    refine wp_loop_rounds 1 ?_
    rw [rounds_succ]
    go_wp2
    go_ret
    exact ⟨by simp, Below.refl _ _⟩

/-- A slice of links that came in: its cells hold xs. -/
def InK (w : World) (A : Option Addr) (n c : Nat) (xs : List LK) : Prop :=
  xs.length = n ∧ n ≤ c ∧ c ≤ maxLen ∧ ∀ k, k < n → ∃ a r, A = some a ∧ xs[k]? = some r ∧ a.block < w.heap.size ∧ w.cell? (a.add (k * 3)) = some (.int .i64 r.1) ∧ w.cell? ⟨(a.add (k * 3)).block, (a.add (k * 3)).off + 1, none⟩ = some (.int .i64 r.2.1) ∧ w.cell? ⟨(a.add (k * 3)).block, (a.add (k * 3)).off + 2, none⟩ = some (.bool r.2.2) ∧ (Lit.int .i64 r.1).wf = true ∧ (Lit.int .i64 r.2.1).wf = true
theorem InK.keep {w w' : World} {A : Option Addr} {n c : Nat} {xs : List LK} (h : InK w A n c xs) (hb : Below w.heap.size w w') : InK w' A n c xs := by
  obtain ⟨h1, h2, h3, h4⟩ := h
  refine ⟨h1, h2, h3, fun k hk => ?_⟩
  obtain ⟨a, r, e, hs, hlt, hc, hc', hc2, hm⟩ := h4 k hk
  exact ⟨a, r, e, hs, by have := hb.size; omega, (hb.cell (by rw [addR_block]; exact hlt)).trans hc, (hb.cell (by show (a.add (k * 3)).block < _; rw [addR_block]; exact hlt)).trans hc', (hb.cell (by show (a.add (k * 3)).block < _; rw [addR_block]; exact hlt)).trans hc2, hm⟩
set_option maxHeartbeats 400000 in
theorem szLinkS_any (A : Option Addr) (n c left : Nat) (w : World) (hc : n ≤ maxLen) (hl : left ≤ 1048576) :
    Calls Tryd.prog 15 #[.slice A n c, .int .i64 left] w fun e w' => ∃ q : Int, e = .returned (.int .i64 q) ∧ SzPost q n left ∧ w = w' := by
  unfold maxLen at hc
  by_cases hbig : left < n
  · go_enter Tryd.func15, Tryd.ntmps15
    go_wp2
    go_ret
    exact ⟨-1, rfl, Or.inl rfl, rfl⟩
  · go_enter Tryd.func15, Tryd.ntmps15
    go_wp2
    go_ret
    exact ⟨(left : Int) - n, rfl, Or.inr ⟨by omega, by omega⟩, rfl⟩
theorem linksC_replicate (n j : Nat) (hj : j < n * 3) : (linksC (List.replicate n (0, 0, false)))[j]? = some (if j % 3 = 2 then .bool false else .int .i64 0) := by
  obtain ⟨k, r, rfl, hr⟩ : ∃ k r, j = k * 3 + r ∧ r < 3 := ⟨j / 3, j % 3, by omega, by omega⟩
  obtain ⟨q0, q1, q2⟩ := linksC_get (List.replicate n (0, 0, false)) k (0, 0, false) (by rw [List.getElem?_replicate, if_pos (by omega)])
  match r, hr with
  | 0, _ => rw [if_neg (by omega)]; simpa using q0
  | 1, _ => rw [if_neg (by omega)]; exact q1
  | 2, _ => rw [if_pos (by omega)]; exact q2
theorem madeLinks_get (n j : Nat) (hj : j < n * 3) : (madeCells #[Value.int .i64 0, Value.int .i64 0, Value.bool false] (n * 3))[j]? = some (if j % 3 = 2 then .bool false else .int .i64 0) := by
  have h : j % 3 = 0 ∨ j % 3 = 1 ∨ j % 3 = 2 := by omega
  rcases h with h | h | h <;> simp [madeCells, hj, h]
theorem Own.madeK (u : World) (n : Nat) (e : TypeId) (hn : n ≤ maxLen) : Own u.heap.size (u.alloc (.cells (madeCells #[.int .i64 0, .int .i64 0, .bool false] (n * 3)) e)) (.slice (some ⟨u.heap.size, 0, none⟩) n n) 3 n (linksC (List.replicate n (0, 0, false))) := by
  refine ⟨by rw [linksC_length]; simp, _, n, rfl, Nat.le_refl _, hn, fun _ => ⟨u.heap.size, 0, rfl, Nat.le_refl _, by simp, fun j hj => ?_⟩⟩
  have hh := heap_alloc_new u (.cells (madeCells #[.int .i64 0, .int .i64 0, .bool false] (n * 3)) e)
  refine ⟨?_, frozen_of_row _ _ _ _ _ hh⟩
  rw [cell_of_row _ _ _ _ _ _ hh, Nat.zero_add]
  rw [linksC_length, List.length_replicate] at hj
  rw [madeLinks_get n j hj, linksC_replicate n j hj]
theorem run_makeLinks (n : Nat) (hn : n ≤ 1048576) (u : World) : (Instr.makeSlice 43 (.int .i64 (n : Int)) (.int .i64 (n : Int))).run Tryd.prog u =
      .ok (.slice (some ⟨u.heap.size, 0, none⟩) n n) (u.alloc (.cells (madeCells #[.int .i64 0, .int .i64 0, .bool false] (n * 3)) 34)) := by
  obtain ⟨i0, hi, hz0, hz1, hz2⟩ := infoR_parts infoLink
  have h := run_make (P := Tryd.prog) u 43 34 i0 (.agg #[.int .i64 0, .int .i64 0, .bool false]) Tryd.underlying43 hi hz0 .i64 .i64 (n : Int) (n : Int) (by omega) (Int.le_refl _) (by rw [hz2]; omega) (by omega)
  simpa [hz1, Value.cells] using h
set_option maxHeartbeats 800000 in
theorem toLinkS_any (A : Option Addr) (n c : Nat) (xs : List LK) (w : World) (h : InK w A n c xs) (hn : n ≤ 1048576) :
    Calls Tryd.prog 17 #[.slice A n c] w fun e w' => ∃ v, e = .returned v ∧ Own w.heap.size w' v 3 n (linksC xs) ∧ Below w.heap.size w w' := by
  have hmk := run_makeLinks n hn
  have HI := Lib.hid h
  obtain ⟨h1, h2, h3, -⟩ := h
  unfold maxLen at h3
  have H1 := Lib.hid h1
  clear h1
  have HM := Lib.hid (Own.madeK w n 34 (by unfold maxLen; omega))
  go_enter Tryd.func17, Tryd.ntmps17
  go_wp2
  go_loopw [4] (fun i wr => ∃ k : Nat, k ≤ n ∧ i = .int .i64 k ∧ Hid (Own w.heap.size wr (.slice (some ⟨w.heap.size, 0, none⟩) n n) 3 n (linksC (xs.take k ++ List.replicate (n - k) (0, 0, false)))) ∧ Below w.heap.size w wr) (fun i _ => n - (intOf i).toNat)
  case atStart => exact ⟨0, Nat.zero_le _, rfl, by simpa using HM, bel1 _ _⟩
  case round =>
    obtain ⟨k, hk, rfl, HO, hb⟩ := hrel
    by_cases hlt : k < n
    · obtain ⟨a, ⟨u, v, b⟩, rfl, hs, -, hc, hc', hc2, hm, hm'⟩ := (HI.out.keep hb).2.2.2 k hlt
      have Hs := Lib.hid hs
      clear hs hm hm'
      go_wp2_with fail
      refine (toLink_any u v b _).mono ?_
      rintro e w1 ⟨rfl, hb1⟩
      have HO1 := Own.below HO.out hb1
      obtain ⟨-, hlt1, r, -, c1, c2, c3, f1, f2, f3⟩ := HO1.link hlt
      rw [Nat.zero_add] at c1 c2 c3 f1 f2 f3
      have hlen := HO1.llen
      have ho2 := Own.set (Own.set (Own.set HO1 (j := k * 3) (by rw [linksC_length]; omega) (.int .i64 u)) (j := k * 3 + 1) (by rw [List.length_set, linksC_length]; omega) (.int .i64 v)) (j := k * 3 + 2) (by rw [List.length_set, List.length_set, linksC_length]; omega) (.bool b)
      rw [linksC_set _ k (u, v, b) (by omega), take_set_any xs n k _ _ Hs.out hlt, Nat.zero_add, Nat.zero_add, Nat.zero_add] at ho2
      have HO2 := Lib.hid ho2
      have hb2 := (((hb.trans (hb1.mono hb.size)).setCell (p := ⟨w.heap.size, k * 3, none⟩) (Nat.le_refl _) (.int .i64 u)).setCell (p := ⟨w.heap.size, k * 3 + 1, none⟩) (Nat.le_refl _) (.int .i64 v)).setCell (p := ⟨w.heap.size, k * 3 + 2, none⟩) (Nat.le_refl _) (.bool b)
      clear ho2 HO1 hlen HO
      go_wp2
      go_roundw
      case rel => exact ⟨k + 1, by omega, by go_num, HO2, hb2⟩
      case measure => simp [intOf]; omega
    · have ho := HO.out
      have hkn : k = n := by omega
      rw [hkn, Nat.sub_self, List.replicate_zero, List.append_nil, List.take_of_length_le (by rw [H1.out]; exact Nat.le_refl _)] at ho
      have HO3 := Lib.hid ho
      clear ho hkn
      go_wp2
      go_ret
      exact ⟨_, rfl, HO3.out, hb⟩
end Go.Proofs.YtddifhbjjiphiaaDoor
