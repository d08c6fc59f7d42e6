/- The first and the last step; the conditions of a reduction; is a word reduced? -/
import Derived.Test.YtddifhbjjiphiaaDoorNextStep
namespace Go.Proofs.YtddifhbjjiphiaaDoor
open Go.RowKit

def sideStep (k : Int) (l : List R) (s : ByteArray) (d : Int) : ST × Bool := if rulesOk k l then ((stepsD l s d).head?.getD (0, 0), (stepsD l s d).head?.isSome) else ((0, 0), false)
theorem ret_stb {a b : ST × Bool} (h : a = b) : Ending.returned (.tuple #[stepV a.1, .bool a.2]) = .returned (.tuple #[stepV b.1, .bool b.2]) := by rw [h]

/-! The best step from the right, found from the left. -/
def bestF (b : ST × Bool) (x : ST) : ST × Bool := if b.2 = false ∨ b.1.2 < x.2 then (x, true) else b
def best (r : List ST) : ST × Bool := r.foldl bestF ((0, 0), false)
theorem best_same (i : Int) : ∀ (r : List ST) (b : ST × Bool), (∀ x ∈ r, x.2 = i) → b.2 = true → b.1.2 = i → r.foldl bestF b = b
  | [], _, _, _, _ => rfl
  | x :: r, b, h, h1, h2 => by
    have hx := h x (List.mem_cons_self ..)
    have e : bestF b x = b := by unfold bestF; rw [if_neg]; rintro (h | h); rw [h1] at h; cases h; omega
    rw [List.foldl_cons, e]
    exact best_same i r b (fun y hy => h y (List.mem_cons_of_mem _ hy)) h1 h2
theorem best_row (i : Int) (r : List ST) (b : ST × Bool) (h : ∀ x ∈ r, x.2 = i) (hb : b.2 = true → b.1.2 < i) : r.foldl bestF b = r.head?.elim b fun x => (x, true) := by
  cases r with
  | nil => rfl
  | cons x r =>
    have hx := h x (List.mem_cons_self ..)
    have e : bestF b x = (x, true) := by
      unfold bestF; rw [if_pos]
      by_cases h2 : b.2 = true
      · exact .inr (by rw [hx]; exact hb h2)
      · exact .inl (by simpa using h2)
    rw [List.foldl_cons, e]
    exact best_same i r (x, true) (fun y hy => h y (List.mem_cons_of_mem _ hy)) rfl hx
def row (l : List R) (s : ByteArray) (i : Nat) : List ST := rowTo l s i l.length
theorem row_place (l : List R) (s : ByteArray) (i : Nat) : ∀ x ∈ row l s i, x.2 = i := fun x hx => ((mem_rowTo l s i x _ (Nat.le_refl _)).1 hx).2.2.1
def descend (l : List R) (s : ByteArray) : Nat → List ST
  | 0 => []
  | i + 1 => row l s i ++ descend l s i
theorem best_descend (l : List R) (s : ByteArray) : ∀ i, ((rowsTo l s 0 i).foldl bestF ((0, 0), false) = ((descend l s i).head?.getD (0, 0), (descend l s i).head?.isSome)) ∧ (((descend l s i).head?.isSome) = true → ((descend l s i).head?.getD (0, 0)).2 < i)
  | 0 => ⟨rfl, by simp [descend]⟩
  | i + 1 => by
    obtain ⟨h1, h2⟩ := best_descend l s i
    have e : rowsTo l s 0 (i + 1) = rowsTo l s 0 i ++ row l s i := by rw [rowsTo]; rfl
    rw [e, List.foldl_append, h1, best_row (i : Int) (row l s i) _ (row_place l s i) h2, descend]
    have hp := row_place l s i
    cases hr : row l s i with
    | nil =>
      refine ⟨rfl, fun h => ?_⟩
      have := h2 h
      rw [List.nil_append]; omega
    | cons x r =>
      refine ⟨rfl, fun _ => ?_⟩
      have := hp x (by rw [hr]; exact List.mem_cons_self ..)
      show x.2 < _
      rw [this]; omega
theorem rows_descend (l : List R) (s : ByteArray) : ∀ q, q ≤ s.size → rowsTo l s 1 q ++ descend l s (s.size - q) = descend l s s.size
  | 0, _ => rfl
  | q + 1, h => by
    rw [← rows_descend l s q (by omega), rowsTo, List.append_assoc, show s.size - q = (s.size - (q + 1)) + 1 by omega, descend]
    congr 2
    show rowTo l s (placeD 1 s.size q) l.length = rowTo l s (s.size - (q + 1)) l.length
    rw [placeD, if_pos rfl, show s.size - 1 - q = s.size - (q + 1) by omega]
theorem steps_right (l : List R) (s : ByteArray) : stepsD l s 1 = descend l s s.size := by
  have := rows_descend l s s.size (Nat.le_refl _)
  rw [Nat.sub_self, descend, List.append_nil] at this
  exact this
theorem best_steps (l : List R) (s : ByteArray) : best (stepsD l s 0) = ((stepsD l s 1).head?.getD (0, 0), (stepsD l s 1).head?.isSome) := by
  rw [steps_right]; exact (best_descend l s s.size).1
theorem best_snoc (r : List ST) (x : ST) : best (r ++ [x]) = bestF (best r) x := by simp [best]

set_option maxRecDepth 100000 in
set_option maxHeartbeats 800000 in
theorem specFirstStep (k : Int) (A : Option Addr) (n c B : Nat) (l : List R) (s : ByteArray) (w : World) (h : Own B w (.slice A n c) 2 n (rulesC l)) (hsm : smallR l) (hs : s.size ≤ 1048576) :
    Calls Tryd.prog 78 #[.agg #[.int .i64 k, .slice A n c], .string s] w fun e w' => e = .returned (.tuple #[stepV (sideStep k l s 0).1, .bool (sideStep k l s 0).2]) ∧ Below w.heap.size w w' := by
  have HO := Lib.hid h
  clear h
  go_enter Tryd.func78, Tryd.ntmps78
  go_wp2_with fail
  refine (specStepsOf k A n c B l s _ (HO.out.below (bel2 _ _ _)) hsm hs).mono ?_
  rintro e w1 ⟨v, rfl, o1, hb1⟩
  have b1 := (bel2 w _ _).trans (hb1.mono (by simp; omega))
  obtain ⟨r0, r1, f0, f1, rl⟩ := ((Blk.new2 w _ _ _).below hb1 (by simp)).two
  obtain ⟨A1, c1, rfl⟩ := o1.form
  have O1 := Lib.hid o1
  have hmax := o1.bound
  unfold maxLen at hmax
  clear hb1 o1
  have He : Hid (sideStep k l s 0 = ((stepsOf k l s).head?.getD (0, 0), (stepsOf k l s).head?.isSome)) := by
    show _ = _
    unfold sideStep stepsOf
    split <;> rfl
  generalize stepsOf k l s = L at *
  cases L with
  | nil =>
    go_wp2_with fail
    refine bodyPost_ret (v := .tuple #[stepV (0, 0), .bool false]) (by simp [results, Tryd.results78, go_sem, *]) rfl ⟨ret_stb He.out.symm, ?_⟩
    exact (b1.setCell (by simp) _).setCell (by simp) _
  | cons x L =>
    obtain ⟨g, off, c0, hv⟩ := O1.out.formR (by simp)
    obtain ⟨rfl, rfl⟩ : A1 = some ⟨g, off, none⟩ ∧ c1 = c0 := by injection hv with a _ b; exact ⟨a, b⟩
    clear hv
    obtain ⟨-, hgl, ⟨u, v⟩, hr, x0, x1, -, -⟩ := O1.out.step (k := 0) (by simp)
    obtain rfl : x = (u, v) := by simpa using hr
    rw [Nat.zero_mul, Nat.add_zero] at x0 x1
    clear hr
    go_wp2_with fail
    refine bodyPost_ret (v := .tuple #[stepV (u, v), .bool true]) (by simp [results, Tryd.results78, go_sem, *]) rfl ⟨ret_stb He.out.symm, ?_⟩
    exact (b1.setCell (by simp) _).setCell (by simp) _

end Go.Proofs.YtddifhbjjiphiaaDoor
