/- Chains made shorter: what ShortenProof answers, as the program and as the model come to it. Plain lemmas, of no program. -/
import Derived.Test.YtddifhbjjiphiaaDoorChain
namespace Go.Proofs.YtddifhbjjiphiaaDoor

def atW (W : List ByteArray) (i : Nat) : ByteArray := W.getD i ⟨#[]⟩
/-- The greatest place below n of a word that reads as u; 0 if there is none. -/
def lastTo (W : List ByteArray) (u : ByteArray) : Nat → Nat
  | 0 => 0
  | n + 1 => if (atW W n).toList == u.toList then n else lastTo W u n
def lastI (W : List ByteArray) (i : Nat) : Nat := lastTo W (atW W i) W.length
def cutL {α : Type} (l : List α) (i k : Nat) : List α := l.take i ++ l.drop k
theorem lastTo_spec (W : List ByteArray) (u : ByteArray) : ∀ n, (∃ i, i < n ∧ (atW W i).toList = u.toList) → lastTo W u n < n ∧ (atW W (lastTo W u n)).toList = u.toList ∧ ∀ j, j < n → (atW W j).toList = u.toList → j ≤ lastTo W u n
  | 0, ⟨i, h, _⟩ => absurd h (by omega)
  | n + 1, ⟨i, hi, he⟩ => by
    rw [lastTo]
    by_cases h : (atW W n).toList = u.toList
    · rw [if_pos (by simp [h])]
      exact ⟨by omega, h, fun j hj _ => by omega⟩
    · rw [if_neg (by simp [h])]
      have hin : i ≠ n := fun e => h (e ▸ he)
      obtain ⟨h1, h2, h3⟩ := lastTo_spec W u n ⟨i, by omega, he⟩
      refine ⟨by omega, h2, fun j hj hje => ?_⟩
      have : j ≠ n := fun e => h (e ▸ hje)
      exact h3 j (by omega) hje
theorem lastI_spec {W : List ByteArray} {i : Nat} (hi : i < W.length) : i ≤ lastI W i ∧ lastI W i < W.length ∧ (atW W (lastI W i)).toList = (atW W i).toList ∧ ∀ j, j < W.length → (atW W j).toList = (atW W i).toList → j ≤ lastI W i := by
  obtain ⟨h1, h2, h3⟩ := lastTo_spec W (atW W i) W.length ⟨i, hi, rfl⟩
  exact ⟨h3 i hi rfl, h1, h2, h3⟩
theorem lastI_eq {W : List ByteArray} {i k : Nat} (hk : k < W.length) (he : (atW W k).toList = (atW W i).toList) (hi : i < W.length) (hn : ∀ j, k < j → j < W.length → (atW W j).toList ≠ (atW W i).toList) : lastI W i = k := by
  obtain ⟨h1, h2, h3, h4⟩ := lastI_spec hi
  have h5 := h4 k hk he
  rcases Nat.lt_or_ge k (lastI W i) with h | h
  · exact absurd h3 (hn _ h h2)
  · omega
/-- No word before i occurs again. -/
def OnceTo (W : List ByteArray) (i : Nat) : Prop := ∀ a, a < i → lastI W a = a
theorem cutL_length {α : Type} (l : List α) (i k : Nat) (h1 : i ≤ k) (h2 : k ≤ l.length) : (cutL l i k).length = l.length - (k - i) := by
  unfold cutL; rw [List.length_append, List.length_take, List.length_drop]; omega
theorem atW_cut_lt (W : List ByteArray) (i k a : Nat) (ha : a < i) (hi : i ≤ W.length) : atW (cutL W i k) a = atW W a := by
  unfold atW cutL
  rw [List.getD_eq_getElem?_getD, List.getD_eq_getElem?_getD, List.getElem?_append_left (by rw [List.length_take]; omega), List.getElem?_take_of_lt ha]
theorem atW_cut_ge (W : List ByteArray) (i k a : Nat) (ha : i ≤ a) (hi : i ≤ W.length) : atW (cutL W i k) a = atW W (a - i + k) := by
  unfold atW cutL
  rw [List.getD_eq_getElem?_getD, List.getD_eq_getElem?_getD, List.getElem?_append_right (by rw [List.length_take]; omega), List.getElem?_drop, List.length_take]
  congr 2; omega
theorem OnceTo.step {W : List ByteArray} {i : Nat} (h : OnceTo W i) (hi : lastI W i = i) : OnceTo W (i + 1) := fun a ha => by
  by_cases e : a = i
  · rw [e]; exact hi
  · exact h a (by omega)
theorem OnceTo.cut {W : List ByteArray} {i k : Nat} (h : OnceTo W i) (hi : i < W.length) (hk : lastI W i = k) (hik : i < k) : OnceTo (cutL W i k) (i + 1) := by
  obtain ⟨-, h2, h3, h4⟩ := lastI_spec hi
  rw [hk] at h2 h3 h4
  have hl := cutL_length W i k (by omega) (by omega)
  intro a ha
  have haw : a < (cutL W i k).length := by omega
  refine lastI_eq haw rfl haw (fun j hj hjl he => ?_)
  by_cases e : a < i
  · rw [atW_cut_lt W i k a e (by omega)] at he
    have h5 := (lastI_spec (W := W) (i := a) (by omega)).2.2.2
    rw [h a e] at h5
    by_cases e2 : j < i
    · rw [atW_cut_lt W i k j e2 (by omega)] at he
      have := h5 j (by omega) he; omega
    · rw [atW_cut_ge W i k j (by omega) (by omega)] at he
      have := h5 (j - i + k) (by omega) he; omega
  · have : a = i := by omega
    subst this
    rw [atW_cut_ge W a k a (Nat.le_refl _) (by omega), atW_cut_ge W a k j (by omega) (by omega), show a - a + k = k by omega] at he
    have := h4 (j - a + k) (by omega) (he.trans h3); omega
/-- The program's way: a place after the other. -/
def shortTo {α : Type} : Nat → Nat → List ByteArray → List α → List α
  | 0, _, _, K => K
  | f + 1, i, W, K => if i < W.length then (if i < lastI W i then shortTo f (i + 1) (cutL W i (lastI W i)) (cutL K i (lastI W i)) else shortTo f (i + 1) W K) else K
theorem shortTo_end {α : Type} (f i : Nat) (W : List ByteArray) (K : List α) (h : W.length ≤ i) : shortTo f i W K = K := by
  cases f with
  | zero => rfl
  | succ f => rw [shortTo, if_neg (by omega)]
theorem shortTo_step {α : Type} {i : Nat} {W : List ByteArray} {K : List α} (f : Nat) (hi : i < W.length) (hl : lastI W i = i) : shortTo (f + 1) i W K = shortTo f (i + 1) W K := by rw [shortTo, if_pos hi, if_neg (by omega)]
theorem shortTo_cut {α : Type} {i k : Nat} {W : List ByteArray} {K : List α} (f : Nat) (hi : i < W.length) (hl : lastI W i = k) (hik : i < k) : shortTo (f + 1) i W K = shortTo f (i + 1) (cutL W i k) (cutL K i k) := by rw [shortTo, if_pos hi, hl, if_pos hik]
theorem shortTo_fuel {α : Type} : ∀ (f g i : Nat) (W : List ByteArray) (K : List α), W.length - i ≤ f → W.length - i ≤ g → shortTo f i W K = shortTo g i W K
  | 0, g, i, W, K, h1, _ => by rw [shortTo_end g i W K (by omega)]; rfl
  | f + 1, 0, i, W, K, _, h2 => by rw [shortTo_end (f + 1) i W K (by omega)]; rfl
  | f + 1, g + 1, i, W, K, h1, h2 => by
    rw [shortTo, shortTo]
    split
    · rename_i hi
      split
      · rename_i hk
        have hl := cutL_length W i (lastI W i) (by omega) (by have := (lastI_spec hi).2.1; omega)
        exact shortTo_fuel f g (i + 1) _ _ (by omega) (by omega)
      · exact shortTo_fuel f g (i + 1) _ _ (by omega) (by omega)
    · rfl
theorem shortTo_once {α : Type} : ∀ (i : Nat) (f : Nat) (W : List ByteArray) (K : List α), OnceTo W i → i ≤ W.length → shortTo (f + i) 0 W K = shortTo f i W K
  | 0, f, W, K, _, _ => rfl
  | i + 1, f, W, K, h, hi => by
    have h1 := shortTo_once i (f + 1) W K (fun a ha => h a (by omega)) (by omega)
    rw [show f + (i + 1) = f + 1 + i by omega, h1, shortTo_step f (by omega) (h i (by omega))]
def shortL {α : Type} (W : List ByteArray) (K : List α) : List α := shortTo W.length 0 W K
/-- The model's way: the first word that occurs again is cut, and all begins anew. -/
theorem shortL_cut {α : Type} {W : List ByteArray} {K : List α} {i k : Nat} (h : OnceTo W i) (hi : i < W.length) (hk : lastI W i = k) (hik : i < k) : shortL W K = shortL (cutL W i k) (cutL K i k) := by
  have h2 := (lastI_spec hi).2.1
  rw [hk] at h2
  have hl := cutL_length W i k (by omega) (by omega)
  unfold shortL
  have e1 := shortTo_once i (W.length - i) W K h (by omega)
  rw [show W.length - i + i = W.length by omega] at e1
  have e2 := shortTo_once (i + 1) ((cutL W i k).length - (i + 1)) (cutL W i k) (cutL K i k) (h.cut hi hk hik) (by omega)
  rw [show (cutL W i k).length - (i + 1) + (i + 1) = (cutL W i k).length by omega] at e2
  rw [e1, e2, show W.length - i = (W.length - i - 1) + 1 by omega, shortTo_cut _ hi hk hik]
  exact shortTo_fuel _ _ _ _ _ (by omega) (by omega)
theorem shortL_once {α : Type} {W : List ByteArray} {K : List α} (h : OnceTo W W.length) : shortL W K = K := by
  have e1 := shortTo_once W.length 0 W K h (Nat.le_refl _)
  rw [Nat.zero_add] at e1
  exact e1
theorem shortTo_length {α : Type} : ∀ (f i : Nat) (W : List ByteArray) (K : List α), K.length + 1 = W.length → (shortTo f i W K).length ≤ K.length
  | 0, i, W, K, _ => Nat.le_refl _
  | f + 1, i, W, K, h => by
    rw [shortTo]
    split
    · rename_i hi
      split
      · rename_i hk
        have h2 := (lastI_spec hi).2.1
        have hl := cutL_length W i (lastI W i) (by omega) (by omega)
        have hl2 := cutL_length K i (lastI W i) (by omega) (by omega)
        have := shortTo_length f (i + 1) (cutL W i (lastI W i)) (cutL K i (lastI W i)) (by omega)
        omega
      · exact shortTo_length f (i + 1) W K h
    · exact Nat.le_refl _
def shortS (k : Int) (l : List R) (s : ByteArray) (xs : List LK) : List LK × Bool := if (chainS k l s xs).2 then (shortL (chainS k l s xs).1 xs, true) else ([], false)
theorem shortS_len (k : Int) (l : List R) (s : ByteArray) (xs : List LK) : (shortS k l s xs).1.length ≤ 200 := by
  unfold shortS
  split
  · rename_i h
    obtain ⟨h1, h2⟩ := chainS_yes h
    have := shortTo_length (chainS k l s xs).1.length 0 (chainS k l s xs).1 xs (by rw [chainL_len k l xs s _ h2])
    show (shortL _ _).length ≤ 200
    unfold shortL
    omega
  · simp
theorem shortS_no {k : Int} {l : List R} {s : ByteArray} {xs : List LK} (h : (chainS k l s xs).2 = false) : shortS k l s xs = ([], false) := by rw [shortS, h]; rfl
theorem shortS_yes {k : Int} {l : List R} {s : ByteArray} {xs : List LK} (h : (chainS k l s xs).2 = true) : shortS k l s xs = (shortL (chainS k l s xs).1 xs, true) := by rw [shortS, h]; rfl
end Go.Proofs.YtddifhbjjiphiaaDoor
