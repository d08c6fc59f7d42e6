/- The words that are reached, in the order in which they are found: plain lemmas. -/
import Derived.Test.YtfkojahoaljiaaaDoorRedsPlain
namespace Go.Proofs.YtfkojahoaljiaaaDoor
open Go.RowKit

def hasW (Q : List ByteArray) (y : ByteArray) : Bool := Q.any fun x => decide (x = y)
theorem hasW_iff (Q : List ByteArray) (y : ByteArray) : hasW Q y = true ↔ y ∈ Q := by
  rw [hasW, List.any_eq_true]
  constructor
  · rintro ⟨x, hx, e⟩; rw [← of_decide_eq_true e]; exact hx
  · intro h; exact ⟨y, h, decide_eq_true rfl⟩
def grow1 (Q : List ByteArray) (y : ByteArray) : List ByteArray := if hasW Q y then Q else Q ++ [y]
def growB (l : List R) (v : ByteArray) (xs : List ST) (Q : List ByteArray) : List ByteArray := xs.foldl (fun Q x => grow1 Q (afterS l v x).1) Q
theorem growB_snoc (l : List R) (v : ByteArray) (xs : List ST) (x : ST) (Q : List ByteArray) : growB l v (xs ++ [x]) Q = grow1 (growB l v xs Q) (afterS l v x).1 := by simp [growB]
theorem growB_nil (l : List R) (v : ByteArray) (Q : List ByteArray) : growB l v [] Q = Q := rfl
def grow (l : List R) (Q : List ByteArray) (v : ByteArray) : List ByteArray := growB l v (stepsD l v 0) Q
def bfs (l : List R) : Nat → List ByteArray → Nat → List ByteArray
  | 0, Q, _ => Q
  | f + 1, Q, a => match Q[a]? with | some v => bfs l f (grow l Q v) (a + 1) | none => Q
theorem bfs_step {l : List R} {f : Nat} {Q : List ByteArray} {a : Nat} {v : ByteArray} (h : Q[a]? = some v) : bfs l (f + 1) Q a = bfs l f (grow l Q v) (a + 1) := by rw [bfs, h]
theorem bfs_end {l : List R} {f : Nat} {Q : List ByteArray} {a : Nat} (h : Q.length ≤ a) : bfs l f Q a = Q := by
  cases f with
  | zero => rfl
  | succ f => rw [bfs, List.getElem?_eq_none h]
def countS (k : Int) (l : List R) (s : ByteArray) : Int := if canRed k l s && decide (s.size ≤ 8) then ((bfs l 87381 [s] 0).length : Int) else -1

structure GoodQ (k : Int) (l : List R) (Q : List ByteArray) : Prop where
  nodup : Q.Nodup
  word : ∀ v ∈ Q, canRed k l v = true ∧ v.size ≤ 8
theorem nodup_lt : ∀ (n : Nat) (l : List Nat), l.Nodup → (∀ x ∈ l, x < n) → l.length ≤ n
  | 0, [], _, _ => Nat.le_refl _
  | 0, x :: l, _, h => by have := h x (List.mem_cons_self ..); omega
  | n + 1, l, hd, h => by
    by_cases hm : n ∈ l
    · have h1 := nodup_lt n (l.erase n) (hd.erase n) (fun x hx => by
        have h2 := (hd.mem_erase_iff).1 hx
        have := h x h2.2
        have := h2.1
        omega)
      have h2 := List.length_erase_of_mem hm
      have h3 : 0 < l.length := List.length_pos_of_mem hm
      omega
    · have := nodup_lt n l hd (fun x hx => by
        have := h x hx
        have hne : x ≠ n := fun e => hm (e ▸ hx)
        omega)
      omega
theorem GoodQ.len {k : Int} {l : List R} {Q : List ByteArray} (h : GoodQ k l Q) : Q.length ≤ 87381 := by
  have h1 : (Q.map rank).Nodup := by
    rw [List.Nodup, List.pairwise_map]
    refine List.Pairwise.imp_of_mem ?_ h.nodup
    intro a b ha hb hne e
    exact hne (rank_inj (wordOk_low (canRed_word (h.word a ha).1)) (wordOk_low (canRed_word (h.word b hb).1)) e)
  have h2 := nodup_lt 87381 (Q.map rank) h1 (fun x hx => by
    obtain ⟨v, hv, rfl⟩ := List.mem_map.1 hx
    exact rank_8 (wordOk_low (canRed_word (h.word v hv).1)) (h.word v hv).2)
  simpa using h2
theorem GoodQ.one {k : Int} {l : List R} {s : ByteArray} (h : canRed k l s = true) (h8 : s.size ≤ 8) : GoodQ k l [s] := ⟨by simp, fun v hv => by simp at hv; subst hv; exact ⟨h, h8⟩⟩
theorem GoodQ.grow1 {k : Int} {l : List R} {Q : List ByteArray} {y : ByteArray} (h : GoodQ k l Q) (hy : canRed k l y = true) (h8 : y.size ≤ 8) : GoodQ k l (grow1 Q y) := by
  unfold Go.Proofs.YtfkojahoaljiaaaDoor.grow1
  split
  · exact h
  · rename_i hn
    rw [hasW_iff] at hn
    refine ⟨List.nodup_append.2 ⟨h.nodup, by simp, fun a ha b hb e => ?_⟩, fun v hv => ?_⟩
    · simp at hb; subst hb; subst e; exact hn ha
    · rcases List.mem_append.1 hv with hv | hv
      · exact h.word v hv
      · simp at hv; subst hv; exact ⟨hy, h8⟩
theorem GoodQ.growB {k : Int} {l : List R} {v : ByteArray} (hv : canRed k l v = true) (h8 : v.size ≤ 8) : ∀ (xs : List ST) (Q : List ByteArray), (∀ x ∈ xs, isStepB l v x = true) → GoodQ k l Q → GoodQ k l (growB l v xs Q)
  | [], _, _, h => h
  | x :: xs, Q, hx, h => by
    obtain ⟨_, h2, _, h4⟩ := step_props hv (hx x (List.mem_cons_self ..))
    exact GoodQ.growB hv h8 xs _ (fun y hy => hx y (List.mem_cons_of_mem _ hy)) (h.grow1 h2 (by omega))
theorem grow1_pre (Q : List ByteArray) (y : ByteArray) : Q <+: grow1 Q y := by
  unfold grow1
  split
  · exact List.prefix_refl _
  · exact List.prefix_append _ _
theorem growB_pre (l : List R) (v : ByteArray) : ∀ (xs : List ST) (Q : List ByteArray), Q <+: growB l v xs Q
  | [], _ => List.prefix_refl _
  | _ :: xs, Q => (grow1_pre Q _).trans (growB_pre l v xs _)
theorem pre_get {α : Type} {a b : List α} (h : a <+: b) {i : Nat} {v : α} (hi : a[i]? = some v) : b[i]? = some v := by
  obtain ⟨r, rfl⟩ := h
  rw [List.getElem?_append_left (List.getElem?_eq_some_iff.1 hi).1]; exact hi
/-- How far a search has come. -/
structure SearchAt (k : Int) (l : List R) (s : ByteArray) (Q : List ByteArray) (a : Nat) : Prop where
  good : GoodQ k l Q
  le : a ≤ Q.length
  left : bfs l 87381 [s] 0 = bfs l (87381 - a) Q a
theorem SearchAt.start {k : Int} {l : List R} {s : ByteArray} (h : canRed k l s = true) (h8 : s.size ≤ 8) : SearchAt k l s [s] 0 := ⟨GoodQ.one h h8, Nat.zero_le _, rfl⟩
theorem SearchAt.next {k : Int} {l : List R} {s v : ByteArray} {Q : List ByteArray} {a : Nat} (h : SearchAt k l s Q a) (hv : Q[a]? = some v) : SearchAt k l s (grow l Q v) (a + 1) := by
  have hm := List.mem_of_getElem? hv
  have hw := h.good.word v hm
  have hlt := (List.getElem?_eq_some_iff.1 hv).1
  have hlen := h.good.len
  have hp := (growB_pre l v (stepsD l v 0) Q).length_le
  refine ⟨GoodQ.growB hw.1 hw.2 _ _ (fun x hx => (mem_stepsD l v 0 x).1 hx) h.good, by show a + 1 ≤ (growB l v (stepsD l v 0) Q).length; omega, ?_⟩
  rw [h.left, show 87381 - a = (87381 - (a + 1)) + 1 by omega, bfs_step hv]
theorem SearchAt.done {k : Int} {l : List R} {s : ByteArray} {Q : List ByteArray} {a : Nat} (h : SearchAt k l s Q a) (ha : Q.length ≤ a) : bfs l 87381 [s] 0 = Q := by rw [h.left, bfs_end ha]
theorem countS_yes {k : Int} {l : List R} {s : ByteArray} (h : canRed k l s = true) (h8 : s.size ≤ 8) : countS k l s = ((bfs l 87381 [s] 0).length : Int) := by rw [countS, h, decide_eq_true h8]; rfl
theorem countS_no1 {k : Int} {l : List R} {s : ByteArray} (h : canRed k l s = false) : countS k l s = -1 := by rw [countS, h]; rfl
theorem countS_no2 {k : Int} {l : List R} {s : ByteArray} (h8 : ¬ s.size ≤ 8) : countS k l s = -1 := by rw [countS, decide_eq_false h8, Bool.and_false]; rfl
end Go.Proofs.YtfkojahoaljiaaaDoor
