/- The reduced words of one length, level by level and one behind the other: plain. -/
import Derived.Test.YtjecadpofkblnaaDoorRoomPlain
namespace Go.Proofs.YtjecadpofkblnaaDoor
open Go.RowKit

/-- The reduced words with one letter behind u. -/
def kidTo (l : List R) (u : ByteArray) (j : Nat) : List ByteArray := (List.range j).flatMap fun x => if hitS l (ext1 u x) then [] else [ext1 u x]
theorem kidTo_hit {l : List R} {u : ByteArray} {j : Nat} (h : hitS l (ext1 u j) = true) : kidTo l u (j + 1) = kidTo l u j := by
  unfold kidTo; rw [List.range_succ, List.flatMap_append, List.flatMap_singleton, if_pos h, List.append_nil]
theorem kidTo_new {l : List R} {u : ByteArray} {j : Nat} (h : hitS l (ext1 u j) = false) : kidTo l u (j + 1) = kidTo l u j ++ [ext1 u j] := by
  unfold kidTo; rw [List.range_succ, List.flatMap_append, List.flatMap_singleton, if_neg (by rw [h]; simp)]
theorem kidTo_len (l : List R) (u : ByteArray) : ∀ j, (kidTo l u j).length ≤ j
  | 0 => Nat.le_refl 0
  | j + 1 => by
    have := kidTo_len l u j
    cases h : hitS l (ext1 u j)
    · rw [kidTo_new h, List.length_append]; simp; omega
    · rw [kidTo_hit h]; omega
def kids (l : List R) (k : Nat) (L : List ByteArray) : List ByteArray := L.flatMap fun u => kidTo l u k
theorem kids_take {l : List R} {k a : Nat} {L : List ByteArray} {u : ByteArray} (h : L[a]? = some u) : kids l k (L.take (a + 1)) = kids l k (L.take a) ++ kidTo l u k := by
  have hk := (List.getElem?_eq_some_iff.1 h).1
  have he := (List.getElem?_eq_some_iff.1 h).2
  unfold kids
  rw [List.take_succ_eq_append_getElem hk, he, List.flatMap_append, List.flatMap_singleton]
theorem kids_len (l : List R) (k : Nat) : ∀ L : List ByteArray, (kids l k L).length ≤ L.length * k
  | [] => by simp [kids]
  | u :: L => by
    have h1 := kids_len l k L
    have h2 := kidTo_len l u k
    unfold kids at h1 ⊢
    rw [List.flatMap_cons, List.length_append, List.length_cons, Nat.add_mul]; omega
/-- .. and with n letters, level by level. -/
def lvl (l : List R) (k : Nat) : Nat → List ByteArray
  | 0 => [⟨#[]⟩]
  | n + 1 => kids l k (lvl l k n)
/-- .. with r letters behind u, one behind the other. -/
def dfs (l : List R) (k : Nat) : Nat → ByteArray → List ByteArray
  | 0, u => [u]
  | r + 1, u => (kidTo l u k).flatMap (dfs l k r)
theorem flatMap_flat {α β γ : Type} (f : α → List β) (g : β → List γ) : ∀ L : List α, (L.flatMap f).flatMap g = L.flatMap fun a => (f a).flatMap g
  | [] => rfl
  | a :: L => by simp only [List.flatMap_cons, List.flatMap_append, flatMap_flat f g L]
theorem dfs_back (l : List R) (k : Nat) : ∀ r u, dfs l k (r + 1) u = kids l k (dfs l k r u)
  | 0, u => by
    show (kidTo l u k).flatMap (fun v => [v]) = kids l k [u]
    unfold kids
    rw [List.flatMap_singleton]
    induction kidTo l u k with
    | nil => rfl
    | cons a L ih => rw [List.flatMap_cons, ih]; rfl
  | r + 1, u => by
    have h : dfs l k (r + 1 + 1) u = (kidTo l u k).flatMap (dfs l k (r + 1)) := rfl
    have h2 : dfs l k (r + 1) = fun v => kids l k (dfs l k r v) := funext fun v => dfs_back l k r v
    have h3 : dfs l k (r + 1) u = (kidTo l u k).flatMap (dfs l k r) := rfl
    rw [h, h3, h2]
    unfold kids
    rw [flatMap_flat]
theorem lvl_dfs (l : List R) (k : Nat) : ∀ n, lvl l k n = dfs l k n ⟨#[]⟩
  | 0 => rfl
  | n + 1 => by rw [dfs_back, ← lvl_dfs l k n]; rfl
/-- The end e says of u all that counts. -/
def Fits (l : List R) (u : ByteArray) (e : E) : Prop := Eqv (lefts l) u.data.toList (textE l e).data.toList
theorem fits_zero (l : List R) : Fits l ⟨#[]⟩ (0, 0) := Eqv.refl _ _
theorem fits_hit {l : List R} {u : ByteArray} {e : E} (h : Fits l u e) (x : Nat) : hitS l (ext1 u x) = hitS l (ext1 (textE l e) x) := by
  rw [hitS_ends, hitS_ends, ext1_list, ext1_list]; exact h [letC x] (by simp)
theorem fits_next {l : List R} {u : ByteArray} {e e' : E} {x : Nat} (h : Fits l u e) (hn : nxtS l e x = some e') : Fits l (ext1 u x) e' := by
  unfold nxtS at hn
  split at hn
  · cases hn
  · injection hn with hn
    subst hn
    have h1 := Eqv.snoc h (letC x)
    rw [← ext1_list, ← ext1_list] at h1
    obtain ⟨-, h2, h3⟩ := endOfS_spec l (ext1 (textE l e) x)
    exact h1.trans (eqv_lsp h2 h3)
theorem nxt_hit {l : List R} {e : E} {x : Nat} (h : hitS l (ext1 (textE l e) x) = true) : nxtS l e x = none := by unfold nxtS; rw [if_pos h]
theorem nxt_new {l : List R} {e : E} {x : Nat} (h : hitS l (ext1 (textE l e) x) = false) : ∃ e', nxtS l e x = some e' := ⟨_, by unfold nxtS; rw [if_neg (by rw [h]; simp)]⟩
theorem listTo_dfs (l : List R) (k : Nat) : ∀ (r : Nat) (u : ByteArray) (e : E), Fits l u e → listTo l k (fun _ => false) r u e = dfs l k r u
  | 0, _, _, _ => rfl
  | r + 1, u, e, h => by
    rw [listTo_succ]
    show _ = (kidTo l u k).flatMap (dfs l k r)
    have : ∀ j, listAt l k (fun _ => false) r u e j = (kidTo l u j).flatMap (dfs l k r) := by
      intro j
      induction j with
      | zero => rfl
      | succ j ih =>
        have hf := fits_hit h j
        cases hh : hitS l (ext1 (textE l e) j)
        · obtain ⟨e', hn⟩ := nxt_new hh
          have h2 := listTo_dfs l k r (ext1 u j) e' (fits_next h hn)
          rw [kidTo_new (hf.trans hh), List.flatMap_append, List.flatMap_singleton, ← ih, ← h2]
          rcases Nat.eq_zero_or_pos (cntE l k r e') with h0 | h0
          · rw [listAt_skip hn (fun h => by omega)]
            have h3 := listTo_len l k r (ext1 u j) e'
            rw [h0] at h3
            rw [List.eq_nil_of_length_eq_zero h3, List.append_nil]
          · rw [listAt_take hn h0 rfl]
        · rw [listAt_none (nxt_hit hh), kidTo_hit (hf.trans hh), ih]
    exact this k
/-- The list of the words of n letters. -/
theorem listTo_lvl (l : List R) (k n : Nat) : listTo l k (fun _ => false) n ⟨#[]⟩ (0, 0) = lvl l k n := by rw [listTo_dfs l k n _ _ (fits_zero l), lvl_dfs]
theorem lvl_len (l : List R) (k n : Nat) : (lvl l k n).length = countN l k n := by rw [← listTo_lvl, listTo_len]; rfl
theorem kidTo_size {l : List R} {u v : ByteArray} : ∀ j, v ∈ kidTo l u j → v.size = u.size + 1
  | 0, h => by simp [kidTo] at h
  | j + 1, h => by
    cases hh : hitS l (ext1 u j)
    · rw [kidTo_new hh, List.mem_append] at h
      rcases h with h | h
      · exact kidTo_size j h
      · simp at h; subst h; exact ext1_size u j
    · rw [kidTo_hit hh] at h; exact kidTo_size j h
theorem lvl_size {l : List R} {k : Nat} : ∀ n (v : ByteArray), v ∈ lvl l k n → v.size = n
  | 0, v, h => by simp [lvl] at h; subst h; rfl
  | n + 1, v, h => by
    obtain ⟨u, hu, hv⟩ := List.mem_flatMap.1 h
    rw [kidTo_size k hv, lvl_size n u hu]
theorem lvl_few (l : List R) (k : Nat) (hk : k ≤ 4) : ∀ n, (lvl l k n).length ≤ 4 ^ n
  | 0 => Nat.le_refl _
  | n + 1 => by
    have h1 := kids_len l k (lvl l k n)
    have h2 := Nat.mul_le_mul (lvl_few l k hk n) hk
    rw [Nat.pow_succ]
    exact Nat.le_trans h1 h2
theorem lvl_16 (l : List R) (k n : Nat) (hk : k ≤ 4) (hn : n ≤ 16) : (lvl l k n).length ≤ 4294967296 :=
  Nat.le_trans (lvl_few l k hk n) (Nat.le_trans (Nat.pow_le_pow_right (by omega) hn) (by decide))
theorem wr_small {c : Nat} (h : c ≤ 4294967296) : wr c = c := by unfold wr; rw [IntKind.wrap_i64]; omega
end Go.Proofs.YtjecadpofkblnaaDoor
