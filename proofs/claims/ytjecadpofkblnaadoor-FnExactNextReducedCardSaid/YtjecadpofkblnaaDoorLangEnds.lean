/- The ends of all reduced words, and the tallies of the words behind them: plain lemmas. -/
import Derived.Test.YtjecadpofkblnaaDoorEndPlain
namespace Go.Proofs.YtjecadpofkblnaaDoor
open Go.RowKit

theorem below_len : ∀ (n : Nat) (l : List Nat), l.Nodup → (∀ x ∈ l, x < n) → l.length ≤ n
  | 0, [], _, _ => Nat.le_refl _
  | 0, x :: l, _, h => by have := h x (List.mem_cons_self ..); omega
  | n + 1, l, hd, h => by
    by_cases hm : n ∈ l
    · have h1 := below_len n (l.erase n) (hd.erase n) (fun x hx => by
        have h2 := (hd.mem_erase_iff).1 hx
        have := h x h2.2
        have := h2.1
        omega)
      have h2 := List.length_erase_of_mem hm
      have h3 : 0 < l.length := List.length_pos_of_mem hm
      omega
    · have := below_len n l hd (fun x hx => by
        have := h x hx
        have hne : x ≠ n := fun e => hm (e ▸ hx)
        omega)
      omega
theorem e_nodup_len (Q : List E) (hd : Q.Nodup) (hb : ∀ e ∈ Q, e.1 < 12 ∧ e.2 < 9) : Q.length ≤ 108 := by
  have h1 : (Q.map fun e => e.1 * 9 + e.2).Nodup := by
    rw [List.Nodup, List.pairwise_map]
    refine List.Pairwise.imp_of_mem ?_ hd
    intro a b ha hb' hne e
    have := hb a ha
    have := hb b hb'
    exact hne (Prod.ext (by omega) (by omega))
  have h2 := below_len 108 _ h1 (fun x hx => by
    obtain ⟨e, he, rfl⟩ := List.mem_map.1 hx
    have := hb e he
    omega)
  simpa using h2
/-- The ends Q, met while the moves of the first a of them are added, and those of the next one with the first j letters. -/
structure LangAt (l : List R) (k : Nat) (Q : List E) (a j : Nat) : Prop where
  nodup : Q.Nodup
  head : Q[0]? = some (0, 0)
  good : ∀ e ∈ Q, GoodE l e
  le : a ≤ Q.length
  done : ∀ i e x e', i < a → Q[i]? = some e → x < k → nxtS l e x = some e' → e' ∈ Q
  mid : ∀ e x e', Q[a]? = some e → x < j → nxtS l e x = some e' → e' ∈ Q
theorem LangAt.start (l : List R) (k : Nat) : LangAt l k [(0, 0)] 0 0 :=
  ⟨by simp, rfl, fun e he => by simp at he; exact .inl he, Nat.zero_le _, fun i _ _ _ h => by omega, fun _ x _ _ h => by omega⟩
theorem LangAt.len {l : List R} {k : Nat} {Q : List E} {a j : Nat} (h : LangAt l k Q a j) (hl : ∀ r ∈ l, r.1.size ≤ 8) (h12 : l.length ≤ 12) : Q.length ≤ 108 :=
  e_nodup_len Q h.nodup (fun e he => (h.good e he).lt hl h12)
/-- A letter that may not follow. -/
theorem LangAt.skip {l : List R} {k : Nat} {Q : List E} {a j : Nat} {e : E} (h : LangAt l k Q a j) (he : Q[a]? = some e) (hn : nxtS l e j = none) : LangAt l k Q a (j + 1) :=
  ⟨h.nodup, h.head, h.good, h.le, h.done, fun e1 x e' h1 hx h2 => by
    rw [he] at h1; injection h1 with h1; subst h1
    by_cases hxj : x = j
    · subst hxj; rw [hn] at h2; cases h2
    · exact h.mid _ x e' he (by omega) h2⟩
/-- A letter that leads to an end that is there. -/
theorem LangAt.old {l : List R} {k : Nat} {Q : List E} {a j : Nat} {e e' : E} (h : LangAt l k Q a j) (he : Q[a]? = some e) (hn : nxtS l e j = some e') (hm : e' ∈ Q) : LangAt l k Q a (j + 1) :=
  ⟨h.nodup, h.head, h.good, h.le, h.done, fun e1 x e2 h1 hx h2 => by
    rw [he] at h1; injection h1 with h1; subst h1
    by_cases hxj : x = j
    · subst hxj; rw [hn] at h2; injection h2 with h2; subst h2; exact hm
    · exact h.mid _ x e2 he (by omega) h2⟩
/-- A letter that leads to a new end. -/
theorem LangAt.new {l : List R} {k : Nat} {Q : List E} {a j : Nat} {e e' : E} (h : LangAt l k Q a j) (he : Q[a]? = some e) (hn : nxtS l e j = some e') (hm : e' ∉ Q) : LangAt l k (Q ++ [e']) a (j + 1) := by
  have hlt := (List.getElem?_eq_some_iff.1 he).1
  have hat : ∀ i, i ≤ a → (Q ++ [e'])[i]? = Q[i]? := fun i hi => List.getElem?_append_left (by omega)
  refine ⟨List.nodup_append.2 ⟨h.nodup, by simp, fun x hx y hy exy => by simp at hy; subst hy; subst exy; exact hm hx⟩, by rw [hat 0 (Nat.zero_le _)]; exact h.head, fun y hy => ?_, by simp; omega, fun i e1 x e2 hi h1 hx h2 => ?_, fun e1 x e2 h1 hx h2 => ?_⟩
  · rcases List.mem_append.1 hy with hy | hy
    · exact h.good y hy
    · simp at hy; subst hy; exact (nxt_some k 0 hn).2
  · rw [hat i (by omega)] at h1
    exact List.mem_append_left _ (h.done i e1 x e2 hi h1 hx h2)
  · rw [hat a (Nat.le_refl _), he] at h1; injection h1 with h1; subst h1
    by_cases hxj : x = j
    · subst hxj; rw [hn] at h2; injection h2 with h2; subst h2; exact List.mem_append_right _ (by simp)
    · exact List.mem_append_left _ (h.mid _ x e2 he (by omega) h2)
/-- All letters are through. -/
theorem LangAt.round {l : List R} {k : Nat} {Q : List E} {a : Nat} {e : E} (h : LangAt l k Q a k) (he : Q[a]? = some e) : LangAt l k Q (a + 1) 0 := by
  have hlt := (List.getElem?_eq_some_iff.1 he).1
  refine ⟨h.nodup, h.head, h.good, hlt, fun i e1 x e2 hi h1 hx h2 => ?_, fun _ x _ _ hx => by omega⟩
  by_cases hia : i = a
  · subst hia; exact h.mid e1 x e2 h1 hx h2
  · exact h.done i e1 x e2 (by omega) h1 hx h2
/-- All ends of a system's reduced words. -/
structure Ends (l : List R) (k : Nat) (Q : List E) : Prop where
  nodup : Q.Nodup
  zero : (0, 0) ∈ Q
  good : ∀ e ∈ Q, GoodE l e
  next : ∀ e x e', e ∈ Q → x < k → nxtS l e x = some e' → e' ∈ Q
theorem LangAt.ends {l : List R} {k : Nat} {Q : List E} (h : LangAt l k Q Q.length 0) : Ends l k Q :=
  ⟨h.nodup, List.mem_of_getElem? h.head, h.good, fun e x e' he hx hn => by
    obtain ⟨i, hi, rfl⟩ := List.getElem_of_mem he
    exact h.done i _ x e' hi (List.getElem?_eq_getElem _) hx hn⟩
theorem Ends.len {l : List R} {k : Nat} {Q : List E} (h : Ends l k Q) (hl : ∀ r ∈ l, r.1.size ≤ 8) (h12 : l.length ≤ 12) : Q.length ≤ 108 :=
  e_nodup_len Q h.nodup (fun e he => (h.good e he).lt hl h12)
/-- What the moves hold then. -/
def aftF (l : List R) (k : Nat) (Q : List E) (a j : Nat) (e : E) (x : Nat) : Option E := if (e ∈ Q.take a ∧ x < k) ∨ (Q[a]? = some e ∧ x < j) then nxtS l e x else none
/-- .. and at the end. -/
def aftQ (l : List R) (k : Nat) (Q : List E) (e : E) (x : Nat) : Option E := if e ∈ Q ∧ x < k then nxtS l e x else none
theorem aftF_start (l : List R) (k : Nat) (Q : List E) : aftF l k Q 0 0 = fun _ _ => none := by
  funext e x; unfold aftF; rw [if_neg]; rintro (⟨h, _⟩ | ⟨_, h⟩)
  · simp at h
  · omega
theorem aftF_grown (l : List R) (k : Nat) (Q : List E) (a j : Nat) (e' : E) (ha : a < Q.length) : aftF l k (Q ++ [e']) a j = aftF l k Q a j := by
  funext e x; unfold aftF
  rw [List.take_append_of_le_length (by omega), List.getElem?_append_left ha]
theorem not_mem_take {Q : List E} {a : Nat} {e : E} (hd : Q.Nodup) (he : Q[a]? = some e) : e ∉ Q.take a := by
  intro hm
  obtain ⟨i, hi, hie⟩ := List.getElem_of_mem hm
  rw [List.length_take] at hi
  rw [List.getElem_take] at hie
  obtain ⟨ha, hae⟩ := List.getElem?_eq_some_iff.1 he
  have := (List.nodup_iff_pairwise_ne.1 hd)
  rw [List.pairwise_iff_getElem] at this
  exact this i a (by omega) ha (by omega) (by rw [hie, hae])
theorem aftF_step {l : List R} {k : Nat} {Q : List E} {a j : Nat} {e : E} (hd : Q.Nodup) (he : Q[a]? = some e) (e1 : E) (x : Nat) :
    aftF l k Q a (j + 1) e1 x = if e1 = e ∧ x = j then nxtS l e j else aftF l k Q a j e1 x := by
  have hnm := not_mem_take hd he
  unfold aftF
  by_cases h : e1 = e ∧ x = j
  · obtain ⟨rfl, rfl⟩ := h
    rw [if_pos (.inr ⟨he, by omega⟩), if_pos ⟨rfl, rfl⟩]
  · rw [if_neg h, he]
    congr 1
    refine propext ⟨?_, ?_⟩
    · rintro (h1 | ⟨h1, h2⟩)
      · exact .inl h1
      · injection h1 with h1
        exact .inr ⟨by rw [h1], by
          by_cases hxj : x = j
          · exact absurd ⟨h1.symm, hxj⟩ h
          · omega⟩
    · rintro (h1 | ⟨h1, h2⟩)
      · exact .inl h1
      · exact .inr ⟨h1, by omega⟩
theorem aftF_none {l : List R} {k : Nat} {Q : List E} {a j : Nat} {e : E} (hd : Q.Nodup) (he : Q[a]? = some e) (hn : nxtS l e j = none) : aftF l k Q a (j + 1) = aftF l k Q a j := by
  funext e1 x
  rw [aftF_step hd he]
  split
  · rename_i h
    obtain ⟨rfl, rfl⟩ := h
    rw [hn]
    unfold aftF
    rw [if_neg]
    rintro (⟨h1, _⟩ | ⟨_, h1⟩)
    · exact not_mem_take hd he h1
    · omega
  · rfl
theorem take_mem_succ {Q : List E} {a : Nat} {e e1 : E} (he : Q[a]? = some e) : e1 ∈ Q.take (a + 1) ↔ e1 ∈ Q.take a ∨ e1 = e := by
  obtain ⟨ha, hae⟩ := List.getElem?_eq_some_iff.1 he
  rw [List.take_succ_eq_append_getElem ha, hae, List.mem_append, List.mem_singleton]
theorem aftF_round {l : List R} {k : Nat} {Q : List E} {a : Nat} {e : E} (he : Q[a]? = some e) : aftF l k Q a k = aftF l k Q (a + 1) 0 := by
  funext e1 x
  unfold aftF
  rw [he]
  simp only [take_mem_succ he]
  congr 1
  refine propext ⟨?_, ?_⟩
  · rintro (⟨h1, h2⟩ | ⟨h1, h2⟩)
    · exact .inl ⟨.inl h1, h2⟩
    · injection h1 with h1; exact .inl ⟨.inr h1.symm, h2⟩
  · rintro (⟨h1 | h1, h2⟩ | ⟨_, h2⟩)
    · exact .inl ⟨h1, h2⟩
    · exact .inr ⟨by rw [h1], h2⟩
    · omega
theorem aftF_end (l : List R) (k : Nat) (Q : List E) : aftF l k Q Q.length 0 = aftQ l k Q := by
  funext e x
  unfold aftF aftQ
  rw [List.take_length]
  congr 1
  refine propext ⟨?_, ?_⟩
  · rintro (h | ⟨_, h⟩)
    · exact h
    · omega
  · exact .inl

/-- A number of words as an int holds it. -/
def wr (n : Nat) : Int := IntKind.wrap .i64 n
theorem wr_zero : wr 0 = 0 := by unfold wr; rw [IntKind.wrap_i64]; omega
theorem wr_one : wr 1 = 1 := by unfold wr; rw [IntKind.wrap_i64]; omega
def someIf (n : Nat) : Option Int := if 0 < n then some (wr n) else none
/-- What the tally for n letters holds. -/
def talF (l : List R) (k : Nat) (Q : List E) (n : Nat) (e : E) : Option Int := if e ∈ Q then someIf (cntE l k n e) else none
/-- .. while it is made: the first a ends are through, and of the next one the first j letters. -/
def talTo (l : List R) (k : Nat) (Q : List E) (n a j : Nat) (e : E) : Option Int := if e ∈ Q.take a then someIf (cntE l k (n + 1) e) else if Q[a]? = some e then someIf (cntToE l k n e j) else none
theorem talTo_start (l : List R) (k : Nat) (Q : List E) (n : Nat) : talTo l k Q n 0 0 = fun _ => none := by
  funext e; unfold talTo; rw [if_neg (by simp)]
  split
  · rfl
  · rfl
theorem talTo_step {l : List R} {k : Nat} {Q : List E} {n a j : Nat} {e : E} (hd : Q.Nodup) (he : Q[a]? = some e) (e1 : E) :
    talTo l k Q n a (j + 1) e1 = if e1 = e then someIf (cntToE l k n e (j + 1)) else talTo l k Q n a j e1 := by
  have hnm := not_mem_take hd he
  unfold talTo
  by_cases h : e1 = e
  · subst h
    rw [if_neg hnm, if_pos he, if_pos rfl]
  · rw [if_neg h]
    split
    · rfl
    · rw [he, if_neg (fun e2 => h (by injection e2 with e2; exact e2.symm)), if_neg (fun e2 => h (by injection e2 with e2; exact e2.symm))]
theorem talTo_at {l : List R} {k : Nat} {Q : List E} {n a j : Nat} {e : E} (hd : Q.Nodup) (he : Q[a]? = some e) : talTo l k Q n a j e = someIf (cntToE l k n e j) := by
  unfold talTo
  rw [if_neg (not_mem_take hd he), if_pos he]
theorem talTo_same {l : List R} {k : Nat} {Q : List E} {n a j : Nat} {e : E} (hd : Q.Nodup) (he : Q[a]? = some e) (h : cntToE l k n e (j + 1) = cntToE l k n e j) : talTo l k Q n a (j + 1) = talTo l k Q n a j := by
  funext e1
  rw [talTo_step hd he]
  split
  · rename_i h1; subst h1; rw [talTo_at hd he, h]
  · rfl
theorem talTo_round {l : List R} {k : Nat} {Q : List E} {n a : Nat} {e : E} (hd : Q.Nodup) (he : Q[a]? = some e) : talTo l k Q n a k = talTo l k Q n (a + 1) 0 := by
  funext e1
  have hnm := not_mem_take hd he
  unfold talTo
  by_cases h : e1 = e
  · subst h
    rw [if_neg hnm, if_pos he, if_pos ((take_mem_succ he).2 (.inr rfl))]; rfl
  · by_cases h2 : e1 ∈ Q.take a
    · rw [if_pos h2, if_pos ((take_mem_succ he).2 (.inl h2))]
    · rw [if_neg h2, if_neg (fun h3 => ((take_mem_succ he).1 h3).elim h2 h), he, if_neg (fun e2 => h (by injection e2 with e2; exact e2.symm))]
      split
      · rfl
      · rfl
theorem talTo_end (l : List R) (k : Nat) (Q : List E) (n : Nat) : talTo l k Q n Q.length 0 = talF l k Q (n + 1) := by
  funext e
  unfold talTo talF
  rw [List.take_length]
  split
  · rfl
  · rw [if_neg (by simp)]
/-- .. while the first one is made. -/
def talOne (Q : List E) (a : Nat) (e : E) : Option Int := if e ∈ Q.take a then some 1 else none
theorem talOne_start (Q : List E) : talOne Q 0 = fun _ => none := by funext e; simp [talOne]
theorem talOne_step {Q : List E} {a : Nat} {e : E} (he : Q[a]? = some e) (e1 : E) : talOne Q (a + 1) e1 = if e1 = e then some 1 else talOne Q a e1 := by
  unfold talOne
  by_cases h : e1 = e
  · rw [if_pos h, if_pos ((take_mem_succ he).2 (.inr h))]
  · rw [if_neg h]
    by_cases h2 : e1 ∈ Q.take a
    · rw [if_pos h2, if_pos ((take_mem_succ he).2 (.inl h2))]
    · rw [if_neg h2, if_neg (fun h3 => ((take_mem_succ he).1 h3).elim h2 h)]
theorem talOne_end (l : List R) (k : Nat) (Q : List E) : talOne Q Q.length = talF l k Q 0 := by
  funext e
  unfold talOne talF
  rw [List.take_length]
  have h1 : someIf (cntE l k 0 e) = some 1 := by
    rw [show cntE l k 0 e = 1 from rfl]
    unfold someIf
    rw [if_pos Nat.one_pos, wr_one]
  rw [h1]
/-- How many reduced words of n letters there are. -/
def countN (l : List R) (k n : Nat) : Nat := cntE l k n (0, 0)
theorem someIf_getD (n : Nat) : (someIf n).getD 0 = wr n := by
  unfold someIf
  by_cases h : 0 < n
  · rw [if_pos h, Option.getD_some]
  · rw [if_neg h, Option.getD_none, Nat.eq_zero_of_not_pos h, wr_zero]
theorem talF_zero {l : List R} {k : Nat} {Q : List E} (h : Ends l k Q) (n : Nat) : ((talF l k Q n (0, 0)).getD 0) = wr (countN l k n) := by
  unfold talF countN
  rw [if_pos h.zero, someIf_getD]
theorem wr_add (a b : Nat) : IntKind.wrap .i64 (wr a + wr b) = wr (a + b) := by
  unfold wr
  rw [IntKind.wrap_i64, IntKind.wrap_i64, IntKind.wrap_i64, IntKind.wrap_i64]
  omega
/-- A number that is added to what is there. -/
theorem someIf_add (a b : Nat) (hb : 0 < b) : some (IntKind.wrap .i64 ((someIf a).getD 0 + wr b)) = someIf (a + b) := by
  rw [someIf_getD, wr_add]
  unfold someIf
  rw [if_pos (by omega)]
end Go.Proofs.YtjecadpofkblnaaDoor
