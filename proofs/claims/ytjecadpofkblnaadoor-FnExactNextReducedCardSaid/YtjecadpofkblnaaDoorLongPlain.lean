/- The greatest length of a reduced word: plain lemmas. -/
import Derived.Test.YtjecadpofkblnaaDoorImplGrowth
namespace Go.Proofs.YtjecadpofkblnaaDoor
open Go.RowKit

theorem cnt_succ_pos {L : List (List UInt8)} {k n : Nat} {u : List UInt8} : 0 < cnt L k (n + 1) u ↔ ∃ x, x < k ∧ endsW L (u ++ [letC x]) = false ∧ 0 < cnt L k n (u ++ [letC x]) := by
  rw [cnt, sumTo_pos]
  constructor
  · rintro ⟨x, hx, h⟩
    cases he : endsW L (u ++ [letC x])
    · rw [he] at h; exact ⟨x, hx, he, by simpa using h⟩
    · rw [he] at h; simp at h
  · rintro ⟨x, hx, he, h⟩
    refine ⟨x, hx, ?_⟩
    rw [he]; simpa using h
theorem cnt_mono {L : List (List UInt8)} {k : Nat} : ∀ (n : Nat) {u : List UInt8}, 0 < cnt L k (n + 1) u → 0 < cnt L k n u
  | 0, _, _ => Nat.one_pos
  | n + 1, u, h => by
    obtain ⟨x, hx, he, h2⟩ := cnt_succ_pos.1 h
    exact cnt_succ_pos.2 ⟨x, hx, he, cnt_mono n h2⟩
theorem cnt_down {L : List (List UInt8)} {k : Nat} {u : List UInt8} {n : Nat} : ∀ d, 0 < cnt L k (n + d) u → 0 < cnt L k n u
  | 0, h => h
  | d + 1, h => cnt_down d (cnt_mono (n + d) h)
theorem cnt_le {L : List (List UInt8)} {k n m : Nat} {u : List UInt8} (h : n ≤ m) (hp : 0 < cnt L k m u) : 0 < cnt L k n u := cnt_down (m - n) (by rw [show n + (m - n) = m by omega]; exact hp)
/-- d is the greatest number of letters that can follow u, or -1 if there is none. -/
def IsLng (L : List (List UInt8)) (k : Nat) (u : List UInt8) (d : Int) : Prop := (∃ n : Nat, d = n ∧ 0 < cnt L k n u ∧ cnt L k (n + 1) u = 0) ∨ (d = -1 ∧ ∀ n, 0 < cnt L k n u)
theorem IsLng.one {L : List (List UInt8)} {k : Nat} {u : List UInt8} {d e : Int} (h : IsLng L k u d) (h' : IsLng L k u e) : d = e := by
  rcases h with ⟨n, rfl, h1, h2⟩ | ⟨rfl, h1⟩ <;> rcases h' with ⟨m, rfl, k1, k2⟩ | ⟨rfl, k1⟩
  · have a1 : ¬ n + 1 ≤ m := fun hle => by have := cnt_le hle k1; omega
    have a2 : ¬ m + 1 ≤ n := fun hle => by have := cnt_le hle h1; omega
    omega
  · have := k1 (n + 1); omega
  · have := h1 (m + 1); omega
  · rfl
theorem cntTo_pos {l : List R} {k n : Nat} {e : E} : ∀ j, 0 < cntToE l k n e j ↔ ∃ x e', x < j ∧ nxtS l e x = some e' ∧ 0 < cntE l k n e'
  | 0 => by
    constructor
    · intro h; exact absurd h (Nat.lt_irrefl 0)
    · rintro ⟨x, _, hx, _⟩; omega
  | j + 1 => by
    cases hn : nxtS l e j with
    | none =>
      rw [nxt_none k n hn, cntTo_pos j]
      constructor
      · rintro ⟨x, e', hx, h1, h2⟩; exact ⟨x, e', by omega, h1, h2⟩
      · rintro ⟨x, e', hx, h1, h2⟩
        refine ⟨x, e', ?_, h1, h2⟩
        rcases Nat.lt_or_ge x j with h | h
        · exact h
        · have : x = j := by omega
          subst this; rw [hn] at h1; cases h1
    | some e1 =>
      rw [(nxt_some k n hn).1]
      constructor
      · intro h
        rcases Nat.eq_zero_or_pos (cntE l k n e1) with h0 | h0
        · rw [h0, Nat.add_zero] at h
          obtain ⟨x, e', hx, h1, h2⟩ := (cntTo_pos j).1 h
          exact ⟨x, e', by omega, h1, h2⟩
        · exact ⟨j, e1, by omega, hn, h0⟩
      · rintro ⟨x, e', hx, h1, h2⟩
        rcases Nat.lt_or_ge x j with h | h
        · have := (cntTo_pos j).2 ⟨x, e', h, h1, h2⟩; omega
        · have : x = j := by omega
          subst this; rw [hn] at h1; injection h1 with h1; subst h1; omega
theorem cntE_succ_pos {l : List R} {k n : Nat} {e : E} : 0 < cntE l k (n + 1) e ↔ ∃ x e', x < k ∧ nxtS l e x = some e' ∧ 0 < cntE l k n e' := cntTo_pos k
/-- From i on, the same ends can be followed. -/
def Stable (l : List R) (k : Nat) (Q : List E) (i : Nat) : Prop := ∀ e ∈ Q, 0 < cntE l k i e → 0 < cntE l k (i + 1) e
theorem Stable.on {l : List R} {k i : Nat} {Q : List E} (hQ : Ends l k Q) (h : Stable l k Q i) : ∀ d, ∀ e ∈ Q, 0 < cntE l k i e → 0 < cntE l k (i + d) e
  | 0, _, _, hp => hp
  | d + 1, e, he, hp => by
    obtain ⟨x, e', hx, h1, h2⟩ := cntE_succ_pos.1 (h e he hp)
    exact cntE_succ_pos.2 ⟨x, e', hx, h1, Stable.on hQ h d e' (hQ.next e x e' he hx h1) h2⟩
def alive (l : List R) (k : Nat) (Q : List E) (n : Nat) : List E := Q.filter fun e => decide (0 < cntE l k n e)
theorem alive_less {l : List R} {k n : Nat} {Q : List E} (h : ¬ Stable l k Q n) : (alive l k Q (n + 1)).length < (alive l k Q n).length := by
  have he : alive l k Q (n + 1) = (alive l k Q n).filter fun e => decide (0 < cntE l k (n + 1) e) := by
    unfold alive
    rw [List.filter_filter]
    refine List.filter_congr fun e _ => ?_
    by_cases h1 : 0 < cntE l k (n + 1) e
    · rw [decide_eq_true h1, decide_eq_true (cnt_mono n h1)]; rfl
    · rw [decide_eq_false h1, Bool.false_and]
  rw [he, List.length_filter_lt_length_iff_exists]
  obtain ⟨e, h2⟩ := Classical.not_forall.1 h
  obtain ⟨he, h3⟩ := Classical.not_imp.1 h2
  obtain ⟨h4, h5⟩ := Classical.not_imp.1 h3
  exact ⟨e, List.mem_filter.2 ⟨he, decide_eq_true h4⟩, by simpa using h5⟩
theorem stable_or {l : List R} {k : Nat} {Q : List E} : ∀ n, (∃ i, i < n ∧ Stable l k Q i) ∨ (alive l k Q n).length + n ≤ Q.length
  | 0 => .inr (by show _ ≤ _; rw [Nat.add_zero]; exact List.length_filter_le _ _)
  | n + 1 => by
    rcases stable_or (l := l) (k := k) (Q := Q) n with ⟨i, hi, hs⟩ | h
    · exact .inl ⟨i, by omega, hs⟩
    · by_cases hs : Stable l k Q n
      · exact .inl ⟨n, Nat.lt_succ_self n, hs⟩
      · have := alive_less hs
        exact .inr (by omega)
/-- A word with as many letters as there are ends comes to one of them twice. -/
theorem all_pos {l : List R} {k : Nat} {Q : List E} (hQ : Ends l k Q) (h : 0 < countN l k Q.length) : ∀ n, 0 < countN l k n := by
  intro n
  rcases stable_or (l := l) (k := k) (Q := Q) Q.length with ⟨i, hi, hs⟩ | h2
  · have hp : 0 < cntE l k i (0, 0) := cnt_le (Nat.le_of_lt hi) h
    rcases Nat.lt_or_ge n i with hlt | hge
    · exact cnt_le (Nat.le_of_lt hlt) hp
    · have := hs.on hQ (n - i) (0, 0) hQ.zero hp
      rwa [show i + (n - i) = n by omega] at this
  · exfalso
    have hm : (0, 0) ∈ alive l k Q Q.length := List.mem_filter.2 ⟨hQ.zero, decide_eq_true h⟩
    have := List.length_pos_of_mem hm
    omega
/-- What LongestReduced answers. -/
def LongRet (k : Int) (l : List R) (d : Int) : Prop := (systemOk k l = false ∧ d = -1) ∨ (systemOk k l = true ∧ IsLng (lefts l) k.toNat [] d)
theorem LongRet.one {k : Int} {l : List R} {d e : Int} (h : LongRet k l d) (h' : LongRet k l e) : d = e := by
  rcases h with ⟨h1, rfl⟩ | ⟨h1, h2⟩ <;> rcases h' with ⟨k1, rfl⟩ | ⟨k1, k2⟩
  · rfl
  · rw [h1] at k1; cases k1
  · rw [h1] at k1; cases k1
  · exact h2.one k2
theorem systemOk_parts {k : Int} {l : List R} (h : systemOk k l = true) : ∃ k' : Nat, k = k' ∧ 1 ≤ k' ∧ k' ≤ 4 ∧ l.length ≤ 12 ∧ ∀ r ∈ l, r.1.size ≤ 8 ∧ 0 < r.1.size := by
  obtain ⟨k', x', h1, -, h2, h3, -, h4, h5⟩ := canC_parts (x := 0) (show canC k l 0 = true by unfold canC; rw [h]; rfl)
  exact ⟨k', h1, h2, h3, h4, h5⟩
end Go.Proofs.YtjecadpofkblnaaDoor
