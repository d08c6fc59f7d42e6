/- A walk through the ends of words: where it comes back there are words of any length. Plain lemmas. -/
import Derived.Test.YthfchalhobmleaaDoorLongPlain
import Derived.Test.YthfchalhobmleaaDoorSpecGrowPlain
namespace Go.Proofs.YthfchalhobmleaaDoor
open Go.RowKit

/-- p letters lead from u to v. -/
def lead (l : List R) (k : Nat) : Nat → ByteArray → ByteArray → Prop
  | 0, u, v => u = v
  | p + 1, u, v => ∃ x, x < k ∧ hitS l (ext1 u x) = false ∧ lead l k p (cutS l (ext1 u x)) v
theorem lead_snoc {l : List R} {k : Nat} {v : ByteArray} {x : Nat} (hx : x < k) (hh : hitS l (ext1 v x) = false) : ∀ (p : Nat) (u : ByteArray), lead l k p u v → lead l k (p + 1) u (cutS l (ext1 v x))
  | 0, u, h => by
    have h : u = v := h
    subst h; exact ⟨x, hx, hh, rfl⟩
  | p + 1, u, ⟨y, hy, hh2, h⟩ => ⟨y, hy, hh2, lead_snoc hx hh p _ h⟩
theorem step_pos {l : List R} {k t x : Nat} {u : ByteArray} (hx : x < k) (hh : hitS l (ext1 u x) = false) (h : 0 < cntW l k t (cutS l (ext1 u x))) : 0 < cntW l k (t + 1) u := by
  rw [cut_cnt] at h
  refine cnt_succ_pos.2 ⟨x, hx, ?_, ?_⟩
  · rw [← ext1_list, ← hitS_ends]; exact hh
  · rw [← ext1_list]; exact h
theorem lead_pos {l : List R} {k t : Nat} {v : ByteArray} (hv : 0 < cntW l k t v) : ∀ (p : Nat) (u : ByteArray), lead l k p u v → 0 < cntW l k (t + p) u
  | 0, u, h => by
    have h : u = v := h
    subst h; exact hv
  | p + 1, u, ⟨y, hy, hh2, h⟩ => step_pos hy hh2 (lead_pos hv p _ h)
theorem cycle_pos {l : List R} {k p : Nat} {u : ByteArray} (hp : 1 ≤ p) (h : lead l k p u u) : ∀ t, 0 < cntW l k t u := by
  have h1 : ∀ m, 0 < cntW l k (m * p) u := by
    intro m
    induction m with
    | zero => rw [Nat.zero_mul]; exact Nat.one_pos
    | succ m ih => rw [Nat.succ_mul]; exact lead_pos ih p u h
  intro t
  refine cnt_le (m := t * p) ?_ (h1 t)
  exact Nat.le_mul_of_pos_right t (by omega)
/-- The way so far, and where it is. -/
structure WayOk (l : List R) (k : Nat) (Ws : List ByteArray) (u : ByteArray) : Prop where
  nodup : Ws.Nodup
  small : ∀ v ∈ Ws, v.size ≤ 8 ∧ low5 v
  here : u.size ≤ 8 ∧ low5 u
  leads : ∀ v ∈ Ws, ∃ p, 1 ≤ p ∧ lead l k p v u
theorem WayOk.start (l : List R) (k : Nat) : WayOk l k [] ⟨#[]⟩ := ⟨List.nodup_nil, fun v h => (by cases h), ⟨Nat.zero_le _, fun c h => (by cases h)⟩, fun v h => (by cases h)⟩
theorem WayOk.len {l : List R} {k : Nat} {Ws : List ByteArray} {u : ByteArray} (h : WayOk l k Ws u) : Ws.length ≤ 390625 := low_len h.nodup h.small
theorem WayOk.next {l : List R} {k x : Nat} {Ws : List ByteArray} {u : ByteArray} (h : WayOk l k Ws u) (hn : u ∉ Ws) (hl : ∀ r ∈ l, r.1.size ≤ 8) (hx : x < k) (hk : k ≤ 4) (hh : hitS l (ext1 u x) = false) : WayOk l k (Ws ++ [u]) (cutS l (ext1 u x)) := by
  refine ⟨List.nodup_append.2 ⟨h.nodup, by simp, fun a ha b hb e => ?_⟩, fun v hv => ?_, ⟨cutS_size l _ hl, low_cut (low_ext h.here.2 (by omega))⟩, fun v hv => ?_⟩
  · simp at hb; subst hb; subst e; exact hn ha
  · rcases List.mem_append.1 hv with hv | hv
    · exact h.small v hv
    · simp at hv; subst hv; exact h.here
  · rcases List.mem_append.1 hv with hv | hv
    · obtain ⟨p, hp, hpl⟩ := h.leads v hv
      exact ⟨p + 1, by omega, lead_snoc hx hh p v hpl⟩
    · simp at hv; subst hv
      exact ⟨1, Nat.le_refl _, x, hx, hh, rfl⟩
abbrev LngW (l : List R) (k : Nat) (u : ByteArray) (d : Int) : Prop := IsLng (lefts l) k u.data.toList d
theorem WayOk.back {l : List R} {k : Nat} {Ws : List ByteArray} {u : ByteArray} (h : WayOk l k Ws u) (hm : u ∈ Ws) : LngW l k u (-1) := by
  obtain ⟨p, hp, hpl⟩ := h.leads u hm
  exact .inr ⟨rfl, cycle_pos hp hpl⟩
theorem lng_deep {l : List R} {k x : Nat} {u : ByteArray} {d : Int} (hx : x < k) (hh : hitS l (ext1 u x) = false) (hd : LngW l k (cutS l (ext1 u x)) d) (hneg : d < 0) : LngW l k u (-1) := by
  rcases hd with ⟨n, rfl, _⟩ | ⟨_, h1⟩
  · omega
  · refine .inr ⟨rfl, fun n => ?_⟩
    exact cnt_mono n (step_pos hx hh (h1 n))
/-- The greatest depth behind the first j letters. -/
structure DeepTo (l : List R) (k : Nat) (u : ByteArray) (j most : Nat) : Prop where
  le : ∀ x, x < j → hitS l (ext1 u x) = false → ∃ d : Nat, LngW l k (cutS l (ext1 u x)) d ∧ d + 1 ≤ most
  at_ : most = 0 ∨ ∃ x d : Nat, x < j ∧ hitS l (ext1 u x) = false ∧ LngW l k (cutS l (ext1 u x)) d ∧ most = d + 1
theorem DeepTo.start (l : List R) (k : Nat) (u : ByteArray) : DeepTo l k u 0 0 := ⟨fun x h => by omega, .inl rfl⟩
theorem DeepTo.skip {l : List R} {k j most : Nat} {u : ByteArray} (h : DeepTo l k u j most) (hh : hitS l (ext1 u j) = true) : DeepTo l k u (j + 1) most := by
  refine ⟨fun x hx h2 => ?_, h.at_.imp id (fun ⟨x, d, hx, r⟩ => ⟨x, d, by omega, r⟩)⟩
  by_cases e : x = j
  · subst e; rw [hh] at h2; cases h2
  · exact h.le x (by omega) h2
theorem DeepTo.more {l : List R} {k j most d : Nat} {u : ByteArray} (h : DeepTo l k u j most) (hh : hitS l (ext1 u j) = false) (hd : LngW l k (cutS l (ext1 u j)) d) : DeepTo l k u (j + 1) (max most (d + 1)) := by
  refine ⟨fun x hx h2 => ?_, ?_⟩
  · by_cases e : x = j
    · subst e; exact ⟨d, hd, Nat.le_max_right _ _⟩
    · obtain ⟨d', h3, h4⟩ := h.le x (by omega) h2
      exact ⟨d', h3, Nat.le_trans h4 (Nat.le_max_left _ _)⟩
  · by_cases hm : most ≤ d + 1
    · rw [Nat.max_eq_right hm]
      exact .inr ⟨j, d, Nat.lt_succ_self j, hh, hd, rfl⟩
    · rw [Nat.max_eq_left (by omega)]
      exact h.at_.imp id (fun ⟨x, d', hx, r⟩ => ⟨x, d', by omega, r⟩)
theorem DeepTo.done {l : List R} {k most : Nat} {u : ByteArray} (h : DeepTo l k u k most) : LngW l k u most := by
  refine .inl ⟨most, rfl, ?_, ?_⟩
  · rcases h.at_ with h0 | ⟨x, d, hx, hh, hd, h0⟩
    · subst h0; exact Nat.one_pos
    · rw [h0]
      rcases hd with ⟨n, hn, h1, _⟩ | ⟨hn, _⟩
      · have : d = n := by omega
        subst this; exact step_pos hx hh h1
      · omega
  · rcases Nat.eq_zero_or_pos (cntW l k (most + 1) u) with h0 | h0
    · exact h0
    · exfalso
      obtain ⟨x, hx, he, hp⟩ := cnt_succ_pos.1 h0
      rw [← ext1_list] at he hp
      rw [← hitS_ends] at he
      obtain ⟨d, hd, hle⟩ := h.le x hx he
      have hp2 : 0 < cntW l k most (cutS l (ext1 u x)) := by rw [cut_cnt]; exact hp
      rcases hd with ⟨n, hn, _, h2⟩ | ⟨hn, _⟩
      · have := cnt_le (n := n + 1) (by omega) hp2
        omega
      · omega
end Go.Proofs.YthfchalhobmleaaDoor
