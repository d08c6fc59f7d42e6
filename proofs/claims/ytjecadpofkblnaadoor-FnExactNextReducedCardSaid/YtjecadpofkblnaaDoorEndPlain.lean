/- The ends of reduced words, as the program keeps them: plain lemmas. -/
import Derived.Test.YtjecadpofkblnaaDoorLangPlain
import Derived.Test.YtjecadpofkblnaaDoorWordsPlain
namespace Go.Proofs.YtjecadpofkblnaaDoor
open Go.RowKit

/-- An end: a rule and a length. -/
abbrev E := Nat × Nat
def lefts (l : List R) : List (List UInt8) := l.map fun r => r.1.data.toList
theorem mem_lefts {l : List R} {p : List UInt8} : p ∈ lefts l ↔ ∃ r ∈ l, r.1.data.toList = p := by unfold lefts; rw [List.mem_map]
def textE (l : List R) (e : E) : ByteArray := if e = (0, 0) then ⟨#[]⟩ else match l[e.1]? with | some r => r.1.extract 0 e.2 | none => ⟨#[]⟩
def GoodE (l : List R) (e : E) : Prop := e = (0, 0) ∨ (1 ≤ e.2 ∧ ∃ r, l[e.1]? = some r ∧ e.2 ≤ r.1.size)
theorem textE_zero (l : List R) : textE l (0, 0) = ⟨#[]⟩ := rfl
theorem textE_some {l : List R} {k n : Nat} {r : R} (hn : 1 ≤ n) (h : l[k]? = some r) : textE l (k, n) = r.1.extract 0 n := by
  unfold textE
  rw [if_neg (by intro e; injection e with _ e; omega)]
  dsimp only
  rw [h]
theorem GoodE.size {l : List R} {e : E} (h : GoodE l e) (hl : ∀ r ∈ l, r.1.size ≤ 8) : (textE l e).size ≤ 8 := by
  rcases h with rfl | ⟨h1, r, hr, h2⟩
  · rw [textE_zero]; exact Nat.zero_le _
  · rw [show e = (e.1, e.2) from rfl, textE_some h1 hr]
    have := hl r (List.mem_of_getElem? hr)
    simp; omega
theorem GoodE.lt {l : List R} {e : E} (h : GoodE l e) (hl : ∀ r ∈ l, r.1.size ≤ 8) (h12 : l.length ≤ 12) : e.1 < 12 ∧ e.2 < 9 := by
  rcases h with rfl | ⟨h1, r, hr, h2⟩
  · exact ⟨by omega, by omega⟩
  · have := hl r (List.mem_of_getElem? hr)
    have := (List.getElem?_eq_some_iff.1 hr).1
    exact ⟨by omega, by omega⟩
theorem begS_prefix (s p : ByteArray) : begS s p = true ↔ p.data.toList <+: s.data.toList := by
  unfold begS
  rw [Bool.and_eq_true, decide_eq_true_eq, beq_iff_eq, toList_data, toList_data]
  have he : (s.extract 0 p.size).data.toList = s.data.toList.take p.size := by
    rw [ByteArray.data_extract, Array.toList_extract]
    simp [List.extract]
  rw [he]
  constructor
  · rintro ⟨-, h⟩; rw [← h]; exact List.take_prefix _ _
  · intro h
    have hl := h.length_le
    refine ⟨by simpa using hl, ?_⟩
    have := List.prefix_iff_eq_take.1 h
    rw [show p.data.toList.length = p.size by simp] at this
    exact this.symm
theorem extract_end (t : ByteArray) (i : Nat) : (t.extract i t.size).data.toList = t.data.toList.drop i := by
  rw [ByteArray.data_extract, Array.toList_extract]
  have h : t.data.toList.length = t.size := by simp
  simp only [List.extract]
  exact List.take_of_length_le (by rw [List.length_drop, h]; exact Nat.le_refl _)
theorem extract_beg (t : ByteArray) (n : Nat) : (t.extract 0 n).data.toList = t.data.toList.take n := by
  rw [ByteArray.data_extract, Array.toList_extract]
  simp [List.extract]
/-- Is p an end of s? -/
def sufS (s p : ByteArray) : Bool := decide (p.size ≤ s.size) && ((s.extract (s.size - p.size) s.size).toList == p.toList)
theorem sufS_iff (s p : ByteArray) : sufS s p = true ↔ p.data.toList <:+ s.data.toList := by
  unfold sufS
  rw [Bool.and_eq_true, decide_eq_true_eq, beq_iff_eq, toList_data, toList_data, extract_end]
  constructor
  · rintro ⟨-, h⟩; rw [← h]; exact List.drop_suffix _ _
  · intro h
    have hl := h.length_le
    refine ⟨by simpa using hl, ?_⟩
    have := List.suffix_iff_eq_drop.1 h
    rw [show p.data.toList.length = p.size by simp, show s.data.toList.length = s.size by simp] at this
    exact this.symm
/-- Is a Left an end of s? -/
def hitS (l : List R) (s : ByteArray) : Bool := l.any fun r => sufS s r.1
theorem hitS_ends (l : List R) (s : ByteArray) : hitS l s = endsW (lefts l) s.data.toList := by
  rw [Bool.eq_iff_iff, endsW_iff]
  unfold hitS
  rw [List.any_eq_true]
  constructor
  · rintro ⟨r, hr, h⟩; exact ⟨_, mem_lefts.2 ⟨r, hr, rfl⟩, (sufS_iff s r.1).1 h⟩
  · rintro ⟨p, hp, h⟩
    obtain ⟨r, hr, rfl⟩ := mem_lefts.1 hp
    exact ⟨r, hr, (sufS_iff s r.1).2 h⟩
/-- The first rule whose Left begins with the end of t from i on. -/
def ruleAt (l : List R) (t : ByteArray) (i : Nat) : Option Nat := l.findIdx? fun r => begS r.1 (t.extract i t.size)
def endOfS (l : List R) (t : ByteArray) : E := ((List.range t.size).findSome? fun i => (ruleAt l t i).map fun k => ((k, t.size - i) : E)).getD (0, 0)
theorem ruleAt_hit {l : List R} {t : ByteArray} {i k : Nat} {r : R} (h : l[k]? = some r) (hb : begS r.1 (t.extract i t.size) = true) (hn : ∀ j r', j < k → l[j]? = some r' → begS r'.1 (t.extract i t.size) = false) : ruleAt l t i = some k := by
  unfold ruleAt
  rw [List.findIdx?_eq_some_iff_getElem]
  obtain ⟨hk, he⟩ := List.getElem?_eq_some_iff.1 h
  refine ⟨hk, by rw [he]; exact hb, fun j hj => ?_⟩
  rw [hn j l[j] hj (List.getElem?_eq_getElem _)]
  simp
theorem ruleAt_none {l : List R} {t : ByteArray} {i : Nat} (hn : ∀ j r', j < l.length → l[j]? = some r' → begS r'.1 (t.extract i t.size) = false) : ruleAt l t i = none := by
  unfold ruleAt
  rw [List.findIdx?_eq_none_iff]
  intro x hx
  obtain ⟨j, hj, rfl⟩ := List.getElem_of_mem hx
  exact hn j _ hj (List.getElem?_eq_getElem _)
theorem ruleAt_some {l : List R} {t : ByteArray} {i k : Nat} (h : ruleAt l t i = some k) : ∃ r, l[k]? = some r ∧ (t.data.toList.drop i) <+: r.1.data.toList := by
  unfold ruleAt at h
  rw [List.findIdx?_eq_some_iff_getElem] at h
  obtain ⟨hk, h1, -⟩ := h
  exact ⟨_, List.getElem?_eq_getElem hk, by rw [← extract_end]; exact (begS_prefix _ _).1 h1⟩
theorem range_findSome {β : Type} {f : Nat → Option β} : ∀ (n : Nat), (∀ i, i < n → f i = none) → (List.range n).findSome? f = none := by
  intro n h
  rw [List.findSome?_eq_none_iff]
  intro x hx
  exact h x (List.mem_range.1 hx)
theorem endOfS_hit {l : List R} {t : ByteArray} {i k : Nat} (hi : i < t.size) (h : ruleAt l t i = some k) (hn : ∀ j, j < i → ruleAt l t j = none) : endOfS l t = (k, t.size - i) := by
  unfold endOfS
  have e : List.range t.size = List.range i ++ (i :: (List.range (t.size - (i + 1))).map (fun j => i + 1 + j)) := by
    have h1 : t.size = i + (1 + (t.size - (i + 1))) := by omega
    conv => lhs; rw [h1, List.range_add, List.range_add]
    simp [Function.comp_def, Nat.add_assoc]
  rw [e, List.findSome?_append, range_findSome i (fun j hj => by rw [hn j hj]; rfl)]
  simp [h]
theorem endOfS_miss {l : List R} {t : ByteArray} (hn : ∀ j, j < t.size → ruleAt l t j = none) : endOfS l t = (0, 0) := by
  unfold endOfS
  rw [range_findSome _ (fun j hj => by rw [hn j hj]; rfl)]
  rfl
theorem first_some {f : Nat → Option Nat} : ∀ n, (∀ i, i < n → f i = none) ∨ ∃ i k, i < n ∧ f i = some k ∧ ∀ j, j < i → f j = none
  | 0 => .inl (fun i hi => by omega)
  | n + 1 => by
    rcases first_some (f := f) n with h | ⟨i, k, hi, h1, h2⟩
    · cases hf : f n with
      | none => exact .inl (fun i hi => by by_cases e : i = n; · subst e; exact hf
                                           · exact h i (by omega))
      | some k => exact .inr ⟨n, k, Nat.lt_succ_self n, hf, h⟩
    · exact .inr ⟨i, k, by omega, h1, h2⟩
/-- What endOf finds: its text is the longest end of t that begins a Left. -/
theorem endOfS_spec (l : List R) (t : ByteArray) : GoodE l (endOfS l t) ∧ (textE l (endOfS l t)).data.toList <:+ t.data.toList ∧
    ∀ q, q <:+ t.data.toList → (∃ p ∈ lefts l, q <+: p) → q.length ≤ (textE l (endOfS l t)).data.toList.length := by
  have hts : t.data.toList.length = t.size := by simp
  have none_ : ∀ i, ruleAt l t i = none → ∀ r ∈ l, ¬ (t.data.toList.drop i) <+: r.1.data.toList := by
    intro i h r hr hp
    unfold ruleAt at h
    rw [List.findIdx?_eq_none_iff] at h
    have := h r hr
    rw [(begS_prefix _ _).2 (by rw [extract_end]; exact hp)] at this
    cases this
  rcases first_some (f := ruleAt l t) t.size with h | ⟨i, k, hi, h1, h2⟩
  · rw [endOfS_miss h]
    refine ⟨.inl rfl, by rw [textE_zero]; exact List.nil_suffix, ?_⟩
    rintro q hq ⟨p, hp, hqp⟩
    obtain ⟨r, hr, rfl⟩ := mem_lefts.1 hp
    have hqe := List.suffix_iff_eq_drop.1 hq
    by_cases h0 : q.length = 0
    · omega
    · exfalso
      have hle := hq.length_le
      refine none_ (t.size - q.length) (h _ (by omega)) r hr ?_
      rw [hts] at hqe
      rw [← hqe]; exact hqp
  · rw [endOfS_hit hi h1 h2]
    obtain ⟨r, hr, hp⟩ := ruleAt_some h1
    have hlen := hp.length_le
    rw [List.length_drop, hts] at hlen
    have hrs : r.1.data.toList.length = r.1.size := by simp
    have ht : (textE l (k, t.size - i)).data.toList = t.data.toList.drop i := by
      rw [textE_some (by omega) hr, extract_beg]
      have := List.prefix_iff_eq_take.1 hp
      rw [List.length_drop, hts] at this
      exact this.symm
    refine ⟨.inr ⟨by show 1 ≤ t.size - i; omega, r, hr, by show t.size - i ≤ _; omega⟩, by rw [ht]; exact List.drop_suffix _ _, ?_⟩
    rintro q hq ⟨p, hp2, hqp⟩
    obtain ⟨r2, hr2, rfl⟩ := mem_lefts.1 hp2
    rw [ht, List.length_drop, hts]
    have hqe := List.suffix_iff_eq_drop.1 hq
    have hle := hq.length_le
    rw [hts] at hqe hle
    by_cases hlt : t.size - q.length < i
    · exfalso
      refine none_ _ (h2 _ hlt) r2 hr2 ?_
      rw [← hqe]; exact hqp
    · omega
/-- The end behind e and the letter x. -/
def nxtS (l : List R) (e : E) (x : Nat) : Option E := if hitS l (ext1 (textE l e) x) then none else some (endOfS l (ext1 (textE l e) x))
theorem ext1_list (s : ByteArray) (x : Nat) : (ext1 s x).data.toList = s.data.toList ++ [letC x] := by
  unfold ext1; rw [ByteArray.data_append]; simp [letC]
abbrev cntE (l : List R) (k n : Nat) (e : E) : Nat := cnt (lefts l) k n (textE l e).data.toList
abbrev cntToE (l : List R) (k n : Nat) (e : E) (j : Nat) : Nat := cntTo (lefts l) k n (textE l e).data.toList j
theorem nxt_none {l : List R} {e : E} {x : Nat} (k n : Nat) (h : nxtS l e x = none) : cntToE l k n e (x + 1) = cntToE l k n e x := by
  unfold nxtS at h
  split at h
  · rename_i hh
    rw [hitS_ends, ext1_list] at hh
    show sumTo _ x + (if _ then _ else _) = _
    rw [hh, if_pos rfl]; rfl
  · cases h
theorem nxt_some {l : List R} {e e' : E} {x : Nat} (k n : Nat) (h : nxtS l e x = some e') : cntToE l k n e (x + 1) = cntToE l k n e x + cntE l k n e' ∧ GoodE l e' := by
  unfold nxtS at h
  split at h
  · cases h
  · rename_i hh
    injection h with h
    subst h
    rw [hitS_ends, ext1_list] at hh
    obtain ⟨h1, h2, h3⟩ := endOfS_spec l (ext1 (textE l e) x)
    refine ⟨?_, h1⟩
    show sumTo _ x + (if _ then _ else _) = _
    rw [if_neg hh]
    have := (eqv_lsp h2 h3).cnt (k := k) n
    rw [ext1_list] at this
    rw [this]; rfl
end Go.Proofs.YtjecadpofkblnaaDoor
