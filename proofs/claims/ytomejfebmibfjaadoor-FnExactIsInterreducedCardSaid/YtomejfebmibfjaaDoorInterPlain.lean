/- One word within another, told in three ways; an interreduced system, plain. -/
import Derived.Test.YtomejfebmibfjaaDoorRulesOk
import Derived.Test.YtomejfebmibfjaaDoorPlaces
import Derived.Lib.IndexMore
namespace Go.Proofs.YtomejfebmibfjaaDoor
open Go.RowKit

theorem atP_occ (s p : ByteArray) (i : Nat) (hp : 0 < p.size) : atP s p i = Lib.occAt s.data.toList p.data.toList i := by
  have hpl : p.data.toList.length = p.size := by simp
  have hsl : s.data.toList.length = s.size := by simp
  have he : (s.extract i (i + p.size)).data.toList = (s.data.toList.drop i).take p.size := by
    rw [ByteArray.data_extract, Array.toList_extract]
    simp [List.extract]
  rw [Bool.eq_iff_iff]
  unfold atP Lib.occAt
  rw [List.isPrefixOf_iff_prefix, Bool.and_eq_true, decide_eq_true_eq, toList_data, toList_data, he, beq_iff_eq]
  constructor
  · rintro ⟨h1, h2⟩
    rw [← h2]
    exact List.take_prefix _ _
  · intro h
    have hl := h.length_le
    rw [hpl, List.length_drop, hsl] at hl
    refine ⟨by omega, ?_⟩
    rw [← hpl]
    exact (List.prefix_iff_eq_take.1 h).symm
def hasP (s p : ByteArray) : Bool := !(placesOf s p).isEmpty
theorem hasP_iff (s p : ByteArray) (hp : 0 < p.size) : hasP s p = true ↔ ∃ i, i < s.size ∧ atP s p i = true := by
  unfold hasP placesOf
  rw [if_neg (by omega)]
  unfold placesL
  constructor
  · intro h
    have hne : ((List.range s.size).filter (atP s p)).map (fun i : Nat => (i : Int)) ≠ [] := by
      intro e; rw [e] at h; simp at h
    obtain ⟨x, hx⟩ := List.exists_mem_of_ne_nil _ hne
    obtain ⟨i, hi, -⟩ := List.mem_map.1 hx
    obtain ⟨h1, h2⟩ := List.mem_filter.1 hi
    exact ⟨i, List.mem_range.1 h1, h2⟩
  · rintro ⟨i, h1, h2⟩
    have : (i : Int) ∈ ((List.range s.size).filter (atP s p)).map (fun i : Nat => (i : Int)) := List.mem_map.2 ⟨i, List.mem_filter.2 ⟨List.mem_range.2 h1, h2⟩, rfl⟩
    cases h : ((List.range s.size).filter (atP s p)).map (fun i : Nat => (i : Int)) with
    | nil => rw [h] at this; cases this
    | cons => rfl
theorem contains_has (s p : ByteArray) (hp : 0 < p.size) : Lib.contains s.data.toList p.data.toList = hasP s p := by
  rw [Bool.eq_iff_iff, hasP_iff s p hp]
  unfold Lib.contains
  rw [decide_eq_true_eq]
  constructor
  · intro h
    rcases Lib.index_spec s.data.toList p.data.toList with ⟨h1, -⟩ | ⟨i, -, -, h3, -⟩
    · omega
    · rw [← atP_occ s p i hp] at h3
      refine ⟨i, ?_, h3⟩
      unfold atP at h3
      rw [Bool.and_eq_true, decide_eq_true_eq] at h3
      omega
  · rintro ⟨i, h1, h2⟩
    rw [atP_occ s p i hp] at h2
    rcases Lib.index_spec s.data.toList p.data.toList with ⟨-, hn⟩ | ⟨j, hj, -⟩
    · have := hn i (by simp; omega); rw [h2] at this; cases this
    · omega
theorem hasP_len (s p : ByteArray) : decide ((0 : Int) < ((placesOf s p).length : Nat)) = hasP s p := by
  unfold hasP
  cases placesOf s p <;> simp
/-- The Left of rule j stands within rule i (not counted: a Left within itself). -/
def occR (l : List R) (i j : Nat) : Bool := match l[i]?, l[j]? with
  | some r, some x => (decide (i ≠ j) && hasP r.1 x.1) || hasP r.2 x.1
  | _, _ => false
def interL (l : List R) : Bool := (List.range l.length).all fun i => (List.range l.length).all fun j => !occR l i j
def interS (k : Int) (l : List R) : Bool := systemOk k l && interL l
theorem occR_at {l : List R} {i j : Nat} {r x : R} (h : l[i]? = some r) (h' : l[j]? = some x) : occR l i j = ((decide (i ≠ j) && hasP r.1 x.1) || hasP r.2 x.1) := by rw [occR, h, h']
theorem interS_no {k : Int} {l : List R} {i j : Nat} (hi : i < l.length) (hj : j < l.length) (h : occR l i j = true) : interS k l = false := by
  have : interL l = false := by
    rw [Bool.eq_false_iff]
    intro ht
    unfold interL at ht
    rw [List.all_eq_true] at ht
    have h1 := ht i (List.mem_range.2 hi)
    rw [List.all_eq_true] at h1
    have h2 := h1 j (List.mem_range.2 hj)
    rw [h] at h2; cases h2
  rw [interS, this, Bool.and_false]
theorem interS_yes {k : Int} {l : List R} (hk : systemOk k l = true) (h : ∀ i j, i < l.length → j < l.length → occR l i j = false) : interS k l = true := by
  rw [interS, hk, Bool.true_and, interL, List.all_eq_true]
  intro i hi
  rw [List.all_eq_true]
  intro j hj
  rw [h i j (List.mem_range.1 hi) (List.mem_range.1 hj)]; rfl
theorem systemOk_no {k : Int} {l : List R} (h : systemOk k l = false) : interS k l = false := by rw [interS, h]; rfl
theorem systemOk_rules {k : Int} {l : List R} (h : systemOk k l = true) : rulesOk k l = true := by
  simp only [systemOk, Bool.and_eq_true] at h; exact h.1
theorem sysRule {k : Int} {l : List R} (h : systemOk k l = true) {r : R} (hr : r ∈ l) : r.1.size ≤ 8 ∧ r.2.size ≤ 8 ∧ 0 < r.1.size := by
  have h := systemOk_rules h
  simp only [rulesOk, Bool.and_eq_true, List.all_eq_true] at h
  have := h.2 r hr
  simp only [ruleOk, sidesOk, Bool.and_eq_true, decide_eq_true_eq] at this
  exact ⟨this.1.1.2, this.1.2, this.2⟩
end Go.Proofs.YtomejfebmibfjaaDoor
