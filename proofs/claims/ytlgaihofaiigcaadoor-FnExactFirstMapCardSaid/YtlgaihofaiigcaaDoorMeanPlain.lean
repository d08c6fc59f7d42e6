/- Values of words in a table: plain. -/
import Derived.Test.YtlgaihofaiigcaaDoorGroupPlain
import Derived.Test.YtlgaihofaiigcaaDoorLetters
import Derived.Test.YtlgaihofaiigcaaDoorRulesOk
namespace Go.Proofs.YtlgaihofaiigcaaDoor
open Go.RowKit

/-- The image of a letter. -/
def img (I : List Nat) (c : UInt8) : Nat := I.getD (c.toNat - 97) 0
/-- The value of the first k letters. -/
def meanTo (N : Nat) (xs : List Int) (I : List Nat) (s : ByteArray) (k : Nat) : Nat := (s.data.toList.take k).foldl (fun x c => tmul N xs x (img I c)) 0
def meanS (N : Nat) (xs : List Int) (I : List Nat) (s : ByteArray) : Nat := meanTo N xs I s s.size
theorem meanTo_zero (N : Nat) (xs : List Int) (I : List Nat) (s : ByteArray) : meanTo N xs I s 0 = 0 := rfl
theorem meanTo_step (N : Nat) (xs : List Int) (I : List Nat) (s : ByteArray) (k : Nat) (h : k < s.size) : meanTo N xs I s (k + 1) = tmul N xs (meanTo N xs I s k) (img I s[k]) := by
  have hk : k < s.data.toList.length := h
  unfold meanTo
  rw [List.take_add_one, List.getElem?_eq_getElem hk, Option.toList_some, List.foldl_append]
  rfl
theorem img_lt {N : Nat} {I : List Nat} (h1 : 1 ≤ N) (hI : ∀ i ∈ I, i < N) (c : UInt8) : img I c < N := by
  unfold img
  rw [List.getD_eq_getElem?_getD]
  cases h : I[c.toNat - 97]? with
  | none => simp only [Option.getD_none]; omega
  | some i => rw [Option.getD_some]; exact hI i (List.mem_of_getElem? h)
theorem img_at {I : List Nat} {c : UInt8} {k : Nat} (h : among I.length c.toNat = true) (hk : (c.toNat : Int) = 97 + k) : I[k]? = some (img I c) := by
  unfold among at h
  simp only [Bool.and_eq_true, decide_eq_true_eq] at h
  have hk2 : k < I.length := by omega
  unfold img
  rw [List.getD_eq_getElem?_getD, show c.toNat - 97 = k by omega, List.getElem?_eq_getElem hk2, Option.getD_some]
theorem meanTo_lt {N : Nat} {xs : List Int} {I : List Nat} (hT : TabOk N xs) (hI : ∀ i ∈ I, i < N) (s : ByteArray) : ∀ k, k ≤ s.size → meanTo N xs I s k < N
  | 0, _ => by rw [meanTo_zero]; have := hT.lo; omega
  | k + 1, hk => by rw [meanTo_step N xs I s k (by omega)]; exact hT.lt (meanTo_lt hT hI s k (by omega)) (img_lt hT.lo hI _)
theorem meanS_lt {N : Nat} {xs : List Int} {I : List Nat} (hT : TabOk N xs) (hI : ∀ i ∈ I, i < N) (s : ByteArray) : meanS N xs I s < N := meanTo_lt hT hI s _ (Nat.le_refl _)
theorem written_at {k : Nat} {s : ByteArray} (h : written k s = true) (j : Nat) (hj : j < s.size) : among k (s[j].toNat : Nat) = true := by
  unfold written at h
  rw [List.all_eq_true] at h
  exact h _ (List.getElem_mem (l := s.data.toList) hj)
/-- Are these images of letters? -/
noncomputable def imagesOk (q : Int) (xs es : List Int) : Bool := inK es.length && allOk q xs es
theorem imagesOk_yes {N : Nat} {xs es : List Int} (h1 : 1 ≤ es.length) (h4 : es.length ≤ 4) (h : allOk N xs es = true) : imagesOk N xs es = true := by
  unfold imagesOk inK; rw [h]; simp; omega
theorem imagesOk_len {q : Int} {xs es : List Int} (h : ¬ (1 ≤ es.length ∧ es.length ≤ 4)) : imagesOk q xs es = false := by
  unfold imagesOk inK
  rw [Bool.and_eq_false_iff]; left
  rw [Bool.and_eq_false_iff, decide_eq_false_iff_not, decide_eq_false_iff_not]; omega
theorem imagesOk_no {q : Int} {xs es : List Int} (h : allOk q xs es = false) : imagesOk q xs es = false := by unfold imagesOk; rw [h, Bool.and_false]
theorem imagesOk_tab {q : Int} {xs es : List Int} (h : tableOk q xs = false) : imagesOk q xs es = false := imagesOk_no (by unfold allOk; rw [h, Bool.false_and])
theorem imagesOk_bad {q : Int} {xs es : List Int} {k : Nat} {s : Int} (hs : es[k]? = some s) (h : elemOk q xs s = false) : imagesOk q xs es = false := imagesOk_no (by
  unfold allOk
  rw [Bool.and_eq_false_iff]; right
  rw [List.all_eq_false]
  exact ⟨s, List.mem_of_getElem? hs, by rw [h]; simp⟩)
/-- What valid images are: I of N elements. -/
structure Imgs (N : Nat) (xs es : List Int) (I : List Nat) : Prop where
  tab : TabOk N xs
  eq : es = nints I
  lo : 1 ≤ I.length
  hi : I.length ≤ 4
  lt : ∀ i ∈ I, i < N
theorem imagesOk_iff {q : Int} {xs es : List Int} (h : imagesOk q xs es = true) : ∃ (N : Nat) (I : List Nat), q = N ∧ Imgs N xs es I := by
  unfold imagesOk at h
  rw [Bool.and_eq_true] at h
  have h2 := h.2
  unfold allOk at h2
  rw [Bool.and_eq_true] at h2
  obtain ⟨N, rfl, hT⟩ := tableOk_iff h2.1
  obtain ⟨I, rfl, hI⟩ := elems_of h.2
  have h3 := h.1
  unfold inK at h3
  rw [nints_length] at h3
  simp only [Bool.and_eq_true, decide_eq_true_eq] at h3
  exact ⟨N, I, rfl, hT, rfl, by omega, by omega, hI⟩
section
variable {N : Nat} {xs es : List Int} {I : List Nat}
theorem Imgs.all (h : Imgs N xs es I) : allOk N xs es = true := by
  unfold allOk
  rw [tableOk_yes h.tab, Bool.true_and, List.all_eq_true, h.eq]
  intro x hx
  obtain ⟨i, hi, rfl⟩ := List.mem_map.1 hx
  exact elemOk_yes h.tab (h.lt i hi)
theorem Imgs.len (h : Imgs N xs es I) : es.length = I.length := by rw [h.eq, nints_length]
theorem Imgs.ok (h : Imgs N xs es I) : imagesOk N xs es = true := imagesOk_yes (by rw [h.len]; exact h.lo) (by rw [h.len]; exact h.hi) h.all
theorem Imgs.toNat (h : Imgs N xs es I) : es.map Int.toNat = I := by
  rw [h.eq]; unfold nints
  rw [List.map_map]
  conv => rhs; rw [← List.map_id I]
  apply List.map_congr_left
  intro x _; simp
end
noncomputable def valueOf (q : Int) (xs es : List Int) (s : ByteArray) : Int × Bool :=
  if imagesOk q xs es && wordOk es.length s then (((meanS q.toNat xs (es.map Int.toNat) s : Nat) : Int), true) else (0, false)
theorem valueOf_yes {N : Nat} {xs es : List Int} {I : List Nat} {s : ByteArray} (h : Imgs N xs es I) (hw : wordOk I.length s = true) : valueOf N xs es s = (((meanS N xs I s : Nat) : Int), true) := by
  unfold valueOf
  rw [h.ok, h.len, hw, h.toNat]; rfl
theorem valueOf_no1 {q : Int} {xs es : List Int} {s : ByteArray} (h : imagesOk q xs es = false) : valueOf q xs es s = (0, false) := by unfold valueOf; rw [h]; rfl
theorem valueOf_no2 {q : Int} {xs es : List Int} {s : ByteArray} (h : wordOk es.length s = false) : valueOf q xs es s = (0, false) := by unfold valueOf; rw [h, Bool.and_false]; rfl
/-- Both sides of each rule have one value. -/
def obeyB (N : Nat) (xs : List Int) (I : List Nat) (l : List R) : Bool := l.all fun r => meanS N xs I r.1 == meanS N xs I r.2
theorem obeyB_no {N : Nat} {xs : List Int} {I : List Nat} {l : List R} {k : Nat} {r : R} (hr : l[k]? = some r) (h : meanS N xs I r.1 ≠ meanS N xs I r.2) : obeyB N xs I l = false := by
  unfold obeyB
  rw [List.all_eq_false]
  exact ⟨r, List.mem_of_getElem? hr, by simpa using h⟩
theorem obeyB_yes {N : Nat} {xs : List Int} {I : List Nat} {l : List R} (h : ∀ (k : Nat) (r : R), l[k]? = some r → meanS N xs I r.1 = meanS N xs I r.2) : obeyB N xs I l = true := by
  unfold obeyB
  rw [List.all_eq_true]
  intro r hr
  obtain ⟨k, hk⟩ := List.getElem?_of_mem hr
  simpa using h k r hk
noncomputable def satisfies (k : Int) (l : List R) (q : Int) (xs es : List Int) : Bool := rulesOk k l && imagesOk q xs es && decide ((es.length : Int) = k) && obeyB q.toNat xs (es.map Int.toNat) l
theorem satisfies_at {N : Nat} {xs es : List Int} {I : List Nat} {l : List R} {k : Int} (h : Imgs N xs es I) (hr : rulesOk k l = true) (hk : (I.length : Int) = k) : satisfies k l N xs es = obeyB N xs I l := by
  unfold satisfies
  rw [h.ok, hr, h.len, h.toNat, decide_eq_true hk]; rfl
theorem satisfies_no1 {k q : Int} {l : List R} {xs es : List Int} (h : rulesOk k l = false) : satisfies k l q xs es = false := by unfold satisfies; rw [h]; rfl
theorem satisfies_no2 {k q : Int} {l : List R} {xs es : List Int} (h : imagesOk q xs es = false) : satisfies k l q xs es = false := by unfold satisfies; rw [h]; simp
theorem satisfies_no3 {k q : Int} {l : List R} {xs es : List Int} (h : (es.length : Int) ≠ k) : satisfies k l q xs es = false := by unfold satisfies; rw [decide_eq_false h]; simp
theorem rulesOk_side {k : Nat} {l : List R} (h : rulesOk k l = true) {r : R} (hr : r ∈ l) : (r.1.size ≤ 8 ∧ written k r.1 = true) ∧ r.2.size ≤ 8 ∧ written k r.2 = true := by
  unfold rulesOk at h
  rw [Bool.and_eq_true, List.all_eq_true] at h
  have h1 := h.2 r hr
  unfold ruleOk sidesOk wordOk at h1
  simp only [Bool.and_eq_true, decide_eq_true_eq, Int.toNat_natCast] at h1
  exact ⟨⟨h1.1.1.2, h1.1.1.1.1.2⟩, h1.1.2, h1.1.1.1.2.2⟩
theorem rulesOk_letters {k : Int} {l : List R} (h : rulesOk k l = true) : 1 ≤ k ∧ k ≤ 4 ∧ l.length ≤ 12 := by
  unfold rulesOk inK at h
  simp only [Bool.and_eq_true, decide_eq_true_eq] at h
  omega
end Go.Proofs.YtlgaihofaiigcaaDoor
