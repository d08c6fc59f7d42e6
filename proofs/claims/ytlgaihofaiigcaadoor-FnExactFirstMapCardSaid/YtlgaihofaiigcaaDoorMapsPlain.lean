/- Lists of images, one after the other: plain. -/
import Derived.Test.YtlgaihofaiigcaaDoorMeanPlain
namespace Go.Proofs.YtlgaihofaiigcaaDoor
open Go.RowKit

/-- The list with number n: k digits. -/
def imgsAt (N : Nat) : Nat → Nat → List Nat
  | 0, _ => []
  | k + 1, n => imgsAt N k (n / N) ++ [n % N]
theorem imgsAt_length (N : Nat) : ∀ k n, (imgsAt N k n).length = k
  | 0, _ => rfl
  | k + 1, n => by unfold imgsAt; rw [List.length_append, imgsAt_length N k]; rfl
theorem imgsAt_lt {N : Nat} (h1 : 1 ≤ N) : ∀ k n, ∀ i ∈ imgsAt N k n, i < N
  | 0, _, i, hi => by simp [imgsAt] at hi
  | k + 1, n, i, hi => by
    unfold imgsAt at hi
    rcases List.mem_append.1 hi with h | h
    · exact imgsAt_lt h1 k _ i h
    · rw [List.mem_singleton] at h; subst h; exact Nat.mod_lt _ h1
theorem imgsAt_zero (N : Nat) : ∀ k, imgsAt N k 0 = List.replicate k 0
  | 0 => rfl
  | k + 1 => by unfold imgsAt; rw [Nat.zero_div, Nat.zero_mod, imgsAt_zero N k, List.replicate_succ']
theorem imgsAt_low {N k m : Nat} (h1 : 1 ≤ N) (h : m % N < N - 1) : imgsAt N (k + 1) (m + 1) = imgsAt N k (m / N) ++ [m % N + 1] := by
  have e1 : (m + 1) / N = m / N ∧ (m + 1) % N = m % N + 1 := by
    have h2 := Nat.div_add_mod m N
    have h3 : m + 1 = N * (m / N) + (m % N + 1) := by omega
    constructor
    · rw [h3, Nat.mul_add_div (by omega), Nat.div_eq_of_lt (show m % N + 1 < N by omega), Nat.add_zero]
    · conv => lhs; rw [h3, Nat.mul_add_mod, Nat.mod_eq_of_lt (show m % N + 1 < N by omega)]
  show imgsAt N k ((m + 1) / N) ++ [(m + 1) % N] = _
  rw [e1.1, e1.2]
theorem imgsAt_high {N k m : Nat} (h1 : 1 ≤ N) (h : m % N = N - 1) : imgsAt N (k + 1) (m + 1) = imgsAt N k (m / N + 1) ++ [0] := by
  have h2 := Nat.div_add_mod m N
  have h3 : m + 1 = N * (m / N + 1) := by rw [Nat.mul_add]; omega
  show imgsAt N k ((m + 1) / N) ++ [(m + 1) % N] = _
  rw [h3, Nat.mul_div_cancel_left _ (by omega), Nat.mul_mod_right]
theorem pow_low {N i m : Nat} (h1 : 1 ≤ N) (h : m % N < N - 1) (hm : m < N ^ (i + 1)) : m + 1 < N ^ (i + 1) := by
  rw [Nat.pow_succ] at hm ⊢
  have h2 := Nat.div_add_mod m N
  have h3 : m / N < N ^ i := by
    rw [Nat.div_lt_iff_lt_mul (by omega)]; exact hm
  have h4 : N * (m / N + 1) ≤ N * N ^ i := Nat.mul_le_mul_left N h3
  rw [Nat.mul_add] at h4
  rw [Nat.mul_comm (N ^ i) N]
  omega
theorem pow_high {N i m : Nat} (h1 : 1 ≤ N) (h : m % N = N - 1) : m + 1 < N ^ (i + 1) ↔ m / N + 1 < N ^ i := by
  have h2 := Nat.div_add_mod m N
  have h3 : m + 1 = N * (m / N + 1) := by rw [Nat.mul_add]; omega
  rw [h3, Nat.pow_succ, Nat.mul_comm (N ^ i) N]
  exact ⟨fun h => Nat.lt_of_mul_lt_mul_left h, fun h => Nat.mul_lt_mul_of_pos_left h (by omega)⟩
theorem div_pow_lt {N i m : Nat} (h1 : 1 ≤ N) (hm : m < N ^ (i + 1)) : m / N < N ^ i := by
  rw [Nat.div_lt_iff_lt_mul (by omega), ← Nat.pow_succ]; exact hm
/-- The list on the way from number n to the next: i digits are left, the rest has turned to Z. -/
structure Nxt (N k n i m : Nat) (Z : List Nat) : Prop where
  le : i ≤ k
  lt : m < N ^ i
  zl : Z.length = k - i
  to : imgsAt N k (n + 1) = imgsAt N i (m + 1) ++ Z
  iff_ : n + 1 < N ^ k ↔ m + 1 < N ^ i
theorem Nxt.start {N k n : Nat} (h : n < N ^ k) : Nxt N k n k n [] := ⟨Nat.le_refl _, h, by simp, by simp, Iff.rfl⟩
theorem Nxt.step {N k n i m : Nat} {Z : List Nat} (H : Nxt N k n (i + 1) m Z) (h1 : 1 ≤ N) (h : m % N = N - 1) : Nxt N k n i (m / N) (0 :: Z) where
  le := by have := H.le; omega
  lt := div_pow_lt h1 H.lt
  zl := by have := H.zl; have := H.le; simp; omega
  to := by rw [H.to, imgsAt_high h1 h, List.append_assoc]; rfl
  iff_ := H.iff_.trans (pow_high h1 h)
theorem Nxt.found {N k n i m : Nat} {Z : List Nat} (H : Nxt N k n (i + 1) m Z) (h1 : 1 ≤ N) (h : m % N < N - 1) : imgsAt N k (n + 1) = imgsAt N i (m / N) ++ (m % N + 1) :: Z ∧ n + 1 < N ^ k :=
  ⟨by rw [H.to, imgsAt_low h1 h, List.append_assoc]; rfl, H.iff_.2 (pow_low h1 h H.lt)⟩
theorem Nxt.none_ {N k n m : Nat} {Z : List Nat} (H : Nxt N k n 0 m Z) : ¬ n + 1 < N ^ k := by
  rw [H.iff_]; have := H.lt; simp at this ⊢
theorem Nxt.mod_lt {N k n i m : Nat} {Z : List Nat} (_ : Nxt N k n i m Z) (h1 : 1 ≤ N) : m % N < N := Nat.mod_lt _ h1
/-- How the cells stand: the digits that are left, and Z. -/
def nxtL (N i m : Nat) (Z : List Nat) : List Nat := imgsAt N i m ++ Z
theorem nxtL_length {N k n i m : Nat} {Z : List Nat} (H : Nxt N k n i m Z) : (nxtL N i m Z).length = k := by
  unfold nxtL; rw [List.length_append, imgsAt_length, H.zl]; have := H.le; omega
theorem nxtL_get (N i m : Nat) (Z : List Nat) : (nxtL N (i + 1) m Z)[i]? = some (m % N) := by
  unfold nxtL imgsAt
  rw [List.append_assoc, List.getElem?_append_right (by rw [imgsAt_length]; exact Nat.le_refl _), imgsAt_length]; simp
theorem nxtL_set (N i m : Nat) (Z : List Nat) (v : Nat) : (nxtL N (i + 1) m Z).set i v = imgsAt N i (m / N) ++ v :: Z := by
  unfold nxtL
  show (imgsAt N i (m / N) ++ [m % N] ++ Z).set i v = _
  rw [List.append_assoc, List.set_append_right _ _ (by rw [imgsAt_length]; exact Nat.le_refl _), imgsAt_length]; simp
theorem nints_set (l : List Nat) (i v : Nat) : ints (nints (l.set i v)) = (ints (nints l)).set i (.int .i64 (v : Int)) := by
  unfold nints ints
  rw [List.map_set, List.map_set]
theorem imgsAt_pos {N : Nat} (h1 : 1 ≤ N) : ∀ k n, n < N ^ k → 0 < n → ∃ i ∈ imgsAt N k n, 0 < i
  | 0, n, h, h0 => by simp at h; omega
  | k + 1, n, h, h0 => by
    have h2 := Nat.div_add_mod n N
    rcases Nat.eq_zero_or_pos (n % N) with e | e
    · have h3 : 0 < n / N := by
        rcases Nat.eq_zero_or_pos (n / N) with e2 | e2
        · rw [e2, e] at h2; simp at h2; omega
        · exact e2
      obtain ⟨i, hi, hp⟩ := imgsAt_pos h1 k (n / N) (div_pow_lt h1 h) h3
      exact ⟨i, by unfold imgsAt; exact List.mem_append_left _ hi, hp⟩
    · exact ⟨n % N, by unfold imgsAt; exact List.mem_append_right _ (by simp), e⟩
/-- May the maps be counted? -/
noncomputable def mapsOk (k : Int) (l : List R) (q : Int) (xs : List Int) : Bool := rulesOk k l && tableOk q xs && decide (q.toNat ^ k.toNat ≤ 4096)
theorem mapsOk_iff {k q : Int} {l : List R} {xs : List Int} (h : mapsOk k l q xs = true) : ∃ K N : Nat, k = K ∧ q = N ∧ rulesOk K l = true ∧ TabOk N xs ∧ N ^ K ≤ 4096 := by
  unfold mapsOk at h
  simp only [Bool.and_eq_true, decide_eq_true_eq] at h
  obtain ⟨N, rfl, hT⟩ := tableOk_iff h.1.2
  have hk := rulesOk_letters h.1.1
  obtain ⟨K, rfl⟩ : ∃ K : Nat, k = K := ⟨k.toNat, by omega⟩
  exact ⟨K, N, rfl, rfl, h.1.1, hT, h.2⟩
theorem mapsOk_yes {K N : Nat} {l : List R} {xs : List Int} (hr : rulesOk K l = true) (hT : TabOk N xs) (h : N ^ K ≤ 4096) : mapsOk K l N xs = true := by
  unfold mapsOk; rw [hr, tableOk_yes hT]; simpa using h
theorem mapsOk_no1 {k q : Int} {l : List R} {xs : List Int} (h : rulesOk k l = false) : mapsOk k l q xs = false := by unfold mapsOk; rw [h]; rfl
theorem mapsOk_no2 {k q : Int} {l : List R} {xs : List Int} (h : tableOk q xs = false) : mapsOk k l q xs = false := by unfold mapsOk; rw [h]; simp
theorem mapsOk_no3 {K N : Nat} {l : List R} {xs : List Int} (h : 4096 < N ^ K) : mapsOk K l N xs = false := by
  unfold mapsOk; rw [Bool.and_eq_false_iff]; right; rw [decide_eq_false_iff_not]; simp only [Int.toNat_natCast]; omega
def mapB (N K : Nat) (xs : List Int) (l : List R) (n : Nat) : Bool := obeyB N xs (imgsAt N K n) l
noncomputable def countMaps (k : Int) (l : List R) (q : Int) (xs : List Int) : Int := if mapsOk k l q xs then ((pick (mapB q.toNat k.toNat xs l) (q.toNat ^ k.toNat)).length : Nat) else -1
theorem countMaps_yes {K N : Nat} {l : List R} {xs : List Int} (h : mapsOk K l N xs = true) : countMaps K l N xs = ((pick (mapB N K xs l) (N ^ K)).length : Nat) := by unfold countMaps; rw [h]; rfl
theorem countMaps_no {k q : Int} {l : List R} {xs : List Int} (h : mapsOk k l q xs = false) : countMaps k l q xs = -1 := by unfold countMaps; rw [h]; rfl
/-- The first map that is not all 0. -/
noncomputable def firstMap (k : Int) (l : List R) (q : Int) (xs : List Int) : List Int × Bool :=
  if mapsOk k l q xs then match (pick (fun n => decide (0 < n) && mapB q.toNat k.toNat xs l n) (q.toNat ^ k.toNat)).head? with
    | none => ([], false)
    | some n => (nints (imgsAt q.toNat k.toNat n.toNat), true)
  else ([], false)
theorem firstMap_no {k q : Int} {l : List R} {xs : List Int} (h : mapsOk k l q xs = false) : firstMap k l q xs = ([], false) := by unfold firstMap; rw [h]; rfl
theorem firstMap_at {K N n : Nat} {l : List R} {xs : List Int} (h : mapsOk K l N xs = true) (h0 : 0 < n) (hn : n < N ^ K) (hf : mapB N K xs l n = true) (hb : ∀ j, 0 < j → j < n → mapB N K xs l j = false) : firstMap K l N xs = (nints (imgsAt N K n), true) := by
  unfold firstMap
  rw [h, if_pos rfl, Int.toNat_natCast, Int.toNat_natCast, pick_head (z := n) (by rw [hf]; simpa using h0) (fun a ha => by
    rcases Nat.eq_zero_or_pos a with e | e
    · subst e; rfl
    · rw [hb a e ha, Bool.and_false]) hn]
  simp
theorem firstMap_none {K N : Nat} {l : List R} {xs : List Int} (h : mapsOk K l N xs = true) (hb : ∀ j, 0 < j → j < N ^ K → mapB N K xs l j = false) : firstMap K l N xs = ([], false) := by
  unfold firstMap
  rw [h, if_pos rfl, Int.toNat_natCast, Int.toNat_natCast, pick_nil (fun a ha => by
    rcases Nat.eq_zero_or_pos a with e | e
    · subst e; rfl
    · rw [hb a e ha, Bool.and_false])]
  rfl
theorem firstMap_len (k : Int) (l : List R) (q : Int) (xs : List Int) : (firstMap k l q xs).1.length ≤ 4 := by
  unfold firstMap
  split
  · rename_i h
    obtain ⟨K, N, rfl, rfl, hr, -, -⟩ := mapsOk_iff h
    have := rulesOk_letters hr
    split
    · simp
    · rw [nints_length, imgsAt_length]; simp only [Int.toNat_natCast]; omega
  · simp
end Go.Proofs.YtlgaihofaiigcaaDoor
