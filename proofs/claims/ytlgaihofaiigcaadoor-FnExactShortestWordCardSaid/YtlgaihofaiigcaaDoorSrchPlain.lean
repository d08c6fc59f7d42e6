/- The search for the least words of all values: plain. -/
import Derived.Test.YtlgaihofaiigcaaDoorMeanPlain
import Derived.Test.YtlgaihofaiigcaaDoorSortPlain
namespace Go.Proofs.YtlgaihofaiigcaaDoor
open Go.RowKit

abbrev VW := Nat × List UInt8
def valQ (Q : List VW) : List Nat := Q.map (·.1)
/-- One more product: kept if it is new. -/
def addV (Q : List VW) (z : Nat) (u : List UInt8) : List VW := if z ∈ valQ Q then Q else Q ++ [(z, u)]
/-- The products of x by the first k images. -/
def prodTo (N : Nat) (xs : List Int) (I : List Nat) (Q : List VW) (x : Nat) (u : List UInt8) : Nat → List VW
  | 0 => Q
  | k + 1 => addV (prodTo N xs I Q x u k) (tmul N xs x (I.getD k 0)) (u ++ [UInt8.ofNat (97 + k)])
def srchTo (N : Nat) (xs : List Int) (I : List Nat) : Nat → List VW
  | 0 => [(0, [])]
  | a + 1 => match (srchTo N xs I a)[a]? with
    | none => srchTo N xs I a
    | some v => prodTo N xs I (srchTo N xs I a) v.1 v.2 I.length
def srch (N : Nat) (xs : List Int) (I : List Nat) : List VW := srchTo N xs I 40
theorem addV_pre (Q : List VW) (z : Nat) (u : List UInt8) : ∃ t, addV Q z u = Q ++ t := by
  unfold addV; split
  · exact ⟨[], by simp⟩
  · exact ⟨_, rfl⟩
theorem valQ_snoc (Q : List VW) (z : Nat) (u : List UInt8) : valQ (Q ++ [(z, u)]) = valQ Q ++ [z] := by simp [valQ]
section
variable {N : Nat} {xs : List Int} {I : List Nat}
theorem prodTo_pre (Q : List VW) (x : Nat) (u : List UInt8) : ∀ k, ∃ t, prodTo N xs I Q x u k = Q ++ t
  | 0 => ⟨[], by simp [prodTo]⟩
  | k + 1 => by
    obtain ⟨t, e⟩ := prodTo_pre Q x u k
    obtain ⟨t', e'⟩ := addV_pre (prodTo N xs I Q x u k) (tmul N xs x (I.getD k 0)) (u ++ [UInt8.ofNat (97 + k)])
    exact ⟨t ++ t', by unfold prodTo; rw [e', e, List.append_assoc]⟩
/-- What holds of a list of values and words: distinct elements, short words. -/
structure Good (N : Nat) (Q : List VW) : Prop where
  nd : (valQ Q).Nodup
  lt : ∀ v ∈ Q, v.1 < N
  ln : ∀ (j : Nat) (v : VW), Q[j]? = some v → v.2.length ≤ j
theorem Good.len {Q : List VW} (h : Good N Q) : Q.length ≤ N := by
  have := small_len N (valQ Q) h.nd (fun x hx => by
    obtain ⟨v, hv, rfl⟩ := List.mem_map.1 hx
    exact h.lt v hv)
  simpa [valQ] using this
theorem Good.add {Q : List VW} (h : Good N Q) {z : Nat} {u : List UInt8} (hz : z < N) (hu : u.length ≤ Q.length) : Good N (addV Q z u) := by
  unfold addV; split
  · exact h
  · rename_i hn
    refine ⟨?_, fun v hv => ?_, fun j v hj => ?_⟩
    · rw [valQ_snoc, List.nodup_append]
      refine ⟨h.nd, by simp, fun a ha b hb => ?_⟩
      rw [List.mem_singleton] at hb; subst hb
      intro e; subst e; exact hn ha
    · rcases List.mem_append.1 hv with hv | hv
      · exact h.lt v hv
      · rw [List.mem_singleton] at hv; subst hv; exact hz
    · rw [List.getElem?_append] at hj
      split at hj
      · exact h.ln j v hj
      · rename_i hlt
        have e : j - Q.length = 0 := by
          rcases Nat.eq_zero_or_pos (j - Q.length) with e | e
          · exact e
          · rw [List.getElem?_eq_none (by simp; omega)] at hj; cases hj
        rw [e] at hj
        simp only [List.getElem?_cons_zero, Option.some.injEq] at hj
        subst hj
        show u.length ≤ j
        omega
theorem Good.row (hT : TabOk N xs) (hI : ∀ i ∈ I, i < N) {Q : List VW} (h : Good N Q) {a x : Nat} {u : List UInt8} (hx : Q[a]? = some (x, u)) : ∀ k, Good N (prodTo N xs I Q x u k)
  | 0 => h
  | k + 1 => by
    have ih := Good.row hT hI h hx k
    have hxN : x < N := h.lt _ (List.mem_of_getElem? hx)
    have hul : u.length ≤ a := h.ln _ _ hx
    have hal := (List.getElem?_eq_some_iff.1 hx).1
    obtain ⟨t, e⟩ := prodTo_pre (N := N) (xs := xs) (I := I) Q x u k
    refine ih.add (hT.lt hxN ?_) ?_
    · rw [List.getD_eq_getElem?_getD]
      cases hk : I[k]? with
      | none => have := hT.lo; simp only [Option.getD_none]; omega
      | some i => rw [Option.getD_some]; exact hI i (List.mem_of_getElem? hk)
    · rw [e, List.length_append, List.length_append]; simp; omega
theorem Good.start (hT : TabOk N xs) : Good N [((0 : Nat), ([] : List UInt8))] :=
  ⟨by simp [valQ], fun v hv => by rw [List.mem_singleton] at hv; subst hv; have := hT.lo; show 0 < N; omega, fun j v hj => by
    match j, hj with
    | 0, hj => simp at hj; subst hj; simp
    | j + 1, hj => simp at hj⟩
theorem srchTo_good (hT : TabOk N xs) (hI : ∀ i ∈ I, i < N) : ∀ a, Good N (srchTo N xs I a)
  | 0 => Good.start hT
  | a + 1 => by
    have ih := srchTo_good hT hI a
    unfold srchTo
    cases h : (srchTo N xs I a)[a]? with
    | none => exact ih
    | some v => exact ih.row hT hI (x := v.1) (u := v.2) h _
theorem srchTo_step {a x : Nat} {u : List UInt8} (h : (srchTo N xs I a)[a]? = some (x, u)) : srchTo N xs I (a + 1) = prodTo N xs I (srchTo N xs I a) x u I.length := by
  rw [srchTo, h]
theorem srchTo_end {a : Nat} (h : (srchTo N xs I a).length ≤ a) : ∀ b, a ≤ b → srchTo N xs I b = srchTo N xs I a := by
  intro b hb
  obtain ⟨d, rfl⟩ : ∃ d, b = a + d := ⟨b - a, by omega⟩
  clear hb
  induction d with
  | zero => rfl
  | succ d ih =>
    show srchTo N xs I (a + d + 1) = _
    rw [srchTo, ih, List.getElem?_eq_none (by omega)]
theorem srch_eq {a : Nat} (h : (srchTo N xs I a).length ≤ a) (ha : a ≤ 40) : srch N xs I = srchTo N xs I a := srchTo_end h 40 ha
theorem srch_good (hT : TabOk N xs) (hI : ∀ i ∈ I, i < N) : Good N (srch N xs I) := srchTo_good hT hI 40
end
noncomputable def seenB (N : Nat) (xs : List Int) (I : List Nat) (i : Nat) : Bool := cdec (i ∈ valQ (srch N xs I))
noncomputable def reachedBy (q : Int) (xs es : List Int) : List Int := if imagesOk q xs es then pick (seenB q.toNat xs (es.map Int.toNat)) q.toNat else []
theorem reachedBy_yes {N : Nat} {xs es : List Int} {I : List Nat} (h : Imgs N xs es I) : reachedBy N xs es = pick (seenB N xs I) N := by
  unfold reachedBy; rw [h.ok, h.toNat]; rfl
theorem reachedBy_no {q : Int} {xs es : List Int} (h : imagesOk q xs es = false) : reachedBy q xs es = [] := by unfold reachedBy; rw [h]; rfl
theorem reachedBy_len (q : Int) (xs es : List Int) : (reachedBy q xs es).length ≤ 40 := by
  cases h : imagesOk q xs es
  · rw [reachedBy_no h]; simp
  · obtain ⟨N, I, rfl, hI⟩ := imagesOk_iff h
    rw [reachedBy_yes hI]
    have := pick_len (seenB N xs I) N
    have := hI.tab.hi
    omega
theorem pick_mem {p : Nat → Bool} {n : Nat} {x : Int} : x ∈ pick p n ↔ ∃ i : Nat, x = i ∧ i < n ∧ p i = true := by
  unfold pick
  rw [List.mem_map]
  constructor
  · rintro ⟨i, hi, rfl⟩
    rw [List.mem_filter, List.mem_range] at hi
    exact ⟨i, rfl, hi.1, hi.2⟩
  · rintro ⟨i, rfl, h1, h2⟩
    exact ⟨i, by rw [List.mem_filter, List.mem_range]; exact ⟨h1, h2⟩, rfl⟩
theorem sort_valQ {N : Nat} {Q : List VW} (h : Good N Q) : sortI (nints (valQ Q)) = pick (fun i => cdec (i ∈ valQ Q)) N := by
  apply strict_eq
  · have h1 := sortI_sorted (nints (valQ Q))
    have h2 : (sortI (nints (valQ Q))).Nodup := by
      unfold sortI
      rw [(List.mergeSort_perm _ _).nodup_iff]
      unfold nints
      rw [List.Nodup, List.pairwise_map]
      exact h.nd.imp fun {a b} hab e => hab (by omega)
    exact (List.pairwise_and_iff.2 ⟨h1, h2⟩).imp fun {a b} hab => by have := hab.1; have := hab.2; omega
  · exact pick_strict _ N
  · intro x
    rw [sortI_mem, pick_mem]
    unfold nints
    rw [List.mem_map]
    constructor
    · rintro ⟨i, hi, rfl⟩
      obtain ⟨v, hv, rfl⟩ := List.mem_map.1 hi
      exact ⟨_, rfl, h.lt v hv, cdec_yes hi⟩
    · rintro ⟨i, rfl, -, hi⟩
      exact ⟨i, of_cdec hi, rfl⟩
/-- The word of an element. -/
def wordAt (Q : List VW) (i : Nat) : Option (List UInt8) := (Q.find? fun v => v.1 == i).map (·.2)
theorem wordAt_get {N : Nat} {Q : List VW} (h : Good N Q) {j : Nat} {v : VW} (hj : Q[j]? = some v) : wordAt Q v.1 = some v.2 := by
  have hnd := h.nd
  clear h
  unfold wordAt
  induction Q generalizing j with
  | nil => simp at hj
  | cons a Q ih =>
    rw [List.find?_cons]
    have hnd2 : a.1 ∉ valQ Q ∧ (valQ Q).Nodup := by simpa [valQ] using hnd
    cases j with
    | zero => simp at hj; subst hj; simp
    | succ j =>
      rw [List.getElem?_cons_succ] at hj
      have hne : (a.1 == v.1) = false := by
        rw [beq_eq_false_iff_ne]
        intro e
        exact hnd2.1 (e ▸ List.mem_map_of_mem (f := (·.1)) (List.mem_of_getElem? hj))
      rw [hne]
      exact ih hj hnd2.2
theorem wordAt_none {Q : List VW} {i : Nat} (h : i ∉ valQ Q) : wordAt Q i = none := by
  unfold wordAt
  rw [Option.map_eq_none_iff, List.find?_eq_none]
  intro v hv e
  rw [beq_iff_eq] at e
  exact h (e ▸ List.mem_map_of_mem (f := (·.1)) hv)
def bytesOf (l : List UInt8) : ByteArray := ⟨l.toArray⟩
def shortIn (o : Option (List UInt8)) : ByteArray × Bool := match o with
  | none => (⟨#[]⟩, false)
  | some u => if u.length ≤ 16 then (bytesOf u, true) else (⟨#[]⟩, false)
noncomputable def shortestW (q : Int) (xs es : List Int) (i : Int) : ByteArray × Bool :=
  if imagesOk q xs es && (decide (0 ≤ i) && decide (i < q)) then
    shortIn (wordAt (srch q.toNat xs (es.map Int.toNat)) i.toNat)
  else (⟨#[]⟩, false)
theorem shortestW_no {q : Int} {xs es : List Int} {i : Int} (h : imagesOk q xs es = false) : shortestW q xs es i = (⟨#[]⟩, false) := by unfold shortestW; rw [h]; rfl
theorem shortestW_out {q : Int} {xs es : List Int} {i : Int} (h : ¬ (0 ≤ i ∧ i < q)) : shortestW q xs es i = (⟨#[]⟩, false) := by
  unfold shortestW
  rw [if_neg]
  intro h2
  simp only [Bool.and_eq_true, decide_eq_true_eq] at h2
  exact h h2.2
theorem wordAt_at {N : Nat} {Q : List VW} {i j : Nat} {u : List UInt8} (h : Good N Q) (hj : Q[j]? = some (i, u)) : i < N ∧ wordAt Q i = some u :=
  ⟨h.lt _ (List.mem_of_getElem? hj), wordAt_get h hj⟩
theorem shortestW_at {N i : Nat} {xs es : List Int} {I : List Nat} (h : Imgs N xs es I) (hi : i < N) : shortestW N xs es i = shortIn (wordAt (srch N xs I) i) := by
  unfold shortestW
  rw [h.ok, h.toNat, if_pos (by simp; omega), Int.toNat_natCast, Int.toNat_natCast]
theorem shortestW_none {N i : Nat} {xs es : List Int} {I : List Nat} (h : Imgs N xs es I) (hi : i < N) (hn : i ∉ valQ (srch N xs I)) : shortestW N xs es i = (⟨#[]⟩, false) := by
  rw [shortestW_at h hi, wordAt_none hn]; rfl
theorem shortestW_long {N i j : Nat} {xs es : List Int} {I : List Nat} {u : List UInt8} (h : Imgs N xs es I) (hj : (srch N xs I)[j]? = some (i, u)) (hu : 16 < u.length) : shortestW N xs es i = (⟨#[]⟩, false) := by
  obtain ⟨hi, e⟩ := wordAt_at (srch_good h.tab h.lt) hj
  rw [shortestW_at h hi, e]
  unfold shortIn
  dsimp only
  rw [if_neg (by omega)]
theorem shortestW_yes {N i j : Nat} {xs es : List Int} {I : List Nat} {u : List UInt8} (h : Imgs N xs es I) (hj : (srch N xs I)[j]? = some (i, u)) (hu : u.length ≤ 16) : shortestW N xs es i = (bytesOf u, true) := by
  obtain ⟨hi, e⟩ := wordAt_at (srch_good h.tab h.lt) hj
  rw [shortestW_at h hi, e]
  unfold shortIn
  dsimp only
  rw [if_pos hu]
end Go.Proofs.YtlgaihofaiigcaaDoor
