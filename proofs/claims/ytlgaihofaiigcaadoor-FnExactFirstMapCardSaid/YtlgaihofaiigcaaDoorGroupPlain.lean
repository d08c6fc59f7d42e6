/- Groups and what elements reach: plain. -/
import Derived.Test.YtlgaihofaiigcaaDoorTabFns
namespace Go.Proofs.YtlgaihofaiigcaaDoor
open Go.RowKit

/-- A table in which each element has an inverse. -/
structure Grp (n : Nat) (xs : List Int) : Prop where
  tab : TabOk n xs
  inv : ∀ i, i < n → ∃ k, k < n ∧ tmul n xs i k = 0 ∧ tmul n xs k i = 0
theorem pick_full {p : Nat → Bool} : ∀ {n : Nat}, (pick p n).length = n → ∀ i, i < n → p i = true
  | 0, _, i, hi => absurd hi (by omega)
  | n + 1, h, i, hi => by
    have h1 := pick_len p n
    cases hp : p n
    · rw [pick_no hp] at h; omega
    · rw [pick_yes hp, List.length_append, List.length_singleton] at h
      by_cases e : i = n
      · subst e; exact hp
      · have h2 : (pick p n).length = n := by omega
        exact pick_full h2 i (by omega)
theorem pick_all {p : Nat → Bool} : ∀ {n : Nat}, (∀ i, i < n → p i = true) → (pick p n).length = n
  | 0, _ => rfl
  | n + 1, h => by rw [pick_yes (h n (by omega)), List.length_append, pick_all fun i hi => h i (by omega)]; rfl
theorem pick_congr {p p' : Nat → Bool} {n : Nat} (h : ∀ i, i < n → p i = p' i) : pick p n = pick p' n := by
  unfold pick
  rw [List.filter_congr fun x hx => h x (by simpa using hx)]
theorem isGroup_iff {q : Int} {xs : List Int} (h : isGroupB q xs = true) : ∃ N : Nat, q = N ∧ Grp N xs := by
  unfold isGroupB at h
  rw [Bool.and_eq_true] at h
  obtain ⟨N, rfl, hT⟩ := tableOk_iff h.1
  have h2 := h.2
  rw [pickOf_yes unitB hT, beq_iff_eq] at h2
  have h3 : (pick (unitB N xs) N).length = N := by omega
  exact ⟨N, rfl, hT, fun i hi => of_cdec (pick_full h3 i hi)⟩
theorem isGroup_yes {N : Nat} {xs : List Int} (h : Grp N xs) : isGroupB N xs = true := by
  unfold isGroupB
  rw [tableOk_yes h.tab, Bool.true_and, pickOf_yes unitB h.tab, beq_iff_eq, pick_all fun i hi => (show unitB N xs i = true from cdec_yes (h.inv i hi))]
theorem isGroup_no {N : Nat} {xs : List Int} (h : ¬ Grp N xs) : isGroupB N xs = false := by
  cases hg : isGroupB N xs
  · rfl
  · obtain ⟨M, e, hG⟩ := isGroup_iff hg
    obtain rfl : N = M := by omega
    exact absurd hG h
theorem isGroup_tab {q : Int} {xs : List Int} (h : tableOk q xs = false) : isGroupB q xs = false := by unfold isGroupB; rw [h, Bool.false_and]
/-- The inverse of i. -/
noncomputable def tinv (n : Nat) (xs : List Int) (i : Nat) : Nat :=
  @dite _ (∃ k, k < n ∧ tmul n xs i k = 0 ∧ tmul n xs k i = 0) (Classical.propDecidable _) (fun h => h.choose) (fun _ => 0)
section
variable {n : Nat} {xs : List Int}
theorem Grp.inv_spec (h : Grp n xs) {i : Nat} (hi : i < n) : tinv n xs i < n ∧ tmul n xs i (tinv n xs i) = 0 ∧ tmul n xs (tinv n xs i) i = 0 := by
  unfold tinv
  rw [dif_pos (h.inv i hi)]
  exact (h.inv i hi).choose_spec
theorem Grp.inv_of (h : Grp n xs) {i k : Nat} (hi : i < n) (hk : k < n) (e : tmul n xs i k = 0) : k = tinv n xs i := by
  obtain ⟨h1, h2, h3⟩ := h.inv_spec hi
  have h4 := h.tab.assoc h1 hi hk
  rw [h3, e, (h.tab.one hk).1, (h.tab.one h1).2] at h4
  exact h4
theorem TabOk.inv_of (hT : TabOk n xs) {i k : Nat} (hu : ∃ a, a < n ∧ tmul n xs i a = 0 ∧ tmul n xs a i = 0) (hi : i < n) (hk : k < n) (e : tmul n xs i k = 0) : k = tinv n xs i := by
  have key : ∀ a, a < n → tmul n xs a i = 0 → k = a := fun a ha h3 => by
    have h4 := hT.assoc ha hi hk
    rw [h3, e, (hT.one hk).1, (hT.one ha).2] at h4
    exact h4
  unfold tinv
  rw [dif_pos hu]
  exact key _ hu.choose_spec.1 hu.choose_spec.2.2
theorem Grp.cancel (h : Grp n xs) {i a b : Nat} (hi : i < n) (ha : a < n) (hb : b < n) (e : tmul n xs i a = tmul n xs i b) : a = b := by
  obtain ⟨h1, h2, h3⟩ := h.inv_spec hi
  have h4 := h.tab.assoc h1 hi ha
  have h5 := h.tab.assoc h1 hi hb
  rw [h3, (h.tab.one ha).1] at h4
  rw [h3, (h.tab.one hb).1] at h5
  rw [h4, h5, e]
theorem TabOk.pow_add (h : TabOk n xs) {i : Nat} (hi : i < n) (a : Nat) : ∀ b, tpow n xs i (a + b) = tmul n xs (tpow n xs i a) (tpow n xs i b)
  | 0 => by rw [Nat.add_zero]; exact ((h.one (h.pow_lt hi a)).2).symm
  | b + 1 => by
    rw [← Nat.add_assoc]
    show tmul n xs (tpow n xs i (a + b)) i = tmul n xs _ (tmul n xs (tpow n xs i b) i)
    rw [h.pow_add hi a b, h.assoc (h.pow_lt hi a) (h.pow_lt hi b) hi]
/-- The powers 1 to k - 1 are not 0. -/
def Away (n : Nat) (xs : List Int) (i k : Nat) : Prop := ∀ t, 0 < t → t < k → tpow n xs i t ≠ 0
theorem Away.diff (h : Grp n xs) {i k : Nat} (hi : i < n) (ha : Away n xs i k) : Diff n xs i k := fun a b hab hb e => by
  have h1 := h.tab.pow_add hi a (b - a)
  rw [show a + (b - a) = b by omega, ← e] at h1
  have h2 := (h.tab.one (h.tab.pow_lt hi a)).2
  exact ha (b - a) (by omega) (by omega) (h.cancel (h.tab.pow_lt hi a) (h.tab.pow_lt hi _) (show 0 < n by omega) (h1.symm.trans h2.symm))
theorem Away.le (h : Grp n xs) {i k : Nat} (hi : i < n) (ha : Away n xs i k) : k ≤ n := (ha.diff h hi).le h.tab hi
theorem Away.succ {i k : Nat} (ha : Away n xs i k) (hk : tpow n xs i k ≠ 0) : Away n xs i (k + 1) := fun t h0 h1 => by
  by_cases e : t = k
  · subst e; exact hk
  · exact ha t h0 (by omega)
theorem Away.one (i : Nat) : Away n xs i 1 := fun t h0 h1 => by omega
theorem Away.order (h : Grp n xs) {i k : Nat} (hi : i < n) (ha : Away n xs i k) (h0 : 0 < k) (hk : tpow n xs i k = 0) : IP n xs i 0 k where
  pos := h0
  same := by rw [Nat.zero_add]; exact hk
  nodup a b hab hb := ha.diff h hi a b hab (by omega)
theorem tpow_one (h : TabOk n xs) {i : Nat} (hi : i < n) : tpow n xs i 1 = i := (h.one hi).1
/-- What products of elements of G make. -/
inductive Gen (n : Nat) (xs : List Int) (G : List Nat) : Nat → Prop
  | zero : Gen n xs G 0
  | step {y g : Nat} : Gen n xs G y → g ∈ G → Gen n xs G (tmul n xs y g)
theorem Gen.lt (hT : TabOk n xs) {G : List Nat} (hG : ∀ g ∈ G, g < n) {y : Nat} (h : Gen n xs G y) : y < n := by
  induction h with
  | zero => have := hT.lo; omega
  | step _ hg ih => exact hT.lt ih (hG _ hg)
theorem Gen.mem (hT : TabOk n xs) {G : List Nat} (hG : ∀ g ∈ G, g < n) {g : Nat} (h : g ∈ G) : Gen n xs G g := by
  have h1 := Gen.step (n := n) (xs := xs) Gen.zero h
  rwa [(hT.one (hG _ h)).1] at h1
theorem Gen.mul (hT : TabOk n xs) {G : List Nat} (hG : ∀ g ∈ G, g < n) {a b : Nat} (ha : Gen n xs G a) (hb : Gen n xs G b) : Gen n xs G (tmul n xs a b) := by
  induction hb with
  | zero => rw [(hT.one (ha.lt hT hG)).2]; exact ha
  | step hy hg ih => rw [← hT.assoc (ha.lt hT hG) (hy.lt hT hG) (hG _ hg)]; exact ih.step hg
theorem Gen.sub (hT : TabOk n xs) {G G' : List Nat} (hG' : ∀ g ∈ G', g < n) (h : ∀ g ∈ G, Gen n xs G' g) {y : Nat} (hy : Gen n xs G y) : Gen n xs G' y := by
  induction hy with
  | zero => exact Gen.zero
  | step _ hg ih => exact ih.mul hT hG' (h _ hg)
theorem Gen.mono {G G' : List Nat} (h : ∀ g ∈ G, g ∈ G') {y : Nat} (hy : Gen n xs G y) : Gen n xs G' y := by
  induction hy with
  | zero => exact Gen.zero
  | step _ hg ih => exact ih.step (h _ hg)
def SameGen (n : Nat) (xs : List Int) (G G' : List Nat) : Prop := ∀ y, Gen n xs G y ↔ Gen n xs G' y
theorem lt_snoc {G : List Nat} {i : Nat} (hG : ∀ g ∈ G, g < n) (hi : i < n) : ∀ g ∈ G ++ [i], g < n := fun g hg => by
  rcases List.mem_append.1 hg with h | h
  · exact hG g h
  · simp at h; omega
theorem SameGen.has (hT : TabOk n xs) {G G' : List Nat} {i : Nat} (hG : ∀ g ∈ G, g < n) (h : SameGen n xs G' G) (hi : Gen n xs G i) : SameGen n xs G' (G ++ [i]) := fun y => by
  rw [h y]
  refine ⟨fun hy => hy.mono fun g hg => List.mem_append_left _ hg, fun hy => hy.sub hT hG fun g hg => ?_⟩
  rcases List.mem_append.1 hg with h | h
  · exact Gen.mem hT hG h
  · simp at h; subst h; exact hi
theorem SameGen.snoc (hT : TabOk n xs) {G G' : List Nat} {i : Nat} (hG : ∀ g ∈ G, g < n) (hG' : ∀ g ∈ G', g < n) (hi : i < n) (h : SameGen n xs G' G) : SameGen n xs (G' ++ [i]) (G ++ [i]) := fun y => by
  have aux : ∀ {A B : List Nat}, (∀ g ∈ A, g < n) → (∀ g ∈ B, g < n) → (∀ z, Gen n xs A z → Gen n xs B z) → Gen n xs (A ++ [i]) y → Gen n xs (B ++ [i]) y := fun hA hB hab hy =>
    hy.sub hT (lt_snoc hB hi) fun g hg => by
      rcases List.mem_append.1 hg with h | h
      · exact (hab g (Gen.mem hT hA h)).mono fun g hg => List.mem_append_left _ hg
      · exact Gen.mem hT (lt_snoc hB hi) (List.mem_append_right _ h)
  exact ⟨aux hG' hG fun z => (h z).1, aux hG hG' fun z => (h z).2⟩
theorem SameGen.refl (G : List Nat) : SameGen n xs G G := fun _ => Iff.rfl
/-- The powers of one element are what it makes. -/
theorem gen_pow {i : Nat} (t : Nat) : Gen n xs [i] (tpow n xs i t) := by
  induction t with
  | zero => exact Gen.zero
  | succ t ih => exact ih.step (by simp)
theorem gen_one {i k : Nat} (h0 : 0 < k) (hk : tpow n xs i k = 0) {y : Nat} (h : Gen n xs [i] y) : ∃ t, 0 < t ∧ t ≤ k ∧ tpow n xs i t = y := by
  induction h with
  | zero => exact ⟨k, h0, Nat.le_refl _, hk⟩
  | step _ hg ih =>
    obtain ⟨t, h1, h2, rfl⟩ := ih
    simp at hg; subst hg
    by_cases e : t = k
    · subst e; exact ⟨1, by omega, by omega, by rw [hk]; rfl⟩
    · exact ⟨t + 1, by omega, by omega, rfl⟩
/-- Q has 0, is closed under G up to place a, and has nothing that G does not make. -/
structure Reach (n : Nat) (xs : List Int) (G Q : List Nat) (a : Nat) : Prop where
  zero : 0 ∈ Q
  nodup : Q.Nodup
  sound : ∀ y ∈ Q, Gen n xs G y
  closed : ∀ (j y : Nat), j < a → Q[j]? = some y → ∀ g ∈ G, tmul n xs y g ∈ Q
theorem Reach.start (G : List Nat) : Reach n xs G [0] 0 where
  zero := by simp
  nodup := by simp
  sound y hy := by simp at hy; subst hy; exact Gen.zero
  closed j y hj := by omega
theorem Reach.whole {G Q : List Nat} (h : Reach n xs G Q Q.length) (y : Nat) : y ∈ Q ↔ Gen n xs G y := by
  refine ⟨h.sound y, fun hy => ?_⟩
  induction hy with
  | zero => exact h.zero
  | step _ hg ih =>
    obtain ⟨j, hj⟩ := List.getElem?_of_mem ih
    exact h.closed j _ (List.getElem?_eq_some_iff.1 hj).1 hj _ hg
theorem Reach.len {G Q : List Nat} {a : Nat} (hT : TabOk n xs) (hG : ∀ g ∈ G, g < n) (h : Reach n xs G Q a) : Q.length ≤ n :=
  small_len n Q h.nodup fun y hy => (h.sound y hy).lt hT hG
/-- The same while place a is looked at, up to the k-th of G. -/
structure ReachAt (n : Nat) (xs : List Int) (G Q : List Nat) (a x k : Nat) : Prop where
  toReach : Reach n xs G Q a
  at_ : Q[a]? = some x
  part : ∀ (j g : Nat), j < k → G[j]? = some g → tmul n xs x g ∈ Q
theorem Reach.enter {G Q : List Nat} {a x : Nat} (h : Reach n xs G Q a) (hx : Q[a]? = some x) : ReachAt n xs G Q a x 0 := ⟨h, hx, fun j g hj => by omega⟩
theorem ReachAt.old {G Q : List Nat} {a x k g : Nat} (h : ReachAt n xs G Q a x k) (hg : G[k]? = some g) (hm : tmul n xs x g ∈ Q) : ReachAt n xs G Q a x (k + 1) := ⟨h.toReach, h.at_, fun j g' hj hg' => by
  by_cases e : j = k
  · subst e; rw [hg] at hg'; obtain rfl := Option.some.inj hg'; exact hm
  · exact h.part j g' (by omega) hg'⟩
theorem ReachAt.new {G Q : List Nat} {a x k g : Nat} (h : ReachAt n xs G Q a x k) (hg : G[k]? = some g) (hm : tmul n xs x g ∉ Q) : ReachAt n xs G (Q ++ [tmul n xs x g]) a x (k + 1) where
  toReach := {
    zero := List.mem_append_left _ h.toReach.zero
    nodup := List.nodup_append.2 ⟨h.toReach.nodup, by simp, fun b hb c hc e => by simp at hc; subst hc; subst e; exact hm hb⟩
    sound := fun y hy => by
      rcases List.mem_append.1 hy with h1 | h1
      · exact h.toReach.sound y h1
      · simp at h1; subst h1
        exact (h.toReach.sound x (List.mem_of_getElem? h.at_)).step (List.mem_of_getElem? hg)
    closed := fun j y hj hy g' hg' => by
      have hl := (List.getElem?_eq_some_iff.1 h.at_).1
      rw [List.getElem?_append_left (by omega)] at hy
      exact List.mem_append_left _ (h.toReach.closed j y hj hy g' hg') }
  at_ := by
    have hl := (List.getElem?_eq_some_iff.1 h.at_).1
    rw [List.getElem?_append_left hl]; exact h.at_
  part := fun j g' hj hg' => by
    by_cases e : j = k
    · subst e; rw [hg] at hg'; obtain rfl := Option.some.inj hg'; exact List.mem_append_right _ (by simp)
    · exact List.mem_append_left _ (h.part j g' (by omega) hg')
theorem ReachAt.next {G Q : List Nat} {a x : Nat} (h : ReachAt n xs G Q a x G.length) : Reach n xs G Q (a + 1) := ⟨h.toReach.zero, h.toReach.nodup, h.toReach.sound, fun j y hj hy g hg => by
  by_cases e : j = a
  · subst e
    rw [h.at_] at hy
    obtain rfl := Option.some.inj hy
    obtain ⟨i, hi⟩ := List.getElem?_of_mem hg
    exact h.part i g (List.getElem?_eq_some_iff.1 hi).1 hi
  · exact h.toReach.closed j y (by omega) hy g hg⟩
end
noncomputable def genB (n : Nat) (xs : List Int) (G : List Nat) (y : Nat) : Bool := cdec (Gen n xs G y)
theorem genB_same {n : Nat} {xs : List Int} {G G' : List Nat} (h : SameGen n xs G G') (y : Nat) : genB n xs G y = genB n xs G' y := by
  cases hg : genB n xs G' y
  · exact cdec_no fun h2 => not_cdec hg ((h y).1 h2)
  · exact cdec_yes ((h y).2 (of_cdec hg))
/-- Numbers as a slice's ints. -/
def nints (l : List Nat) : List Int := l.map fun x : Nat => (x : Int)
theorem nints_length (l : List Nat) : (nints l).length = l.length := by simp [nints]
theorem nints_snoc (l : List Nat) (x : Nat) : nints (l ++ [x]) = nints l ++ [(x : Int)] := by simp [nints]
theorem nints_get {l : List Nat} {j x : Nat} (h : l[j]? = some x) : (nints l)[j]? = some (x : Int) := by simp [nints, h]
/-- A list of elements: as numbers. -/
theorem elems_of {N : Nat} {xs es : List Int} (h : allOk N xs es = true) : ∃ G : List Nat, es = nints G ∧ ∀ g ∈ G, g < N := by
  unfold allOk at h
  rw [Bool.and_eq_true, List.all_eq_true] at h
  refine ⟨es.map Int.toNat, ?_, fun g hg => ?_⟩
  · unfold nints
    rw [List.map_map]
    conv => lhs; rw [← List.map_id es]
    apply List.map_congr_left
    intro e he
    obtain ⟨_, k, _, rfl, _, _⟩ := elemOk_iff (h.2 e he)
    simp
  · obtain ⟨e, he, rfl⟩ := List.mem_map.1 hg
    obtain ⟨M, k, hM, rfl, _, hk⟩ := elemOk_iff (h.2 e he)
    simp; omega
end Go.Proofs.YtlgaihofaiigcaaDoor
