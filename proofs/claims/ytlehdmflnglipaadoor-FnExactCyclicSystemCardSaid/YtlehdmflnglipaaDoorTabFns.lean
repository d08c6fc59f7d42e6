/- What the functions of tables answer: plain. -/
import Derived.Test.YtlehdmflnglipaaDoorMonoid
namespace Go.Proofs.YtlehdmflnglipaaDoor
open Go.RowKit

theorem small_len : ∀ (n : Nat) (l : List Nat), l.Nodup → (∀ x ∈ l, x < n) → l.length ≤ n
  | 0, [], _, _ => Nat.le_refl _
  | 0, x :: l, _, h => by have := h x (List.mem_cons_self ..); omega
  | n + 1, l, hd, h => by
    by_cases hm : n ∈ l
    · have h1 := small_len n (l.erase n) (hd.erase n) (fun x hx => by
        have h2 := (hd.mem_erase_iff).1 hx
        have := h x h2.2
        have := h2.1
        omega)
      have h2 := List.length_erase_of_mem hm
      have h3 : 0 < l.length := List.length_pos_of_mem hm
      omega
    · have := small_len n l hd (fun x hx => by
        have := h x hx
        have hne : x ≠ n := fun e => hm (e ▸ hx)
        omega)
      omega
/-- The power of i after k steps. -/
def tpow (n : Nat) (xs : List Int) (i : Nat) : Nat → Nat
  | 0 => 0
  | k + 1 => tmul n xs (tpow n xs i k) i
section
variable {n : Nat} {xs : List Int}
theorem TabOk.pow_lt (h : TabOk n xs) {i : Nat} (hi : i < n) : ∀ k, tpow n xs i k < n
  | 0 => by unfold tpow; omega
  | k + 1 => by unfold tpow; exact h.lt (h.pow_lt hi k) hi
end
noncomputable def productOf (q : Int) (xs : List Int) (i k : Int) : Int × Bool := if elemOk q xs i && elemOk q xs k then (((tmul q.toNat xs i.toNat k.toNat : Nat) : Int), true) else (0, false)
noncomputable def powerOf (q : Int) (xs : List Int) (i k : Int) : Int × Bool := if elemOk q xs i && (decide (0 ≤ k) && decide (k ≤ 1000)) then (((tpow q.toNat xs i.toNat k.toNat : Nat) : Int), true) else (0, false)
theorem productOf_yes {N i k : Nat} {xs : List Int} (hT : TabOk N xs) (hi : i < N) (hk : k < N) : productOf N xs i k = (((tmul N xs i k : Nat) : Int), true) := by
  unfold productOf; rw [elemOk_yes hT hi, elemOk_yes hT hk]; rfl
theorem productOf_no1 {q : Int} {xs : List Int} {i k : Int} (h : elemOk q xs i = false) : productOf q xs i k = (0, false) := by unfold productOf; rw [h]; rfl
theorem productOf_no2 {q : Int} {xs : List Int} {i k : Int} (h : elemOk q xs k = false) : productOf q xs i k = (0, false) := by unfold productOf; rw [h, Bool.and_false]; rfl
theorem powerOf_yes {N i k : Nat} {xs : List Int} (hT : TabOk N xs) (hi : i < N) (hk : k ≤ 1000) : powerOf N xs i k = (((tpow N xs i k : Nat) : Int), true) := by
  unfold powerOf; rw [elemOk_yes hT hi, if_pos (by simp; omega)]; rfl
theorem powerOf_no1 {q : Int} {xs : List Int} {i k : Int} (h : elemOk q xs i = false) : powerOf q xs i k = (0, false) := by unfold powerOf; rw [h]; rfl
theorem powerOf_no2 {q : Int} {xs : List Int} {i k : Int} (h : k < 0 ∨ 1000 < k) : powerOf q xs i k = (0, false) := by
  unfold powerOf; rw [if_neg (by simp; omega)]
/-- The first m with x_m = x_t for some t behind it: (m, t - m). -/
structure IP (n : Nat) (xs : List Int) (i m p : Nat) : Prop where
  pos : 0 < p
  same : tpow n xs i (m + p) = tpow n xs i m
  nodup : ∀ a b, a < b → b < m + p → tpow n xs i a ≠ tpow n xs i b
theorem IP.unique {n : Nat} {xs : List Int} {i m p m' p' : Nat} (h : IP n xs i m p) (h' : IP n xs i m' p') : m = m' ∧ p = p' := by
  have e1 : m + p = m' + p' := by
    rcases Nat.lt_trichotomy (m + p) (m' + p') with h1 | h1 | h1
    · exact absurd h.same.symm (h'.nodup m (m + p) (by have := h.pos; omega) h1)
    · exact h1
    · exact absurd h'.same.symm (h.nodup m' (m' + p') (by have := h'.pos; omega) h1)
  have e2 : m = m' := by
    have s1 := h.same
    rw [e1, h'.same] at s1
    rcases Nat.lt_trichotomy m m' with h1 | h1 | h1
    · exact absurd s1.symm (h.nodup m m' h1 (by have := h'.pos; omega))
    · exact h1
    · exact absurd s1 (h'.nodup m' m h1 (by have := h.pos; omega))
  exact ⟨e2, by omega⟩
noncomputable def indexPeriod (q : Int) (xs : List Int) (i : Int) : Int × Int :=
  @dite _ (∃ m p : Nat, elemOk q xs i = true ∧ IP q.toNat xs i.toNat m p) (Classical.propDecidable _) (fun h => (((h.choose : Nat) : Int), ((h.choose_spec.choose : Nat) : Int))) (fun _ => (0, 0))
theorem indexPeriod_yes {N i m p : Nat} {xs : List Int} (hT : TabOk N xs) (hi : i < N) (h : IP N xs i m p) : indexPeriod N xs i = ((m : Int), (p : Int)) := by
  have hx : ∃ m p : Nat, elemOk N xs i = true ∧ IP (N : Int).toNat xs (i : Int).toNat m p := ⟨m, p, elemOk_yes hT hi, h⟩
  unfold indexPeriod
  rw [dif_pos hx]
  have h1 : IP N xs i hx.choose hx.choose_spec.choose := hx.choose_spec.choose_spec.2
  obtain ⟨e1, e2⟩ := h.unique h1
  exact Prod.ext (congrArg Int.ofNat e1.symm) (congrArg Int.ofNat e2.symm)
theorem indexPeriod_no {q : Int} {xs : List Int} {i : Int} (h : elemOk q xs i = false) : indexPeriod q xs i = (0, 0) := by
  unfold indexPeriod
  rw [dif_neg]
  rintro ⟨m, p, h1, -⟩
  rw [h] at h1; cases h1
noncomputable def commB (q : Int) (xs : List Int) : Bool := tableOk q xs && cdec (∀ i k, k < i → i < q.toNat → tmul q.toNat xs i k = tmul q.toNat xs k i)
noncomputable def idemB (n : Nat) (xs : List Int) (i : Nat) : Bool := tmul n xs i i == i
noncomputable def zeroB (n : Nat) (xs : List Int) (i : Nat) : Bool := cdec (∀ k, k < n → tmul n xs i k = i ∧ tmul n xs k i = i)
noncomputable def unitB (n : Nat) (xs : List Int) (i : Nat) : Bool := cdec (∃ k, k < n ∧ tmul n xs i k = 0 ∧ tmul n xs k i = 0)
/-- The elements below n that p holds of. -/
def pick (p : Nat → Bool) (n : Nat) : List Int := ((List.range n).filter p).map fun i : Nat => (i : Int)
theorem pick_succ (p : Nat → Bool) (n : Nat) : pick p (n + 1) = pick p n ++ (if p n then [(n : Int)] else []) := by
  unfold pick; rw [List.range_succ, List.filter_append, List.map_append]; cases h : p n <;> simp [h]
theorem pick_yes {p : Nat → Bool} {n : Nat} (h : p n = true) : pick p (n + 1) = pick p n ++ [(n : Int)] := by rw [pick_succ, h]; rfl
theorem pick_no {p : Nat → Bool} {n : Nat} (h : p n = false) : pick p (n + 1) = pick p n := by rw [pick_succ, h]; simp
theorem pick_len (p : Nat → Bool) (n : Nat) : (pick p n).length ≤ n := by
  unfold pick; rw [List.length_map]
  have := List.length_filter_le p (List.range n)
  simpa using this
noncomputable def pickOf (q : Int) (xs : List Int) (p : Nat → List Int → Nat → Bool) : List Int := if tableOk q xs then pick (p q.toNat xs) q.toNat else []
theorem pickOf_yes {N : Nat} {xs : List Int} (p : Nat → List Int → Nat → Bool) (h : TabOk N xs) : pickOf N xs p = pick (p N xs) N := by unfold pickOf; rw [tableOk_yes h]; rfl
theorem pickOf_no {q : Int} {xs : List Int} (p : Nat → List Int → Nat → Bool) (h : tableOk q xs = false) : pickOf q xs p = [] := by unfold pickOf; rw [h]; rfl
theorem pickOf_len (q : Int) (xs : List Int) (p : Nat → List Int → Nat → Bool) : (pickOf q xs p).length ≤ 40 := by
  unfold pickOf
  split
  · rename_i h
    obtain ⟨N, rfl, hT⟩ := tableOk_iff h
    have := pick_len (p N xs) N
    have := hT.hi
    simp only [Int.toNat_natCast]; omega
  · simp
noncomputable def zeroOf (q : Int) (xs : List Int) : Int := (pickOf q xs zeroB).head?.getD (-1)
noncomputable def isGroupB (q : Int) (xs : List Int) : Bool := tableOk q xs && (((pickOf q xs unitB).length : Int) == q)
theorem ret_ib {r : Int × Bool} {a : Int} {b : Bool} (h : r = (a, b)) : Ending.returned (.tuple #[.int .i64 a, .bool b]) = .returned (.tuple #[.int .i64 r.1, .bool r.2]) := by rw [h]
theorem ret_ii {r : Int × Int} {a b : Int} (h : r = (a, b)) : Ending.returned (.tuple #[.int .i64 a, .int .i64 b]) = .returned (.tuple #[.int .i64 r.1, .int .i64 r.2]) := by rw [h]
theorem held2_keepT {W W1 : World} {g : Nat} {a b : Value} {B : Nat} {w : World} (h : W.cell? ⟨g, 0, none⟩ = some a ∧ W.cell? ⟨g, 1, none⟩ = some b ∧ Below B w W) (hb : Below W.heap.size W W1) (hB : B ≤ w.heap.size) (hg : g < w.heap.size) :
    W1.cell? ⟨g, 0, none⟩ = some a ∧ W1.cell? ⟨g, 1, none⟩ = some b ∧ Below B w W1 := by
  obtain ⟨h1, h2, h5⟩ := h
  have hs := h5.size
  exact ⟨(hb.cell (by show g < _; omega)).trans h1, (hb.cell (by show g < _; omega)).trans h2, h5.trans (hb.mono (by omega))⟩
/-- An empty literal of ints. -/
theorem row_empty (w : World) (e : TypeId) : (w.alloc (.cells #[] e)).ownsRow w.heap.size e 1 (.slice (some ⟨w.heap.size, 0, none⟩) 0 0) 0 [] :=
  ⟨rfl, Or.inr ⟨w.heap.size, 0, #[], rfl, Nat.le_refl _, heap_alloc_new w _, Nat.le_refl _, by unfold maxLen; omega, rfl, rfl⟩⟩
/-- 0 and the powers of i. -/
def pows (n : Nat) (xs : List Int) (i k : Nat) : List Int := (List.range k).map fun t : Nat => ((tpow n xs i t : Nat) : Int)
theorem pows_length (n : Nat) (xs : List Int) (i k : Nat) : (pows n xs i k).length = k := by simp [pows]
theorem pows_get {n : Nat} {xs : List Int} {i k t : Nat} (h : t < k) : (pows n xs i k)[t]? = some ((tpow n xs i t : Nat) : Int) := by simp [pows, h]
theorem pows_succ (n : Nat) (xs : List Int) (i k : Nat) : pows n xs i (k + 1) = pows n xs i k ++ [((tpow n xs i k : Nat) : Int)] := by simp [pows, List.range_succ]
/-- The first k powers are all different. -/
def Diff (n : Nat) (xs : List Int) (i k : Nat) : Prop := ∀ a b, a < b → b < k → tpow n xs i a ≠ tpow n xs i b
theorem Diff.le {n : Nat} {xs : List Int} {i k : Nat} (h : Diff n xs i k) (hT : TabOk n xs) (hi : i < n) : k ≤ n := by
  have h1 := small_len n ((List.range k).map (tpow n xs i)) (by
    rw [List.Nodup, List.pairwise_map, List.pairwise_iff_getElem]
    intro a b ha hb hab
    simp only [List.length_range] at ha hb
    simp only [List.getElem_range]
    exact h a b hab hb) (fun x hx => by
      obtain ⟨t, -, rfl⟩ := List.mem_map.1 hx
      exact hT.pow_lt hi t)
  simpa using h1
theorem Diff.succ {n : Nat} {xs : List Int} {i k : Nat} (h : Diff n xs i k) (hn : ∀ a, a < k → tpow n xs i a ≠ tpow n xs i k) : Diff n xs i (k + 1) := fun a b hab hb => by
  by_cases e : b = k
  · subst e; exact hn a hab
  · exact h a b hab (by omega)
theorem ip_of {n : Nat} {xs : List Int} {i m k : Nat} (h : Diff n xs i k) (hm : m < k) (hs : tpow n xs i k = tpow n xs i m) : IP n xs i m (k - m) where
  pos := by omega
  same := by rw [show m + (k - m) = k by omega]; exact hs
  nodup a b hab hb := h a b hab (by omega)
theorem row_below {w w' : World} {base : Nat} {e : TypeId} {size : Nat} {v : Value} {k : Nat} {xs : List Value} (h : w.ownsRow base e size v k xs) (hb : Below w.heap.size w w') : w'.ownsRow base e size v k xs := by
  obtain ⟨h1, h2⟩ := h
  refine ⟨h1, ?_⟩
  rcases h2 with h2 | ⟨g, cap, cur, rfl, hg, hh, r⟩
  · exact .inl h2
  · have hlt : g < w.heap.size := by
      rcases Nat.lt_or_ge g w.heap.size with hlt | hge
      · exact hlt
      · rw [Array.getElem?_eq_none hge] at hh; cases hh
    exact .inr ⟨g, cap, cur, rfl, hg, (hb.block g hlt).trans hh, r⟩
theorem pick_nil {p : Nat → Bool} : ∀ {n : Nat}, (∀ a, a < n → p a = false) → pick p n = []
  | 0, _ => rfl
  | n + 1, h => by rw [pick_no (h n (by omega))]; exact pick_nil fun a ha => h a (by omega)
theorem pick_head {p : Nat → Bool} {z : Nat} (hz : p z = true) (h : ∀ a, a < z → p a = false) : ∀ {n : Nat}, z < n → (pick p n).head? = some (z : Int)
  | 0, hn => absurd hn (by omega)
  | n + 1, hn => by
    rw [pick_succ, List.head?_append]
    by_cases e : z = n
    · subst e; rw [pick_nil h, hz]; rfl
    · rw [pick_head hz h (show z < n by omega)]; rfl
theorem zeroOf_at {N z : Nat} {xs : List Int} (hT : TabOk N xs) (hz : zeroB N xs z = true) (h : ∀ a, a < z → zeroB N xs a = false) (hn : z < N) : zeroOf N xs = z := by
  unfold zeroOf; rw [pickOf_yes zeroB hT, pick_head hz h hn]; rfl
theorem zeroOf_none {N : Nat} {xs : List Int} (hT : TabOk N xs) (h : ∀ a, a < N → zeroB N xs a = false) : zeroOf N xs = -1 := by
  unfold zeroOf; rw [pickOf_yes zeroB hT, pick_nil h]; rfl
theorem zeroOf_no {q : Int} {xs : List Int} (h : tableOk q xs = false) : zeroOf q xs = -1 := by
  unfold zeroOf; rw [pickOf_no zeroB h]; rfl
def lenOf : Value → Nat
  | .slice _ n _ => n
  | _ => 0
theorem row_pow {w : World} {B : Nat} {e : TypeId} {A : Option Addr} {t c n i : Nat} {xs : List Int} (h : w.ownsRow B e 1 (.slice A t c) t (ints (pows n xs i t))) {j : Nat} (hj : j < t) :
    ∃ g off, A = some ⟨g, off, none⟩ ∧ w.cell? ⟨g, off + j, none⟩ = some (.int .i64 (tpow n xs i j : Nat)) := by
  obtain ⟨g, off, c0, hv⟩ := (Own.of_row h).formR (show 0 < t by omega)
  obtain ⟨rfl, rfl⟩ : A = some ⟨g, off, none⟩ ∧ c = c0 := by injection hv with a _ b; exact ⟨a, b⟩
  obtain ⟨s, hs, hx⟩ := (Own.of_row h).iget hj
  rw [pows_get hj] at hs
  obtain rfl := Option.some.inj hs
  exact ⟨g, off, rfl, hx⟩
end Go.Proofs.YtlehdmflnglipaaDoor
