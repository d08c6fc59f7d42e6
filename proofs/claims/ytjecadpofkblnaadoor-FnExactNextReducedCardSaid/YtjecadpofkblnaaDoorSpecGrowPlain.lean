/- The model's counting of reduced words: ends and how many words have each: plain lemmas. -/
import Derived.Test.YtjecadpofkblnaaDoorImplGrowth
namespace Go.Proofs.YtjecadpofkblnaaDoor
open Go.RowKit

abbrev cntW (l : List R) (k m : Nat) (v : ByteArray) : Nat := cnt (lefts l) k m v.data.toList
abbrev cntToW (l : List R) (k m : Nat) (v : ByteArray) (j : Nat) : Nat := cntTo (lefts l) k m v.data.toList j
/-- The last letters of a word on which further letters depend. -/
def cutS (l : List R) (v : ByteArray) : ByteArray := v.extract (v.size - (longest l - 1)) v.size
theorem le_longest : ∀ (l : List R) (a : Nat), a ≤ l.foldl (fun a r => max a r.1.size) a ∧ ∀ r ∈ l, r.1.size ≤ l.foldl (fun a r => max a r.1.size) a
  | [], a => ⟨Nat.le_refl _, fun r h => by cases h⟩
  | x :: l, a => by
    obtain ⟨h1, h2⟩ := le_longest l (max a x.1.size)
    refine ⟨Nat.le_trans (Nat.le_max_left _ _) h1, fun r hr => ?_⟩
    rcases List.mem_cons.1 hr with rfl | hr
    · exact Nat.le_trans (Nat.le_max_right _ _) h1
    · exact h2 r hr
theorem longest_le {l : List R} {b : Nat} (h : ∀ r ∈ l, r.1.size ≤ b) : longest l ≤ b := by
  have : ∀ (l : List R) (a : Nat), a ≤ b → (∀ r ∈ l, r.1.size ≤ b) → l.foldl (fun a r => max a r.1.size) a ≤ b := by
    intro l
    induction l with
    | nil => intro a ha _; exact ha
    | cons x l ih => intro a ha h; exact ih _ (Nat.max_le.2 ⟨ha, h x (List.mem_cons_self ..)⟩) (fun r hr => h r (List.mem_cons_of_mem _ hr))
  exact this l 0 (Nat.zero_le _) h
theorem cut_cnt (l : List R) (k m : Nat) (v : ByteArray) : cntW l k m (cutS l v) = cntW l k m v := by
  have h := (eqv_cut (L := lefts l) (m := longest l - 1) (fun p hp => by
    obtain ⟨r, hr, rfl⟩ := mem_lefts.1 hp
    have := (le_longest l 0).2 r hr
    show r.1.data.toList.length ≤ _
    have e : r.1.data.toList.length = r.1.size := by simp
    unfold longest; omega) v.data.toList).cnt (k := k) m
  unfold cntW cutS
  rw [extract_end]
  have e : v.data.toList.length = v.size := by simp
  rw [e] at h
  exact h.symm
theorem cutS_size (l : List R) (v : ByteArray) (hl : ∀ r ∈ l, r.1.size ≤ 8) : (cutS l v).size ≤ 8 := by
  have := longest_le hl
  unfold cutS
  simp; omega
/-- Of four letters. -/
def low5 (s : ByteArray) : Prop := ∀ c ∈ s.data.toList, 97 ≤ c.toNat ∧ c.toNat ≤ 100
def numL : List UInt8 → Nat
  | [] => 0
  | c :: l => (c.toNat - 96) + 5 * numL l
theorem numL_inj : ∀ (a b : List UInt8), (∀ c ∈ a, 97 ≤ c.toNat ∧ c.toNat ≤ 100) → (∀ c ∈ b, 97 ≤ c.toNat ∧ c.toNat ≤ 100) → numL a = numL b → a = b
  | [], [], _, _, _ => rfl
  | [], d :: b, _, h, e => by
    have := h d (List.mem_cons_self ..)
    unfold numL at e; omega
  | c :: a, [], h, _, e => by
    have := h c (List.mem_cons_self ..)
    unfold numL at e; omega
  | c :: a, d :: b, h, h', e => by
    have h1 := h c (List.mem_cons_self ..)
    have h2 := h' d (List.mem_cons_self ..)
    unfold numL at e
    have h3 : c.toNat = d.toNat := by omega
    have h4 : numL a = numL b := by omega
    rw [numL_inj a b (fun x hx => h x (List.mem_cons_of_mem _ hx)) (fun x hx => h' x (List.mem_cons_of_mem _ hx)) h4, UInt8.toNat_inj.1 h3]
theorem numL_lt : ∀ (a : List UInt8), (∀ c ∈ a, 97 ≤ c.toNat ∧ c.toNat ≤ 100) → numL a < 5 ^ a.length
  | [], _ => Nat.one_pos
  | c :: a, h => by
    have h1 := h c (List.mem_cons_self ..)
    have h2 := numL_lt a (fun x hx => h x (List.mem_cons_of_mem _ hx))
    unfold numL
    rw [List.length_cons, Nat.pow_succ]; omega
theorem low_len {Ws : List ByteArray} (hd : Ws.Nodup) (h : ∀ v ∈ Ws, v.size ≤ 8 ∧ low5 v) : Ws.length ≤ 390625 := by
  have h1 : (Ws.map fun v => numL v.data.toList).Nodup := by
    rw [List.Nodup, List.pairwise_map]
    refine List.Pairwise.imp_of_mem ?_ hd
    intro a b ha hb hne e
    exact hne (by
      have := numL_inj _ _ (h a ha).2 (h b hb).2 e
      exact ByteArray.ext (Array.toList_inj.1 this))
  have h2 := below_len 390625 _ h1 (fun x hx => by
    obtain ⟨v, hv, rfl⟩ := List.mem_map.1 hx
    have h3 := numL_lt _ (h v hv).2
    have h4 : v.data.toList.length = v.size := by simp
    rw [h4] at h3
    exact Nat.lt_of_lt_of_le h3 (Nat.pow_le_pow_right (by omega) (h v hv).1))
  simpa using h2
theorem low_ext {u : ByteArray} {x : Nat} (h : low5 u) (hx : x < 4) : low5 (ext1 u x) := by
  intro c hc
  rw [ext1_list] at hc
  rcases List.mem_append.1 hc with hc | hc
  · exact h c hc
  · simp at hc
    subst hc
    unfold letC
    match x, hx with
    | 0, _ => decide
    | 1, _ => decide
    | 2, _ => decide
    | 3, _ => decide
theorem low_cut {l : List R} {u : ByteArray} (h : low5 u) : low5 (cutS l u) := by
  intro c hc
  unfold cutS at hc
  rw [extract_end] at hc
  exact h c (List.mem_of_mem_drop hc)
/-- The words behind the ends, added. -/
def sumP (l : List R) (k m : Nat) : List ByteArray → List Nat → Nat
  | v :: O, c :: N => c * cntW l k m v + sumP l k m O N
  | _, _ => 0
theorem sumP_app (l : List R) (k m : Nat) : ∀ (O O' : List ByteArray) (N N' : List Nat), O.length = N.length → sumP l k m (O ++ O') (N ++ N') = sumP l k m O N + sumP l k m O' N'
  | [], _, [], _, _ => by simp [sumP]
  | v :: O, O', c :: N, N', h => by
    show c * _ + sumP l k m (O ++ O') (N ++ N') = c * _ + sumP l k m O N + _
    rw [sumP_app l k m O O' N N' (by simpa using h)]; omega
theorem sumP_one (l : List R) (k m : Nat) (v : ByteArray) (c : Nat) : sumP l k m [v] [c] = c * cntW l k m v := by simp [sumP]
theorem sumP_set (l : List R) (k m : Nat) : ∀ (O : List ByteArray) (N : List Nat) (i : Nat) (v : ByteArray) (a c : Nat), O[i]? = some v → N[i]? = some a → sumP l k m O (N.set i (a + c)) = sumP l k m O N + c * cntW l k m v
  | u :: O, b :: N, 0, v, a, c, h1, h2 => by
    simp at h1 h2
    subst h1; subst h2
    show (b + c) * _ + _ = b * _ + _ + _
    rw [Nat.add_mul]; omega
  | u :: O, b :: N, i + 1, v, a, c, h1, h2 => by
    show b * _ + sumP l k m O (N.set i (a + c)) = b * _ + _ + _
    rw [sumP_set l k m O N i v a c (by simpa using h1) (by simpa using h2)]; omega
theorem sumP_zero (l : List R) (k : Nat) : ∀ (O : List ByteArray) (N : List Nat), O.length = N.length → sumP l k 0 O N = N.sum
  | [], [], _ => rfl
  | v :: O, c :: N, h => by
    show c * 1 + _ = _
    rw [sumP_zero l k O N (by simpa using h), List.sum_cons]; omega
/-- The ends Ws with their numbers cs, behind i letters. -/
structure SpecSt (l : List R) (k i : Nat) (Ws : List ByteArray) (cs : List Nat) : Prop where
  len : Ws.length = cs.length
  small : ∀ v ∈ Ws, v.size ≤ 8
  sum : ∀ m, sumP l k m Ws cs = countN l k (m + i)
  few : cs.length ≤ 4 ^ i
  nodup : Ws.Nodup
  low : ∀ v ∈ Ws, low5 v
theorem SpecSt.start (l : List R) (k : Nat) : SpecSt l k 0 [⟨#[]⟩] [1] :=
  ⟨rfl, fun v hv => by simp at hv; subst hv; exact Nat.zero_le _, fun m => by rw [sumP_one, Nat.one_mul]; rfl, Nat.le_refl _, by simp, fun v hv => by simp at hv; subst hv; exact fun c h => (by cases h)⟩
theorem SpecSt.bound {l : List R} {k i : Nat} {Ws : List ByteArray} {cs : List Nat} (h : SpecSt l k i Ws cs) : Ws.length ≤ 390625 := low_len h.nodup fun v hv => ⟨h.small v hv, h.low v hv⟩
theorem SpecSt.count {l : List R} {k i : Nat} {Ws : List ByteArray} {cs : List Nat} (h : SpecSt l k i Ws cs) : cs.sum = countN l k i := by
  rw [← sumP_zero l k Ws cs h.len, h.sum 0, Nat.zero_add]
/-- What the moves of one end with the first j letters add. -/
def midP (l : List R) (k m : Nat) (ow : Option ByteArray) (oc : Option Nat) (j : Nat) : Nat := match ow, oc with | some w, some c => c * cntToW l k m w j | _, _ => 0
theorem midP_some (l : List R) (k m : Nat) (w : ByteArray) (c j : Nat) : midP l k m (some w) (some c) j = c * cntToW l k m w j := rfl
theorem midP_zero (l : List R) (k m : Nat) (ow : Option ByteArray) (oc : Option Nat) : midP l k m ow oc 0 = 0 := by
  cases ow with
  | none => rfl
  | some w => cases oc with
    | none => rfl
    | some c => exact Nat.mul_zero c
/-- The next ones, while the moves of the first a ends are added, and those of the next one with the first j letters. -/
structure SpecAt (l : List R) (k : Nat) (Ws : List ByteArray) (cs : List Nat) (a j : Nat) (O : List ByteArray) (N : List Nat) : Prop where
  len : O.length = N.length
  small : ∀ v ∈ O, v.size ≤ 8
  sum : ∀ m, sumP l k m O N = sumP l k (m + 1) (Ws.take a) (cs.take a) + midP l k m Ws[a]? cs[a]? j
  few : N.length ≤ a * k + j
  nodup : O.Nodup
  low : ∀ v ∈ O, low5 v
theorem SpecAt.start (l : List R) (k : Nat) (Ws : List ByteArray) (cs : List Nat) : SpecAt l k Ws cs 0 0 [] [] :=
  ⟨rfl, fun v hv => (by cases hv), fun m => by rw [midP_zero]; rfl, Nat.zero_le _, List.nodup_nil, fun v hv => (by cases hv)⟩
theorem SpecAt.skip {l : List R} {k a j : Nat} {Ws : List ByteArray} {cs : List Nat} {O : List ByteArray} {N : List Nat} {w : ByteArray} {c : Nat} (h : SpecAt l k Ws cs a j O N) (hw : Ws[a]? = some w) (hc : cs[a]? = some c) (hh : hitS l (ext1 w j) = true) : SpecAt l k Ws cs a (j + 1) O N := by
  refine ⟨h.len, h.small, fun m => ?_, by have := h.few; omega, h.nodup, h.low⟩
  have h1 := h.sum m
  rw [hw, hc, midP_some] at h1 ⊢
  have h2 : cntToW l k m w (j + 1) = cntToW l k m w j := by
    rw [hitS_ends, ext1_list] at hh
    show sumTo _ j + (if _ then _ else _) = _
    rw [hh, if_pos rfl]; rfl
  rw [h2]; exact h1
theorem cntTo_hit {l : List R} {k m j : Nat} {w : ByteArray} (hh : hitS l (ext1 w j) = false) : cntToW l k m w (j + 1) = cntToW l k m w j + cntW l k m (cutS l (ext1 w j)) := by
  rw [cut_cnt]
  have h3 := hh
  rw [hitS_ends, ext1_list] at h3
  show sumTo _ j + (if _ then _ else _) = _
  rw [if_neg (by rw [h3]; simp)]
  unfold cntW
  rw [ext1_list]; rfl
theorem SpecAt.more {l : List R} {k a j i : Nat} {Ws : List ByteArray} {cs : List Nat} {O : List ByteArray} {N : List Nat} {w : ByteArray} {b c : Nat} (h : SpecAt l k Ws cs a j O N) (hw : Ws[a]? = some w) (hc : cs[a]? = some c) (hh : hitS l (ext1 w j) = false)
    (hO : O[i]? = some (cutS l (ext1 w j))) (hN : N[i]? = some b) : SpecAt l k Ws cs a (j + 1) O (N.set i (b + c)) := by
  refine ⟨by rw [List.length_set]; exact h.len, h.small, fun m => ?_, by rw [List.length_set]; have := h.few; omega, h.nodup, h.low⟩
  have h1 := h.sum m
  rw [hw, hc, midP_some] at h1
  rw [sumP_set l k m O N i _ b c hO hN, h1, hw, hc, midP_some, cntTo_hit hh, Nat.mul_add]; omega
theorem SpecAt.push {l : List R} {k a j : Nat} {Ws : List ByteArray} {cs : List Nat} {O : List ByteArray} {N : List Nat} {w : ByteArray} {c : Nat} (h : SpecAt l k Ws cs a j O N) (hl : ∀ r ∈ l, r.1.size ≤ 8) (hw : Ws[a]? = some w) (hc : cs[a]? = some c) (hh : hitS l (ext1 w j) = false) (hlo : low5 w) (hj : j < 4) (hno : cutS l (ext1 w j) ∉ O) :
    SpecAt l k Ws cs a (j + 1) (O ++ [cutS l (ext1 w j)]) (N ++ [c]) := by
  refine ⟨by simp [h.len], fun v hv => ?_, fun m => ?_, by rw [List.length_append]; have := h.few; simp; omega, List.nodup_append.2 ⟨h.nodup, by simp, fun x hx y hy e => (by simp at hy; subst hy; subst e; exact hno hx)⟩, fun v hv => (List.mem_append.1 hv).elim (h.low v) (fun hv => (by simp at hv; subst hv; exact low_cut (low_ext hlo hj)))⟩
  · rcases List.mem_append.1 hv with hv | hv
    · exact h.small v hv
    · simp at hv; subst hv; exact cutS_size l _ hl
  · have h1 := h.sum m
    rw [hw, hc, midP_some] at h1
    rw [sumP_app l k m O _ N _ h.len, sumP_one, h1, hw, hc, midP_some, cntTo_hit hh, Nat.mul_add]; omega
theorem SpecAt.round {l : List R} {k a : Nat} {Ws : List ByteArray} {cs : List Nat} {O : List ByteArray} {N : List Nat} (h : SpecAt l k Ws cs a k O N) (hlen : Ws.length = cs.length) (ha : a < Ws.length) : SpecAt l k Ws cs (a + 1) 0 O N := by
  have hw : Ws[a]? = some Ws[a] := List.getElem?_eq_getElem ha
  have hc : cs[a]? = some (cs[a]'(by omega)) := List.getElem?_eq_getElem (by omega)
  refine ⟨h.len, h.small, fun m => ?_, by have := h.few; rw [Nat.succ_mul]; omega, h.nodup, h.low⟩
  have h1 := h.sum m
  rw [hw, hc, midP_some] at h1
  rw [h1, List.take_succ_eq_append_getElem ha, List.take_succ_eq_append_getElem (by omega), sumP_app l k (m + 1) _ _ _ _ (by simp; omega), sumP_one, midP_zero]; rfl
theorem SpecAt.done {l : List R} {k i : Nat} {Ws : List ByteArray} {cs : List Nat} {O : List ByteArray} {N : List Nat} (h : SpecAt l k Ws cs Ws.length 0 O N) (hs : SpecSt l k i Ws cs) (hk : k ≤ 4) : SpecSt l k (i + 1) O N := by
  refine ⟨h.len, h.small, fun m => ?_, ?_, h.nodup, h.low⟩
  · have h1 := h.sum m
    rw [List.take_length, List.take_of_length_le (by rw [hs.len]; exact Nat.le_refl _), midP_zero] at h1
    rw [h1, hs.sum (m + 1), show m + 1 + i = m + (i + 1) by omega]; rfl
  · have h1 := h.few
    have h2 := hs.few
    rw [Nat.pow_succ]
    have h3 : Ws.length * k ≤ 4 ^ i * 4 := Nat.mul_le_mul (by rw [hs.len]; exact h2) hk
    omega
def wrs (N : List Nat) : List Int := N.map wr
theorem wrs_length (N : List Nat) : (wrs N).length = N.length := List.length_map ..
end Go.Proofs.YtjecadpofkblnaaDoor
