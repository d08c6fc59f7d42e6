/- The program's monoid: how it lies; its making. -/
import Derived.Test.YtlehdmflnglipaaDoorTable
import Derived.Test.YtlehdmflnglipaaDoorSpecTable
import Derived.Laws.Tables
namespace Go.Proofs.YtlehdmflnglipaaDoor
open Go.RowKit

def monZ : Array Value := Array.replicate 1601 (.int .i64 0)
theorem monZ_size : monZ.size = 1601 := by simp [monZ]
theorem monZ_ne : (monZ = #[]) = False := by
  simp only [eq_iff_iff, iff_false]; intro h
  have := congrArg Array.size h; rw [monZ_size] at this; simp at this
def mon0 (n : Int) : Array Value := monZ.setIfInBounds 0 (.int .i64 n)
theorem zero_mon (w : World) : Sem.run Tryd.prog (zeroValue 63) w = .ok (.agg monZ) w := by kernel_rfl
/-- The program's monoid lies at g: n elements, whose products are those of the table xs. -/
structure MonAt (w : World) (g n : Nat) (xs : List Int) : Prop where
  lt : g < w.heap.size
  size : w.cell? ⟨g, 0, none⟩ = some (.int .i64 n)
  row : ∀ i k, i < n → k < n → w.cell? ⟨g, 1 + i * 40 + k, none⟩ = some (.int .i64 (tat xs (i * n + k)))
theorem MonAt.below {w w' : World} {g n : Nat} {xs : List Int} (h : MonAt w g n xs) (hb : Below w.heap.size w w') : MonAt w' g n xs :=
  ⟨by have := hb.size; have := h.lt; omega, (hb.cell (p := ⟨g, 0, none⟩) h.lt).trans h.size, fun i k hi hk => (hb.cell (p := ⟨g, 1 + i * 40 + k, none⟩) h.lt).trans (h.row i k hi hk)⟩
noncomputable def cdec (P : Prop) : Bool := @decide P (Classical.propDecidable P)
theorem cdec_yes {P : Prop} (h : P) : cdec P = true := by unfold cdec; simp [h]
theorem cdec_no {P : Prop} (h : ¬ P) : cdec P = false := by unfold cdec; simp [h]
theorem of_cdec {P : Prop} (h : cdec P = true) : P := by unfold cdec at h; simpa using h
theorem not_cdec {P : Prop} (h : cdec P = false) : ¬ P := by unfold cdec at h; simpa using h
def Rng (n : Nat) (xs : List Int) : Prop := ∀ j, j < n * n → 0 ≤ tat xs j ∧ tat xs j < n
section
variable {n : Nat} {xs : List Int}
theorem Rng.cast (h : Rng n xs) {i k : Nat} (hi : i < n) (hk : k < n) : tat xs (i * n + k) = (tmul n xs i k : Nat) := by
  have := (h _ (row_lt hi hk)).1
  unfold tmul; omega
theorem Rng.lt (h : Rng n xs) {i k : Nat} (hi : i < n) (hk : k < n) : tmul n xs i k < n := by
  have := h _ (row_lt hi hk)
  unfold tmul; omega
theorem MonAt.num {w : World} {g : Nat} (h : MonAt w g n xs) (hr : Rng n xs) {i k : Nat} (hi : i < n) (hk : k < n) : w.cell? ⟨g, 1 + i * 40 + k, none⟩ = some (.int .i64 (tmul n xs i k)) := by
  rw [← hr.cast hi hk]; exact h.row i k hi hk
end
def IdOk (n : Nat) (xs : List Int) : Prop := ∀ i, i < n → tmul n xs 0 i = i ∧ tmul n xs i 0 = i
def AsOk (n : Nat) (xs : List Int) (i k : Nat) : Prop := ∀ x, x < n → tmul n xs (tmul n xs i k) x = tmul n xs i (tmul n xs k x)
theorem tabOk_of {n : Nat} {xs : List Int} (lo : 1 ≤ n) (hi : n ≤ 40) (len : xs.length = n * n) (hr : Rng n xs) (h1 : IdOk n xs) (h2 : ∀ i k, i < n → k < n → AsOk n xs i k) : TabOk n xs where
  lo := lo
  hi := hi
  len := len
  rng := hr
  idl i h := by
    have h3 := hr.cast (show 0 < n by omega) h
    rw [Nat.zero_mul, Nat.zero_add] at h3
    rw [h3, (h1 i h).1]
  idr i h := by
    have h3 := hr.cast h (show 0 < n by omega)
    rw [Nat.add_zero] at h3
    rw [h3, (h1 i h).2]
  asc i j k a b c := by
    have h3 := h2 i j a b k c
    have e1 := hr.cast (hr.lt a b) c
    have e2 := hr.cast a (hr.lt b c)
    unfold tmul at e1 e2 h3
    rw [e1, e2, h3]
theorem TabOk.idOk {n : Nat} {xs : List Int} (h : TabOk n xs) : IdOk n xs := fun _ hi => h.one hi
theorem TabOk.asOk {n : Nat} {xs : List Int} (h : TabOk n xs) {i k : Nat} (hi : i < n) (hk : k < n) : AsOk n xs i k := fun _ hx => h.assoc hi hk hx
theorem cast_beq (a b : Nat) : ((a : Int) == (b : Int)) = (a == b) := by
  rw [Bool.eq_iff_iff]; simp; omega
set_option maxRecDepth 100000 in
set_option maxHeartbeats 400000 in
theorem hasIdentity_any (g N : Nat) (xs : List Int) (w : World) (h : MonAt w g N xs) (h1 : 1 ≤ N) (h40 : N ≤ 40) (hr : Rng N xs) :
    Calls Tryd.prog 58 #[.pointer (some ⟨g, 0, none⟩)] w fun e w' => e = .returned (.bool (cdec (IdOk N xs))) ∧ w = w' := by
  have x := h.size
  have HM := Lib.hid (fun i k hi hk => h.num hr (i := i) (k := k) hi hk)
  clear h
  go_enter Tryd.func58, Tryd.ntmps58
  go_wp2_with fail
  go_loop [8] (fun i => ∃ k : Nat, i = .int .i64 k ∧ k ≤ N ∧ Hid (∀ i, i < k → tmul N xs 0 i = i ∧ tmul N xs i 0 = i)) (fun i => N - (intOf i).toNat)
  case atStart => exact ⟨0, rfl, Nat.zero_le _, fun j hj => absurd hj (by omega)⟩
  case round =>
    obtain ⟨k, rfl, hk, HI⟩ := hrel
    by_cases hlt : k < N
    · have y := HM.out 0 k (by omega) hlt
      have z := HM.out k 0 hlt (by omega)
      rw [Nat.zero_mul, Nat.add_zero] at y
      rw [Nat.add_zero] at z
      by_cases e1 : tmul N xs 0 k = k
      · rw [e1] at y
        by_cases e2 : tmul N xs k 0 = k
        · rw [e2] at z
          have HI1 : Hid (∀ i, i < k + 1 → tmul N xs 0 i = i ∧ tmul N xs i 0 = i) := fun i hi => by
            by_cases e : i = k
            · subst e; exact ⟨e1, e2⟩
            · exact HI.out i (by omega)
          clear e1 e2
          go_wp2_with fail
          go_round
          case rel => exact ⟨k + 1, by go_num, by omega, HI1⟩
          case measure => simp [intOf]; omega
        · have He := Lib.hid (cdec_no (P := IdOk N xs) (fun h => e2 (h k hlt).2))
          generalize tmul N xs k 0 = U at *
          have e3 : ((U : Int) == (k : Int)) = false := by simp; omega
          have e4 : ((U : Int) != (k : Int)) = true := by simp; omega
          clear e1 e2
          go_wp2_with fail
          go_ret
          exact ⟨ret_bool He.out.symm, rfl⟩
      · have He := Lib.hid (cdec_no (P := IdOk N xs) (fun h => e1 (h k hlt).1))
        generalize tmul N xs 0 k = U at *
        have e3 : ((U : Int) == (k : Int)) = false := by simp; omega
        have e4 : ((U : Int) != (k : Int)) = true := by simp; omega
        clear e1
        go_wp2_with fail
        go_ret
        exact ⟨ret_bool He.out.symm, rfl⟩
    · obtain rfl : N = k := by omega
      have He := Lib.hid (cdec_yes (P := IdOk N xs) (fun i hi => HI.out i hi))
      go_wp2_with fail
      go_ret
      exact ⟨ret_bool He.out.symm, rfl⟩
set_option maxRecDepth 100000 in
set_option maxHeartbeats 400000 in
theorem needsNoBrackets_any (g N i k : Nat) (xs : List Int) (w : World) (h : MonAt w g N xs) (h40 : N ≤ 40) (hr : Rng N xs) (hi : i < N) (hk : k < N) :
    Calls Tryd.prog 68 #[.pointer (some ⟨g, 0, none⟩), .int .i64 i, .int .i64 k] w fun e w' => e = .returned (.bool (cdec (AsOk N xs i k))) ∧ ∃ m, w' = w.drewN m := by
  have x := h.size
  have HM := Lib.hid (fun i k hi hk => h.num hr (i := i) (k := k) hi hk)
  have HL := Lib.hid (fun i k hi hk => hr.lt (i := i) (k := k) hi hk)
  clear h hr
  go_enter Tryd.func68, Tryd.ntmps68
  go_wp2_with fail
  go_loopw [12] (fun i' wr => ∃ (q m : Nat), i' = .int .i64 q ∧ q ≤ N ∧ wr = w.drewN m ∧ Hid (∀ x, x < q → tmul N xs (tmul N xs i k) x = tmul N xs i (tmul N xs k x))) (fun i' _ => N - (intOf i').toNat)
  case atStart => exact ⟨0, 0, rfl, Nat.zero_le _, rfl, fun j hj => absurd hj (by omega)⟩
  case round =>
    obtain ⟨q, m, rfl, hq, rfl, HI⟩ := hrel
    by_cases hlt : q < N
    · have z1 := HM.out i k hi hk
      have z2 := HM.out _ q (HL.out i k hi hk) hlt
      have z3 := HM.out k q hk hlt
      have z4 := HM.out i _ hi (HL.out k q hk hlt)
      have l1 := HL.out i k hi hk
      have l3 := HL.out k q hk hlt
      obtain ⟨X, hX⟩ : ∃ X, tmul N xs i k = X := ⟨_, rfl⟩
      obtain ⟨Y, hY⟩ : ∃ Y, tmul N xs k q = Y := ⟨_, rfl⟩
      rw [hX] at z1 z2 l1
      rw [hY] at z3 z4 l3
      obtain ⟨U, hU⟩ : ∃ U, tmul N xs X q = U := ⟨_, rfl⟩
      obtain ⟨V, hV⟩ : ∃ V, tmul N xs i Y = V := ⟨_, rfl⟩
      rw [hU] at z2
      rw [hV] at z4
      have HX := Lib.hid hX
      have HY := Lib.hid hY
      have HU := Lib.hid hU
      have HV := Lib.hid hV
      clear hX hY hU hV
      go_wp2_with fail
      by_cases hUV : U = V
      · subst hUV
        have HI1 : Hid (∀ x, x < q + 1 → tmul N xs (tmul N xs i k) x = tmul N xs i (tmul N xs k x)) := fun x hx => by
          by_cases e : x = q
          · subst e; rw [HX.out, HY.out, HU.out, HV.out]
          · exact HI.out x (by omega)
        go_quiet (fail)
        all_goals go_wp2_with fail
        go_roundw
        case rel => exact ⟨q + 1, _, by go_num, by omega, rfl, HI1⟩
        case measure => simp [intOf]; omega
      · have He := Lib.hid (cdec_no (P := AsOk N xs i k) (fun h => hUV (by have h3 := h q hlt; rw [HX.out, HY.out, HU.out, HV.out] at h3; exact h3)))
        have e3 : ((U : Int) == (V : Int)) = false := by simp; omega
        have e4 : ((U : Int) != (V : Int)) = true := by simp; omega
        clear hUV
        go_quiet (fail)
        all_goals go_wp2_with fail
        go_ret
        exact ⟨ret_bool He.out.symm, _, World.drewN_drewN _ _ _⟩
    · obtain rfl : N = q := by omega
      have He := Lib.hid (cdec_yes (P := AsOk N xs i k) (fun x hx => HI.out x hx))
      go_wp2_with fail
      go_ret
      exact ⟨ret_bool He.out.symm, _, rfl⟩
theorem MonAt.drewN {w : World} {g n : Nat} {xs : List Int} (h : MonAt w g n xs) (m : Nat) : MonAt (w.drewN m) g n xs := h.below (below_drewN (Below.refl _ _) m)
set_option maxRecDepth 100000 in
set_option maxHeartbeats 400000 in
theorem isAssociative_any (g N : Nat) (xs : List Int) (w : World) (h : MonAt w g N xs) (h40 : N ≤ 40) (hr : Rng N xs) :
    Calls Tryd.prog 59 #[.pointer (some ⟨g, 0, none⟩)] w fun e w' => e = .returned (.bool (cdec (∀ i k, i < N → k < N → AsOk N xs i k))) ∧ ∃ m, w' = w.drewN m := by
  have x := h.size
  have HM := Lib.hid h
  have HR := Lib.hid hr
  clear h hr
  go_enter Tryd.func59, Tryd.ntmps59
  go_wp2_with fail
  go_loopw [9] (fun i' wr => ∃ (q m : Nat), i' = .int .i64 q ∧ q ≤ N ∧ wr = w.drewN m ∧ Hid (∀ i k, i < q → k < N → AsOk N xs i k)) (fun i' _ => N - (intOf i').toNat)
  case atStart => exact ⟨0, 0, rfl, Nat.zero_le _, rfl, fun i k hi => absurd hi (by omega)⟩
  case round =>
    obtain ⟨i, m, rfl, hi, rfl, HI⟩ := hrel
    by_cases hlt : i < N
    · go_wp2_with fail
      go_loopw [16] (fun i' wr => ∃ (q m : Nat), i' = .int .i64 q ∧ q ≤ N ∧ wr = w.drewN m ∧ Hid (∀ k, k < q → AsOk N xs i k)) (fun i' _ => N - (intOf i').toNat)
      case atStart => exact ⟨0, m, rfl, Nat.zero_le _, rfl, fun k hk => absurd hk (by omega)⟩
      case round =>
        obtain ⟨k, m', rfl, hk, rfl, HK⟩ := hrel
        by_cases hkl : k < N
        · go_wp2_with fail
          refine (needsNoBrackets_any g N i k xs _ (HM.out.drewN _) h40 HR.out hlt hkl).mono ?_
          rintro e w2 ⟨rfl, m2, rfl⟩
          cases hc : cdec (AsOk N xs i k)
          · have He := Lib.hid (cdec_no (P := ∀ i k, i < N → k < N → AsOk N xs i k) (fun h => not_cdec hc (h i k hlt hkl)))
            clear hc
            go_wp2_with fail
            go_ret
            exact ⟨ret_bool He.out.symm, _, rfl⟩
          · have HK1 : Hid (∀ k', k' < k + 1 → AsOk N xs i k') := fun k' hk' => by
              by_cases e : k' = k
              · subst e; exact of_cdec hc
              · exact HK.out k' (by omega)
            clear hc
            go_wp2_with fail
            go_roundw
            case rel => exact ⟨k + 1, _, by go_num, by omega, rfl, HK1⟩
            case measure => simp [intOf]; omega
        · obtain rfl : N = k := by omega
          have HI1 : Hid (∀ i' k, i' < i + 1 → k < N → AsOk N xs i' k) := fun i' k hi' hk' => by
            by_cases e : i' = i
            · subst e; exact HK.out k hk'
            · exact HI.out i' k (by omega) hk'
          go_wp2_with fail
          go_roundw
          case rel => exact ⟨i + 1, _, by go_num, by omega, rfl, HI1⟩
          case measure => simp [intOf]; omega
    · obtain rfl : N = i := by omega
      have He := Lib.hid (cdec_yes (P := ∀ i k, i < N → k < N → AsOk N xs i k) (fun i k hi hk => HI.out i k hi hk))
      go_wp2_with fail
      go_ret
      exact ⟨ret_bool He.out.symm, _, rfl⟩
theorem ret_i64 {a b : Int} (h : a = b) : Ending.returned (.int .i64 a) = .returned (.int .i64 b) := by rw [h]
/-- The index of v in a list, or -1. -/
def idxI : List Int → Int → Int
  | [], _ => -1
  | a :: l, v => if a = v then 0 else if idxI l v < 0 then -1 else idxI l v + 1
theorem idxI_no {l : List Int} {v : Int} (h : ∀ j : Nat, j < l.length → l[j]? ≠ some v) : idxI l v = -1 := by
  induction l with
  | nil => rfl
  | cons a l ih =>
    have h0 := h 0 (by simp)
    have h1 := ih (fun j hj => by have := h (j + 1) (by simp; omega); simpa using this)
    unfold idxI
    rw [if_neg (by simpa using h0), h1]; rfl
theorem idxI_at {l : List Int} {v : Int} {k : Nat} (hk : l[k]? = some v) (h : ∀ j, j < k → l[j]? ≠ some v) : idxI l v = k := by
  induction l generalizing k with
  | nil => simp at hk
  | cons a l ih =>
    cases k with
    | zero => simp at hk; subst hk; simp [idxI]
    | succ k =>
      have h0 := h 0 (by omega)
      have h1 := ih (k := k) (by simpa using hk) (fun j hj => by have := h (j + 1) (by omega); simpa using this)
      unfold idxI
      rw [if_neg (by simpa using h0), h1, if_neg (by omega)]; omega
theorem Own.iget {B n g off c : Nat} {w : World} {l : List Int} (h : Own B w (.slice (some ⟨g, off, none⟩) n c) 1 n (ints l)) {j : Nat} (hj : j < n) :
    ∃ s, l[j]? = some s ∧ w.cell? ⟨g, off + j, none⟩ = some (.int .i64 s) := by
  have hl := h.ilen
  have h1 := (h.cellAt (by omega) (i := j) (by rw [ints_length]; omega)).1
  exact ⟨l[j]'(by omega), List.getElem?_eq_getElem (by omega), by rw [h1]; simp only [ints, List.getElem?_map]; rw [List.getElem?_eq_getElem (by omega)]; rfl⟩
set_option maxRecDepth 100000 in
set_option maxHeartbeats 400000 in
theorem indexInt_any (A : Option Addr) (n c B : Nat) (v : Int) (l : List Int) (w : World) (h : Own B w (.slice A n c) 1 n (ints l)) :
    Calls Tryd.prog 67 #[.slice A n c, .int .i64 v] w fun e w' => e = .returned (.int .i64 (idxI l v)) ∧ w = w' := by
  have hlen := h.ilen
  have hmax := h.bound
  unfold maxLen at hmax
  by_cases hn : 0 < n
  · obtain ⟨g, off, c0, hv⟩ := h.formR hn
    obtain ⟨rfl, rfl⟩ : A = some ⟨g, off, none⟩ ∧ c = c0 := by injection hv with a _ b; exact ⟨a, b⟩
    clear hv
    have HC := Lib.hid (fun j (hj : j < n) => h.iget hj)
    have Hlen := Lib.hid hlen
    clear h hlen
    go_enter Tryd.func67, Tryd.ntmps67
    go_wp2_with fail
    go_loop [8] (fun i => ∃ k : Nat, i = .int .i64 k ∧ k ≤ n ∧ Hid (∀ j, j < k → l[j]? ≠ some v)) (fun i => n - (intOf i).toNat)
    case atStart => exact ⟨0, rfl, Nat.zero_le _, fun j hj => absurd hj (by omega)⟩
    case round =>
      obtain ⟨k, rfl, hk, HI⟩ := hrel
      by_cases hlt : k < n
      · obtain ⟨s, hs, hx⟩ := HC.out k hlt
        by_cases e : s = v
        · subst e
          have He := Lib.hid (idxI_at hs (fun j hj => HI.out j hj))
          clear hs
          go_wp2_with fail
          go_ret
          exact ⟨ret_i64 He.out.symm, rfl⟩
        · have e1 : (v == s) = false := by simp; omega
          have e2 : (s == v) = false := by simp; omega
          have HI1 : Hid (∀ j, j < k + 1 → l[j]? ≠ some v) := fun j hj => by
            by_cases e3 : j = k
            · subst e3; rw [hs]; simpa using e
            · exact HI.out j (by omega)
          clear hs e
          go_wp2_with fail
          go_round
          case rel => exact ⟨k + 1, by go_num, by omega, HI1⟩
          case measure => simp [intOf]; omega
      · obtain rfl : n = k := by omega
        have He := Lib.hid (idxI_no (l := l) (v := v) (fun j hj => HI.out j (by have := Hlen.out; omega)))
        go_wp2_with fail
        go_ret
        exact ⟨ret_i64 He.out.symm, rfl⟩
  · obtain rfl : n = 0 := by omega
    obtain rfl : l = [] := List.eq_nil_of_length_eq_zero hlen
    clear h hlen
    go_enter Tryd.func67, Tryd.ntmps67
    go_wp2_with fail
    refine wp_loop_rounds 1 ?_
    rw [rounds_succ]
    go_wp2_with fail
    go_ret
    exact ⟨rfl, rfl⟩
/-- 0, 1, .. n - 1 -/
def upTo (n : Nat) : List Int := (List.range n).map fun i : Nat => (i : Int)
theorem upTo_length (n : Nat) : (upTo n).length = n := by simp [upTo]
theorem upTo_get {n j : Nat} (h : j < n) : (upTo n)[j]? = some (j : Int) := by simp [upTo, h]
theorem upTo_succ (n : Nat) : upTo (n + 1) = upTo n ++ [(n : Int)] := by simp [upTo, List.range_succ]
theorem idx_upTo {n : Nat} {v : Int} (h : 0 ≤ v ∧ v < n) : idxI (upTo n) v = v := by
  obtain ⟨k, rfl⟩ : ∃ k : Nat, v = k := ⟨v.toNat, by omega⟩
  refine idxI_at (upTo_get (by omega)) (fun j hj => ?_)
  rw [upTo_get (by omega)]
  simp; omega
theorem idx_upTo_no {n : Nat} {v : Int} (h : ¬ (0 ≤ v ∧ v < n)) : idxI (upTo n) v = -1 := by
  refine idxI_no (fun j hj => ?_)
  rw [upTo_length] at hj
  rw [upTo_get hj]
  simp; omega
set_option maxRecDepth 100000 in
set_option maxHeartbeats 400000 in
theorem numbersUpTo_any (N : Nat) (w : World) (h : N ≤ 40) :
    Calls Tryd.prog 56 #[.int .i64 N] w fun e w' => ∃ v, e = .returned v ∧ Own w.heap.size w' v 1 N (ints (upTo N)) ∧ Below w.heap.size w w' := by
  obtain ⟨i0, hi, hz0, hz1, hz2⟩ := infoR_parts infoInt
  go_enter Tryd.func56, Tryd.ntmps56
  go_wp2_with fail
  go_loopw [3, 6] (fun v i wr => ∃ q : Nat, i = .int .i64 q ∧ q ≤ N ∧ Hid (wr.ownsRow w.heap.size 3 1 v q (ints (upTo q))) ∧ Below w.heap.size w wr) (fun _ i _ => N - (intOf i).toNat)
  case atStart => exact ⟨0, rfl, Nat.zero_le _, World.ownsRow_nil _ _ _ _, Below.refl _ _⟩
  case round =>
    obtain ⟨q, rfl, hq, HR, hb⟩ := hrel
    have hbs := hb.size
    by_cases hlt : q < N
    · go_wp2_with (at_builtin; refine wpList_append_own _ rfl _ _ 30 rfl w.heap.size 3 i0 (.int .i64 0) 1 8 Tryd.underlying30 hi hz0 hz1 hz2 rfl (by decide) _ _ _ rfl (HR.out.alloc _) ⟨wr.heap.size, 0, none⟩ 1 1 [.int .i64 (q : Int)] rfl rfl ?c1 ?c2 ?c3 ?c4 ?c5 ?_)
      case c1 => intro j u hj; match j, hj with | 0, hj => (simp at hj; subst hj; simp [Addr.add])
      case c2 => intro u hu; simp at hu; subst hu; rfl
      case c3 => unfold maxLen; omega
      case c4 => omega
      case c5 => simp; omega
      intro v' w6 hown' hgrow _
      have hown2 : w6.ownsRow w.heap.size 3 1 v' (q + 1) (ints (upTo (q + 1))) := by
        rw [upTo_succ]; simpa [ints] using hown'
      have hbw6 : Below w.heap.size w w6 := grown_one HR.out hgrow hb (Nat.le_refl _) hbs
      have HX6 := Lib.hid hown2
      clear hown' hgrow hown2 HR
      go_wp2_with fail
      go_roundw
      case rel => exact ⟨q + 1, by go_num, by omega, HX6, hbw6⟩
      case measure => simp [intOf]; omega
    · obtain rfl : N = q := by omega
      obtain ⟨A9, c9, rfl⟩ := (Own.of_row HR.out).form
      go_wp2_with fail
      go_ret
      exact ⟨_, rfl, Own.of_row HR.out, hb⟩
set_option maxRecDepth 100000 in
set_option maxHeartbeats 400000 in
/-- The function value that monoidFrom hands to multiplied. -/
theorem timesTable_any (b N n c B i k : Nat) (A : Option Addr) (xs : List Int) (w : World) (hb : Blk w b 35 #[.int .i64 N, .slice A n c]) (h : Own B w (.slice A n c) 1 n (ints xs)) (hn : n = N * N) (h40 : N ≤ 40) (hi : i < N) (hk : k < N) :
    Calls Tryd.prog 57 #[.int .i64 i, .int .i64 k, .pointer (some ⟨b, 0, none⟩)] w fun e w' => e = .returned (.int .i64 (tat xs (i * N + k))) ∧ w = w' := by
  have hik := row_lt hi hk
  have hiN := row_le hi h40
  have hn0 : 0 < n := by omega
  have hikn : i * N + k < n := by omega
  obtain ⟨g, off, c0, hv⟩ := h.formR hn0
  obtain ⟨rfl, rfl⟩ : A = some ⟨g, off, none⟩ ∧ c = c0 := by injection hv with a _ b; exact ⟨a, b⟩
  obtain ⟨q0, q1, -, -, ql⟩ := hb.two
  have x := h.tat hikn
  have Hn := Lib.hid hn
  clear hb h hv hn hik
  go_enter Tryd.func57, Tryd.ntmps57
  go_wp2_with fail
  go_ret
  exact ⟨rfl, rfl⟩
/-- The monoid at g while it is filled: rows below i are whole, row i up to k. -/
def MonTo (w : World) (g N i k : Nat) (xs : List Int) : Prop :=
  ∃ cs, Blk w g 63 cs ∧ cs.size = 1601 ∧ cs[0]? = some (.int .i64 N) ∧ ∀ a b, a < N → b < N → (a < i ∨ (a = i ∧ b < k)) → cs[1 + a * 40 + b]? = some (.int .i64 (tat xs (a * N + b)))
theorem MonTo.start (w : World) (N : Nat) (xs : List Int) : MonTo (w.alloc (.cells (mon0 N) 63)) w.heap.size N 0 0 xs :=
  ⟨mon0 N, Blk.new1 _ _ _, by simp [mon0, monZ_size], by simp [mon0, monZ_size], fun a b _ _ h => by omega⟩
theorem MonTo.lt {w : World} {g N i k : Nat} {xs : List Int} (h : MonTo w g N i k xs) : g < w.heap.size := by obtain ⟨cs, hb, _⟩ := h; exact hb.lt
theorem MonTo.size {w : World} {g N i k : Nat} {xs : List Int} (h : MonTo w g N i k xs) : w.cell? ⟨g, 0, none⟩ = some (.int .i64 N) := by obtain ⟨cs, hb, _, h0, _⟩ := h; exact (hb.cell 0).trans h0
theorem MonTo.drewN {w : World} {g N i k : Nat} {xs : List Int} (h : MonTo w g N i k xs) (m : Nat) : MonTo (w.drewN m) g N i k xs := h
theorem MonTo.next {w : World} {g N i : Nat} {xs : List Int} (h : MonTo w g N i N xs) : MonTo w g N (i + 1) 0 xs := by
  obtain ⟨cs, hb, hs, h0, hr⟩ := h
  exact ⟨cs, hb, hs, h0, fun a b ha hb' h => hr a b ha hb' (by omega)⟩
theorem MonTo.at_ {w : World} {g N i k : Nat} {xs : List Int} (h : MonTo w g N i k xs) (hi : i < 40) (hk : k < 40) : (∃ old, w.cell? ⟨g, 1 + i * 40 + k, none⟩ = some old) ∧ w.frozen? ⟨g, 1 + i * 40 + k, none⟩ = false := by
  obtain ⟨cs, hb, hs, h0, hr⟩ := h
  refine ⟨⟨cs[1 + i * 40 + k]'(by omega), ?_⟩, hb.frozen _⟩
  rw [hb.cell, Array.getElem?_eq_getElem]
theorem MonTo.set_ {w : World} {g N i k : Nat} {xs : List Int} (h : MonTo w g N i k xs) (h40 : N ≤ 40) (hi : i < N) (hk : k < N) : MonTo (w.setCell ⟨g, 1 + i * 40 + k, none⟩ (.int .i64 (tat xs (i * N + k)))) g N i (k + 1) xs := by
  obtain ⟨cs, hb, hs, h0, hr⟩ := h
  refine ⟨_, hb.set_ _ _, by simpa using hs, ?_, fun a b ha hb' h => ?_⟩
  · rw [Array.getElem?_setIfInBounds_ne (by omega)]; exact h0
  · by_cases e : a = i ∧ b = k
    · obtain ⟨rfl, rfl⟩ := e
      rw [Array.getElem?_setIfInBounds_self_of_lt (by omega)]
    · rw [Array.getElem?_setIfInBounds_ne (by omega)]; exact hr a b ha hb' (by omega)
theorem MonTo.done {w : World} {g N : Nat} {xs : List Int} (h : MonTo w g N N 0 xs) : MonAt w g N xs := by
  have hl := h.lt
  have hs := h.size
  obtain ⟨cs, hb, _, h0, hr⟩ := h
  exact ⟨hl, hs, fun i k hi hk => (hb.cell _).trans (hr i k hi hk (by omega))⟩
def MulPost (N : Nat) (xs : List Int) (w : World) (e : Ending) (w' : World) : Prop :=
  (Rng N xs ∧ e = .returned (.tuple #[.pointer (some ⟨w.heap.size, 0, none⟩), .bool true]) ∧ MonAt w' w.heap.size N xs) ∨ (¬ Rng N xs ∧ e = .returned (.tuple #[.pointer none, .bool false]))
set_option maxRecDepth 100000 in
set_option maxHeartbeats 1600000 in
theorem multiplied_any (b N n c B D c' : Nat) (A E : Option Addr) (xs : List Int) (w : World) (hb : Blk w b 35 #[.int .i64 N, .slice A n c]) (h : Own B w (.slice A n c) 1 n (ints xs)) (hE : Own D w (.slice E N c') 1 N (ints (upTo N))) (hn : n = N * N) (h1 : 1 ≤ N) (h40 : N ≤ 40) :
    Calls Tryd.prog 55 #[.slice E N c', .func (.func 57) #[] #[.pointer (some ⟨b, 0, none⟩)]] w fun e w' => MulPost N xs w e w' ∧ Below w.heap.size w w' := by
  have hbuild := zero_mon
  have hne := monZ_ne
  obtain ⟨g, off, c0, hv⟩ := hE.formR (by omega)
  obtain ⟨rfl, rfl⟩ : E = some ⟨g, off, none⟩ ∧ c' = c0 := by injection hv with a _ b; exact ⟨a, b⟩
  clear hv
  have HB := Lib.hid hb
  have HO := Lib.hid h
  have HE := Lib.hid hE
  have Hn := Lib.hid hn
  clear hb h hE hn
  have hc0 : (w.alloc (.cells (monZ.setIfInBounds 0 (.int .i64 N)) 63)).cell? ⟨w.heap.size, 0, none⟩ = some (.int .i64 N) := (MonTo.start w N xs).size
  go_enter Tryd.func55, Tryd.ntmps55
  go_wp2_with fail
  have M0 := Lib.hid (MonTo.start w N xs)
  have b0 := bel1 w (.cells (mon0 N) 63)
  change Hid (MonTo (w.alloc (.cells (monZ.setIfInBounds 0 (.int .i64 N)) 63)) w.heap.size N 0 0 xs) at M0
  change Below w.heap.size w (w.alloc (.cells (monZ.setIfInBounds 0 (.int .i64 N)) 63)) at b0
  clear hbuild hne
  generalize w.alloc (.cells (monZ.setIfInBounds 0 (.int .i64 N)) 63) = w1 at *
  clear hc0
  have HB1 := Lib.hid (fun (w' : World) (hb : Below w.heap.size w w') => HB.out.below hb HB.out.lt)
  have HO1 := Lib.hid (fun (w' : World) (hb : Below w.heap.size w w') => HO.out.below hb)
  have HE1 := Lib.hid (fun (w' : World) (hb : Below w.heap.size w w') => HE.out.below hb)
  clear HB HO HE
  go_loopw [18] (fun i wr => ∃ q : Nat, i = .int .i64 q ∧ q ≤ N ∧ Hid (MonTo wr w.heap.size N q 0 xs) ∧ Hid (∀ a b, a < q → b < N → 0 ≤ tat xs (a * N + b) ∧ tat xs (a * N + b) < N) ∧ Below w.heap.size w wr) (fun i _ => N - (intOf i).toNat)
  case atStart => exact ⟨0, rfl, Nat.zero_le _, M0, fun a b ha => absurd ha (by omega), b0⟩
  case round =>
    obtain ⟨i, rfl, hi, HM, HR, hb⟩ := hrel
    have hs := HM.out.size
    by_cases hlt : i < N
    · go_wp2_with fail
      clear hs
      go_loopw [25] (fun i' wr => ∃ q : Nat, i' = .int .i64 q ∧ q ≤ N ∧ Hid (MonTo wr w.heap.size N i q xs) ∧ Hid (∀ b, b < q → 0 ≤ tat xs (i * N + b) ∧ tat xs (i * N + b) < N) ∧ Below w.heap.size w wr) (fun i' _ => N - (intOf i').toNat)
      case atStart => exact ⟨0, rfl, Nat.zero_le _, HM, fun b hb => absurd hb (by omega), hb⟩
      case round =>
        obtain ⟨k, rfl, hk, HM2, HR2, hb2⟩ := hrel
        by_cases hkl : k < N
        · go_wp2_with fail
          obtain ⟨s1, hs1, hx1⟩ := (HE1.out _ hb2).iget hlt
          obtain ⟨s2, hs2, hx2⟩ := (HE1.out _ hb2).iget hkl
          rw [upTo_get hlt] at hs1
          rw [upTo_get hkl] at hs2
          obtain rfl := Option.some.inj hs1
          obtain rfl := Option.some.inj hs2
          clear hs1 hs2
          have HT := Lib.hid (fun m => timesTable_any b N n c B i k A xs (wr.drewN m) (HB1.out _ (below_drewN hb2 m)) (HO1.out _ (below_drewN hb2 m)) Hn.out h40 hlt hkl |>.mono fun e w' (h : _ ∧ _ = w') => (⟨h.1, h.2.symm⟩ : _ ∧ w' = wr.drewN m))
          have HX := Lib.hid (fun (v : Int) m => indexInt_any (some ⟨g, off, none⟩) N c' D v (upTo N) (wr.drewN m) (HE1.out _ (below_drewN hb2 m)) |>.mono fun e w' (h : _ ∧ _ = w') => (⟨h.1, h.2.symm⟩ : _ ∧ w' = wr.drewN m))
          go_quiet ((first | (go_at_call 57; refine Calls.quiet_of_same (HT.out _)) | (go_at_call 67; refine Calls.quiet_of_same (HX.out _ _))))
          clear hx1 hx2
          by_cases hr : 0 ≤ tat xs (i * N + k) ∧ tat xs (i * N + k) < N
          · have HR3 : Hid (∀ b, b < k + 1 → 0 ≤ tat xs (i * N + b) ∧ tat xs (i * N + b) < N) := fun b hb => by
              by_cases e : b = k
              · subst e; exact hr
              · exact HR2.out b (by omega)
            have Hi := Lib.hid (idx_upTo hr)
            have HM3 := Lib.hid ((HM2.out.drewN nq).set_ h40 hlt hkl)
            have hb3 := (below_drewN hb2 nq).setCell (p := ⟨w.heap.size, 1 + i * 40 + k, none⟩) (Nat.le_refl _) (.int .i64 (tat xs (i * N + k)))
            obtain ⟨⟨old, y0⟩, y1⟩ := (HM2.out.drewN nq).at_ (show i < 40 by omega) (show k < 40 by omega)
            rw [Hi.out]
            have hr0 := hr.1
            generalize tat xs (i * N + k) = U at *
            generalize wr.drewN nq = w5 at *
            clear hr
            go_wp2_with fail
            go_roundw
            case rel => exact ⟨k + 1, by go_num, by omega, HM3, HR3, hb3⟩
            case measure => simp [intOf]; omega
          · have Hi := Lib.hid (idx_upTo_no hr)
            have Hno := Lib.hid (show ¬ Rng N xs from fun h => hr (h _ (row_lt hlt hkl)))
            rw [Hi.out]
            clear hr
            generalize tat xs (i * N + k) = U at *
            go_wp2_with fail
            go_ret2
            exact ⟨.inr ⟨Hno.out, rfl⟩, below_drewN hb2 _⟩
        · obtain rfl : N = k := by omega
          have HR3 : Hid (∀ a b, a < i + 1 → b < N → 0 ≤ tat xs (a * N + b) ∧ tat xs (a * N + b) < N) := fun a b ha hb => by
            by_cases e : a = i
            · subst e; exact HR2.out b hb
            · exact HR.out a b (by omega) hb
          have HM3 := Lib.hid HM2.out.next
          go_wp2_with fail
          go_roundw
          case rel => exact ⟨i + 1, by go_num, by omega, HM3, HR3, hb2⟩
          case measure => simp [intOf]; omega
    · obtain rfl : N = i := by omega
      have HD := Lib.hid HM.out.done
      have HRN : Hid (Rng N xs) := fun j hj => by
        have h3 : j / N < N := Nat.div_lt_of_lt_mul hj
        have h4 : j % N < N := Nat.mod_lt _ (by omega)
        have h5 := HR.out (j / N) (j % N) h3 h4
        rwa [Nat.mul_comm, Nat.div_add_mod] at h5
      go_wp2_with fail
      go_ret2
      exact ⟨.inl ⟨HRN.out, rfl, HD.out⟩, hb⟩
end Go.Proofs.YtlehdmflnglipaaDoor
