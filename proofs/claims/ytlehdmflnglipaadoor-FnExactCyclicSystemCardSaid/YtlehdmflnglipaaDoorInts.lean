/- Slices of ints of the call's own; the laws' helpers eqIntS, markIntS, heldIntS. -/
import Derived.Test.YtlehdmflnglipaaDoorBase
import Derived.Test.YtlehdmflnglipaaDoorOwn
import Derived.IntWalk
import Derived.Deep.QuietTactic
import Derived.BigQuiet
namespace Go.Proofs.YtlehdmflnglipaaDoor
open Go.RowKit

theorem infoInt : (Tryd.prog.info? 3).map (fun i => (i.zero, i.size, i.bytes)) = some (some (.int .i64 0), 1, 8) := by kernel_rfl
def ints (l : List Int) : List Value := l.map (Value.int .i64)
theorem ints_length (l : List Int) : (ints l).length = l.length := List.length_map ..
/-- What the walk asks of a slice that holds ints: the cell and its mark. -/
theorem Own.int {B n : Nat} {w : World} {A : Option Addr} {c : Nat} {l : List Int} (h : Own B w (.slice A n c) 1 n (ints l)) (hn : 0 < n) :
    ∃ g off, A = some ⟨g, off, none⟩ ∧ B ≤ g ∧ g < w.heap.size ∧ ∀ j, j < n → ∃ s, l[j]? = some s ∧ w.cell? ⟨g, off + j, none⟩ = some (.int .i64 s) ∧ w.frozen? ⟨g, off + j, none⟩ = false := by
  obtain ⟨h1, A', c', hv, hc, hm, h2⟩ := h
  obtain ⟨rfl, rfl⟩ : A = A' ∧ c = c' := by injection hv; exact ⟨by assumption, by assumption⟩
  obtain ⟨g, off, e, hg, hlt, r⟩ := h2 hn
  refine ⟨g, off, e, hg, hlt, fun j hj => ?_⟩
  have hl : l.length = n := by simpa [ints] using h1
  have hj' : j < (ints l).length := by rw [ints_length]; omega
  obtain ⟨r1, r2⟩ := r j hj'
  refine ⟨l[j]'(by omega), by simp [hl, hj], ?_, r2⟩
  rw [r1]; simp [ints, hl, hj]

/-- k, k + 1, .. -/
def imarks (k : Int) (n : Nat) : List Int := (List.range n).map fun j : Nat => k + j
theorem imarks_length (k : Int) (n : Nat) : (imarks k n).length = n := by simp [imarks]
theorem imarks_get (k : Int) (n j : Nat) (h : j < n) : (imarks k n)[j]? = some (k + j) := by simp [imarks, h]

set_option maxHeartbeats 400000 in
theorem eqIntS_yes (A A' : Option Addr) (n c c' B B' : Nat) (l : List Int) (w : World) (h : Own B w (.slice A n c) 1 n (ints l)) (h' : Own B' w (.slice A' n c') 1 n (ints l)) (hn : n ≤ 4611686018427387904) :
    Calls Tryd.prog 45 #[.slice A n c, .slice A' n c'] w fun e w' => e = .returned (.bool true) ∧ ∃ m, w' = w.drewN m := by
  by_cases h0 : 0 < n
  · obtain ⟨g, off, rfl, -, -, hc⟩ := h.int h0
    obtain ⟨g', off', rfl, -, -, hc'⟩ := h'.int h0
    have HC := Lib.hid hc
    have HC' := Lib.hid hc'
    clear hc hc'
    go_enter Tryd.func45, Tryd.ntmps45
    go_wp2
    go_loopw [5] (fun i wr => ∃ k m : Nat, k ≤ n ∧ i = .int .i64 k ∧ wr = w.drewN m) (fun i _ => n - (intOf i).toNat)
    case atStart => exact ⟨0, 0, Nat.zero_le _, rfl, rfl⟩
    case round =>
      obtain ⟨k, m, hk, rfl, rfl⟩ := hrel
      by_cases hlt : k < n
      · obtain ⟨s, hs, hx, -⟩ := HC.out k hlt
        obtain ⟨s', hs', hx', -⟩ := HC'.out k hlt
        obtain rfl : s' = s := by rw [hs] at hs'; exact (Option.some.inj hs').symm
        clear hs hs'
        go_wp2
        go_quiet (fail)
        all_goals go_wp2
        go_roundw
        case rel => exact ⟨k + 1, _, by omega, by go_num, rfl⟩
        case measure => simp [intOf]; omega
      · go_wp2
        go_ret
        exact ⟨rfl, m, rfl⟩
  · obtain rfl : n = 0 := by omega
    go_enter Tryd.func45, Tryd.ntmps45
    go_wp2
    refine wp_loop_rounds 1 ?_
    rw [rounds_succ]
    go_wp2
    go_ret
    exact ⟨rfl, 0, rfl⟩

theorem imarks_step (k : Int) (i : Nat) (l : List Int) (hi : i < l.length) : (ints (imarks k i ++ l.drop i)).set i (.int .i64 (k + i)) = ints (imarks k (i + 1) ++ l.drop (i + 1)) := by
  have h1 : l.drop i = l[i] :: l.drop (i + 1) := by rw [List.drop_eq_getElem_cons hi]
  rw [h1]
  have hm : imarks k (i + 1) = imarks k i ++ [k + i] := by simp [imarks, List.range_succ]
  rw [hm]
  simp only [ints, List.map_append, List.map_cons]
  rw [List.set_append_right _ _ (by simp [imarks_length])]
  simp [imarks_length]

set_option maxHeartbeats 400000 in
theorem markIntS_any (A : Option Addr) (n c B : Nat) (k : Int) (l : List Int) (w : World) (h : Own B w (.slice A n c) 1 n (ints l)) (h0 : 0 ≤ k) (hk : k + n ≤ 4611686018427387904) :
    Calls Tryd.prog 46 #[.slice A n c, .int .i64 k] w fun e w' => e = .returned (.int .i64 (k + n)) ∧ Own B w' (.slice A n c) 1 n (ints (imarks k n)) ∧ Below B w w' := by
  have hl : l.length = n := by have := h.1; simpa [ints] using this
  have hmax : n ≤ c ∧ c ≤ maxLen := by
    obtain ⟨_, A', c', hv, hc, hm, _⟩ := h
    injection hv with _ _ e; subst e; exact ⟨hc, hm⟩
  by_cases hn : 0 < n
  · obtain ⟨g, off, rfl, hg, -, -⟩ := h.int hn
    have Hl := Lib.hid hl
    clear hl
    go_enter Tryd.func46, Tryd.ntmps46
    go_wp2
    go_loopw [1, 5] (fun q i wr => ∃ j : Nat, j ≤ n ∧ q = .int .i64 (k + j) ∧ i = .int .i64 j ∧ Hid (Own B wr (.slice (some ⟨g, off, none⟩) n c) 1 n (ints (imarks k j ++ l.drop j))) ∧ Below B w wr) (fun _ i _ => n - (intOf i).toNat)
    case atStart => exact ⟨0, Nat.zero_le _, by simp, rfl, by simpa [imarks, Hid] using h, Below.refl _ _⟩
    case round =>
      obtain ⟨j, hj, rfl, rfl, ho, hb⟩ := hrel
      have hbs := hb.size
      by_cases hlt : j < n
      · have ho1 := ho.out
        obtain ⟨g', off', e, -, hlt1, hcell⟩ := Own.int (l := imarks k j ++ l.drop j) ho1 hn
        obtain ⟨rfl, rfl⟩ : g = g' ∧ off = off' := by injection e with e; injection e with e1 e2; exact ⟨e1, e2⟩
        clear e
        obtain ⟨s, -, hx, hf⟩ := hcell j hlt
        have ho2 := Own.set ho1 (j := j) (by rw [ints_length]; simp [imarks_length, Hl.out]; omega) (.int .i64 (k + j))
        rw [imarks_step k j l (by rw [Hl.out]; exact hlt)] at ho2
        have HO2 := Lib.hid ho2
        clear ho2 ho1 hcell
        go_wp2
        go_roundw
        case rel => exact ⟨j + 1, by omega, by go_num, by go_num, HO2, hb.setCell hg _⟩
        case measure => simp [intOf]; omega
      · obtain rfl : j = n := by omega
        have ho1 := ho.out
        rw [List.drop_of_length_le (by rw [Hl.out]; exact Nat.le_refl _), List.append_nil] at ho1
        go_wp2_with fail
        go_ret
        exact ⟨rfl, ho1, hb⟩
  · obtain rfl : n = 0 := by omega
    go_enter Tryd.func46, Tryd.ntmps46
    go_wp2
    refine wp_loop_rounds 1 ?_
    rw [rounds_succ]
    go_wp2
    go_ret
    obtain rfl : l = [] := List.eq_nil_of_length_eq_zero hl
    exact ⟨by simp, h, Below.refl _ _⟩

end Go.Proofs.YtlehdmflnglipaaDoor
