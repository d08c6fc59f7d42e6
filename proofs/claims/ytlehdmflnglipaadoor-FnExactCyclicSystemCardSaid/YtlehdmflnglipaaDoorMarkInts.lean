/- The laws' helpers over []int, with what they leave. -/
import Derived.Test.YtlehdmflnglipaaDoorInts
import Derived.Test.YtlehdmflnglipaaDoorMarkRules
namespace Go.Proofs.YtlehdmflnglipaaDoor
open Go.RowKit

theorem eqIntB (A A' : Option Addr) (n c c' B B' : Nat) (l : List Int) (w : World) (h : Own B w (.slice A n c) 1 n (ints l)) (h' : Own B' w (.slice A' n c') 1 n (ints l)) (hn : n ≤ 4611686018427387904) :
    Calls Tryd.prog 45 #[.slice A n c, .slice A' n c'] w fun e w' => e = .returned (.bool true) ∧ Below w.heap.size w w' :=
  (eqIntS_yes A A' n c c' B B' l w h h' hn).mono (by rintro e w' ⟨rfl, m, rfl⟩; exact ⟨rfl, below_drewN (Below.refl _ w) m⟩)
set_option maxHeartbeats 400000 in
theorem markIntK (A : Option Addr) (n c B : Nat) (k : Int) (l : List Int) (w : World) (h : Own B w (.slice A n c) 1 n (ints l)) (h0 : 0 ≤ k) (hk : k + n ≤ 4611686018427387904) :
    Calls Tryd.prog 46 #[.slice A n c, .int .i64 k] w fun e w' => e = .returned (.int .i64 (k + n)) ∧ Own B w' (.slice A n c) 1 n (ints (imarks k n)) ∧ Below B w w' ∧ KeptA A n w w' := by
  have hl : l.length = n := by have := h.1; simpa [ints] using this
  have hmax : n ≤ c ∧ c ≤ maxLen := by
    obtain ⟨_, A', c', hv, hc, hm, _⟩ := h
    injection hv with _ _ e; subst e; exact ⟨hc, hm⟩
  by_cases hn : 0 < n
  · obtain ⟨g, off, rfl, hg, -, -⟩ := h.int hn
    have Hl := Lib.hid hl
    clear hl
    go_enter Tryd.func46, Tryd.ntmps46
    go_wp2
    go_loopw [1, 5] (fun q i wr => ∃ j : Nat, j ≤ n ∧ q = .int .i64 (k + j) ∧ i = .int .i64 j ∧ Hid (Own B wr (.slice (some ⟨g, off, none⟩) n c) 1 n (ints (imarks k j ++ l.drop j))) ∧ Below B w wr ∧ Hid (w.heap.size ≤ wr.heap.size ∧ KeptA (some ⟨g, off, none⟩) n w wr)) (fun _ i _ => n - (intOf i).toNat)
    case atStart => exact ⟨0, Nat.zero_le _, by simp, rfl, by simpa [imarks, Hid] using h, Below.refl _ _, Nat.le_refl _, fun d _ _ => rfl⟩
    case round =>
      obtain ⟨j, hj, rfl, rfl, ho, hb, HK⟩ := hrel
      have hbs := hb.size
      by_cases hlt : j < n
      · have ho1 := ho.out
        obtain ⟨g', off', e, -, hlt1, hcell⟩ := Own.int (l := imarks k j ++ l.drop j) ho1 hn
        obtain ⟨rfl, rfl⟩ : g = g' ∧ off = off' := by injection e with e; injection e with e1 e2; exact ⟨e1, e2⟩
        clear e
        obtain ⟨s, -, hx, hf⟩ := hcell j hlt
        have ho2 := Own.set ho1 (j := j) (by rw [ints_length]; simp [imarks_length, Hl.out]; omega) (.int .i64 (k + j))
        rw [imarks_step k j l (by rw [Hl.out]; exact hlt)] at ho2
        have HO2 := Lib.hid ho2
        have K4 := Lib.hid (HK.out.2.setCell hn (off + j) (.int .i64 (k + j)))
        have hs := HK.out.1
        clear ho2 ho1 hcell HK
        go_wp2
        go_roundw
        case rel => exact ⟨j + 1, by omega, by go_num, by go_num, HO2, hb.setCell hg _, by simpa [World.size_setCell] using hs, K4.out⟩
        case measure => simp [intOf]; omega
      · obtain rfl : j = n := by omega
        have ho1 := ho.out
        rw [List.drop_of_length_le (by rw [Hl.out]; exact Nat.le_refl _), List.append_nil] at ho1
        go_wp2_with fail
        go_ret
        exact ⟨rfl, ho1, hb, HK.out.2⟩
  · obtain rfl : n = 0 := by omega
    go_enter Tryd.func46, Tryd.ntmps46
    go_wp2
    refine wp_loop_rounds 1 ?_
    rw [rounds_succ]
    go_wp2
    go_ret
    obtain rfl : l = [] := List.eq_nil_of_length_eq_zero hl
    exact ⟨by simp, h, Below.refl _ _, fun d _ _ => rfl⟩

end Go.Proofs.YtlehdmflnglipaaDoor
