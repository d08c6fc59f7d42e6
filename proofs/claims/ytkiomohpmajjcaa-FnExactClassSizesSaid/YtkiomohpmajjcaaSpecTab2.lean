/- The model's functions of tables. -/
import Derived.Test.YtkiomohpmajjcaaTabFns
import Derived.Deep.RegionHeld3
namespace Go.Proofs.Ytkiomohpmajjcaa
open Go.RowKit

set_option maxRecDepth 100000 in
set_option maxHeartbeats 800000 in
theorem l08Ok_any (q : Int) (A : Option Addr) (n c B : Nat) (xs : List Int) (i : Int) (w : World) (h : Own B w (.slice A n c) 1 n (ints xs)) (hn : n ≤ 1048576) :
    Calls Try.prog 63 #[tabV q A n c, .int .i64 i] w fun e w' => e = .returned (.bool (elemOk q xs i)) ∧ Below w.heap.size w w' := by
  have HO := Lib.hid (h.below (bel1 w (.cells #[.int .i64 q, .slice A n c] 28)))
  clear h
  go_enter Try.func63, Try.ntmps63
  go_wp2_with fail
  refine (specTableOk q A n c B xs _ HO.out hn).mono ?_
  rintro e w1 ⟨rfl, hb1⟩
  have b1 := (bel1 w _).trans (hb1.mono (by simp))
  have X1 := Lib.hid ((Blk.new1 w _ _).below hb1 (by simp))
  obtain ⟨q0, q1, -, -, ql⟩ := X1.out.two
  clear hb1
  cases hT : tableOk q xs
  · have He := Lib.hid (elemOk_tab i hT)
    clear hT
    go_wp2_with fail
    go_ret
    exact ⟨ret_bool He.out.symm, b1⟩
  · obtain ⟨N, rfl, hTab⟩ := tableOk_iff hT
    have h1 := hTab.lo
    have h40 := hTab.hi
    have He := Lib.hid (show (decide (0 ≤ i) && decide (i ≤ (N : Int) - 1)) = elemOk N xs i by unfold elemOk; rw [hT, Bool.true_and])
    clear hTab hT
    go_wp2_with fail
    refine (l01In_any _ _ _ _).mono ?_
    rw [He.out]
    rintro e w2 ⟨rfl, rfl⟩
    go_wp2_with fail
    go_ret
    exact ⟨rfl, b1⟩
set_option maxRecDepth 100000 in
set_option maxHeartbeats 800000 in
theorem l08Times_any (N i k : Nat) (A : Option Addr) (n c B : Nat) (xs : List Int) (w : World) (h : Own B w (.slice A n c) 1 n (ints xs)) (hT : TabOk N xs) (hi : i < N) (hk : k < N) :
    Calls Try.prog 50 #[tabV N A n c, .int .i64 i, .int .i64 k] w fun e w' => e = .returned (.int .i64 (tmul N xs i k : Nat)) ∧ Below w.heap.size w w' := by
  have hlen := h.ilen
  have hln := hT.len
  have h40 := hT.hi
  have hik := row_lt hi hk
  have hiN := row_le hi h40
  have hn0 : 0 < n := by omega
  have hikn : i * N + k < n := by omega
  obtain ⟨g, off, c0, hv⟩ := h.formR hn0
  obtain ⟨rfl, rfl⟩ : A = some ⟨g, off, none⟩ ∧ c = c0 := by injection hv with a _ b; exact ⟨a, b⟩
  have x := (h.below (bel1 w (.cells #[.int .i64 N, .slice (some ⟨g, off, none⟩) n c] 28))).tat hikn
  rw [hT.cast hi hk] at x
  clear h hv hik hlen hln hT
  go_enter Try.func50, Try.ntmps50
  go_wp2_with fail
  go_ret
  exact ⟨rfl, bel1 _ _⟩
def InvPost (n : Nat) (xs : List Int) (i : Nat) (e : Ending) : Prop := (unitB n xs i = true ∧ ∃ k : Nat, k ≤ 40 ∧ (k < n ∧ tmul n xs i k = 0 ∧ tmul n xs k i = 0) ∧ e = .returned (.int .i64 k)) ∨ (unitB n xs i = false ∧ e = .returned (.int .i64 (-1)))
set_option maxRecDepth 100000 in
set_option maxHeartbeats 1600000 in
theorem l08Inverse_any (N i : Nat) (A : Option Addr) (n c B : Nat) (xs : List Int) (w : World) (h : Own B w (.slice A n c) 1 n (ints xs)) (hT : TabOk N xs) (hi : i < N) :
    Calls Try.prog 41 #[tabV N A n c, .int .i64 i] w fun e w' => InvPost N xs i e ∧ Below w.heap.size w w' := by
  have HO := Lib.hid (h.below (bel1 w (.cells #[.int .i64 N, .slice A n c] 28)))
  have HT := Lib.hid hT
  have h40 := hT.hi
  clear h hT
  go_enter Try.func41, Try.ntmps41
  go_wp2_with fail
  have b1 := bel1 w (.cells #[.int .i64 N, .slice A n c] 28)
  have X1 := Lib.hid (Blk.new1 w #[.int .i64 N, .slice A n c] 28)
  generalize w.alloc (.cells #[.int .i64 N, .slice A n c] 28) = w1 at *
  go_loopw [5] (fun i' wr => ∃ k : Nat, i' = .int .i64 k ∧ k ≤ N ∧ Hid (∀ a, a < k → ¬ (tmul N xs i a = 0 ∧ tmul N xs a i = 0)) ∧ Below w1.heap.size w1 wr) (fun i' _ => N - (intOf i').toNat)
  case atStart => exact ⟨0, rfl, Nat.zero_le _, fun a ha => absurd ha (by omega), Below.refl _ _⟩
  case round =>
    obtain ⟨k, rfl, hk, HI, hb⟩ := hrel
    obtain ⟨q0, q1, -, -, ql⟩ := (X1.out.below hb X1.out.lt).two
    have hbs := hb.size
    by_cases hlt : k < N
    · go_wp2_with fail
      refine (l08Times_any N i k A n c B xs _ (HO.out.below hb) HT.out hi hlt).mono ?_
      obtain ⟨U, hU⟩ : ∃ U : Int, ((tmul N xs i k : Nat) : Int) = U := ⟨_, rfl⟩
      rw [hU]
      rintro e w2 ⟨rfl, hb2⟩
      have hb3 := hb.trans (hb2.mono hbs)
      have hbs3 := hb3.size
      clear hb2
      by_cases hU0 : U = 0
      · have HU0 := Lib.hid (show tmul N xs i k = 0 by omega)
        subst hU0
        clear hU q0 q1
        obtain ⟨q0, q1, -, -, -⟩ := (X1.out.below hb3 X1.out.lt).two
        go_wp2_with fail
        refine (l08Times_any N k i A n c B xs _ (HO.out.below hb3) HT.out hlt hi).mono ?_
        obtain ⟨V, hV⟩ : ∃ V : Int, ((tmul N xs k i : Nat) : Int) = V := ⟨_, rfl⟩
        rw [hV]
        rintro e w4 ⟨rfl, hb4⟩
        have hb5 := hb3.trans (hb4.mono hbs3)
        clear hb4
        by_cases hV0 : V = 0
        · have He := Lib.hid (cdec_yes (P := ∃ k, k < N ∧ tmul N xs i k = 0 ∧ tmul N xs k i = 0) ⟨k, hlt, HU0.out, by omega⟩)
          have HV0 := Lib.hid (show tmul N xs k i = 0 by omega)
          subst hV0
          clear hV
          go_wp2_with fail
          go_ret
          exact ⟨.inl ⟨He.out, k, by omega, ⟨hlt, HU0.out, HV0.out⟩, rfl⟩, b1.trans (hb5.mono b1.size)⟩
        · have HI1 : Hid (∀ a, a < k + 1 → ¬ (tmul N xs i a = 0 ∧ tmul N xs a i = 0)) := fun a ha => by
            by_cases e : a = k
            · subst e; omega
            · exact HI.out a (by omega)
          have e1 : (V == 0) = false := by simpa using hV0
          clear hV hV0
          go_wp2_with fail
          go_roundw
          case rel => exact ⟨k + 1, by go_num, by omega, HI1, hb5⟩
          case measure => simp [intOf]; omega
      · have HI1 : Hid (∀ a, a < k + 1 → ¬ (tmul N xs i a = 0 ∧ tmul N xs a i = 0)) := fun a ha => by
          by_cases e : a = k
          · subst e; omega
          · exact HI.out a (by omega)
        have e1 : (U == 0) = false := by simpa using hU0
        clear hU hU0
        go_wp2_with fail
        go_roundw
        case rel => exact ⟨k + 1, by go_num, by omega, HI1, hb3⟩
        case measure => simp [intOf]; omega
    · obtain rfl : N = k := by omega
      have He := Lib.hid (cdec_no (P := ∃ k, k < N ∧ tmul N xs i k = 0 ∧ tmul N xs k i = 0) (fun ⟨a, ha, h⟩ => HI.out a ha h))
      go_wp2_with fail
      go_ret
      exact ⟨.inr ⟨He.out, rfl⟩, b1.trans (hb.mono b1.size)⟩
set_option maxRecDepth 100000 in
set_option maxHeartbeats 1600000 in
theorem specUnitsOf (q : Int) (A : Option Addr) (n c B : Nat) (xs : List Int) (w : World) (h : Own B w (.slice A n c) 1 n (ints xs)) (hn : n ≤ 1048576) :
    Calls Try.prog 59 #[tabV q A n c] w fun e w' => ∃ v, e = .returned v ∧ Own w.heap.size w' v 1 (pickOf q xs unitB).length (ints (pickOf q xs unitB)) ∧ Below w.heap.size w w' := by
  obtain ⟨i0, hi, hz0, hz1, hz2⟩ := infoR_parts infoInt
  have HO := Lib.hid (h.below (bel1 w (.cells #[.int .i64 q, .slice A n c] 28)))
  clear h
  go_enter Try.func59, Try.ntmps59
  go_wp2_with fail
  refine (specTableOk q A n c B xs _ HO.out hn).mono ?_
  rintro e w1 ⟨rfl, hb1⟩
  have b1 := (bel1 w _).trans (hb1.mono (by simp))
  have X1 := Lib.hid ((Blk.new1 w _ _).below hb1 (by simp))
  have O1 := Lib.hid (HO.out.below hb1)
  obtain ⟨q0, q1, -, -, ql⟩ := X1.out.two
  clear hb1 HO
  cases hT : tableOk q xs
  · have He := Lib.hid (pickOf_no unitB hT)
    clear hT
    go_wp2_with fail
    go_ret
    exact ⟨_, rfl, by rw [He.out]; exact Own.none_, b1⟩
  · obtain ⟨N, rfl, hTab⟩ := tableOk_iff hT
    have h1 := hTab.lo
    have h40 := hTab.hi
    have HT := Lib.hid hTab
    have He := Lib.hid (pickOf_yes unitB hTab)
    clear hT hTab
    go_wp2_with fail
    have HR0 := Lib.hid (row_empty w1 3)
    have hbn := bel1 w1 (.cells #[] 3)
    clear q0 q1
    generalize w1.alloc (.cells #[] 3) = wn at *
    go_loopw [3, 4] (fun v i' wr => ∃ i : Nat, i' = .int .i64 i ∧ i ≤ N ∧ Hid (wr.ownsRow w1.heap.size 3 1 v (pick (unitB N xs) i).length (ints (pick (unitB N xs) i))) ∧ Below w1.heap.size w1 wr) (fun _ i' _ => N - (intOf i').toNat)
    case atStart => exact ⟨0, rfl, Nat.zero_le _, HR0, hbn⟩
    case round =>
      obtain ⟨i, rfl, hiN, HR, hb⟩ := hrel
      obtain ⟨q0, q1, -, -, -⟩ := (X1.out.below hb X1.out.lt).two
      have hbs := hb.size
      by_cases hlt : i < N
      · go_wp2_with fail
        refine (l08Inverse_any N i A n c B xs _ (O1.out.below hb) HT.out hlt).mono ?_
        rintro e w2 ⟨hp0, hb2⟩
        rcases hp0 with ⟨hp, k, hk, -, rfl⟩ | ⟨hp, rfl⟩
        · have hkk : 0 ≤ (k : Int) := by omega
          have Hs := Lib.hid (pick_yes hp)
          have HX2 := Lib.hid (row_below HR.out hb2)
          have hb3 := hb.trans (hb2.mono hbs)
          have hbs3 := hb3.size
          have hpl := pick_len (unitB N xs) i
          clear hp hb2 HR hb
          generalize hPP : pick (unitB N xs) i = PP at *
          have HPP := Lib.hid hPP
          clear hPP
          go_wp2_with (at_builtin; refine wpList_append_own _ rfl _ _ 22 rfl w1.heap.size 3 i0 (.int .i64 0) 1 8 Try.underlying22 hi hz0 hz1 hz2 rfl (by decide) _ _ _ rfl (HX2.out.alloc _) ⟨w2.heap.size, 0, none⟩ 1 1 [.int .i64 (i : Int)] rfl rfl ?c1 ?c2 ?c3 ?c4 ?c5 ?_)
          case c1 => intro j u hj; match j, hj with | 0, hj => (simp at hj; subst hj; simp [Addr.add])
          case c2 => intro u hu; simp at hu; subst hu; rfl
          case c3 => unfold maxLen; omega
          case c4 => omega
          case c5 => simp; omega
          intro v' w6 hown' hgrow _
          have HX6 : Hid (w6.ownsRow w1.heap.size 3 1 v' (pick (unitB N xs) (i + 1)).length (ints (pick (unitB N xs) (i + 1)))) := by
            show World.ownsRow _ _ _ _ _ _ _
            rw [Hs.out]; simpa [ints] using hown'
          have hbw6 : Below w1.heap.size w1 w6 := grown_one HX2.out hgrow hb3 (Nat.le_refl _) hbs3
          clear hown' hgrow HX2
          go_wp2_with fail
          go_roundw
          case rel => exact ⟨i + 1, by go_num, by omega, HX6, hbw6⟩
          case measure => simp [intOf]; omega
        · skip
          have HX6 : Hid (w2.ownsRow w1.heap.size 3 1 u3 (pick (unitB N xs) (i + 1)).length (ints (pick (unitB N xs) (i + 1)))) := by
            show World.ownsRow _ _ _ _ _ _ _
            rw [pick_no hp]; exact row_below HR.out hb2
          have hb3 := hb.trans (hb2.mono hbs)
          clear hp hb2
          go_wp2_with fail
          go_roundw
          case rel => exact ⟨i + 1, by go_num, by omega, HX6, hb3⟩
          case measure => simp [intOf]; omega
      · obtain rfl : N = i := by omega
        obtain ⟨A9, c9, rfl⟩ := (Own.of_row HR.out).form
        have hw1 := b1.size
        go_wp2_with fail
        go_ret
        exact ⟨_, rfl, by rw [He.out]; exact (Own.of_row HR.out).mono hw1, b1.trans (hb.mono hw1)⟩
end Go.Proofs.Ytkiomohpmajjcaa
