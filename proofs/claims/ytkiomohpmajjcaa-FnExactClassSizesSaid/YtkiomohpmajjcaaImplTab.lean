/- The program's functions of tables. -/
import Derived.Test.YtkiomohpmajjcaaTabFns
import Derived.Deep.RegionHeld3
namespace Go.Proofs.Ytkiomohpmajjcaa
open Go.RowKit

theorem allOk_two (q : Int) (xs : List Int) (i k : Int) : allOk q xs [i, k] = (elemOk q xs i && elemOk q xs k) := by
  unfold allOk elemOk
  cases tableOk q xs <;> simp
theorem allOk_one (q : Int) (xs : List Int) (i : Int) : allOk q xs [i] = elemOk q xs i := by
  unfold allOk elemOk
  cases tableOk q xs <;> simp
theorem lit_two (w : World) (o : Obj) (i k : Int) (e : TypeId) : Own (w.heap.size + 1) ((w.alloc o).alloc (.cells #[.int .i64 i, .int .i64 k] e)) (.slice (some ⟨w.heap.size + 1, 0, none⟩) 2 2) 1 2 (ints [i, k]) := by
  have h := Own.new (w.alloc o) #[.int .i64 i, .int .i64 k] 2 e rfl (by unfold maxLen; omega)
  rw [World.size_alloc] at h
  exact h
theorem lit_one (w : World) (o : Obj) (i : Int) (e : TypeId) : Own (w.heap.size + 1) ((w.alloc o).alloc (.cells #[.int .i64 i] e)) (.slice (some ⟨w.heap.size + 1, 0, none⟩) 1 1) 1 1 (ints [i]) := by
  have h := Own.new (w.alloc o) #[.int .i64 i] 1 e rfl (by unfold maxLen; omega)
  rw [World.size_alloc] at h
  exact h
set_option maxRecDepth 100000 in
set_option maxHeartbeats 800000 in
theorem isUnit_any (g N i : Nat) (xs : List Int) (w : World) (h : MonAt w g N xs) (h40 : N ≤ 40) (hr : Rng N xs) (hi : i < N) :
    Calls Try.prog 61 #[.pointer (some ⟨g, 0, none⟩), .int .i64 i] w fun e w' => e = .returned (.bool (unitB N xs i)) ∧ ∃ m, w' = w.drewN m := by
  have x := h.size
  have HM := Lib.hid (fun a b ha hb => h.num hr (i := a) (k := b) ha hb)
  clear h hr
  go_enter Try.func61, Try.ntmps61
  go_wp2_with fail
  go_loop [10] (fun k' => ∃ k : Nat, k' = .int .i64 k ∧ k ≤ N ∧ Hid (∀ a, a < k → ¬ (tmul N xs i a = 0 ∧ tmul N xs a i = 0))) (fun k' => N - (intOf k').toNat)
  case atStart => exact ⟨0, rfl, Nat.zero_le _, fun a ha => absurd ha (by omega)⟩
  case round =>
    obtain ⟨k, rfl, hk, HI⟩ := hrel
    by_cases hlt : k < N
    · have y := HM.out i k hi hlt
      have z := HM.out k i hlt hi
      obtain ⟨U, hU⟩ : ∃ U : Int, ((tmul N xs i k : Nat) : Int) = U := ⟨_, rfl⟩
      obtain ⟨V, hV⟩ : ∃ V : Int, ((tmul N xs k i : Nat) : Int) = V := ⟨_, rfl⟩
      rw [hU] at y
      rw [hV] at z
      by_cases e1 : U = 0
      · by_cases e2 : V = 0
        · have He := Lib.hid (show unitB N xs i = true from cdec_yes ⟨k, hlt, by omega, by omega⟩)
          subst e1
          subst e2
          clear hU hV
          go_wp2_with fail
          go_ret
          exact ⟨ret_bool He.out.symm, 0, rfl⟩
        · have HI1 : Hid (∀ a, a < k + 1 → ¬ (tmul N xs i a = 0 ∧ tmul N xs a i = 0)) := fun a ha => by
            by_cases e : a = k
            · subst e; omega
            · exact HI.out a (by omega)
          have e3 : (V == 0) = false := by simpa using e2
          subst e1
          clear hU hV e2
          go_wp2_with fail
          go_round
          case rel => exact ⟨k + 1, by go_num, by omega, HI1⟩
          case measure => simp [intOf]; omega
      · have HI1 : Hid (∀ a, a < k + 1 → ¬ (tmul N xs i a = 0 ∧ tmul N xs a i = 0)) := fun a ha => by
          by_cases e : a = k
          · subst e; omega
          · exact HI.out a (by omega)
        have e3 : (U == 0) = false := by simpa using e1
        clear hU hV e1
        go_wp2_with fail
        go_round
        case rel => exact ⟨k + 1, by go_num, by omega, HI1⟩
        case measure => simp [intOf]; omega
    · obtain rfl : N = k := by omega
      have He := Lib.hid (show unitB N xs i = false from cdec_no (fun ⟨a, ha, h⟩ => HI.out a ha h))
      go_wp2_with fail
      go_ret
      exact ⟨ret_bool He.out.symm, 0, rfl⟩
set_option maxRecDepth 100000 in
set_option maxHeartbeats 800000 in
theorem elementsWith_isUnit (g N : Nat) (xs : List Int) (w : World) (h : MonAt w g N xs) (h40 : N ≤ 40) (hT : TabOk N xs) :
    Calls Try.prog 48 #[.pointer (some ⟨g, 0, none⟩), .func (.func 61) #[.pointer (some ⟨g, 0, none⟩)] #[]] w fun e w' => ∃ v, e = .returned v ∧ Own w.heap.size w' v 1 (pick (unitB N xs) N).length (ints (pick (unitB N xs) N)) ∧ Below w.heap.size w w' := by
  obtain ⟨i0, hi0, hz0, hz1, hz2⟩ := infoR_parts infoInt
  have x := h.size
  have HM := Lib.hid h
  have HT := Lib.hid hT
  clear h hT
  go_enter Try.func48, Try.ntmps48
  go_wp2_with fail
  clear x
  go_loopw [5, 11] (fun v i' wr => ∃ i : Nat, i' = .int .i64 i ∧ i ≤ N ∧ Hid (wr.ownsRow w.heap.size 3 1 v (pick (unitB N xs) i).length (ints (pick (unitB N xs) i))) ∧ Below w.heap.size w wr) (fun _ i' _ => N - (intOf i').toNat)
  case atStart => exact ⟨0, rfl, Nat.zero_le _, World.ownsRow_nil _ _ _ _, Below.refl _ _⟩
  case round =>
    obtain ⟨i, rfl, hi, HR, hb⟩ := hrel
    have hbs := hb.size
    by_cases hlt : i < N
    · go_wp2_with fail
      refine (isUnit_any g N i xs _ (HM.out.below hb) h40 HT.out.rng hlt).mono ?_
      cases hp : unitB N xs i
      · rintro e w2 ⟨rfl, m, rfl⟩
        have HX6 : Hid ((wr.drewN m).ownsRow w.heap.size 3 1 u5 (pick (unitB N xs) (i + 1)).length (ints (pick (unitB N xs) (i + 1)))) := by
          show World.ownsRow _ _ _ _ _ _ _
          rw [pick_no hp]; exact HR.out
        have hb2 := below_drewN hb m
        clear hp
        go_wp2_with fail
        go_roundw
        case rel => exact ⟨i + 1, by go_num, by omega, HX6, hb2⟩
        case measure => simp [intOf]; omega
      · rintro e w2 ⟨rfl, m, rfl⟩
        have Hs := Lib.hid (pick_yes (p := unitB N xs) hp)
        have HX2 : Hid ((wr.drewN m).ownsRow w.heap.size 3 1 u5 (pick (unitB N xs) i).length (ints (pick (unitB N xs) i))) := HR
        have hb3 := below_drewN hb m
        have hbs3 := hb3.size
        have hpl := pick_len (unitB N xs) i
        clear hp HR hb
        generalize wr.drewN m = w2 at *
        generalize hPP : pick (unitB N xs) i = PP at *
        have HPP := Lib.hid hPP
        clear hPP
        go_wp2_with (at_builtin; refine wpList_append_own _ rfl _ _ 22 rfl w.heap.size 3 i0 (.int .i64 0) 1 8 Try.underlying22 hi0 hz0 hz1 hz2 rfl (by decide) _ _ _ rfl (HX2.out.alloc _) ⟨w2.heap.size, 0, none⟩ 1 1 [.int .i64 (i : Int)] rfl rfl ?c1 ?c2 ?c3 ?c4 ?c5 ?_)
        case c1 => intro j u hj; match j, hj with | 0, hj => (simp at hj; subst hj; simp [Addr.add])
        case c2 => intro u hu; simp at hu; subst hu; rfl
        case c3 => unfold maxLen; omega
        case c4 => omega
        case c5 => simp; omega
        intro v' w6 hown' hgrow _
        have HX6 : Hid (w6.ownsRow w.heap.size 3 1 v' (pick (unitB N xs) (i + 1)).length (ints (pick (unitB N xs) (i + 1)))) := by
          show World.ownsRow _ _ _ _ _ _ _
          rw [Hs.out]; simpa [ints] using hown'
        have hbw6 : Below w.heap.size w w6 := grown_one HX2.out hgrow hb3 (Nat.le_refl _) hbs3
        clear hown' hgrow HX2
        go_wp2_with fail
        go_roundw
        case rel => exact ⟨i + 1, by go_num, by omega, HX6, hbw6⟩
        case measure => simp [intOf]; omega
    · obtain rfl : N = i := by omega
      obtain ⟨A9, c9, rfl⟩ := (Own.of_row HR.out).form
      go_wp2_with fail
      go_ret
      exact ⟨_, rfl, Own.of_row HR.out, hb⟩
end Go.Proofs.Ytkiomohpmajjcaa
