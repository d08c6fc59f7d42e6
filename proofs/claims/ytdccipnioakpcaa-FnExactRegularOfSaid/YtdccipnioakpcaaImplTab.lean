/- The program's functions of tables. -/
import Derived.Test.YtdccipnioakpcaaTabFns
import Derived.Deep.RegionHeld3
namespace Go.Proofs.Ytdccipnioakpcaa
open Go.RowKit

theorem allOk_two (q : Int) (xs : List Int) (i k : Int) : allOk q xs [i, k] = (elemOk q xs i && elemOk q xs k) := by
  unfold allOk elemOk
  cases tableOk q xs <;> simp
theorem allOk_one (q : Int) (xs : List Int) (i : Int) : allOk q xs [i] = elemOk q xs i := by
  unfold allOk elemOk
  cases tableOk q xs <;> simp
theorem lit_two (w : World) (o : Obj) (i k : Int) (e : TypeId) : Own (w.heap.size + 1) ((w.alloc o).alloc (.cells #[.int .i64 i, .int .i64 k] e)) (.slice (some ⟨w.heap.size + 1, 0, none⟩) 2 2) 1 2 (ints [i, k]) := by
  have h := Own.new (w.alloc o) #[.int .i64 i, .int .i64 k] 2 e rfl (by unfold maxLen; omega)
  rw [World.size_alloc] at h
  exact h
theorem lit_one (w : World) (o : Obj) (i : Int) (e : TypeId) : Own (w.heap.size + 1) ((w.alloc o).alloc (.cells #[.int .i64 i] e)) (.slice (some ⟨w.heap.size + 1, 0, none⟩) 1 1) 1 1 (ints [i]) := by
  have h := Own.new (w.alloc o) #[.int .i64 i] 1 e rfl (by unfold maxLen; omega)
  rw [World.size_alloc] at h
  exact h
theorem isIdem_any (g N i : Nat) (xs : List Int) (w : World) (h : MonAt w g N xs) (h40 : N ≤ 40) (hr : Rng N xs) (hi : i < N) :
    Calls Try.prog 53 #[.pointer (some ⟨g, 0, none⟩), .int .i64 i] w fun e w' => e = .returned (.bool (idemB N xs i)) ∧ ∃ m, w' = w.drewN m :=
  (isIdempotent_any g N i xs w h h40 hr hi).mono fun e w' ⟨he, hw⟩ => ⟨he, 0, by rw [← hw]; rfl⟩
set_option maxRecDepth 100000 in
set_option maxHeartbeats 800000 in
theorem elementsWith_isIdem (g N : Nat) (xs : List Int) (w : World) (h : MonAt w g N xs) (h40 : N ≤ 40) (hT : TabOk N xs) :
    Calls Try.prog 50 #[.pointer (some ⟨g, 0, none⟩), .func (.func 53) #[.pointer (some ⟨g, 0, none⟩)] #[]] w fun e w' => ∃ v, e = .returned v ∧ Own w.heap.size w' v 1 (pick (idemB N xs) N).length (ints (pick (idemB N xs) N)) ∧ Below w.heap.size w w' := by
  obtain ⟨i0, hi0, hz0, hz1, hz2⟩ := infoR_parts infoInt
  have x := h.size
  have HM := Lib.hid h
  have HT := Lib.hid hT
  clear h hT
  go_enter Try.func50, Try.ntmps50
  go_wp2_with fail
  clear x
  go_loopw [5, 11] (fun v i' wr => ∃ i : Nat, i' = .int .i64 i ∧ i ≤ N ∧ Hid (wr.ownsRow w.heap.size 3 1 v (pick (idemB N xs) i).length (ints (pick (idemB N xs) i))) ∧ Below w.heap.size w wr) (fun _ i' _ => N - (intOf i').toNat)
  case atStart => exact ⟨0, rfl, Nat.zero_le _, World.ownsRow_nil _ _ _ _, Below.refl _ _⟩
  case round =>
    obtain ⟨i, rfl, hi, HR, hb⟩ := hrel
    have hbs := hb.size
    by_cases hlt : i < N
    · go_wp2_with fail
      refine (isIdem_any g N i xs _ (HM.out.below hb) h40 HT.out.rng hlt).mono ?_
      cases hp : idemB N xs i
      · rintro e w2 ⟨rfl, m, rfl⟩
        have HX6 : Hid ((wr.drewN m).ownsRow w.heap.size 3 1 u5 (pick (idemB N xs) (i + 1)).length (ints (pick (idemB N xs) (i + 1)))) := by
          show World.ownsRow _ _ _ _ _ _ _
          rw [pick_no hp]; exact HR.out
        have hb2 := below_drewN hb m
        clear hp
        go_wp2_with fail
        go_roundw
        case rel => exact ⟨i + 1, by go_num, by omega, HX6, hb2⟩
        case measure => simp [intOf]; omega
      · rintro e w2 ⟨rfl, m, rfl⟩
        have Hs := Lib.hid (pick_yes (p := idemB N xs) hp)
        have HX2 : Hid ((wr.drewN m).ownsRow w.heap.size 3 1 u5 (pick (idemB N xs) i).length (ints (pick (idemB N xs) i))) := HR
        have hb3 := below_drewN hb m
        have hbs3 := hb3.size
        have hpl := pick_len (idemB N xs) i
        clear hp HR hb
        generalize wr.drewN m = w2 at *
        generalize hPP : pick (idemB N xs) i = PP at *
        have HPP := Lib.hid hPP
        clear hPP
        go_wp2_with (at_builtin; refine wpList_append_own _ rfl _ _ 22 rfl w.heap.size 3 i0 (.int .i64 0) 1 8 Try.underlying22 hi0 hz0 hz1 hz2 rfl (by decide) _ _ _ rfl (HX2.out.alloc _) ⟨w2.heap.size, 0, none⟩ 1 1 [.int .i64 (i : Int)] rfl rfl ?c1 ?c2 ?c3 ?c4 ?c5 ?_)
        case c1 => intro j u hj; match j, hj with | 0, hj => (simp at hj; subst hj; simp [Addr.add])
        case c2 => intro u hu; simp at hu; subst hu; rfl
        case c3 => unfold maxLen; omega
        case c4 => omega
        case c5 => simp; omega
        intro v' w6 hown' hgrow _
        have HX6 : Hid (w6.ownsRow w.heap.size 3 1 v' (pick (idemB N xs) (i + 1)).length (ints (pick (idemB N xs) (i + 1)))) := by
          show World.ownsRow _ _ _ _ _ _ _
          rw [Hs.out]; simpa [ints] using hown'
        have hbw6 : Below w.heap.size w w6 := grown_one HX2.out hgrow hb3 (Nat.le_refl _) hbs3
        clear hown' hgrow HX2
        go_wp2_with fail
        go_roundw
        case rel => exact ⟨i + 1, by go_num, by omega, HX6, hbw6⟩
        case measure => simp [intOf]; omega
    · obtain rfl : N = i := by omega
      obtain ⟨A9, c9, rfl⟩ := (Own.of_row HR.out).form
      go_wp2_with fail
      go_ret
      exact ⟨_, rfl, Own.of_row HR.out, hb⟩
end Go.Proofs.Ytdccipnioakpcaa
