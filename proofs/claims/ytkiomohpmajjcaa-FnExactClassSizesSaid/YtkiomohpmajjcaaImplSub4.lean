/- The program's SubgroupOf. -/
import Derived.Test.YtkiomohpmajjcaaImplSub3
namespace Go.Proofs.Ytkiomohpmajjcaa
open Go.RowKit

set_option maxRecDepth 100000 in
set_option maxHeartbeats 800000 in
theorem elementsWith_has (g N B : Nat) (xs : List Int) (P : List Nat) (v : Value) (w : World) (h : MonAt w g N xs) (hT : TabOk N xs) (hS : SubV N xs P B w v) :
    Calls Try.prog 48 #[.pointer (some ⟨g, 0, none⟩), .func (.method "loop.example/g03201/impl.has") #[v] #[]] w fun e w' => ∃ v', e = .returned v' ∧ Own w.heap.size w' v' 1 (pick (genB N xs P) N).length (ints (pick (genB N xs P) N)) ∧ Below w.heap.size w w' := by
  obtain ⟨i0, hi0, hz0, hz1, hz2⟩ := infoR_parts infoInt
  have x := h.size
  have h40 := hT.hi
  have HM := Lib.hid h
  have HT := Lib.hid hT
  obtain ⟨t, r, f, rfl, hm1, hm2, hcl⟩ := hS.callee
  have HC := Lib.hid hcl
  clear h hT hS hcl
  go_enter Try.func48, Try.ntmps48
  go_wp2_with fail
  clear x
  go_loopw [5, 11] (fun v i' wr => ∃ i : Nat, i' = .int .i64 i ∧ i ≤ N ∧ Hid (wr.ownsRow w.heap.size 3 1 v (pick (genB N xs P) i).length (ints (pick (genB N xs P) i))) ∧ Below w.heap.size w wr) (fun _ i' _ => N - (intOf i').toNat)
  case atStart => exact ⟨0, rfl, Nat.zero_le _, World.ownsRow_nil _ _ _ _, Below.refl _ _⟩
  case round =>
    obtain ⟨i, rfl, hi, HR, hb⟩ := hrel
    have hbs := hb.size
    by_cases hlt : i < N
    · go_wp2_with fail
      refine (HC.out wr i hb).mono ?_
      cases hp : genB N xs P i
      · rintro e w2 ⟨rfl, hb2⟩
        have HX6 : Hid (w2.ownsRow w.heap.size 3 1 u5 (pick (genB N xs P) (i + 1)).length (ints (pick (genB N xs P) (i + 1)))) := by
          show World.ownsRow _ _ _ _ _ _ _
          rw [pick_no hp]; exact row_below HR.out hb2
        have hb3 := hb.trans (hb2.mono hbs)
        clear hp hb2
        go_wp2_with fail
        go_roundw
        case rel => exact ⟨i + 1, by go_num, by omega, HX6, hb3⟩
        case measure => simp [intOf]; omega
      · rintro e w2 ⟨rfl, hb2⟩
        have Hs := Lib.hid (pick_yes (p := genB N xs P) hp)
        have HX2 := Lib.hid (row_below HR.out hb2)
        have hb3 := hb.trans (hb2.mono hbs)
        have hbs3 := hb3.size
        have hpl := pick_len (genB N xs P) i
        clear hp HR hb hb2
        generalize hPP : pick (genB N xs P) i = PP at *
        have HPP := Lib.hid hPP
        clear hPP
        go_wp2_with (at_builtin; refine wpList_append_own _ rfl _ _ 22 rfl w.heap.size 3 i0 (.int .i64 0) 1 8 Try.underlying22 hi0 hz0 hz1 hz2 rfl (by decide) _ _ _ rfl (HX2.out.alloc _) ⟨w2.heap.size, 0, none⟩ 1 1 [.int .i64 (i : Int)] rfl rfl ?c1 ?c2 ?c3 ?c4 ?c5 ?_)
        case c1 => intro j u hj; match j, hj with | 0, hj => (simp at hj; subst hj; simp [Addr.add])
        case c2 => intro u hu; simp at hu; subst hu; rfl
        case c3 => unfold maxLen; omega
        case c4 => omega
        case c5 => simp; omega
        intro v' w6 hown' hgrow _
        have HX6 : Hid (w6.ownsRow w.heap.size 3 1 v' (pick (genB N xs P) (i + 1)).length (ints (pick (genB N xs P) (i + 1)))) := by
          show World.ownsRow _ _ _ _ _ _ _
          rw [Hs.out]; simpa [ints] using hown'
        have hbw6 : Below w.heap.size w w6 := grown_one HX2.out hgrow hb3 (Nat.le_refl _) hbs3
        clear hown' hgrow HX2
        go_wp2_with fail
        go_roundw
        case rel => exact ⟨i + 1, by go_num, by omega, HX6, hbw6⟩
        case measure => simp [intOf]; omega
    · obtain rfl : N = i := by omega
      obtain ⟨A9, c9, rfl⟩ := (Own.of_row HR.out).form
      go_wp2_with fail
      go_ret
      exact ⟨_, rfl, Own.of_row HR.out, hb⟩
theorem held1_keep {W W1 : World} {g : Nat} {a : Value} {B : Nat} {w : World} (h : W.cell? ⟨g, 0, none⟩ = some a ∧ Below B w W) (hb : Below W.heap.size W W1) (hB : B ≤ w.heap.size) (hg : g < w.heap.size) :
    W1.cell? ⟨g, 0, none⟩ = some a ∧ Below B w W1 := by
  obtain ⟨h1, h5⟩ := h
  have hs := h5.size
  exact ⟨(hb.cell (by show g < _; omega)).trans h1, h5.trans (hb.mono (by omega))⟩
set_option maxRecDepth 100000 in
set_option maxHeartbeats 1600000 in
theorem implSubgroupOf (q : Int) (A E : Option Addr) (n c m d B D : Nat) (xs es : List Int) (w : World) (h : Own B w (.slice A n c) 1 n (ints xs)) (hE : Own D w (.slice E m d) 1 m (ints es)) (_hn : n ≤ 1048576) (hm : m ≤ 1048576) :
    Calls Try.prog 21 #[tabV q A n c, .slice E m d] w fun e w' => ∃ v, e = .returned v ∧ Own w.heap.size w' v 1 (subOf q xs es).length (ints (subOf q xs es)) ∧ Below w.heap.size w w' := by
  have HO := Lib.hid (h.below (bel1 w (.cells #[.int .i64 q, .slice A n c] 28)))
  have HE := Lib.hid (hE.below (bel1 w (.cells #[.int .i64 q, .slice A n c] 28)))
  clear h hE
  go_enter Try.func21, Try.ntmps21
  go_wp2_with fail
  refine (groupWith_any q A E n c m d B D xs es _ HO.out HE.out).mono ?_
  rintro e w1 ⟨hmm, hb1⟩
  have b1 := (bel1 w _).trans (hb1.mono (by simp))
  have HE1 := Lib.hid (fun (w' : World) (hb : Below w1.heap.size w1 w') => (HE.out.below hb1).below hb)
  clear hb1 HO HE
  rcases hmm with ⟨N, h, g, rfl, hG, ha, rfl, hM⟩ | ⟨ha, rfl⟩
  · obtain ⟨G, rfl, hg⟩ := elems_of ha
    have He := Lib.hid (subOf_yes (gOk_yes hG ha))
    have HG := Lib.hid hG
    have Hg := Lib.hid hg
    have h40 := hG.tab.hi
    have HM := Lib.hid (fun (w' : World) (hb : Below w1.heap.size w1 w') => hM.below hb)
    have x1 := hM.ptr
    have hlt := hM.lt
    have hpl := pick_len (genB N xs G) N
    have hbs := b1.size
    clear hG ha hM hg
    go_wp2_with fail
    go_region_held3 (fun w' => w'.cell? ⟨h, 0, none⟩ = some (.pointer (some ⟨g, 0, none⟩)) ∧ Below w1.heap.size w1 w')
      (first | exact ⟨x1, (Below.refl _ w1).drew⟩ | exact held1_keep (by assumption) hb8 (Nat.le_refl _) hlt | exact held1_keep (by assumption) hb9 (Nat.le_refl _) hlt | assumption)
      ((first | (go_at_call 49; refine (subgroupWith_any h g N E m d D xs G _ (HM.out _ (And.right (by assumption))) HG.out (HE1.out _ (And.right (by assumption))) Hg.out hm).mono ?_; rintro e w8 ⟨⟨v8, rfl, hS8⟩, hb8⟩; obtain ⟨t8, r8, f8, rfl, -⟩ := hS8.callee) | (go_at_call 48; refine (elementsWith_has g N _ xs G _ _ (HM.out _ (And.right (by assumption))).mon HG.out.tab hS8).mono ?_; rintro e w9 ⟨v9, rfl, o9, hb9⟩; obtain ⟨A9, c9, rfl⟩ := o9.form)))
    have hS := (‹_ ∧ Below w1.heap.size w1 w9›).2
    have hb8' : w.heap.size ≤ w8.heap.size := by have h8 : w1.heap.size ≤ w8.heap.size := hb8.size; omega
    have O9 := Lib.hid (o9.mono hb8')
    have b9 := b1.trans (hS.mono hbs)
    clear hb8 hb9 hS o9 hS8
    go_wp2_with fail
    go_ret
    exact ⟨_, rfl, by rw [He.out]; exact O9.out, b9⟩
  · have He := Lib.hid (subOf_no (gOk_no ha))
    clear ha
    go_wp2_with fail
    go_ret
    exact ⟨_, rfl, by rw [He.out]; exact Own.none_, b1⟩
end Go.Proofs.Ytkiomohpmajjcaa
