/- The program's ConjugatesOf; the library's sort and Compact. -/
import Derived.Test.YtkiomohpmajjcaaSpecConj
import Derived.Test.YtkiomohpmajjcaaShelf
import Derived.Sort.OwnSortedInts
namespace Go.Proofs.Ytkiomohpmajjcaa
open Go.RowKit

theorem sortInt_any (g cap n base : Nat) (l : List Int) (w : World) (h : w.ownsRow base 3 1 (.slice (some ⟨g, 0, none⟩) n cap) n (ints l)) (hn : n ≤ 1048576) :
    Calls Try.prog 57 #[.slice (some ⟨g, 0, none⟩) n cap] w fun e w' => e = .returned (.tuple #[]) ∧ w'.ownsRow base 3 1 (.slice (some ⟨g, 0, none⟩) n cap) n (ints (sortI l)) ∧ w.grownBy w' (some g) := by
  have hl : l.length = n := by have := h.1; rw [ints_length] at this; omega
  rcases h.2 with ⟨e, _⟩ | ⟨g', cap', cur, hv, hbase, hh, h1, h2, h3, h4⟩
  · cases e
  cases hv
  subst hl
  have hlt : g < w.heap.size := by
    rcases Nat.lt_or_ge g w.heap.size with hlt | hge
    · exact hlt
    · rw [Array.getElem?_eq_none hge] at hh; cases hh
  have hH := holds_of_blockI (ss := l) hh (by rw [Nat.mul_one] at h4; exact h4)
  refine (Try.slices_Sort_int g 0 cap l w hH hlt (by omega)).mono ?_
  rintro e w' ⟨rfl, k, os, rfl⟩
  refine ⟨rfl, ?_, grownBy_sortedI _⟩
  have h5 := ownsRow_sortedI (n := k) (os := os) (ss := l) (ts := sortI l) (sortI_length l) hbase hh h1 h2 h3
  exact h5
theorem compactInt_any (g cap n base : Nat) (l : List Int) (w : World) (h : w.ownsRow base 3 1 (.slice (some ⟨g, 0, none⟩) n cap) n (ints l)) :
    Calls Try.prog 68 #[.slice (some ⟨g, 0, none⟩) n cap] w fun e w' => ∃ v, e = .returned v ∧ Own base w' v 1 (Lib.compact l).length (ints (Lib.compact l)) ∧ w.grownBy w' (some g) := by
  have hl : l.length = n := by have := h.1; rw [ints_length] at this; omega
  rcases h.2 with ⟨e, _⟩ | ⟨g', cap', cur, hv, hbase, hh, h1, h2, h3, h4⟩
  · cases e
  cases hv
  subst hl
  have hH := holds_of_blockI (ss := l) hh (by rw [Nat.mul_one] at h4; exact h4)
  refine (Try.slices_Compact_int g 0 cap l w hH (by unfold maxLen at h2; omega) h1).mono ?_
  rintro e w' ⟨rfl, k, rfl⟩
  have hle : (Lib.compact l).length ≤ l.length := by
    unfold Lib.compact Lib.compactUpTo
    rw [List.length_map]
    have := List.length_filter_le (Lib.keeps l.toArray) (List.range l.length)
    simpa using this
  have h5 := ownsRow_sortedI (n := k) (os := #[]) (ss := l) (ts := Lib.compact l ++ List.replicate (l.length - (Lib.compact l).length) 0) (by rw [List.length_append, List.length_replicate]; omega) hbase hh h1 h2 h3
  have h6 := grownBy_sortedI (w := w) (g := g) (n := k) (os := #[]) (Lib.compact l ++ List.replicate (l.length - (Lib.compact l).length) 0).toArray
  have e : ∀ W : World, Sort.grow W #[] = W := fun W => by simp [Sort.grow]
  rw [e] at h5 h6
  refine ⟨_, rfl, ?_, h6⟩
  have h7 := (Own.of_row h5).take hle
  rw [show List.take (Lib.compact l).length (List.map (Value.int .i64) (Lib.compact l ++ List.replicate (l.length - (Lib.compact l).length) 0)) = ints (Lib.compact l) by rw [List.map_append, List.take_append_of_le_length (by simp), List.take_of_length_le (by simp)]; rfl] at h7
  exact h7
theorem row_form {w : World} {base : Nat} {e : TypeId} {v : Value} {n : Nat} {xs : List Value} (h : w.ownsRow base e 1 v n xs) (hn : 0 < n) : ∃ g cap, v = .slice (some ⟨g, 0, none⟩) n cap ∧ base ≤ g ∧ g < w.heap.size := by
  have hb := (Own.of_row h)
  rcases h.2 with ⟨-, e⟩ | ⟨g, cap, cur, rfl, hg, hh, _⟩
  · subst e
    have h1 := h.1
    simp at h1; omega
  · refine ⟨g, cap, rfl, hg, ?_⟩
    rcases Nat.lt_or_ge g w.heap.size with hlt | hge
    · exact hlt
    · rw [Array.getElem?_eq_none hge] at hh; cases hh
theorem below_own {g : Nat} {w W W' : World} (h : Below w.heap.size w W) (hg : W.grownBy W' (some g)) (hB : w.heap.size ≤ g) : Below w.heap.size w W' :=
  h.grown hg h.size (fun k hk => by injection hk with e; omega)
set_option maxRecDepth 100000 in
set_option maxHeartbeats 1600000 in
theorem conjugatesOf_any (h g N i : Nat) (xs : List Int) (w : World) (H : GrpAt w h g N xs) (hG : Grp N xs) (hi : i < N) :
    Calls Try.prog 55 #[.pointer (some ⟨h, 0, none⟩), .int .i64 i] w fun e w' => ∃ v, e = .returned v ∧ Own w.heap.size w' v 1 (pick (conjB N xs i) N).length (ints (pick (conjB N xs i) N)) ∧ Below w.heap.size w w' := by
  obtain ⟨i0, hi0, hz0, hz1, hz2⟩ := infoR_parts infoInt
  have h40 := hG.tab.hi
  have h1 := hG.tab.lo
  have HG := Lib.hid hG
  have HH := Lib.hid (fun (w' : World) (hb : Below w.heap.size w w') => H.below hb)
  have Hp := Lib.hid (conj_pick hG hi)
  have x1 := H.ptr
  have x2 := H.mon.size
  clear H hG
  go_enter Try.func55, Try.ntmps55
  go_wp2_with fail
  clear x1 x2
  go_loopw [5, 14] (fun v k' wr => ∃ k : Nat, k' = .int .i64 k ∧ k ≤ N ∧ Hid (wr.ownsRow w.heap.size 3 1 v k (ints (nints (conjL N xs i k)))) ∧ Below w.heap.size w wr) (fun _ k' _ => N - (intOf k').toNat)
  case atStart => exact ⟨0, rfl, Nat.zero_le _, World.ownsRow_nil _ _ _ _, Below.refl _ _⟩
  case round =>
    obtain ⟨k, rfl, hk, HR, hb⟩ := hrel
    have hbs := hb.size
    by_cases hkl : k < N
    · go_wp2_with fail
      refine (conjugate_any h g N i k xs _ (HH.out _ hb) HG.out hi hkl).mono ?_
      rintro e w2 ⟨rfl, m, hw2⟩
      obtain ⟨z, hz⟩ : ∃ z, conj N xs k i = z := ⟨_, rfl⟩
      have Hs := Lib.hid (show nints (conjL N xs i (k + 1)) = nints (conjL N xs i k) ++ [(z : Int)] by rw [conjL_succ, nints_snoc, hz])
      have hb2 : Below w.heap.size w w2 := by rw [hw2]; exact below_drewN hb m
      have HR2 : Hid (w2.ownsRow w.heap.size 3 1 u5 k (ints (nints (conjL N xs i k)))) := by rw [hw2]; exact HR
      have hbs2 := hb2.size
      rw [hz]
      clear hz hw2 HR hb
      go_wp2_with (at_builtin; refine wpList_append_own _ rfl _ _ 22 rfl w.heap.size 3 i0 (.int .i64 0) 1 8 Try.underlying22 hi0 hz0 hz1 hz2 rfl (by decide) _ _ _ rfl (HR2.out.alloc _) ⟨w2.heap.size, 0, none⟩ 1 1 [.int .i64 (z : Int)] rfl rfl ?c1 ?c2 ?c3 ?c4 ?c5 ?_)
      case c1 => intro j u hj; match j, hj with | 0, hj => (simp at hj; subst hj; simp [Addr.add])
      case c2 => intro u hu; simp at hu; subst hu; rfl
      case c3 => unfold maxLen; omega
      case c4 => omega
      case c5 => simp; omega
      intro v' w6 hown' hgrow _
      have HX6 : Hid (w6.ownsRow w.heap.size 3 1 v' (k + 1) (ints (nints (conjL N xs i (k + 1))))) := by
        show World.ownsRow _ _ _ _ _ _ _
        rw [Hs.out]; simpa [ints] using hown'
      have hbw6 : Below w.heap.size w w6 := grown_one HR2.out hgrow hb2 (Nat.le_refl _) hbs2
      clear hown' hgrow HR2
      go_wp2_with fail
      go_roundw
      case rel => exact ⟨k + 1, by go_num, by omega, HX6, hbw6⟩
      case measure => simp [intOf]; omega
    · obtain rfl : N = k := by omega
      obtain ⟨gc, cap, rfl, hgc, -⟩ := row_form HR.out (by omega)
      go_wp2_with fail
      refine (sortInt_any gc cap N w.heap.size _ _ HR.out (by omega)).mono ?_
      rintro e w2 ⟨rfl, hr2, hg2⟩
      have HR2 := Lib.hid hr2
      have hb2 := below_own hb hg2 hgc
      clear hr2 hg2 HR hb
      go_wp2_with fail
      refine (compactInt_any gc cap N w.heap.size _ _ HR2.out).mono ?_
      rintro e w3 ⟨v3, rfl, o3, hg3⟩
      rw [Hp.out] at o3
      have O3 := Lib.hid o3
      have hb3 := below_own hb2 hg3 hgc
      obtain ⟨A3, c3, rfl⟩ := o3.form
      clear hg3 o3
      go_wp2_with fail
      go_ret
      exact ⟨_, rfl, O3.out, hb3⟩
set_option maxRecDepth 100000 in
set_option maxHeartbeats 800000 in
theorem implConjugatesOf (q : Int) (A : Option Addr) (n c B : Nat) (xs : List Int) (i : Int) (w : World) (h : Own B w (.slice A n c) 1 n (ints xs)) (_hn : n ≤ 1048576) :
    Calls Try.prog 33 #[tabV q A n c, .int .i64 i] w fun e w' => ∃ v, e = .returned v ∧ Own w.heap.size w' v 1 (conjOf q xs i).length (ints (conjOf q xs i)) ∧ Below w.heap.size w w' := by
  have HO := Lib.hid (h.below (bel2 w (.cells #[.int .i64 q, .slice A n c] 28) (.cells #[.int .i64 i] 3)))
  have HE := Lib.hid (lit_one w (.cells #[.int .i64 q, .slice A n c] 28) i 3)
  clear h
  go_enter Try.func33, Try.ntmps33
  go_wp2_with fail
  refine (groupWith_any q A _ n c 1 1 B _ xs [i] _ HO.out HE.out).mono ?_
  rintro e w1 ⟨hm, hb1⟩
  have b1 := (bel2 w _ _).trans (hb1.mono (by simp; omega))
  clear hb1 HO HE
  rcases hm with ⟨N, h, g, rfl, hG, ha, rfl, hM⟩ | ⟨ha, rfl⟩
  · rw [allOk_one] at ha
    obtain ⟨_, i, e1, rfl, -, hi⟩ := elemOk_iff ha
    have hi' : i < N := by omega
    have HG := Lib.hid hG
    have HM := Lib.hid hM
    have He := Lib.hid (conjOf_yes hG hi')
    have hbs := b1.size
    clear hG ha hM e1 hi
    go_wp2_with fail
    refine (conjugatesOf_any h g N i xs _ HM.out HG.out hi').mono ?_
    rintro e w2 ⟨v, rfl, o2, hb2⟩
    obtain ⟨A2, c2, rfl⟩ := o2.form
    have O2 := Lib.hid (o2.mono hbs)
    have b2 := b1.trans (hb2.mono hbs)
    clear hb2 o2
    go_wp2_with fail
    go_ret
    exact ⟨_, rfl, by rw [He.out]; exact O2.out, b2⟩
  · have He := Lib.hid (conjOf_no ha)
    clear ha
    go_wp2_with fail
    go_ret
    exact ⟨_, rfl, by rw [He.out]; exact Own.none_, b1⟩
end Go.Proofs.Ytkiomohpmajjcaa
