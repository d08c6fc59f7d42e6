/- The model's SubgroupOf. -/
import Derived.Test.YtkiomohpmajjcaaSpecSub
namespace Go.Proofs.Ytkiomohpmajjcaa
open Go.RowKit

noncomputable def gOk (q : Int) (xs es : List Int) : Bool := isGroupB q xs && allOk q xs es
theorem gOk_no {q : Int} {xs es : List Int} (h : ¬ gallOk q xs es) : gOk q xs es = false := by
  unfold gOk
  cases hg : isGroupB q xs
  · rfl
  · cases ha : allOk q xs es
    · rfl
    · exact absurd ⟨hg, ha⟩ h
theorem gOk_yes {N : Nat} {xs es : List Int} (hG : Grp N xs) (h : allOk N xs es = true) : gOk N xs es = true := by unfold gOk; rw [isGroup_yes hG, h]; rfl
theorem gOk_iff {q : Int} {xs es : List Int} (h : gOk q xs es = true) : ∃ (N : Nat) (G : List Nat), q = N ∧ Grp N xs ∧ es = nints G ∧ ∀ g ∈ G, g < N := by
  unfold gOk at h
  rw [Bool.and_eq_true] at h
  obtain ⟨N, rfl, hG⟩ := isGroup_iff h.1
  obtain ⟨G, e, hg⟩ := elems_of h.2
  exact ⟨N, G, rfl, hG, e, hg⟩
theorem nints_nat (G : List Nat) : (nints G).map Int.toNat = G := by
  unfold nints; rw [List.map_map]
  conv => rhs; rw [← List.map_id G]
  exact List.map_congr_left fun x _ => by simp
noncomputable def subOf (q : Int) (xs es : List Int) : List Int := if gOk q xs es then pick (genB q.toNat xs (es.map Int.toNat)) q.toNat else []
theorem subOf_no {q : Int} {xs es : List Int} (h : gOk q xs es = false) : subOf q xs es = [] := by unfold subOf; rw [h]; rfl
theorem subOf_yes {N : Nat} {xs : List Int} {G : List Nat} (h : gOk N xs (nints G) = true) : subOf N xs (nints G) = pick (genB N xs G) N := by unfold subOf; rw [h, nints_nat]; rfl
theorem subOf_len (q : Int) (xs es : List Int) : (subOf q xs es).length ≤ 40 := by
  cases h : gOk q xs es
  · rw [subOf_no h]; simp
  · obtain ⟨N, G, rfl, hG, rfl, -⟩ := gOk_iff h
    rw [subOf_yes h]
    have := pick_len (genB N xs G) N
    have := hG.tab.hi
    omega
set_option maxRecDepth 100000 in
set_option maxHeartbeats 1600000 in
theorem l10Ok_any (q : Int) (A E : Option Addr) (n c m d B D : Nat) (xs es : List Int) (w : World) (h : Own B w (.slice A n c) 1 n (ints xs)) (hE : Own D w (.slice E m d) 1 m (ints es)) (hn : n ≤ 1048576) :
    Calls Try.prog 45 #[tabV q A n c, .slice E m d] w fun e w' => e = .returned (.bool (gOk q xs es)) ∧ Below w.heap.size w w' := by
  have HO := Lib.hid (h.below (bel1 w (.cells #[.int .i64 q, .slice A n c] 28)))
  have HE := Lib.hid (hE.below (bel1 w (.cells #[.int .i64 q, .slice A n c] 28)))
  have Hlen := Lib.hid hE.ilen
  have hmax := hE.bound
  unfold maxLen at hmax
  clear h hE
  go_enter Try.func45, Try.ntmps45
  go_wp2_with fail
  refine (specIsGroup q A n c B xs _ HO.out hn).mono ?_
  rintro e w1 ⟨rfl, hb1⟩
  have b1 := (bel1 w _).trans (hb1.mono (by simp))
  have X1 := Lib.hid ((Blk.new1 w _ _).below hb1 (by simp))
  have E1 := Lib.hid (HE.out.below hb1)
  obtain ⟨q0, q1, -, -, ql⟩ := X1.out.two
  clear hb1 HO HE
  cases hg : isGroupB q xs
  · have He := Lib.hid (show gOk q xs es = false by unfold gOk; rw [hg]; rfl)
    clear hg
    go_wp2_with fail
    go_ret
    exact ⟨ret_bool He.out.symm, b1⟩
  · obtain ⟨N, rfl, hG⟩ := isGroup_iff hg
    have h1 := hG.tab.lo
    have h40 := hG.tab.hi
    have HG := Lib.hid hG
    clear hg hG
    go_wp2_with fail
    go_loop [12] (fun i => ∃ k : Nat, i = .int .i64 k ∧ k ≤ m ∧ Hid (∀ j s, j < k → es[j]? = some s → elemOk N xs s = true)) (fun i => m - (intOf i).toNat)
    case atStart => exact ⟨0, rfl, Nat.zero_le _, fun j s hj => absurd hj (by omega)⟩
    case round =>
      obtain ⟨k, rfl, hk, HI⟩ := hrel
      by_cases hlt : k < m
      · obtain ⟨g, off, c0, hv⟩ := E1.out.formR (show 0 < m by omega)
        obtain ⟨rfl, rfl⟩ : E = some ⟨g, off, none⟩ ∧ d = c0 := by injection hv with a _ b; exact ⟨a, b⟩
        clear hv
        obtain ⟨s, hs, hx⟩ := E1.out.iget hlt
        have Hs := Lib.hid hs
        clear hs
        by_cases hr : 0 ≤ s ∧ s ≤ (N : Int) - 1
        · have HI1 : Hid (∀ j s, j < k + 1 → es[j]? = some s → elemOk N xs s = true) := fun j t hj ht => by
            by_cases e : j = k
            · subst e
              rw [Hs.out] at ht
              obtain rfl := Option.some.inj ht
              obtain ⟨i, rfl⟩ : ∃ i : Nat, s = i := ⟨s.toNat, by omega⟩
              exact elemOk_yes HG.out.tab (by omega)
            · exact HI.out j t (by omega) ht
          obtain ⟨hr0, hr1⟩ := hr
          go_wp2_with fail
          refine (l01In_yes _ _ _ _ (by omega) (by omega)).mono ?_
          rintro e w2 ⟨rfl, rfl⟩
          go_wp2_with fail
          go_round
          case rel => exact ⟨k + 1, by go_num, by omega, HI1⟩
          case measure => simp [intOf]; omega
        · have He := Lib.hid (show gOk N xs es = false by
            unfold gOk allOk
            rw [Bool.and_eq_false_iff]; right
            rw [Bool.and_eq_false_iff]; right
            rw [List.all_eq_false]
            exact ⟨s, List.mem_of_getElem? Hs.out, by rw [elemOk_no (by omega)]; simp⟩)
          have Hk := Lib.hid (show s < 0 ∨ (N : Int) - 1 < s by omega)
          clear hr
          go_wp2_with fail
          refine (l01In_no _ _ _ _ Hk.out).mono ?_
          rintro e w2 ⟨rfl, rfl⟩
          go_wp2_with fail
          go_ret
          exact ⟨ret_bool He.out.symm, b1⟩
      · obtain rfl : m = k := by omega
        have He := Lib.hid (gOk_yes HG.out (show allOk N xs es = true by
          unfold allOk
          rw [tableOk_yes HG.out.tab, Bool.true_and, List.all_eq_true]
          intro s hs
          obtain ⟨j, hj⟩ := List.getElem?_of_mem hs
          exact HI.out j s (by have := (List.getElem?_eq_some_iff.1 hj).1; have := Hlen.out; omega) hj))
        go_wp2_with fail
        go_ret
        exact ⟨ret_bool He.out.symm, b1⟩
set_option maxRecDepth 100000 in
set_option maxHeartbeats 1600000 in
theorem specSubgroupOf (q : Int) (A E : Option Addr) (n c m d B D : Nat) (xs es : List Int) (w : World) (h : Own B w (.slice A n c) 1 n (ints xs)) (hE : Own D w (.slice E m d) 1 m (ints es)) (hn : n ≤ 1048576) :
    Calls Try.prog 19 #[tabV q A n c, .slice E m d] w fun e w' => ∃ v, e = .returned v ∧ Own w.heap.size w' v 1 (subOf q xs es).length (ints (subOf q xs es)) ∧ Below w.heap.size w w' := by
  have HO := Lib.hid (h.below (bel1 w (.cells #[.int .i64 q, .slice A n c] 28)))
  have HE := Lib.hid (hE.below (bel1 w (.cells #[.int .i64 q, .slice A n c] 28)))
  clear h hE
  go_enter Try.func19, Try.ntmps19
  go_wp2_with fail
  refine (l10Ok_any q A E n c m d B D xs es _ HO.out HE.out hn).mono ?_
  rintro e w1 ⟨rfl, hb1⟩
  have b1 := (bel1 w _).trans (hb1.mono (by simp))
  have X1 := Lib.hid ((Blk.new1 w _ _).below hb1 (by simp))
  have E1 := Lib.hid (HE.out.below hb1)
  have O1 := Lib.hid (HO.out.below hb1)
  obtain ⟨q0, q1, -, -, ql⟩ := X1.out.two
  clear hb1 HO HE
  cases hg : gOk q xs es
  · have He := Lib.hid (subOf_no hg)
    clear hg
    go_wp2_with fail
    go_ret
    exact ⟨_, rfl, by rw [He.out]; exact Own.none_, b1⟩
  · obtain ⟨N, G, rfl, hG, rfl, hg2⟩ := gOk_iff hg
    have He := Lib.hid (subOf_yes hg)
    have h40 := hG.tab.hi
    have HG := Lib.hid hG
    have HGs := Lib.hid hg2
    clear hg hG hg2
    go_wp2_with fail
    refine (l10Sub_any N A E n c m d B D xs G _ O1.out E1.out HG.out.tab HGs.out).mono ?_
    rintro e w2 ⟨v2, rfl, o2, hb2⟩
    obtain ⟨A2, c2, rfl⟩ := o2.form
    have O2 := Lib.hid o2
    have b2 := b1.trans (hb2.mono b1.size)
    clear hb2 o2
    go_wp2_with fail
    refine (l09List_any _ N _ _ (genB N xs G) _ O2.out (by omega)).mono ?_
    rintro e w9 ⟨v9, rfl, o9, hb9⟩
    have hbs2 := b2.size
    have O9 := Lib.hid (o9.mono hbs2)
    have b9 := b2.trans (hb9.mono hbs2)
    obtain ⟨A9, c9, rfl⟩ := o9.form
    clear hb9 o9
    go_wp2_with fail
    go_ret
    exact ⟨_, rfl, by rw [He.out]; exact O9.out, b9⟩
end Go.Proofs.Ytkiomohpmajjcaa
