/- The model's ImagesOk, ValueOf, SatisfiesRules. -/
import Derived.Test.YtlgaihofaiigcaaMeanPlain
import Derived.Test.YtlgaihofaiigcaaSpecTab2
import Derived.Test.YtlgaihofaiigcaaMeaning
namespace Go.Proofs.Ytlgaihofaiigcaa
open Go.RowKit

set_option maxRecDepth 100000 in
set_option maxHeartbeats 1600000 in
theorem specImagesOk (q : Int) (A E : Option Addr) (n c m d B D : Nat) (xs es : List Int) (w : World) (h : Own B w (.slice A n c) 1 n (ints xs)) (hE : Own D w (.slice E m d) 1 m (ints es)) (hn : n ≤ 1048576) :
    Calls Try.prog 5 #[tabV q A n c, .slice E m d] w fun e w' => e = .returned (.bool (imagesOk q xs es)) ∧ Below w.heap.size w w' := by
  have HO := Lib.hid (h.below (bel1 w (.cells #[.int .i64 q, .slice A n c] 27)))
  have HE := Lib.hid (fun (w' : World) (hb : Below w.heap.size w w') => hE.below hb)
  have Hml := Lib.hid hE.ilen
  clear h hE
  go_enter Try.func5, Try.ntmps5
  go_wp2_with fail
  refine (specTableOk q A n c B xs _ HO.out hn).mono ?_
  rintro e w1 ⟨rfl, hb1⟩
  have b1 := (bel1 w _).trans (hb1.mono (by simp))
  have X1 := Lib.hid ((Blk.new1 w _ _).below hb1 (by simp))
  obtain ⟨q0, q1, -, -, ql⟩ := X1.out.two
  clear hb1 HO
  cases hT : tableOk q xs
  · have He := Lib.hid (imagesOk_tab (es := es) hT)
    clear hT
    go_wp2_with fail
    go_ret
    exact ⟨ret_bool He.out.symm, b1⟩
  obtain ⟨N, rfl, hTab⟩ := tableOk_iff hT
  have HT := Lib.hid hTab
  have h40 := hTab.hi
  have h1 := hTab.lo
  clear hT hTab
  by_cases h4 : 1 ≤ m ∧ m ≤ 4
  · obtain ⟨h41, h44⟩ := h4
    go_wp2_with fail
    refine (l01In_yes _ _ _ _ (by omega) (by omega)).mono ?_
    rintro e w2 ⟨rfl, rfl⟩
    go_wp2_with fail
    go_loop [18] (fun i => ∃ k : Nat, i = .int .i64 k ∧ k ≤ m ∧ Hid (∀ j s, j < k → es[j]? = some s → elemOk N xs s = true)) (fun i => m - (intOf i).toNat)
    case atStart => exact ⟨0, rfl, Nat.zero_le _, fun j s hj => absurd hj (by omega)⟩
    case round =>
      obtain ⟨k, rfl, hk, HI⟩ := hrel
      by_cases hlt : k < m
      · obtain ⟨g, off, c0, hv⟩ := (HE.out _ b1).formR (by omega)
        obtain ⟨rfl, rfl⟩ : E = some ⟨g, off, none⟩ ∧ d = c0 := by injection hv with a _ b; exact ⟨a, b⟩
        clear hv
        obtain ⟨s, hs, hx⟩ := (HE.out _ b1).iget hlt
        have Hs := Lib.hid hs
        clear hs
        by_cases hr : 0 ≤ s ∧ s ≤ (N : Int) - 1
        · have HI1 : Hid (∀ j s, j < k + 1 → es[j]? = some s → elemOk N xs s = true) := fun j t hj ht => by
            by_cases e : j = k
            · subst e
              rw [Hs.out] at ht
              obtain rfl := Option.some.inj ht
              obtain ⟨i, rfl⟩ : ∃ i : Nat, s = i := ⟨s.toNat, by omega⟩
              exact elemOk_yes HT.out (by omega)
            · exact HI.out j t (by omega) ht
          obtain ⟨hr0, hr1⟩ := hr
          go_wp2_with fail
          refine (l01In_yes _ _ _ _ hr0 hr1).mono ?_
          rintro e w2 ⟨rfl, rfl⟩
          go_wp2_with fail
          go_round
          case rel => exact ⟨k + 1, by go_num, by omega, HI1⟩
          case measure => simp [intOf]; omega
        · have He := Lib.hid (imagesOk_bad Hs.out (elemOk_no (N := N) (xs := xs) (i := s) (by omega)))
          have Hr := Lib.hid (show s < 0 ∨ (N : Int) - 1 < s by omega)
          clear hr
          go_wp2_with fail
          refine (l01In_no _ _ _ _ Hr.out).mono ?_
          rintro e w2 ⟨rfl, rfl⟩
          go_wp2_with fail
          go_ret
          exact ⟨ret_bool He.out.symm, b1⟩
      · obtain rfl : m = k := by omega
        have He := Lib.hid (show imagesOk N xs es = true from imagesOk_yes (by rw [Hml.out]; exact h41) (by rw [Hml.out]; exact h44) (by
          unfold allOk
          rw [tableOk_yes HT.out, Bool.true_and, List.all_eq_true]
          intro s hs
          obtain ⟨j, hj⟩ := List.getElem?_of_mem hs
          exact HI.out j s (by have := (List.getElem?_eq_some_iff.1 hj).1; have := Hml.out; omega) hj))
        go_wp2_with fail
        go_ret
        exact ⟨ret_bool He.out.symm, b1⟩
  · have He := Lib.hid (imagesOk_len (q := N) (xs := xs) (es := es) (by rw [Hml.out]; exact h4))
    have Hr := Lib.hid (show (m : Int) < 1 ∨ (4 : Int) < m by omega)
    clear h4
    go_wp2_with fail
    refine (l01In_no _ _ _ _ Hr.out).mono ?_
    rintro e w2 ⟨rfl, rfl⟩
    go_wp2_with fail
    go_ret
    exact ⟨ret_bool He.out.symm, b1⟩
end Go.Proofs.Ytlgaihofaiigcaa
