/- The program's IsNormal. -/
import Derived.Test.YtkiomohpmajjcaaNormPlain
import Derived.Test.YtkiomohpmajjcaaImplConj
import Derived.Test.YtkiomohpmajjcaaImplCom
namespace Go.Proofs.Ytkiomohpmajjcaa
open Go.RowKit

noncomputable def conjL2 (n : Nat) (xs : List Int) (i : Nat) : List Nat := (List.range n).filter (conjB n xs i)
theorem conjL2_nints (n : Nat) (xs : List Int) (i : Nat) : nints (conjL2 n xs i) = pick (conjB n xs i) n := rfl
theorem mem_conjL2 {N : Nat} {xs : List Int} {i y : Nat} (h : Grp N xs) (hi : i < N) : y ∈ conjL2 N xs i ↔ ∃ x, x < N ∧ conj N xs x i = y := by
  unfold conjL2
  rw [List.mem_filter, List.mem_range]
  exact ⟨fun ⟨_, b⟩ => of_cdec b, fun hx => ⟨by obtain ⟨x, hx, rfl⟩ := hx; exact h.conj_lt hx hi, cdec_yes hx⟩⟩
set_option maxRecDepth 100000 in
set_option maxHeartbeats 1600000 in
theorem isNormal_any (h g N B : Nat) (xs : List Int) (P : List Nat) (v : Value) (w : World) (H : GrpAt w h g N xs) (hG : Grp N xs) (hS : SubV N xs P B w v) (hP : P.length ≤ 1048576) :
    Calls Try.prog 53 #[.pointer (some ⟨h, 0, none⟩), v] w fun e w' => e = .returned (.bool (cdec (Norm N xs P))) ∧ Below w.heap.size w w' := by
  have h40 := hG.tab.hi
  have h1 := hG.tab.lo
  have HG := Lib.hid hG
  have HH := Lib.hid (fun (w' : World) (hb : Below w.heap.size w w') => H.below hb)
  have HS := Lib.hid hS
  obtain ⟨t, r, f, rfl, hm1, hm2, hcl⟩ := hS.callee
  have HC := Lib.hid hcl
  clear H hG hS hcl
  go_enter Try.func53, Try.ntmps53
  go_wp2_with fail
  refine (generatorsOf_any N xs P B _ _ HS.out HG.out.tab hP).mono ?_
  rintro e w1 ⟨⟨v1, Hs, rfl, hr, hl, hsg, hlt⟩, b1⟩
  obtain ⟨A1, c1, rfl⟩ := (Own.of_row hr).form
  have HO1 := Lib.hid (fun (w' : World) (hb : Below w1.heap.size w1 w') => (Own.of_row hr).below hb)
  have Hsg := Lib.hid hsg
  have Hlt := Lib.hid hlt
  have hbs1 := b1.size
  have hmx : Hs.length ≤ 1048577 := by omega
  clear hr hsg hlt HS
  go_wp2_with fail
  go_loopw [12] (fun k' wr => ∃ k : Nat, k' = .int .i64 k ∧ k ≤ Hs.length ∧ Hid (∀ j y, j < k → Hs[j]? = some y → ∀ x, x < N → Gen N xs P (conj N xs x y)) ∧ Below w1.heap.size w1 wr) (fun k' _ => Hs.length - (intOf k').toNat)
  case atStart => exact ⟨0, rfl, Nat.zero_le _, fun j y hj => absurd hj (by omega), Below.refl _ _⟩
  case round =>
    obtain ⟨k, rfl, hk, HK, hb⟩ := hrel
    have hb2 := b1.trans (hb.mono hbs1)
    have hbs2 := hb2.size
    by_cases hkl : k < Hs.length
    · obtain ⟨y, hy⟩ : ∃ y, Hs[k]? = some y := ⟨Hs[k], List.getElem?_eq_getElem hkl⟩
      have hyN := Hlt.out y (List.mem_of_getElem? hy)
      obtain ⟨g1, off1, rfl, -, x1⟩ := (HO1.out _ hb).nat hy
      have Hy := Lib.hid hy
      clear hy
      go_wp2_with fail
      refine (conjugatesOf_any h g N y xs _ (HH.out _ hb2) HG.out hyN).mono ?_
      rintro e w3 ⟨v3, rfl, o3, hb3⟩
      have hb4 := hb2.trans (hb3.mono hbs2)
      have hb5 := hb.trans (hb3.mono hb.size)
      have hbs4 := hb4.size
      have hcl2 := pick_len (conjB N xs y) N
      rw [← conjL2_nints, nints_length] at o3 hcl2
      obtain ⟨A3, c3, rfl⟩ := o3.form
      have HO3 := Lib.hid (fun (w' : World) (hb : Below w3.heap.size w3 w') => o3.below hb)
      have HMm := Lib.hid (fun z => mem_conjL2 (y := z) HG.out hyN)
      clear hb3 o3 x1
      generalize conjL2 N xs y = L at *
      go_wp2_with fail
      go_loopw [20] (fun i' wr => ∃ i : Nat, i' = .int .i64 i ∧ i ≤ L.length ∧ Hid (∀ j z, j < i → L[j]? = some z → Gen N xs P z) ∧ Below w3.heap.size w3 wr) (fun i' _ => L.length - (intOf i').toNat)
      case atStart => exact ⟨0, rfl, Nat.zero_le _, fun j z hj => absurd hj (by omega), Below.refl _ _⟩
      case round =>
        obtain ⟨i, rfl, hi, HI, hb6⟩ := hrel
        have hb7 := hb4.trans (hb6.mono hbs4)
        have hbs7 := hb7.size
        by_cases hil : i < L.length
        · obtain ⟨z, hz⟩ : ∃ z, L[i]? = some z := ⟨L[i], List.getElem?_eq_getElem hil⟩
          obtain ⟨g3, off3, rfl, -, x1⟩ := (HO3.out _ hb6).nat hz
          have Hz := Lib.hid hz
          clear hz
          go_wp2_with fail
          refine (HC.out _ z hb7).mono ?_
          cases hp : genB N xs P z
          · have He2 := Lib.hid (cdec_no (P := Norm N xs P) (fun hn => by
              obtain ⟨x, hx, e⟩ := (HMm.out z).1 (List.mem_of_getElem? Hz.out)
              have h2 := hn x hx y ((Hsg.out y).1 (Gen.mem HG.out.tab Hlt.out (List.mem_of_getElem? Hy.out)))
              rw [e] at h2
              exact not_cdec hp h2))
            clear hp
            rintro e w8 ⟨rfl, hb8⟩
            go_wp2_with fail
            go_ret
            exact ⟨ret_bool He2.out.symm, hb7.trans (hb8.mono hbs7)⟩
          · have HI1 : Hid (∀ j z, j < i + 1 → L[j]? = some z → Gen N xs P z) := fun j z' hj hz' => by
              by_cases ej : j = i
              · subst ej; rw [Hz.out] at hz'; obtain rfl := Option.some.inj hz'; exact of_cdec hp
              · exact HI.out j z' (by omega) hz'
            clear hp
            rintro e w8 ⟨rfl, hb8⟩
            have hb9 := hb6.trans (hb8.mono hb6.size)
            clear hb8 x1
            go_wp2_with fail
            go_roundw
            case rel => exact ⟨i + 1, by go_num, by omega, HI1, hb9⟩
            case measure => simp [intOf]; omega
        · obtain rfl : L.length = i := by omega
          have HK1 : Hid (∀ j y, j < k + 1 → Hs[j]? = some y → ∀ x, x < N → Gen N xs P (conj N xs x y)) := fun j y' hj hy' x hx => by
            by_cases ej : j = k
            · subst ej; rw [Hy.out] at hy'; obtain rfl := Option.some.inj hy'
              obtain ⟨j, hj⟩ := List.getElem?_of_mem ((HMm.out (conj N xs x y)).2 ⟨x, hx, rfl⟩)
              exact HI.out j _ (List.getElem?_eq_some_iff.1 hj).1 hj
            · exact HK.out j y' (by omega) hy' x hx
          have hb8 := hb5.trans (hb6.mono hb5.size)
          go_wp2_with fail
          go_roundw
          case rel => exact ⟨k + 1, by go_num, by omega, HK1, hb8⟩
          case measure => simp [intOf]; omega
    · obtain rfl : Hs.length = k := by omega
      have He2 := Lib.hid (cdec_yes (P := Norm N xs P) ((norm_same Hsg.out).1 (norm_of HG.out Hlt.out (fun g hg x hx => by
        obtain ⟨j, hj⟩ := List.getElem?_of_mem hg
        exact (Hsg.out _).2 (HK.out j g (List.getElem?_eq_some_iff.1 hj).1 hj x hx)))))
      go_wp2_with fail
      go_ret
      exact ⟨ret_bool He2.out.symm, hb2⟩
set_option maxRecDepth 100000 in
set_option maxHeartbeats 1600000 in
theorem implIsNormal (q : Int) (A E : Option Addr) (n c m d B D : Nat) (xs es : List Int) (w : World) (h : Own B w (.slice A n c) 1 n (ints xs)) (hE : Own D w (.slice E m d) 1 m (ints es)) (_hn : n ≤ 1048576) (hm : m ≤ 1048576) :
    Calls Try.prog 29 #[tabV q A n c, .slice E m d] w fun e w' => e = .returned (.bool (normOf q xs es)) ∧ Below w.heap.size w w' := by
  have HO := Lib.hid (h.below (bel1 w (.cells #[.int .i64 q, .slice A n c] 28)))
  have HE := Lib.hid (hE.below (bel1 w (.cells #[.int .i64 q, .slice A n c] 28)))
  have hlen := hE.ilen
  clear h hE
  go_enter Try.func29, Try.ntmps29
  go_wp2_with fail
  refine (groupWith_any q A E n c m d B D xs es _ HO.out HE.out).mono ?_
  rintro e w1 ⟨hmm, hb1⟩
  have b1 := (bel1 w _).trans (hb1.mono (by simp))
  have HE1 := Lib.hid (HE.out.below hb1)
  clear hb1 HO HE
  rcases hmm with ⟨N, h, g, rfl, hG, ha, rfl, hM⟩ | ⟨ha, rfl⟩
  · obtain ⟨G, rfl, hg⟩ := elems_of ha
    rw [nints_length] at hlen
    have He := Lib.hid (normOf_yes (gOk_yes hG ha))
    have HG := Lib.hid hG
    have Hg := Lib.hid hg
    have HM := Lib.hid hM
    have hbs := b1.size
    clear hG ha hM hg
    go_wp2_with fail
    refine (subgroupWith_any h g N E m d D xs G _ HM.out HG.out HE1.out Hg.out hm).mono ?_
    rintro e w8 ⟨⟨v8, rfl, hS8⟩, hb8⟩
    have b8 := b1.trans (hb8.mono hbs)
    have HM8 := Lib.hid (HM.out.below hb8)
    have HS8 := Lib.hid hS8
    obtain ⟨t8, r8, f8, rfl, -⟩ := hS8.callee
    clear hb8 hS8
    have hbs8 := b8.size
    go_wp2_with fail
    refine (isNormal_any h g N _ xs G _ _ HM8.out HG.out HS8.out (by omega)).mono ?_
    rw [← He.out]
    rintro e w9 ⟨rfl, hb9⟩
    have b9 := b8.trans (hb9.mono hbs8)
    clear hb9
    go_wp2_with fail
    go_ret
    exact ⟨rfl, b9⟩
  · have He := Lib.hid (normOf_no (gOk_no ha))
    clear ha
    go_wp2_with fail
    go_ret
    exact ⟨ret_bool He.out.symm, b1⟩
end Go.Proofs.Ytkiomohpmajjcaa
