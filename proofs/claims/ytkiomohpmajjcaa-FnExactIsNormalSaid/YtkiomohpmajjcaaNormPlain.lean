/- Normal subgroups: plain; the model's IsNormal. -/
import Derived.Test.YtkiomohpmajjcaaSortPlain
namespace Go.Proofs.Ytkiomohpmajjcaa
open Go.RowKit

theorem Grp.conj_mul {N : Nat} {xs : List Int} (h : Grp N xs) {x a b : Nat} (hx : x < N) (ha : a < N) (hb : b < N) : conj N xs x (tmul N xs a b) = tmul N xs (conj N xs x a) (conj N xs x b) := by
  obtain ⟨h1, h2, h3⟩ := h.inv_spec hx
  have hT := h.tab
  have hxa := hT.lt hx ha
  have hxb := hT.lt hx hb
  unfold conj
  rw [hT.assoc hxa h1 (hT.lt hxb h1), ← hT.assoc h1 hxb h1, ← hT.assoc h1 hx hb, h3, (hT.one hb).1, ← hT.assoc hx ha hb, hT.assoc hxa hb h1]
theorem Grp.conj_zero {N : Nat} {xs : List Int} (h : Grp N xs) {x : Nat} (hx : x < N) : conj N xs x 0 = 0 := by
  unfold conj
  rw [(h.tab.one hx).2, (h.inv_spec hx).2.1]
def Norm (N : Nat) (xs : List Int) (G : List Nat) : Prop := ∀ x, x < N → ∀ y, Gen N xs G y → Gen N xs G (conj N xs x y)
theorem norm_of {N : Nat} {xs : List Int} (h : Grp N xs) {G : List Nat} (hG : ∀ g ∈ G, g < N) (hn : ∀ g ∈ G, ∀ x, x < N → Gen N xs G (conj N xs x g)) : Norm N xs G := fun x hx y hy => by
  induction hy with
  | zero => rw [h.conj_zero hx]; exact Gen.zero
  | step hz hg ih => rw [h.conj_mul hx (hz.lt h.tab hG) (hG _ hg)]; exact ih.mul h.tab hG (hn _ hg x hx)
theorem norm_same {N : Nat} {xs : List Int} {G G' : List Nat} (hs : SameGen N xs G G') : Norm N xs G ↔ Norm N xs G' :=
  ⟨fun h x hx y hy => (hs _).1 (h x hx y ((hs y).2 hy)), fun h x hx y hy => (hs _).2 (h x hx y ((hs y).1 hy))⟩
noncomputable def normOf (q : Int) (xs es : List Int) : Bool := gOk q xs es && cdec (Norm q.toNat xs (es.map Int.toNat))
theorem normOf_no {q : Int} {xs es : List Int} (h : gOk q xs es = false) : normOf q xs es = false := by unfold normOf; rw [h]; rfl
theorem normOf_yes {N : Nat} {xs : List Int} {G : List Nat} (h : gOk N xs (nints G) = true) : normOf N xs (nints G) = cdec (Norm N xs G) := by unfold normOf; rw [h, nints_nat]; rfl
noncomputable def subL2 (N : Nat) (xs : List Int) (G : List Nat) : List Nat := (List.range N).filter (genB N xs G)
theorem subL2_nints (N : Nat) (xs : List Int) (G : List Nat) : nints (subL2 N xs G) = pick (genB N xs G) N := rfl
theorem mem_subL2 {N : Nat} {xs : List Int} {G : List Nat} {y : Nat} : y ∈ subL2 N xs G ↔ y < N ∧ Gen N xs G y := by
  unfold subL2
  rw [List.mem_filter, List.mem_range]
  exact ⟨fun ⟨a, b⟩ => ⟨a, of_cdec b⟩, fun ⟨a, b⟩ => ⟨a, cdec_yes b⟩⟩
set_option maxRecDepth 100000 in
set_option maxHeartbeats 1600000 in
theorem specIsNormal (q : Int) (A E : Option Addr) (n c m d B D : Nat) (xs es : List Int) (w : World) (h : Own B w (.slice A n c) 1 n (ints xs)) (hE : Own D w (.slice E m d) 1 m (ints es)) (hn : n ≤ 1048576) :
    Calls Try.prog 28 #[tabV q A n c, .slice E m d] w fun e w' => e = .returned (.bool (normOf q xs es)) ∧ Below w.heap.size w w' := by
  have HO := Lib.hid (h.below (bel1 w (.cells #[.int .i64 q, .slice A n c] 28)))
  have HE := Lib.hid (hE.below (bel1 w (.cells #[.int .i64 q, .slice A n c] 28)))
  clear h hE
  go_enter Try.func28, Try.ntmps28
  go_wp2_with fail
  refine (l10Ok_any q A E n c m d B D xs es _ HO.out HE.out hn).mono ?_
  rintro e w1 ⟨rfl, hb1⟩
  have b1 := (bel1 w _).trans (hb1.mono (by simp))
  have X1 := Lib.hid ((Blk.new1 w _ _).below hb1 (by simp))
  have E1 := Lib.hid (HE.out.below hb1)
  have O1 := Lib.hid (HO.out.below hb1)
  obtain ⟨q0, q1, -, -, ql⟩ := X1.out.two
  clear hb1 HO HE
  cases hg : gOk q xs es
  · have He := Lib.hid (normOf_no hg)
    clear hg
    go_wp2_with fail
    go_ret
    exact ⟨ret_bool He.out.symm, b1⟩
  · obtain ⟨N, G, rfl, hG, rfl, hg2⟩ := gOk_iff hg
    have He := Lib.hid (normOf_yes hg)
    have h1 := hG.tab.lo
    have h40 := hG.tab.hi
    have HG := Lib.hid hG
    have HGs := Lib.hid hg2
    clear hg hG hg2
    go_wp2_with fail
    refine (l10Sub_any N A E n c m d B D xs G _ O1.out E1.out HG.out.tab HGs.out).mono ?_
    rintro e w2 ⟨v2, rfl, o2, hb2⟩
    obtain ⟨g2, off2, c2, rfl⟩ := o2.formR (by omega)
    have hO2 := Lib.hid (fun (w' : World) (hb : Below w2.heap.size w2 w') => o2.below hb)
    have b2 := b1.trans (hb2.mono b1.size)
    have X2 := Lib.hid (X1.out.below hb2 X1.out.lt)
    have P2 := Lib.hid (O1.out.below hb2)
    have hbs2 := b2.size
    clear hb2 o2 X1 O1 E1 q0 q1 ql
    go_wp2_with fail
    go_loopw [6] (fun x' wr => ∃ x : Nat, x' = .int .i64 x ∧ x ≤ N ∧ Hid (∀ a, a < x → ∀ y, Gen N xs G y → Gen N xs G (conj N xs a y)) ∧ Below w2.heap.size w2 wr) (fun x' _ => N - (intOf x').toNat)
    case atStart => exact ⟨0, rfl, Nat.zero_le _, fun a ha => absurd ha (by omega), Below.refl _ _⟩
    case round =>
      obtain ⟨x, rfl, hxN, HI, hb⟩ := hrel
      obtain ⟨q0, q1, -, -, -⟩ := (X2.out.below hb X2.out.lt).two
      have hbs := hb.size
      by_cases hlt : x < N
      · go_wp2_with fail
        refine (l09List_any _ N _ _ (genB N xs G) _ (hO2.out _ hb) (by omega)).mono ?_
        rintro e w3 ⟨v3, rfl, o3, hb3⟩
        have hb4 := hb.trans (hb3.mono hbs)
        have hbs4 := hb4.size
        rw [← subL2_nints, nints_length] at o3
        obtain ⟨A3, c3, rfl⟩ := o3.form
        have HO3 := Lib.hid (fun (w' : World) (hb : Below w3.heap.size w3 w') => o3.below hb)
        have hHl := pick_len (genB N xs G) N
        rw [← subL2_nints, nints_length] at hHl
        have HHm := Lib.hid (fun y => mem_subL2 (N := N) (xs := xs) (G := G) (y := y))
        clear hb3 o3 q0 q1 hb
        generalize hH : subL2 N xs G = H at *
        clear hH
        go_wp2_with fail
        go_loopw [25] (fun k' wr => ∃ k : Nat, k' = .int .i64 k ∧ k ≤ H.length ∧ Hid (∀ j y, j < k → H[j]? = some y → Gen N xs G (conj N xs x y)) ∧ Below w3.heap.size w3 wr) (fun k' _ => H.length - (intOf k').toNat)
        case atStart => exact ⟨0, rfl, Nat.zero_le _, fun j y hj => absurd hj (by omega), Below.refl _ _⟩
        case round =>
          obtain ⟨k, rfl, hk, HK, hb⟩ := hrel
          have hb5 := hb4.trans (hb.mono hbs4)
          have hbs5 := hb5.size
          by_cases hkl : k < H.length
          · obtain ⟨y, hy⟩ : ∃ y, H[k]? = some y := ⟨H[k], List.getElem?_eq_getElem hkl⟩
            have hym := (HHm.out y).1 (List.mem_of_getElem? hy)
            obtain ⟨g3, off3, rfl, -, x1⟩ := (HO3.out _ hb).nat hy
            obtain ⟨q0, q1, -, -, -⟩ := (X2.out.below hb5 X2.out.lt).two
            have Hy := Lib.hid hy
            have hyN := hym.1
            clear hy hym
            go_wp2_with fail
            refine (l10Turn_any N x y A n c B xs _ (P2.out.below hb5) HG.out hlt hyN).mono ?_
            rintro e w5 ⟨rfl, hb6⟩
            have hb7 := hb5.trans (hb6.mono hbs5)
            have hb8 := hb.trans (hb6.mono hb.size)
            have hzN := HG.out.conj_lt hlt hyN
            obtain ⟨z, hz⟩ : ∃ z, conj N xs x y = z := ⟨_, rfl⟩
            have Hz := Lib.hid hz
            rw [hz] at hzN
            rw [hz]
            have hcell := ((hO2.out _ hb7).bcell hzN).2.2.1
            clear hz hb6 x1 q0 q1
            cases hp : genB N xs G z
            · rw [hp] at hcell
              have He2 := Lib.hid (cdec_no (P := Norm N xs G) (fun h => not_cdec hp (by have h2 := h x hlt y ((HHm.out y).1 (List.mem_of_getElem? Hy.out)).2; rw [Hz.out] at h2; exact h2)))
              clear hp
              go_wp2_with fail
              go_ret
              exact ⟨ret_bool (by rw [He.out, He2.out]), b2.trans (hb7.mono hbs2)⟩
            · rw [hp] at hcell
              have HK1 : Hid (∀ j y, j < k + 1 → H[j]? = some y → Gen N xs G (conj N xs x y)) := fun j y' hj hy' => by
                by_cases ej : j = k
                · subst ej; rw [Hy.out] at hy'; obtain rfl := Option.some.inj hy'; rw [Hz.out]; exact of_cdec hp
                · exact HK.out j y' (by omega) hy'
              clear hp
              go_wp2_with fail
              go_roundw
              case rel => exact ⟨k + 1, by go_num, by omega, HK1, hb8⟩
              case measure => simp [intOf]; omega
          · obtain rfl : H.length = k := by omega
            have HI1 : Hid (∀ a, a < x + 1 → ∀ y, Gen N xs G y → Gen N xs G (conj N xs a y)) := fun a ha y hy => by
              by_cases ea : a = x
              · subst ea
                obtain ⟨j, hj⟩ := List.getElem?_of_mem ((HHm.out y).2 ⟨hy.lt HG.out.tab HGs.out, hy⟩)
                exact HK.out j y (List.getElem?_eq_some_iff.1 hj).1 hj
              · exact HI.out a (by omega) y hy
            go_wp2_with fail
            go_roundw
            case rel => exact ⟨x + 1, by go_num, by omega, HI1, hb5⟩
            case measure => simp [intOf]; omega
      · obtain rfl : N = x := by omega
        have He2 := Lib.hid (cdec_yes (P := Norm N xs G) (fun a ha y hy => HI.out a ha y hy))
        go_wp2_with fail
        go_ret
        exact ⟨ret_bool (by rw [He.out, He2.out]), b2.trans (hb.mono hbs2)⟩
end Go.Proofs.Ytkiomohpmajjcaa
