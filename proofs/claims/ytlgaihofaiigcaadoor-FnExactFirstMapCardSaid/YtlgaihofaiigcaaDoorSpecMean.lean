/- The model's ImagesOk, ValueOf, SatisfiesRules. -/
import Derived.Test.YtlgaihofaiigcaaDoorMeanPlain
import Derived.Test.YtlgaihofaiigcaaDoorSpecTab2
import Derived.Test.YtlgaihofaiigcaaDoorMeaning
namespace Go.Proofs.YtlgaihofaiigcaaDoor
open Go.RowKit

set_option maxRecDepth 100000 in
set_option maxHeartbeats 1600000 in
theorem specImagesOk (q : Int) (A E : Option Addr) (n c m d B D : Nat) (xs es : List Int) (w : World) (h : Own B w (.slice A n c) 1 n (ints xs)) (hE : Own D w (.slice E m d) 1 m (ints es)) (hn : n ≤ 1048576) :
    Calls Tryd.prog 34 #[tabV q A n c, .slice E m d] w fun e w' => e = .returned (.bool (imagesOk q xs es)) ∧ Below w.heap.size w w' := by
  have HO := Lib.hid (h.below (bel1 w (.cells #[.int .i64 q, .slice A n c] 28)))
  have HE := Lib.hid (fun (w' : World) (hb : Below w.heap.size w w') => hE.below hb)
  have Hml := Lib.hid hE.ilen
  clear h hE
  go_enter Tryd.func34, Tryd.ntmps34
  go_wp2_with fail
  refine (specTableOk q A n c B xs _ HO.out hn).mono ?_
  rintro e w1 ⟨rfl, hb1⟩
  have b1 := (bel1 w _).trans (hb1.mono (by simp))
  have X1 := Lib.hid ((Blk.new1 w _ _).below hb1 (by simp))
  obtain ⟨q0, q1, -, -, ql⟩ := X1.out.two
  clear hb1 HO
  cases hT : tableOk q xs
  · have He := Lib.hid (imagesOk_tab (es := es) hT)
    clear hT
    go_wp2_with fail
    go_ret
    exact ⟨ret_bool He.out.symm, b1⟩
  obtain ⟨N, rfl, hTab⟩ := tableOk_iff hT
  have HT := Lib.hid hTab
  have h40 := hTab.hi
  have h1 := hTab.lo
  clear hT hTab
  by_cases h4 : 1 ≤ m ∧ m ≤ 4
  · obtain ⟨h41, h44⟩ := h4
    go_wp2_with fail
    refine (l01In_yes _ _ _ _ (by omega) (by omega)).mono ?_
    rintro e w2 ⟨rfl, rfl⟩
    go_wp2_with fail
    go_loop [18] (fun i => ∃ k : Nat, i = .int .i64 k ∧ k ≤ m ∧ Hid (∀ j s, j < k → es[j]? = some s → elemOk N xs s = true)) (fun i => m - (intOf i).toNat)
    case atStart => exact ⟨0, rfl, Nat.zero_le _, fun j s hj => absurd hj (by omega)⟩
    case round =>
      obtain ⟨k, rfl, hk, HI⟩ := hrel
      by_cases hlt : k < m
      · obtain ⟨g, off, c0, hv⟩ := (HE.out _ b1).formR (by omega)
        obtain ⟨rfl, rfl⟩ : E = some ⟨g, off, none⟩ ∧ d = c0 := by injection hv with a _ b; exact ⟨a, b⟩
        clear hv
        obtain ⟨s, hs, hx⟩ := (HE.out _ b1).iget hlt
        have Hs := Lib.hid hs
        clear hs
        by_cases hr : 0 ≤ s ∧ s ≤ (N : Int) - 1
        · have HI1 : Hid (∀ j s, j < k + 1 → es[j]? = some s → elemOk N xs s = true) := fun j t hj ht => by
            by_cases e : j = k
            · subst e
              rw [Hs.out] at ht
              obtain rfl := Option.some.inj ht
              obtain ⟨i, rfl⟩ : ∃ i : Nat, s = i := ⟨s.toNat, by omega⟩
              exact elemOk_yes HT.out (by omega)
            · exact HI.out j t (by omega) ht
          obtain ⟨hr0, hr1⟩ := hr
          go_wp2_with fail
          refine (l01In_yes _ _ _ _ hr0 hr1).mono ?_
          rintro e w2 ⟨rfl, rfl⟩
          go_wp2_with fail
          go_round
          case rel => exact ⟨k + 1, by go_num, by omega, HI1⟩
          case measure => simp [intOf]; omega
        · have He := Lib.hid (imagesOk_bad Hs.out (elemOk_no (N := N) (xs := xs) (i := s) (by omega)))
          have Hr := Lib.hid (show s < 0 ∨ (N : Int) - 1 < s by omega)
          clear hr
          go_wp2_with fail
          refine (l01In_no _ _ _ _ Hr.out).mono ?_
          rintro e w2 ⟨rfl, rfl⟩
          go_wp2_with fail
          go_ret
          exact ⟨ret_bool He.out.symm, b1⟩
      · obtain rfl : m = k := by omega
        have He := Lib.hid (show imagesOk N xs es = true from imagesOk_yes (by rw [Hml.out]; exact h41) (by rw [Hml.out]; exact h44) (by
          unfold allOk
          rw [tableOk_yes HT.out, Bool.true_and, List.all_eq_true]
          intro s hs
          obtain ⟨j, hj⟩ := List.getElem?_of_mem hs
          exact HI.out j s (by have := (List.getElem?_eq_some_iff.1 hj).1; have := Hml.out; omega) hj))
        go_wp2_with fail
        go_ret
        exact ⟨ret_bool He.out.symm, b1⟩
  · have He := Lib.hid (imagesOk_len (q := N) (xs := xs) (es := es) (by rw [Hml.out]; exact h4))
    have Hr := Lib.hid (show (m : Int) < 1 ∨ (4 : Int) < m by omega)
    clear h4
    go_wp2_with fail
    refine (l01In_no _ _ _ _ Hr.out).mono ?_
    rintro e w2 ⟨rfl, rfl⟩
    go_wp2_with fail
    go_ret
    exact ⟨ret_bool He.out.symm, b1⟩
set_option maxRecDepth 100000 in
set_option maxHeartbeats 1600000 in
theorem l11Value_any (N : Nat) (A E : Option Addr) (n c m d B D : Nat) (xs : List Int) (I : List Nat) (s : ByteArray) (w : World) (h : Own B w (.slice A n c) 1 n (ints xs)) (hE : Own D w (.slice E m d) 1 m (ints (nints I))) (hT : TabOk N xs) (hI : ∀ i ∈ I, i < N) (hI4 : I.length ≤ 4) (hs : written I.length s = true) (hs2 : s.size ≤ 1048576) :
    Calls Tryd.prog 36 #[tabV N A n c, .slice E m d, .string s] w fun e w' => e = .returned (.int .i64 (meanS N xs I s : Nat)) ∧ Below w.heap.size w w' := by
  have HO := Lib.hid (fun (w' : World) (hb : Below w.heap.size w w') => h.below hb)
  have HE := Lib.hid (fun (w' : World) (hb : Below w.heap.size w w') => hE.below hb)
  have HT := Lib.hid hT
  have HI := Lib.hid hI
  have HS := Lib.hid (fun j hj => written_at hs j hj)
  clear h hE hT hI hs
  go_enter Tryd.func36, Tryd.ntmps36
  go_wp2_with fail
  have X1 := Lib.hid (Blk.new1 w #[.int .i64 (N : Int), .slice A n c] 28)
  have hb0 := bel1 w (.cells #[.int .i64 (N : Int), .slice A n c] 28)
  generalize w.alloc (.cells #[.int .i64 (N : Int), .slice A n c] 28) = w1 at *
  go_loopw [7, 8] (fun v i' wr => ∃ k : Nat, k ≤ s.size ∧ i' = .int .i64 k ∧ v = .int .i64 (meanTo N xs I s k : Nat) ∧ Below w1.heap.size w1 wr) (fun _ i' _ => s.size - (intOf i').toNat)
  case atStart => exact ⟨0, Nat.zero_le _, rfl, rfl, Below.refl _ _⟩
  case round =>
    obtain ⟨k, hk, rfl, rfl, hb⟩ := hrel
    have hbw := hb0.trans (hb.mono hb0.size)
    by_cases hkl : k < s.size
    · have ha := HS.out k hkl
      obtain ⟨j, hj⟩ : ∃ j : Nat, (s[k].toNat : Int) = 97 + j := ⟨s[k].toNat - 97, by unfold among at ha; simp only [Bool.and_eq_true, decide_eq_true_eq] at ha; omega⟩
      have hji := img_at ha hj
      have hj4 : j < 4 := by have := (List.getElem?_eq_some_iff.1 hji).1; omega
      obtain ⟨qb, off, rfl, hjm, x0⟩ := (HE.out _ hbw).natI hji
      have Hst := Lib.hid (meanTo_step N xs I s k hkl)
      have Hlt := Lib.hid (meanTo_lt HT.out HI.out s k hk)
      have Hil := Lib.hid (img_lt HT.out.lo HI.out s[k])
      generalize meanTo N xs I s k = V at *
      generalize img I s[k] = z at *
      obtain ⟨q0, q1, -, -, -⟩ := (X1.out.below hb X1.out.lt).two
      have HW := Lib.hid (fun (w' : World) (hS : Below wr.heap.size wr w') => HO.out _ (hbw.trans (hS.mono hbw.size)))
      have hD0 : Below wr.heap.size wr wr.drew := (Below.refl _ wr).drew
      have hs1 := hb.size
      clear hji ha
      go_wp2_with fail
      have e5 : IntKind.u8.wrap (97 + (j : Int) - 97) = (j : Int) := by rw [show 97 + (j : Int) - 97 = j by omega]; exact IntWalk.u8_in _ ⟨by omega, by omega⟩
      have e6 : IntKind.i64.wrap (j : Int) = (j : Int) := IntWalk.i64_in _ ⟨by omega, by omega⟩
      have g0 : (0 : Int) ≤ (j : Int) := by omega
      have g1 : (j : Int) < (m : Int) := by omega
      have g2 : (0 : Int) ≤ (k : Int) := by omega
      have g3 : (k : Int) < (s.size : Int) := by omega
      go_region_with ((go_at_call 60; refine (l08Times_any N V z A n c B xs _ (HW.out _ (by assumption)) HT.out Hlt.out Hil.out).mono ?_; rintro e w9 ⟨rfl, hb9⟩; have hB9 := Below.trans (by assumption : Below wr.heap.size wr _) (hb9.mono (Below.size (by assumption)))))
      all_goals (go_wp2_with fail; go_roundw; (case rel => exact ⟨k + 1, by omega, by go_num, by rw [Hst.out], hb.trans (hB9.mono hs1)⟩); (case measure => simp [intOf]; omega))
    · obtain rfl : s.size = k := by omega
      have He := Lib.hid (show meanTo N xs I s s.size = meanS N xs I s from rfl)
      generalize meanTo N xs I s s.size = V at *
      go_wp2_with fail
      go_ret
      exact ⟨ret_i64 (by rw [← He.out]), hbw⟩
set_option maxRecDepth 100000 in
set_option maxHeartbeats 800000 in
theorem specValueOf (q : Int) (A E : Option Addr) (n c m d B D : Nat) (xs es : List Int) (s : ByteArray) (w : World) (h : Own B w (.slice A n c) 1 n (ints xs)) (hE : Own D w (.slice E m d) 1 m (ints es)) (hn : n ≤ 1048576) (hs : s.size ≤ 1048576) :
    Calls Tryd.prog 10 #[tabV q A n c, .slice E m d, .string s] w fun e w' => e = .returned (.tuple #[.int .i64 (valueOf q xs es s).1, .bool (valueOf q xs es s).2]) ∧ Below w.heap.size w w' := by
  have HO := Lib.hid (fun (w' : World) (hb : Below w.heap.size w w') => h.below hb)
  have HE := Lib.hid (fun (w' : World) (hb : Below w.heap.size w w') => hE.below hb)
  have Hml := Lib.hid hE.ilen
  clear h hE
  go_enter Tryd.func10, Tryd.ntmps10
  go_wp2_with fail
  refine (specImagesOk q A E n c m d B D xs es _ (HO.out _ (bel1 _ _)) (HE.out _ (bel1 _ _)) hn).mono ?_
  rintro e w1 ⟨rfl, hb1⟩
  have b1 := (bel1 w _).trans (hb1.mono (by simp))
  have X1 := Lib.hid ((Blk.new1 w _ _).below hb1 (by simp))
  obtain ⟨q0, q1, -, -, ql⟩ := X1.out.two
  clear hb1
  cases hi : imagesOk q xs es
  · have He := Lib.hid (valueOf_no1 (s := s) hi)
    clear hi
    go_wp2_with fail
    go_ret2
    exact ⟨ret_ib He.out, b1⟩
  obtain ⟨N, I, rfl, hI⟩ := imagesOk_iff hi
  have HI := Lib.hid hI
  have hmI : m = I.length := by have := Hml.out; rw [hI.len] at this; omega
  obtain rfl := hI.eq
  clear hi hI
  subst hmI
  go_wp2_with fail
  refine (specWordOk I.length s _ hs).mono ?_
  rintro e w2 ⟨rfl, rfl⟩
  cases hw : wordOk I.length s
  · have He := Lib.hid (valueOf_no2 (q := N) (xs := xs) (es := nints I) (s := s) (by rw [HI.out.len]; exact hw))
    clear hw
    go_wp2_with fail
    go_ret2
    exact ⟨ret_ib He.out, b1⟩
  · have He := Lib.hid (valueOf_yes HI.out hw)
    have Hw : Hid (written I.length s = true) := by
      rw [wordOk_yes] at hw
      · exact hw
      · unfold wordOk at hw
        simp only [Bool.and_eq_true, decide_eq_true_eq] at hw
        omega
    clear hw
    go_wp2_with fail
    refine (l11Value_any N A E n c _ d B D xs I s _ (HO.out _ b1) (HE.out _ b1) HI.out.tab HI.out.lt HI.out.hi Hw.out hs).mono ?_
    rintro e w3 ⟨rfl, hb3⟩
    have b3 := b1.trans (hb3.mono b1.size)
    generalize meanS N xs I s = U at *
    clear hb3
    go_wp2_with fail
    go_ret2
    exact ⟨ret_ib He.out, b3⟩
set_option maxRecDepth 100000 in
set_option maxHeartbeats 1600000 in
theorem l11Fits_any (k : Int) (Z : Option Addr) (nz cz Bz : Nat) (l : List R) (N : Nat) (A E : Option Addr) (n c m d B D : Nat) (xs : List Int) (I : List Nat) (w : World) (hZ : Own Bz w (.slice Z nz cz) 2 nz (rulesC l)) (h : Own B w (.slice A n c) 1 n (ints xs)) (hE : Own D w (.slice E m d) 1 m (ints (nints I))) (hT : TabOk N xs) (hI : ∀ i ∈ I, i < N) (hI4 : I.length ≤ 4)
    (hl : ∀ r ∈ l, (r.1.size ≤ 8 ∧ written I.length r.1 = true) ∧ r.2.size ≤ 8 ∧ written I.length r.2 = true) (hnz : nz ≤ 1048576) :
    Calls Tryd.prog 42 #[.agg #[.int .i64 k, .slice Z nz cz], tabV N A n c, .slice E m d] w fun e w' => e = .returned (.bool (obeyB N xs I l)) ∧ Below w.heap.size w w' := by
  have HZ := Lib.hid (fun (w' : World) (hb : Below w.heap.size w w') => hZ.below hb)
  have HO := Lib.hid (fun (w' : World) (hb : Below w.heap.size w w') => h.below hb)
  have HE := Lib.hid (fun (w' : World) (hb : Below w.heap.size w w') => hE.below hb)
  have Hlen := Lib.hid hZ.rlen
  have HT := Lib.hid hT
  have HI := Lib.hid hI
  have HL := Lib.hid hl
  clear h hE hT hI hl hZ
  go_enter Tryd.func42, Tryd.ntmps42
  go_wp2_with fail
  have b0 := bel2 w (.cells #[.int .i64 k, .slice Z nz cz] 41) (.cells #[.int .i64 (N : Int), .slice A n c] 28)
  have Y0 := Lib.hid (Blk.new2 w (.cells #[.int .i64 k, .slice Z nz cz] 41) #[.int .i64 (N : Int), .slice A n c] 28)
  generalize (w.alloc (.cells #[.int .i64 k, .slice Z nz cz] 41)).alloc (.cells #[.int .i64 (N : Int), .slice A n c] 28) = w0 at *
  go_loopw [12] (fun i' wr => ∃ j : Nat, i' = .int .i64 j ∧ j ≤ nz ∧ Hid (∀ (i : Nat) (r : R), i < j → l[i]? = some r → meanS N xs I r.1 = meanS N xs I r.2) ∧ Below w0.heap.size w0 wr) (fun i' _ => nz - (intOf i').toNat)
  case atStart => exact ⟨0, rfl, Nat.zero_le _, fun j r hj => absurd hj (by omega), Below.refl _ _⟩
  case round =>
    obtain ⟨j, rfl, hj, HX, hb⟩ := hrel
    have hbs := hb.size
    have hbw := b0.trans (hb.mono b0.size)
    have hbws := hbw.size
    by_cases hlt : j < nz
    · have ho := HZ.out _ hbw
      obtain ⟨q, off, c0, hv⟩ := ho.formR (by omega)
      obtain ⟨rfl, rfl⟩ : Z = some ⟨q, off, none⟩ ∧ cz = c0 := by injection hv with a _ b; exact ⟨a, b⟩
      clear hv
      obtain ⟨-, hgl, ⟨u, v⟩, hr, x0, x1, -, -⟩ := ho.rule hlt
      have Hr := Lib.hid hr
      obtain ⟨⟨hu8, huw⟩, hv8, hvw⟩ := HL.out _ (List.mem_of_getElem? hr)
      have Huw := Lib.hid huw
      have Hvw := Lib.hid hvw
      have hu20 : u.size ≤ 1048576 := Nat.le_trans hu8 (by decide)
      have hv20 : v.size ≤ 1048576 := Nat.le_trans hv8 (by decide)
      have hb3 := hb.alloc hbs (.cells #[.string u, .string v] 100)
      have HB3 := Lib.hid (Blk.new1 wr #[.string u, .string v] 100)
      clear hr ho huw hvw hu8 hv8
      go_wp2_with fail
      clear x0 x1
      have hs3 : (wr.alloc (.cells #[.string u, .string v] 100)).heap.size = wr.heap.size + 1 := by simp
      generalize wr.alloc (.cells #[.string u, .string v] 100) = w3 at *
      obtain ⟨r0, r1, -, -, rl⟩ := HB3.out.two
      obtain ⟨y0, y1, -, -, yl⟩ := (Y0.out.below hb3 Y0.out.lt).two
      have hbw3 := b0.trans (hb3.mono b0.size)
      have HW := Lib.hid (fun (w' : World) (hS : w'.cell? ⟨w.heap.size + 1, 0, none⟩ = some (.int .i64 (N : Int)) ∧ w'.cell? ⟨w.heap.size + 1, 1, none⟩ = some (.slice A n c) ∧ w'.cell? ⟨wr.heap.size, 0, none⟩ = some (.string u) ∧ w'.cell? ⟨wr.heap.size, 1, none⟩ = some (.string v) ∧ Below w3.heap.size w3 w') => HO.out _ (hbw3.trans (hS.2.2.2.2.mono hbw3.size)))
      have HQ := Lib.hid (fun (w' : World) (hS : w'.cell? ⟨w.heap.size + 1, 0, none⟩ = some (.int .i64 (N : Int)) ∧ w'.cell? ⟨w.heap.size + 1, 1, none⟩ = some (.slice A n c) ∧ w'.cell? ⟨wr.heap.size, 0, none⟩ = some (.string u) ∧ w'.cell? ⟨wr.heap.size, 1, none⟩ = some (.string v) ∧ Below w3.heap.size w3 w') => HE.out _ (hbw3.trans (hS.2.2.2.2.mono hbw3.size)))
      by_cases hUV : meanS N xs I u = meanS N xs I v
      · have HX1 : Hid (∀ (i : Nat) (r : R), i < j + 1 → l[i]? = some r → meanS N xs I r.1 = meanS N xs I r.2) := fun i r hi hr => by
          by_cases e : i = j
          · subst e
            rw [Hr.out] at hr
            obtain rfl := Option.some.inj hr
            exact hUV
          · exact HX.out i r (by omega) hr
        have HUV := Lib.hid hUV
        clear hUV HX
        generalize hUe : meanS N xs I v = U at HUV
        have HUe := Lib.hid hUe
        clear hUe
        go_region_held3 (fun w' => w'.cell? ⟨w.heap.size + 1, 0, none⟩ = some (.int .i64 (N : Int)) ∧ w'.cell? ⟨w.heap.size + 1, 1, none⟩ = some (.slice A n c) ∧ w'.cell? ⟨wr.heap.size, 0, none⟩ = some (.string u) ∧ w'.cell? ⟨wr.heap.size, 1, none⟩ = some (.string v) ∧ Below w3.heap.size w3 w')
          (first | exact ⟨y0, y1, r0, r1, (Below.refl _ w3).drew⟩ | exact held4_keep (by assumption) hb9 (Nat.le_refl _) yl rl)
          ((first | (go_at_call_of 36 (Value.string u); refine (l11Value_any N A E n c m d B D xs I u _ (HW.out _ (by assumption)) (HQ.out _ (by assumption)) HT.out HI.out hI4 Huw.out hu20).mono ?_; rw [HUV.out]; rintro e w9 ⟨rfl, hb9⟩) | (go_at_call_of 36 (Value.string v); refine (l11Value_any N A E n c m d B D xs I v _ (HW.out _ (by assumption)) (HQ.out _ (by assumption)) HT.out HI.out hI4 Hvw.out hv20).mono ?_; rw [HUe.out]; rintro e w9 ⟨rfl, hb9⟩)))
        have b9 := (‹_ ∧ _ ∧ _ ∧ _ ∧ Below w3.heap.size w3 w9›).2.2.2.2
        have hb10 := hb3.trans (b9.mono hb3.size)
        clear b9 hb9
        go_wp2_with fail
        go_roundw
        case rel => exact ⟨j + 1, by go_num, by omega, HX1, hb10⟩
        case measure => simp [intOf]; omega
      · have He := Lib.hid (obeyB_no Hr.out hUV)
        generalize hU1 : meanS N xs I u = U at *
        generalize hU2 : meanS N xs I v = U' at *
        have HU1 := Lib.hid hU1
        have HU2 := Lib.hid hU2
        have e3 : ((U : Int) == (U' : Int)) = false := by simp; omega
        have e4 : ((U : Int) != (U' : Int)) = true := by simp; omega
        clear hUV hU1 hU2
        go_region_held3 (fun w' => w'.cell? ⟨w.heap.size + 1, 0, none⟩ = some (.int .i64 (N : Int)) ∧ w'.cell? ⟨w.heap.size + 1, 1, none⟩ = some (.slice A n c) ∧ w'.cell? ⟨wr.heap.size, 0, none⟩ = some (.string u) ∧ w'.cell? ⟨wr.heap.size, 1, none⟩ = some (.string v) ∧ Below w3.heap.size w3 w')
          (first | exact ⟨y0, y1, r0, r1, (Below.refl _ w3).drew⟩ | exact held4_keep (by assumption) hb9 (Nat.le_refl _) yl rl)
          ((first | (go_at_call_of 36 (Value.string u); refine (l11Value_any N A E n c m d B D xs I u _ (HW.out _ (by assumption)) (HQ.out _ (by assumption)) HT.out HI.out hI4 Huw.out hu20).mono ?_; rw [HU1.out]; rintro e w9 ⟨rfl, hb9⟩) | (go_at_call_of 36 (Value.string v); refine (l11Value_any N A E n c m d B D xs I v _ (HW.out _ (by assumption)) (HQ.out _ (by assumption)) HT.out HI.out hI4 Hvw.out hv20).mono ?_; rw [HU2.out]; rintro e w9 ⟨rfl, hb9⟩)))
        have b9 := (‹_ ∧ _ ∧ _ ∧ _ ∧ Below w3.heap.size w3 w9›).2.2.2.2
        have hb10 := hbw3.trans (b9.mono hbw3.size)
        clear b9 hb9
        go_wp2_with fail
        go_ret
        exact ⟨ret_bool He.out.symm, hb10⟩
    · obtain rfl : nz = j := by omega
      have He := Lib.hid (obeyB_yes (N := N) (xs := xs) (I := I) (l := l) fun j r hr => HX.out j r (by have := (List.getElem?_eq_some_iff.1 hr).1; have := Hlen.out; omega) hr)
      go_wp2_with fail
      go_ret
      exact ⟨ret_bool He.out.symm, hbw⟩
set_option maxRecDepth 100000 in
set_option maxHeartbeats 1600000 in
theorem specSatisfiesRules (k : Int) (Z : Option Addr) (nz cz Bz : Nat) (l : List R) (q : Int) (A E : Option Addr) (n c m d B D : Nat) (xs es : List Int) (w : World) (hZ : Own Bz w (.slice Z nz cz) 2 nz (rulesC l)) (hsm : smallR l) (h : Own B w (.slice A n c) 1 n (ints xs)) (hE : Own D w (.slice E m d) 1 m (ints es)) (hn : n ≤ 1048576) :
    Calls Tryd.prog 17 #[.agg #[.int .i64 k, .slice Z nz cz], tabV q A n c, .slice E m d] w fun e w' => e = .returned (.bool (satisfies k l q xs es)) ∧ Below w.heap.size w w' := by
  have b0 := bel2 w (.cells #[.int .i64 k, .slice Z nz cz] 41) (.cells #[.int .i64 q, .slice A n c] 28)
  have HZ := Lib.hid (fun (w' : World) (hb : Below w.heap.size w w') => hZ.below hb)
  have HO := Lib.hid (fun (w' : World) (hb : Below w.heap.size w w') => h.below hb)
  have HE := Lib.hid (fun (w' : World) (hb : Below w.heap.size w w') => hE.below hb)
  have X0 := Lib.hid ((Blk.new1 w #[.int .i64 k, .slice Z nz cz] 41).alloc (.cells #[.int .i64 q, .slice A n c] 28))
  have Y0 := Lib.hid (Blk.new2 w (.cells #[.int .i64 k, .slice Z nz cz] 41) #[.int .i64 q, .slice A n c] 28)
  have Hml := Lib.hid hE.ilen
  have Hsm := Lib.hid hsm
  clear h hE hZ hsm
  go_enter Tryd.func17, Tryd.ntmps17
  go_wp2_with fail
  generalize (w.alloc (.cells #[.int .i64 k, .slice Z nz cz] 41)).alloc (.cells #[.int .i64 q, .slice A n c] 28) = w0 at *
  refine (specRulesOk k Z nz cz Bz l _ (HZ.out _ b0) Hsm.out).mono ?_
  rintro e w1 ⟨rfl, hb1⟩
  have b1 := b0.trans (hb1.mono b0.size)
  have X1 := Lib.hid (X0.out.below hb1 X0.out.lt)
  have Y1 := Lib.hid (Y0.out.below hb1 Y0.out.lt)
  clear hb1 X0 Y0
  obtain ⟨x0, x1, -, -, xl⟩ := X1.out.two
  obtain ⟨y0, y1, -, -, yl⟩ := Y1.out.two
  cases hr : rulesOk k l
  · have He := Lib.hid (satisfies_no1 (q := q) (xs := xs) (es := es) hr)
    clear hr
    go_wp2_with fail
    go_ret
    exact ⟨ret_bool He.out.symm, b1⟩
  have Hr := Lib.hid hr
  clear hr
  go_wp2_with fail
  refine (specImagesOk q A E n c m d B D xs es _ (HO.out _ b1) (HE.out _ b1) hn).mono ?_
  rintro e w2 ⟨rfl, hb2⟩
  have b2 := b1.trans (hb2.mono b1.size)
  have X2 := Lib.hid (X1.out.below hb2 X1.out.lt)
  have Y2 := Lib.hid (Y1.out.below hb2 Y1.out.lt)
  clear hb2 x0 x1 xl y0 y1 yl X1 Y1
  obtain ⟨x0, x1, -, -, xl⟩ := X2.out.two
  obtain ⟨y0, y1, -, -, yl⟩ := Y2.out.two
  cases hi : imagesOk q xs es
  · have He := Lib.hid (satisfies_no2 (k := k) (l := l) hi)
    clear hi
    go_wp2_with fail
    go_ret
    exact ⟨ret_bool He.out.symm, b2⟩
  obtain ⟨N, I, rfl, hI⟩ := imagesOk_iff hi
  have HI := Lib.hid hI
  have hmI : m = I.length := by have := Hml.out; rw [hI.len] at this; omega
  obtain rfl := hI.eq
  clear hi hI
  subst hmI
  by_cases hmk : (I.length : Int) = k
  · have Hs := Lib.hid (satisfies_at HI.out Hr.out hmk)
    have hnz : nz ≤ 1048576 := by have h1 := (rulesOk_letters Hr.out).2.2; have := (HZ.out _ b2).rlen; omega
    subst hmk
    go_wp2_with fail
    refine (l11Fits_any _ Z nz cz Bz l N A E n c _ d B D xs I _ (HZ.out _ b2) (HO.out _ b2) (HE.out _ b2) HI.out.tab HI.out.lt HI.out.hi (fun r hr => rulesOk_side Hr.out hr) hnz).mono ?_
    rintro e w3 ⟨rfl, hb3⟩
    have b3 := b2.trans (hb3.mono b2.size)
    clear hb3
    go_wp2_with fail
    go_ret
    exact ⟨ret_bool Hs.out.symm, b3⟩
  · have He := Lib.hid (satisfies_no3 (k := k) (l := l) (q := N) (xs := xs) (es := nints I) (by rw [HI.out.len]; exact hmk))
    have e1 : ((I.length : Int) == k) = false := by simp [hmk]
    clear hmk
    go_wp2_with fail
    go_ret
    exact ⟨ret_bool He.out.symm, b2⟩
end Go.Proofs.YtlgaihofaiigcaaDoor
