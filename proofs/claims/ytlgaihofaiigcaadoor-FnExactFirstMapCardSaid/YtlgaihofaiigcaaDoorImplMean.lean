/- The program's ImagesOk, ValueOf, SatisfiesRules. -/
import Derived.Test.YtlgaihofaiigcaaDoorMeaning
import Derived.BigQuiet
namespace Go.Proofs.YtlgaihofaiigcaaDoor
open Go.RowKit

set_option maxRecDepth 100000 in
set_option maxHeartbeats 1600000 in
theorem keepsRules_any (g N B D m c n cr : Nat) (V A : Option Addr) (xs : List Int) (I : List Nat) (l : List R) (w : World) (h : Means B w (.slice V m c) g N xs I) (hO : Own D w (.slice A n cr) 2 n (rulesC l)) (hT : TabOk N xs) (hI : ∀ i ∈ I, i < N) (hI4 : I.length ≤ 4)
    (hl : ∀ r ∈ l, (r.1.size ≤ 8 ∧ written I.length r.1 = true) ∧ r.2.size ≤ 8 ∧ written I.length r.2 = true) (hn : n ≤ 1048576) :
    Calls Tryd.prog 70 #[.slice V m c, .slice A n cr] w fun e w' => e = .returned (.bool (obeyB N xs I l)) ∧ Below w.heap.size w w' := by
  have HF := Lib.hid (fun (w' : World) (hb : Below w.heap.size w w') => h.below hb)
  have HO := Lib.hid (fun (w' : World) (hb : Below w.heap.size w w') => hO.below hb)
  have Hlen := Lib.hid hO.rlen
  have HT := Lib.hid hT
  have HI := Lib.hid hI
  have HL := Lib.hid hl
  clear h hO hT hI hl
  go_enter Tryd.func70, Tryd.ntmps70
  go_wp2_with fail
  go_loopw [9] (fun i' wr => ∃ k : Nat, i' = .int .i64 k ∧ k ≤ n ∧ Hid (∀ (j : Nat) (r : R), j < k → l[j]? = some r → meanS N xs I r.1 = meanS N xs I r.2) ∧ Below w.heap.size w wr) (fun i' _ => n - (intOf i').toNat)
  case atStart => exact ⟨0, rfl, Nat.zero_le _, fun j r hj => absurd hj (by omega), Below.refl _ _⟩
  case round =>
    obtain ⟨k, rfl, hk, HX, hb⟩ := hrel
    have hbs := hb.size
    by_cases hlt : k < n
    · have ho := HO.out _ hb
      obtain ⟨q, off, c0, hv⟩ := ho.formR (by omega)
      obtain ⟨rfl, rfl⟩ : A = some ⟨q, off, none⟩ ∧ cr = c0 := by injection hv with a _ b; exact ⟨a, b⟩
      clear hv
      obtain ⟨-, hgl, ⟨u, v⟩, hr, x0, x1, -, -⟩ := ho.rule hlt
      have Hr := Lib.hid hr
      obtain ⟨⟨hu8, huw⟩, hv8, hvw⟩ := HL.out _ (List.mem_of_getElem? hr)
      have hb3 := hb.alloc hbs (.cells #[.string u, .string v] 100)
      have HB3 := Lib.hid (Blk.new1 wr #[.string u, .string v] 100)
      clear hr ho
      go_wp2_with fail
      generalize wr.alloc (.cells #[.string u, .string v] 100) = w3 at *
      have y0 := HB3.out.cell 0
      have y1 := HB3.out.cell 1
      simp only [List.getElem?_toArray, List.getElem?_cons_zero, List.getElem?_cons_succ] at y0 y1
      have HU := Lib.hid (fun p => meanValue_any g N B m c V xs I u (w3.drewN p) (HF.out _ (below_drewN hb3 p)) HT.out HI.out hI4 huw (by omega))
      have HV := Lib.hid (fun p => meanValue_any g N B m c V xs I v (w3.drewN p) (HF.out _ (below_drewN hb3 p)) HT.out HI.out hI4 hvw (by omega))
      clear huw hvw hu8 hv8 x0 x1
      by_cases hUV : meanS N xs I u = meanS N xs I v
      · have HX1 : Hid (∀ (j : Nat) (r : R), j < k + 1 → l[j]? = some r → meanS N xs I r.1 = meanS N xs I r.2) := fun j r hj hr => by
          by_cases e : j = k
          · subst e
            rw [Hr.out] at hr
            obtain rfl := Option.some.inj hr
            exact hUV
          · exact HX.out j r (by omega) hr
        rw [hUV] at HU
        clear hUV HX
        generalize meanS N xs I v = U at HU HV
        go_quiet ((first | (go_at_call_of 39 (Value.string u); exact Calls.quiet_of (HU.out _)) | (go_at_call_of 39 (Value.string v); exact Calls.quiet_of (HV.out _))))
        all_goals go_wp2_with fail
        go_roundw
        case rel => exact ⟨k + 1, by go_num, by omega, HX1, below_drewN hb3 _⟩
        case measure => simp [intOf]; omega
      · have He := Lib.hid (obeyB_no Hr.out hUV)
        generalize meanS N xs I u = U at *
        generalize meanS N xs I v = U' at *
        have e3 : ((U : Int) == (U' : Int)) = false := by simp; omega
        have e4 : ((U : Int) != (U' : Int)) = true := by simp; omega
        clear hUV
        go_quiet ((first | (go_at_call_of 39 (Value.string u); exact Calls.quiet_of (HU.out _)) | (go_at_call_of 39 (Value.string v); exact Calls.quiet_of (HV.out _))))
        all_goals go_wp2_with fail
        go_ret
        exact ⟨ret_bool He.out.symm, below_drewN hb3 _⟩
    · obtain rfl : n = k := by omega
      have He := Lib.hid (obeyB_yes (N := N) (xs := xs) (I := I) (l := l) fun j r hr => HX.out j r (by have := (List.getElem?_eq_some_iff.1 hr).1; have := Hlen.out; omega) hr)
      go_wp2_with fail
      go_ret
      exact ⟨ret_bool He.out.symm, hb⟩
def MPost (q : Int) (xs es : List Int) (B : Nat) (e : Ending) (w' : World) : Prop :=
  (∃ (N g c : Nat) (A : Option Addr) (I : List Nat), q = N ∧ Imgs N xs es I ∧ e = .returned (.tuple #[.slice A I.length c, .bool true]) ∧ Means B w' (.slice A I.length c) g N xs I) ∨ (imagesOk q xs es = false ∧ e = .returned (.tuple #[.slice none 0 0, .bool false]))
set_option maxRecDepth 100000 in
set_option maxHeartbeats 800000 in
theorem meaningFrom_any (q : Int) (A E : Option Addr) (n c m d B D : Nat) (xs es : List Int) (w : World) (h : Own B w (.slice A n c) 1 n (ints xs)) (hE : Own D w (.slice E m d) 1 m (ints es)) (hm : m ≤ 1048576) :
    Calls Tryd.prog 37 #[tabV q A n c, .slice E m d] w fun e w' => MPost q xs es w.heap.size e w' ∧ Below w.heap.size w w' := by
  have HO := Lib.hid (h.below (bel1 w (.cells #[.int .i64 q, .slice A n c] 28)))
  have HE := Lib.hid (hE.below (bel1 w (.cells #[.int .i64 q, .slice A n c] 28)))
  have Hml := Lib.hid hE.ilen
  clear h hE
  by_cases h4 : 1 ≤ m ∧ m ≤ 4
  · have Hd := Lib.hid (show inK m = true by simp [inK]; omega)
    have hm4 := h4.2
    go_enter Tryd.func37, Tryd.ntmps37
    go_wp2_with (go_at_call 61; refine (lettersOk_any _ _).mono ?_; rw [Hd.out]; rintro e w' ⟨rfl, rfl⟩)
    refine (monoidWith_all q A E n c m d B D xs es _ HO.out HE.out).mono ?_
    rintro e w1 ⟨hp, hb1⟩
    have b1 := (bel1 w _).trans (hb1.mono (by simp))
    have E1 := Lib.hid (HE.out.below hb1)
    clear hb1 HO HE
    rcases hp with ⟨N, g, rfl, hT, ha, rfl, hg, hM⟩ | ⟨ha, rfl⟩
    · obtain ⟨I, rfl, hI⟩ := elems_of ha
      have HG : Hid (Imgs N xs (nints I) I) := ⟨hT, rfl, by have := Hml.out; rw [nints_length] at this; omega, by have := Hml.out; rw [nints_length] at this; omega, hI⟩
      have HM := Lib.hid hM
      have hbs := b1.size
      clear hT ha hg hM hI
      go_wp2_with fail
      refine (meaningOf_any g N E m d D xs I _ HM.out E1.out hm4).mono ?_
      rintro e w2 ⟨v, rfl, hv, hb2⟩
      obtain ⟨A2, c2, rfl⟩ := hv.form
      have HV := Lib.hid (hv.mono hbs)
      have b2 := b1.trans (hb2.mono hbs)
      clear hv hb2
      go_wp2_with fail
      go_ret2
      exact ⟨.inl ⟨N, g, c2, A2, I, rfl, HG.out, rfl, HV.out⟩, b2⟩
    · have He := Lib.hid (imagesOk_no ha)
      clear ha
      go_wp2_with fail
      go_ret2
      exact ⟨.inr ⟨He.out, rfl⟩, b1⟩
  · have Hd := Lib.hid (show inK m = false by simp [inK]; omega)
    have He := Lib.hid (imagesOk_len (q := q) (xs := xs) (es := es) (by rw [Hml.out]; exact h4))
    clear h4
    go_enter Tryd.func37, Tryd.ntmps37
    go_wp2_with (go_at_call 61; refine (lettersOk_any _ _).mono ?_; rw [Hd.out]; rintro e w' ⟨rfl, rfl⟩)
    go_ret2
    exact ⟨.inr ⟨He.out, rfl⟩, bel1 _ _⟩
set_option maxRecDepth 100000 in
set_option maxHeartbeats 800000 in
theorem implValueOf (q : Int) (A E : Option Addr) (n c m d B D : Nat) (xs es : List Int) (s : ByteArray) (w : World) (h : Own B w (.slice A n c) 1 n (ints xs)) (hE : Own D w (.slice E m d) 1 m (ints es)) (_hn : n ≤ 1048576) (hm : m ≤ 1048576) (hs : s.size ≤ 1048576) (hlet : Let w) :
    Calls Tryd.prog 13 #[tabV q A n c, .slice E m d, .string s] w fun e w' => e = .returned (.tuple #[.int .i64 (valueOf q xs es s).1, .bool (valueOf q xs es s).2]) ∧ Below w.heap.size w w' := by
  have HO := Lib.hid (h.below (bel1 w (.cells #[.int .i64 q, .slice A n c] 28)))
  have HE := Lib.hid (hE.below (bel1 w (.cells #[.int .i64 q, .slice A n c] 28)))
  have HL := Lib.hid (fun (w' : World) (hb : Below w.heap.size w w') => hlet.keep hb (Nat.le_refl _))
  have Hml := Lib.hid hE.ilen
  clear h hE hlet
  go_enter Tryd.func13, Tryd.ntmps13
  go_wp2_with fail
  refine (meaningFrom_any q A E n c m d B D xs es _ HO.out HE.out hm).mono ?_
  rintro e w1 ⟨hp, hb1⟩
  have b1 := (bel1 w _).trans (hb1.mono (by simp))
  clear hb1 HO HE
  rcases hp with ⟨N, g, c1, A1, I, rfl, hI, rfl, hV⟩ | ⟨hi, rfl⟩
  · have HI := Lib.hid hI
    have HV := Lib.hid hV
    have hmI : m = I.length := by have := Hml.out; rw [hI.len] at this; omega
    clear hI hV
    subst hmI
    go_wp2_with fail
    refine (implWordOk I.length s _ hs (HL.out _ b1)).mono ?_
    rintro e w2 ⟨rfl, p, rfl⟩
    have b2 := below_drewN b1 p
    have HV2 := Lib.hid (HV.out.below (below_drewN (Below.refl _ _) p))
    clear HV
    cases hw : wordOk I.length s
    · have He := Lib.hid (valueOf_no2 (q := N) (xs := xs) (es := es) (s := s) (by rw [HI.out.len]; exact hw))
      clear hw
      go_wp2_with fail
      go_ret2
      exact ⟨ret_ib He.out, b2⟩
    · have He := Lib.hid (valueOf_yes HI.out hw)
      have Hw : Hid (written I.length s = true) := by
        rw [wordOk_yes] at hw
        · exact hw
        · unfold wordOk at hw
          simp only [Bool.and_eq_true, decide_eq_true_eq] at hw
          omega
      clear hw
      go_wp2_with fail
      refine (meanValue_any g N _ _ c1 A1 xs I s _ HV2.out HI.out.tab HI.out.lt HI.out.hi Hw.out hs).mono ?_
      rintro e w3 ⟨rfl, p2, rfl⟩
      generalize meanS N xs I s = U at *
      go_wp2_with fail
      go_ret2
      exact ⟨ret_ib He.out, below_drewN b1 _⟩
  · have He := Lib.hid (valueOf_no1 (s := s) hi)
    clear hi
    go_wp2_with fail
    go_ret2
    exact ⟨ret_ib He.out, b1⟩
def FPost (k : Int) (l : List R) (q : Int) (xs es : List Int) (B : Nat) (e : Ending) (w' : World) : Prop :=
  (∃ (N g c : Nat) (A : Option Addr) (I : List Nat), q = N ∧ Imgs N xs es I ∧ k = (I.length : Nat) ∧ rulesOk k l = true ∧ obeyB N xs I l = true ∧ e = .returned (.tuple #[.slice A I.length c, .bool true]) ∧ Means B w' (.slice A I.length c) g N xs I) ∨ (satisfies k l q xs es = false ∧ e = .returned (.tuple #[.slice none 0 0, .bool false]))
set_option maxRecDepth 100000 in
set_option maxHeartbeats 1600000 in
theorem meaningFor_any (k : Int) (Z : Option Addr) (nz cz Bz : Nat) (l : List R) (q : Int) (A E : Option Addr) (n c m d B D : Nat) (xs es : List Int) (w : World) (hZ : Own Bz w (.slice Z nz cz) 2 nz (rulesC l)) (hsm : smallR l) (h : Own B w (.slice A n c) 1 n (ints xs)) (hE : Own D w (.slice E m d) 1 m (ints es)) (hm : m ≤ 1048576) (hlet : Let w) :
    Calls Tryd.prog 44 #[.agg #[.int .i64 k, .slice Z nz cz], tabV q A n c, .slice E m d] w fun e w' => FPost k l q xs es w.heap.size e w' ∧ Below w.heap.size w w' := by
  have b0 := bel2 w (.cells #[.int .i64 k, .slice Z nz cz] 41) (.cells #[.int .i64 q, .slice A n c] 28)
  have HZ := Lib.hid (hZ.below b0)
  have HO := Lib.hid (h.below b0)
  have HE := Lib.hid (hE.below b0)
  have HL := Lib.hid (fun (w' : World) (hb : Below w.heap.size w w') => hlet.keep hb (Nat.le_refl _))
  have X0 := Lib.hid ((Blk.new1 w #[.int .i64 k, .slice Z nz cz] 41).alloc (.cells #[.int .i64 q, .slice A n c] 28))
  have Y0 := Lib.hid (Blk.new2 w (.cells #[.int .i64 k, .slice Z nz cz] 41) #[.int .i64 q, .slice A n c] 28)
  have Hml := Lib.hid hE.ilen
  have Hsm := Lib.hid hsm
  clear h hE hlet hZ hsm
  go_enter Tryd.func44, Tryd.ntmps44
  go_wp2_with fail
  generalize (w.alloc (.cells #[.int .i64 k, .slice Z nz cz] 41)).alloc (.cells #[.int .i64 q, .slice A n c] 28) = w0 at *
  refine (implRulesOk k Z nz cz Bz l _ HZ.out Hsm.out (HL.out _ b0)).mono ?_
  rintro e w1 ⟨rfl, hb1⟩
  have b1 := b0.trans (hb1.mono b0.size)
  have X1 := Lib.hid (X0.out.below hb1 X0.out.lt)
  have Y1 := Lib.hid (Y0.out.below hb1 Y0.out.lt)
  have Z1 := Lib.hid (HZ.out.below hb1)
  have O1 := Lib.hid (HO.out.below hb1)
  have E1 := Lib.hid (HE.out.below hb1)
  clear hb1 X0 Y0 HO HE HZ
  obtain ⟨x0, x1, -, -, xl⟩ := X1.out.two
  obtain ⟨y0, y1, -, -, yl⟩ := Y1.out.two
  cases hr : rulesOk k l
  · have He := Lib.hid (satisfies_no1 (q := q) (xs := xs) (es := es) hr)
    clear hr
    go_wp2_with fail
    go_ret2
    exact ⟨.inr ⟨He.out, rfl⟩, b1⟩
  have Hr := Lib.hid hr
  clear hr
  by_cases hmk : (m : Int) = k
  · have Hmk := Lib.hid hmk
    have e1 : ((m : Int) != k) = false := by simp [hmk]
    clear hmk
    go_wp2_with fail
    refine (meaningFrom_any q A E n c m d B D xs es _ O1.out E1.out hm).mono ?_
    rintro e w2 ⟨hp, hb2⟩
    have b2 := b1.trans (hb2.mono b1.size)
    have Z2 := Lib.hid (Z1.out.below hb2)
    have X2 := Lib.hid (X1.out.below hb2 X1.out.lt)
    clear hb2 x0 x1 xl y0 y1 yl
    obtain ⟨x0, x1, -, -, xl⟩ := X2.out.two
    rcases hp with ⟨N, g, c1, A1, I, rfl, hI, rfl, hV⟩ | ⟨hi, rfl⟩
    · have HI := Lib.hid hI
      have HV := Lib.hid (hV.mono b1.size)
      have hkI : k = (I.length : Nat) := by have := Hml.out; rw [hI.len] at this; have := Hmk.out; omega
      have hnz : nz ≤ 1048576 := by have h1 := (rulesOk_letters Hr.out).2.2; have := Z2.out.rlen; omega
      clear hI hV
      subst hkI
      go_wp2_with fail
      refine (keepsRules_any g N _ Bz _ c1 nz cz A1 Z xs I l _ HV.out Z2.out HI.out.tab HI.out.lt HI.out.hi (fun r hr => rulesOk_side Hr.out hr) hnz).mono ?_
      rintro e w3 ⟨rfl, hb3⟩
      have b3 := b2.trans (hb3.mono b2.size)
      have V3 := Lib.hid (HV.out.below hb3)
      have Hs := Lib.hid (satisfies_at HI.out Hr.out rfl)
      clear hb3
      cases ho : obeyB N xs I l
      · have He := Lib.hid (Hs.out.trans ho)
        clear ho
        go_wp2_with fail
        go_ret2
        exact ⟨.inr ⟨He.out, rfl⟩, b3⟩
      · have Ho := Lib.hid ho
        clear ho
        go_wp2_with fail
        go_ret2
        exact ⟨.inl ⟨N, g, c1, A1, I, rfl, HI.out, rfl, Hr.out, Ho.out, rfl, V3.out⟩, b3⟩
    · have He := Lib.hid (satisfies_no2 (k := k) (l := l) hi)
      clear hi
      go_wp2_with fail
      go_ret2
      exact ⟨.inr ⟨He.out, rfl⟩, b2⟩
  · have He := Lib.hid (satisfies_no3 (k := k) (l := l) (q := q) (xs := xs) (es := es) (by rw [Hml.out]; exact hmk))
    have e1 : ((m : Int) != k) = true := by simp [hmk]
    clear hmk
    go_wp2_with fail
    go_ret2
    exact ⟨.inr ⟨He.out, rfl⟩, b1⟩
set_option maxRecDepth 100000 in
set_option maxHeartbeats 800000 in
theorem implSatisfiesRules (k : Int) (Z : Option Addr) (nz cz Bz : Nat) (l : List R) (q : Int) (A E : Option Addr) (n c m d B D : Nat) (xs es : List Int) (w : World) (hZ : Own Bz w (.slice Z nz cz) 2 nz (rulesC l)) (hsm : smallR l) (h : Own B w (.slice A n c) 1 n (ints xs)) (hE : Own D w (.slice E m d) 1 m (ints es)) (hm : m ≤ 1048576) (hlet : Let w) :
    Calls Tryd.prog 19 #[.agg #[.int .i64 k, .slice Z nz cz], tabV q A n c, .slice E m d] w fun e w' => e = .returned (.bool (satisfies k l q xs es)) ∧ Below w.heap.size w w' := by
  have b0 := bel2 w (.cells #[.int .i64 k, .slice Z nz cz] 41) (.cells #[.int .i64 q, .slice A n c] 28)
  have HZ := Lib.hid (hZ.below b0)
  have HO := Lib.hid (h.below b0)
  have HE := Lib.hid (hE.below b0)
  have HL := Lib.hid (hlet.keep b0 (Nat.le_refl _))
  have Hsm := Lib.hid hsm
  clear h hE hlet hZ hsm
  go_enter Tryd.func19, Tryd.ntmps19
  go_wp2_with fail
  generalize (w.alloc (.cells #[.int .i64 k, .slice Z nz cz] 41)).alloc (.cells #[.int .i64 q, .slice A n c] 28) = w0 at *
  refine (meaningFor_any k Z nz cz Bz l q A E n c m d B D xs es _ HZ.out Hsm.out HO.out HE.out hm HL.out).mono ?_
  rintro e w1 ⟨hp, hb1⟩
  have b1 := b0.trans (hb1.mono b0.size)
  clear hb1 HO HE HZ
  rcases hp with ⟨N, g, c1, A1, I, rfl, hI, rfl, hr, ho, rfl, hV⟩ | ⟨hi, rfl⟩
  · have He := Lib.hid ((satisfies_at hI hr rfl).trans ho)
    clear hI hr ho hV
    go_wp2_with fail
    go_ret
    exact ⟨ret_bool He.out.symm, b1⟩
  · have He := Lib.hid hi
    clear hi
    go_wp2_with fail
    go_ret
    exact ⟨ret_bool He.out.symm, b1⟩
end Go.Proofs.YtlgaihofaiigcaaDoor
