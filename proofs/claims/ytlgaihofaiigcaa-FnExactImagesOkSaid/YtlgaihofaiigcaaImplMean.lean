/- The program's ImagesOk, ValueOf, SatisfiesRules. -/
import Derived.Test.YtlgaihofaiigcaaMeaning
import Derived.BigQuiet
namespace Go.Proofs.Ytlgaihofaiigcaa
open Go.RowKit

def MPost (q : Int) (xs es : List Int) (B : Nat) (e : Ending) (w' : World) : Prop :=
  (∃ (N g c : Nat) (A : Option Addr) (I : List Nat), q = N ∧ Imgs N xs es I ∧ e = .returned (.tuple #[.slice A I.length c, .bool true]) ∧ Means B w' (.slice A I.length c) g N xs I) ∨ (imagesOk q xs es = false ∧ e = .returned (.tuple #[.slice none 0 0, .bool false]))
set_option maxRecDepth 100000 in
set_option maxHeartbeats 800000 in
theorem meaningFrom_any (q : Int) (A E : Option Addr) (n c m d B D : Nat) (xs es : List Int) (w : World) (h : Own B w (.slice A n c) 1 n (ints xs)) (hE : Own D w (.slice E m d) 1 m (ints es)) (hm : m ≤ 1048576) :
    Calls Try.prog 14 #[tabV q A n c, .slice E m d] w fun e w' => MPost q xs es w.heap.size e w' ∧ Below w.heap.size w w' := by
  have HO := Lib.hid (h.below (bel1 w (.cells #[.int .i64 q, .slice A n c] 27)))
  have HE := Lib.hid (hE.below (bel1 w (.cells #[.int .i64 q, .slice A n c] 27)))
  have Hml := Lib.hid hE.ilen
  clear h hE
  by_cases h4 : 1 ≤ m ∧ m ≤ 4
  · have Hd := Lib.hid (show inK m = true by simp [inK]; omega)
    have hm4 := h4.2
    go_enter Try.func14, Try.ntmps14
    go_wp2_with (go_at_call 15; refine (lettersOk_any _ _).mono ?_; rw [Hd.out]; rintro e w' ⟨rfl, rfl⟩)
    refine (monoidWith_all q A E n c m d B D xs es _ HO.out HE.out).mono ?_
    rintro e w1 ⟨hp, hb1⟩
    have b1 := (bel1 w _).trans (hb1.mono (by simp))
    have E1 := Lib.hid (HE.out.below hb1)
    clear hb1 HO HE
    rcases hp with ⟨N, g, rfl, hT, ha, rfl, hg, hM⟩ | ⟨ha, rfl⟩
    · obtain ⟨I, rfl, hI⟩ := elems_of ha
      have HG : Hid (Imgs N xs (nints I) I) := ⟨hT, rfl, by have := Hml.out; rw [nints_length] at this; omega, by have := Hml.out; rw [nints_length] at this; omega, hI⟩
      have HM := Lib.hid hM
      have hbs := b1.size
      clear hT ha hg hM hI
      go_wp2_with fail
      refine (meaningOf_any g N E m d D xs I _ HM.out E1.out hm4).mono ?_
      rintro e w2 ⟨v, rfl, hv, hb2⟩
      obtain ⟨A2, c2, rfl⟩ := hv.form
      have HV := Lib.hid (hv.mono hbs)
      have b2 := b1.trans (hb2.mono hbs)
      clear hv hb2
      go_wp2_with fail
      go_ret2
      exact ⟨.inl ⟨N, g, c2, A2, I, rfl, HG.out, rfl, HV.out⟩, b2⟩
    · have He := Lib.hid (imagesOk_no ha)
      clear ha
      go_wp2_with fail
      go_ret2
      exact ⟨.inr ⟨He.out, rfl⟩, b1⟩
  · have Hd := Lib.hid (show inK m = false by simp [inK]; omega)
    have He := Lib.hid (imagesOk_len (q := q) (xs := xs) (es := es) (by rw [Hml.out]; exact h4))
    clear h4
    go_enter Try.func14, Try.ntmps14
    go_wp2_with (go_at_call 15; refine (lettersOk_any _ _).mono ?_; rw [Hd.out]; rintro e w' ⟨rfl, rfl⟩)
    go_ret2
    exact ⟨.inr ⟨He.out, rfl⟩, bel1 _ _⟩
set_option maxRecDepth 100000 in
set_option maxHeartbeats 800000 in
theorem implImagesOk (q : Int) (A E : Option Addr) (n c m d B D : Nat) (xs es : List Int) (w : World) (h : Own B w (.slice A n c) 1 n (ints xs)) (hE : Own D w (.slice E m d) 1 m (ints es)) (_hn : n ≤ 1048576) (hm : m ≤ 1048576) :
    Calls Try.prog 8 #[tabV q A n c, .slice E m d] w fun e w' => e = .returned (.bool (imagesOk q xs es)) ∧ Below w.heap.size w w' := by
  have HO := Lib.hid (h.below (bel1 w (.cells #[.int .i64 q, .slice A n c] 27)))
  have HE := Lib.hid (hE.below (bel1 w (.cells #[.int .i64 q, .slice A n c] 27)))
  clear h hE
  go_enter Try.func8, Try.ntmps8
  go_wp2_with fail
  refine (meaningFrom_any q A E n c m d B D xs es _ HO.out HE.out hm).mono ?_
  rintro e w1 ⟨hp, hb1⟩
  have b1 := (bel1 w _).trans (hb1.mono (by simp))
  clear hb1 HO HE
  rcases hp with ⟨N, g, c1, A1, I, rfl, hI, rfl, hV⟩ | ⟨hi, rfl⟩
  · have He := Lib.hid hI.ok
    clear hI hV
    go_wp2_with fail
    go_ret
    exact ⟨ret_bool He.out.symm, b1⟩
  · have He := Lib.hid hi
    clear hi
    go_wp2_with fail
    go_ret
    exact ⟨ret_bool He.out.symm, b1⟩
def FPost (k : Int) (l : List R) (q : Int) (xs es : List Int) (B : Nat) (e : Ending) (w' : World) : Prop :=
  (∃ (N g c : Nat) (A : Option Addr) (I : List Nat), q = N ∧ Imgs N xs es I ∧ k = (I.length : Nat) ∧ rulesOk k l = true ∧ obeyB N xs I l = true ∧ e = .returned (.tuple #[.slice A I.length c, .bool true]) ∧ Means B w' (.slice A I.length c) g N xs I) ∨ (satisfies k l q xs es = false ∧ e = .returned (.tuple #[.slice none 0 0, .bool false]))
end Go.Proofs.Ytlgaihofaiigcaa
