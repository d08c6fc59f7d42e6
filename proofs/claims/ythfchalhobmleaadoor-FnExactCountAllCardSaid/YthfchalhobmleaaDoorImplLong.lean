/- LongestReduced. -/
import Derived.Test.YthfchalhobmleaaDoorLongest
namespace Go.Proofs.YthfchalhobmleaaDoor
open Go.RowKit

set_option maxRecDepth 100000 in
set_option maxHeartbeats 800000 in
theorem implLongestReduced (k : Int) (A : Option Addr) (n c B : Nat) (l : List R) (w : World) (h : Own B w (.slice A n c) 2 n (rulesC l)) (hsm : smallR l) (hlet : Let w) :
    Calls Tryd.prog 19 #[.agg #[.int .i64 k, .slice A n c]] w fun e w' => ∃ d : Int, e = .returned (.int .i64 d) ∧ Hid (LongRet k l d) ∧ Below w.heap.size w w' := by
  have HO := Lib.hid h
  have HL := Lib.hid hlet
  clear h hlet
  go_enter Tryd.func19, Tryd.ntmps19
  go_wp2_with fail
  refine (implSystemOk k A n c B l _ (HO.out.below (bel1 w _)) hsm (HL.out.keep (bel1 w _) (Nat.le_refl _))).mono ?_
  rintro e w1 ⟨rfl, hb1⟩
  have b1 := (bel1 w _).trans (hb1.mono (by simp))
  have HS1 := Lib.hid ((Blk.new1 w #[.int .i64 k, .slice A n c] 25).below hb1 (by simp))
  clear hb1
  cases h1 : systemOk k l
  · have HF := Lib.hid (show LongRet k l (-1) from .inl ⟨h1, rfl⟩)
    clear h1
    go_wp2_with fail
    go_ret
    exact ⟨-1, rfl, HF.out, b1⟩
  · obtain ⟨k', rfl, hk1, hk4, h12, hl⟩ := systemOk_parts h1
    have H1 := Lib.hid h1
    obtain ⟨s0, s1, -, -, sl⟩ := HS1.out.two
    clear h1
    go_wp2_with fail
    refine (languageOf_any k' A n c B l w1 (HO.out.below b1) (fun r hr => (hl r hr).1) h12 hk4 (HL.out.keep b1 (Nat.le_refl _))).mono ?_
    rintro e w2 ⟨gL, mA, Q, rfl, hL, hQ, hb2⟩
    have b2 := b1.trans (hb2.mono b1.size)
    clear s0 s1 sl
    go_wp2_with fail
    refine (longest_any k' l _ gL mA 1000 Q w2 (fun r hr => (hl r hr).1) h12 hk4 hQ (HL.out.keep b2 (Nat.le_refl _)) hL).mono ?_
    rintro e w3 ⟨d, rfl, hd, hb3⟩
    have b3 := b2.trans (hb3.mono b2.size)
    have Hd : Hid (LongRet (k' : Int) l d) := .inr ⟨H1.out, by rw [Int.toNat_natCast]; exact hd⟩
    clear hd hb3
    go_wp2_with fail
    go_ret
    exact ⟨d, rfl, Hd, b3⟩
end Go.Proofs.YthfchalhobmleaaDoor
