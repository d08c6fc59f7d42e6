/- The model's LongestReduced. -/
import Derived.Test.YthfchalhobmleaaDoorSpecDepth
namespace Go.Proofs.YthfchalhobmleaaDoor
open Go.RowKit

theorem LongRet.no {k : Int} {l : List R} (h : systemOk k l = false) : LongRet k l (-1) := .inl ⟨h, rfl⟩
set_option maxRecDepth 100000 in
set_option maxHeartbeats 800000 in
theorem specLongestB (k : Int) (A : Option Addr) (n c B : Nat) (l : List R) (w : World) (h : Own B w (.slice A n c) 2 n (rulesC l)) (hsm : smallR l) :
    Calls Tryd.prog 37 #[.agg #[.int .i64 k, .slice A n c]] w fun e w' => ∃ d : Int, e = .returned (.int .i64 d) ∧ Hid (LongRet k l d) ∧ d ≤ 400000 ∧ Below w.heap.size w w' := by
  have HO := Lib.hid h
  clear h
  go_enter Tryd.func37, Tryd.ntmps37
  go_wp2_with fail
  refine (specSystemOk k A n c B l _ (HO.out.below (bel1 w _)) hsm).mono ?_
  rintro e w1 ⟨rfl, hb1⟩
  have b1 := (bel1 w _).trans (hb1.mono (by simp))
  have HS1 := Lib.hid ((Blk.new1 w #[.int .i64 k, .slice A n c] 25).below hb1 (by simp))
  clear hb1
  cases h1 : systemOk k l
  · have HF := Lib.hid (LongRet.no h1)
    clear h1
    go_wp2_with fail
    go_ret
    exact ⟨-1, rfl, HF.out, by omega, b1⟩
  · obtain ⟨k', rfl, hk1, hk4, h12, hl⟩ := systemOk_parts h1
    have H1 := Lib.hid h1
    have Hl := Lib.hid (fun r hr => (hl r hr).1)
    obtain ⟨s0, s1, -, -, sl⟩ := HS1.out.two
    clear h1 hl
    go_wp2_with fail
    have b2 := b1.alloc b1.size (.cells #[] 9)
    have hw0 : Own w1.heap.size (w1.alloc (.cells #[] 9)) (.slice (some ⟨w1.heap.size, 0, none⟩) ([] : List ByteArray).length 0) 1 ([] : List ByteArray).length (strs []) := Own.new w1 #[] 0 9 rfl (by unfold maxLen; omega)
    have hd0 := depth_any k' A n c B l hsm Hl.out hk4 400000 _ _ _ [] ⟨#[]⟩ _ (HO.out.below b2) hw0 (WayOk.start l k') rfl
    clear hw0
    refine hd0.mono ?_
    clear hd0
    rintro e w2 ⟨d, rfl, hd, hdb, hb2⟩
    have b3 := b2.trans (hb2.mono b2.size)
    have Hd : Hid (LongRet (k' : Int) l d) := .inr ⟨H1.out, by rw [Int.toNat_natCast]; exact hd.out⟩
    clear hd hb2 s0 s1 sl
    go_wp2_with fail
    go_ret
    exact ⟨d, rfl, Hd, by omega, b3⟩
theorem specLongestReduced (k : Int) (A : Option Addr) (n c B : Nat) (l : List R) (w : World) (h : Own B w (.slice A n c) 2 n (rulesC l)) (hsm : smallR l) :
    Calls Tryd.prog 37 #[.agg #[.int .i64 k, .slice A n c]] w fun e w' => ∃ d : Int, e = .returned (.int .i64 d) ∧ Hid (LongRet k l d) ∧ Below w.heap.size w w' :=
  (specLongestB k A n c B l w h hsm).mono fun _ _ ⟨d, h1, h2, _, h3⟩ => ⟨d, h1, h2, h3⟩
end Go.Proofs.YthfchalhobmleaaDoor
