/- May a word be reduced by a system; is it reduced: l04Ok, canReduce, both IsReduced. -/
import Derived.Test.YtfkojahoaljiaaaDoorFirst
namespace Go.Proofs.YtfkojahoaljiaaaDoor
open Go.RowKit

def canRed (k : Int) (l : List R) (s : ByteArray) : Bool := systemOk k l && wordOk k s
def reducedS (k : Int) (l : List R) (s : ByteArray) : Bool := canRed k l s && (stepsD l s 0).isEmpty
theorem canRed_rules {k : Int} {l : List R} {s : ByteArray} (h : canRed k l s = true) : rulesOk k l = true := by
  simp only [canRed, systemOk, Bool.and_eq_true] at h; exact h.1.1
theorem canRed_word {k : Int} {l : List R} {s : ByteArray} (h : canRed k l s = true) : wordOk k s = true := by
  simp only [canRed, Bool.and_eq_true] at h; exact h.2

set_option maxRecDepth 100000 in
set_option maxHeartbeats 800000 in
theorem canReduce_any (k : Int) (A : Option Addr) (n c B : Nat) (l : List R) (s : ByteArray) (w : World) (h : Own B w (.slice A n c) 2 n (rulesC l)) (hsm : smallR l) (hs : s.size ≤ 1048576) (hlet : Let w) :
    Calls Tryd.prog 25 #[.agg #[.int .i64 k, .slice A n c], .string s] w fun e w' => e = .returned (.bool (canRed k l s)) ∧ Below w.heap.size w w' := by
  have HO := Lib.hid h
  have HL := Lib.hid (fun (w' : World) (hb : Below w.heap.size w w') => hlet.keep hb (Nat.le_refl _))
  clear h hlet
  go_enter Tryd.func25, Tryd.ntmps25
  go_wp2_with fail
  refine (implSystemOk k A n c B l _ (HO.out.below (bel1 _ _)) hsm (HL.out _ (bel1 _ _))).mono ?_
  rintro e w1 ⟨rfl, hb1⟩
  have b1 := (bel1 w _).trans (hb1.mono (by simp))
  obtain ⟨q0, q1, -, -, ql⟩ := ((Blk.new1 w _ _).below hb1 (by simp)).two
  clear hb1
  cases h1 : systemOk k l
  · have He := Lib.hid (show canRed k l s = false by rw [canRed, h1]; rfl)
    clear h1
    go_wp2_with fail
    go_ret
    exact ⟨ret_bool He.out.symm, b1⟩
  · have He := Lib.hid (show canRed k l s = wordOk k s by rw [canRed, h1]; rfl)
    clear h1
    go_wp2_with fail
    refine (implWordOk k s _ hs (HL.out _ b1)).mono ?_
    rintro e w2 ⟨rfl, m2, rfl⟩
    have b2 := below_drewN b1 m2
    clear b1
    go_wp2_with fail
    go_ret
    exact ⟨ret_bool He.out.symm, b2⟩

set_option maxRecDepth 100000 in
set_option maxHeartbeats 800000 in
theorem implIsReduced (k : Int) (A : Option Addr) (n c B : Nat) (l : List R) (s : ByteArray) (w : World) (h : Own B w (.slice A n c) 2 n (rulesC l)) (hsm : smallR l) (hs : s.size ≤ 1048576) (hlet : Let w) :
    Calls Tryd.prog 10 #[.agg #[.int .i64 k, .slice A n c], .string s] w fun e w' => e = .returned (.bool (reducedS k l s)) ∧ Below w.heap.size w w' := by
  have HO := Lib.hid h
  have Hlen := Lib.hid h.rlen
  have HL := Lib.hid (fun (w' : World) (hb : Below w.heap.size w w') => hlet.keep hb (Nat.le_refl _))
  clear h hlet
  go_enter Tryd.func10, Tryd.ntmps10
  go_wp2_with fail
  refine (canReduce_any k A n c B l s _ (HO.out.below (bel1 _ _)) hsm hs (HL.out _ (bel1 _ _))).mono ?_
  rintro e w1 ⟨rfl, hb1⟩
  have b1 := (bel1 w _).trans (hb1.mono (by simp))
  obtain ⟨q0, q1, -, -, ql⟩ := ((Blk.new1 w _ _).below hb1 (by simp)).two
  clear hb1
  cases h1 : canRed k l s
  · have He := Lib.hid (show reducedS k l s = false by rw [reducedS, h1]; rfl)
    clear h1
    go_wp2_with fail
    go_ret
    exact ⟨ret_bool He.out.symm, b1⟩
  · have He := Lib.hid (show reducedS k l s = !(stepsD l s 0).head?.isSome by rw [reducedS, h1, Bool.true_and]; cases stepsD l s 0 <;> rfl)
    have hn12 : n ≤ 12 := by rw [← Hlen.out]; exact rulesOk_len (canRed_rules h1)
    clear h1
    go_wp2_with fail
    refine (nextStep_any k A n c B l s 0 _ hs hn12 (HO.out.below b1)).mono ?_
    rintro e w2 ⟨rfl, hb2⟩
    have b2 := b1.trans (hb2.mono b1.size)
    clear hb2 b1 q0 q1 ql
    generalize (stepsD l s 0).head?.getD (0, 0) = x at *
    generalize (stepsD l s 0).head?.isSome = ok at *
    obtain ⟨u, v⟩ := x
    have b3 := Lib.hid (fun o => b2.alloc b2.size o)
    go_wp2_with fail
    go_ret
    exact ⟨ret_bool He.out.symm, b3.out _⟩
end Go.Proofs.YtfkojahoaljiaaaDoor
