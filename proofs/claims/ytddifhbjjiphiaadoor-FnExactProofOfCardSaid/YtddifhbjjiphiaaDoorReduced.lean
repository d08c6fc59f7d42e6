/- May a word be reduced by a system; is it reduced: l04Ok, canReduce, both IsReduced. -/
import Derived.Test.YtddifhbjjiphiaaDoorFirst
namespace Go.Proofs.YtddifhbjjiphiaaDoor
open Go.RowKit

def canRed (k : Int) (l : List R) (s : ByteArray) : Bool := systemOk k l && wordOk k s
def reducedS (k : Int) (l : List R) (s : ByteArray) : Bool := canRed k l s && (stepsD l s 0).isEmpty
theorem canRed_rules {k : Int} {l : List R} {s : ByteArray} (h : canRed k l s = true) : rulesOk k l = true := by
  simp only [canRed, systemOk, Bool.and_eq_true] at h; exact h.1.1
theorem canRed_word {k : Int} {l : List R} {s : ByteArray} (h : canRed k l s = true) : wordOk k s = true := by
  simp only [canRed, Bool.and_eq_true] at h; exact h.2

set_option maxRecDepth 100000 in
set_option maxHeartbeats 800000 in
theorem specOk (k : Int) (A : Option Addr) (n c B : Nat) (l : List R) (s : ByteArray) (w : World) (h : Own B w (.slice A n c) 2 n (rulesC l)) (hsm : smallR l) (hs : s.size ≤ 1048576) :
    Calls Tryd.prog 69 #[.agg #[.int .i64 k, .slice A n c], .string s] w fun e w' => e = .returned (.bool (canRed k l s)) ∧ Below w.heap.size w w' := by
  have HO := Lib.hid h
  clear h
  go_enter Tryd.func69, Tryd.ntmps69
  go_wp2_with fail
  refine (specSystemOk k A n c B l _ (HO.out.below (bel1 _ _)) hsm).mono ?_
  rintro e w1 ⟨rfl, hb1⟩
  have b1 := (bel1 w _).trans (hb1.mono (by simp))
  obtain ⟨q0, q1, -, -, ql⟩ := ((Blk.new1 w _ _).below hb1 (by simp)).two
  clear hb1
  cases h1 : systemOk k l
  · have He := Lib.hid (show canRed k l s = false by rw [canRed, h1]; rfl)
    clear h1
    go_wp2_with fail
    go_ret
    exact ⟨ret_bool He.out.symm, b1⟩
  · have He := Lib.hid (show canRed k l s = wordOk k s by rw [canRed, h1]; rfl)
    clear h1
    go_wp2_with fail
    refine (specWordOk k s _ hs).mono ?_
    rintro e w2 ⟨rfl, rfl⟩
    go_wp2_with fail
    go_ret
    exact ⟨ret_bool He.out.symm, b1⟩

set_option maxRecDepth 100000 in
set_option maxHeartbeats 800000 in
theorem canReduce_any (k : Int) (A : Option Addr) (n c B : Nat) (l : List R) (s : ByteArray) (w : World) (h : Own B w (.slice A n c) 2 n (rulesC l)) (hsm : smallR l) (hs : s.size ≤ 1048576) (hlet : Let w) :
    Calls Tryd.prog 71 #[.agg #[.int .i64 k, .slice A n c], .string s] w fun e w' => e = .returned (.bool (canRed k l s)) ∧ Below w.heap.size w w' := by
  have HO := Lib.hid h
  have HL := Lib.hid (fun (w' : World) (hb : Below w.heap.size w w') => hlet.keep hb (Nat.le_refl _))
  clear h hlet
  go_enter Tryd.func71, Tryd.ntmps71
  go_wp2_with fail
  refine (implSystemOk k A n c B l _ (HO.out.below (bel1 _ _)) hsm (HL.out _ (bel1 _ _))).mono ?_
  rintro e w1 ⟨rfl, hb1⟩
  have b1 := (bel1 w _).trans (hb1.mono (by simp))
  obtain ⟨q0, q1, -, -, ql⟩ := ((Blk.new1 w _ _).below hb1 (by simp)).two
  clear hb1
  cases h1 : systemOk k l
  · have He := Lib.hid (show canRed k l s = false by rw [canRed, h1]; rfl)
    clear h1
    go_wp2_with fail
    go_ret
    exact ⟨ret_bool He.out.symm, b1⟩
  · have He := Lib.hid (show canRed k l s = wordOk k s by rw [canRed, h1]; rfl)
    clear h1
    go_wp2_with fail
    refine (implWordOk k s _ hs (HL.out _ b1)).mono ?_
    rintro e w2 ⟨rfl, m2, rfl⟩
    have b2 := below_drewN b1 m2
    clear b1
    go_wp2_with fail
    go_ret
    exact ⟨ret_bool He.out.symm, b2⟩

end Go.Proofs.YtddifhbjjiphiaaDoor
