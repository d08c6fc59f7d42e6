/- The program's GrowthOf and CountReduced. -/
import Derived.Test.YtjecadpofkblnaaDoorGrowth
import Derived.Deep.RegionHeld3
namespace Go.Proofs.YtjecadpofkblnaaDoor
open Go.RowKit Go.Maps

/-- May the reduced words of x letters be counted? -/
def canC (k : Int) (l : List R) (x : Int) : Bool := systemOk k l && decide (0 ≤ x ∧ x ≤ 16)
def growS (k : Int) (l : List R) (x : Int) : List Int := if canC k l x then growL l k.toNat (x.toNat + 1) else []
def countR (k : Int) (l : List R) (x : Int) : Int := if canC k l x then wr (countN l k.toNat x.toNat) else -1
theorem growS_len (k : Int) (l : List R) (x : Int) : (growS k l x).length ≤ 17 := by
  unfold growS canC
  split
  · rename_i h
    rw [Bool.and_eq_true, decide_eq_true_eq] at h
    rw [growL_len]; omega
  · simp
theorem growS_no {k : Int} {l : List R} {x : Int} (h : canC k l x = false) : growS k l x = [] := by unfold growS; rw [h]; rfl
theorem growS_yes {k x : Nat} {l : List R} (h : canC k l x = true) : growS k l x = growL l k (x + 1) := by unfold growS; rw [if_pos h]; rfl
theorem countR_no {k : Int} {l : List R} {x : Int} (h : canC k l x = false) : countR k l x = -1 := by unfold countR; rw [h]; rfl
theorem countR_yes {k x : Nat} {l : List R} (h : canC k l x = true) : countR k l x = wr (countN l k x) := by unfold countR; rw [if_pos h]; rfl
/-- What it means. -/
theorem canC_parts {k : Int} {l : List R} {x : Int} (h : canC k l x = true) : ∃ k' x' : Nat, k = k' ∧ x = x' ∧ 1 ≤ k' ∧ k' ≤ 4 ∧ x' ≤ 16 ∧ l.length ≤ 12 ∧ ∀ r ∈ l, r.1.size ≤ 8 ∧ 0 < r.1.size := by
  unfold canC systemOk rulesOk inK at h
  simp only [Bool.and_eq_true, decide_eq_true_eq, List.all_eq_true] at h
  obtain ⟨⟨⟨⟨h1, h2⟩, h3⟩, -⟩, h4⟩ := h
  refine ⟨k.toNat, x.toNat, by omega, by omega, by omega, by omega, by omega, h2, fun r hr => ?_⟩
  have := h3 r hr
  simp only [ruleOk, sidesOk, Bool.and_eq_true, decide_eq_true_eq] at this
  omega

set_option maxRecDepth 100000 in
set_option maxHeartbeats 800000 in
theorem canCount_any (k : Int) (A : Option Addr) (n c B : Nat) (l : List R) (x : Int) (w : World) (h : Own B w (.slice A n c) 2 n (rulesC l)) (hsm : smallR l) (hlet : Let w) :
    Calls Tryd.prog 33 #[.agg #[.int .i64 k, .slice A n c], .int .i64 x] w fun e w' => e = .returned (.bool (canC k l x)) ∧ Below w.heap.size w w' := by
  have HO := Lib.hid h
  have HL := Lib.hid hlet
  clear h hlet
  go_enter Tryd.func33, Tryd.ntmps33
  go_wp2_with fail
  refine (implSystemOk k A n c B l _ (HO.out.below (bel1 w _)) hsm (HL.out.keep (bel1 w _) (Nat.le_refl _))).mono ?_
  rintro e w1 ⟨rfl, hb1⟩
  have b1 := (bel1 w _).trans (hb1.mono (by simp))
  clear hb1
  cases h1 : systemOk k l
  · have HF : Hid (false = canC k l x) := by show _ = _; unfold canC; rw [h1]; rfl
    clear h1
    go_wp2_with fail
    go_ret
    exact ⟨ret_bool HF.out, b1⟩
  · by_cases h0 : 0 ≤ x
    · have HF : Hid (decide (x ≤ 16) = canC k l x) := by show _ = _; unfold canC; rw [h1, Bool.true_and]; exact decide_eq_decide.2 ⟨fun h => ⟨h0, h⟩, fun h => h.2⟩
      clear h1
      go_wp2_with fail
      go_ret
      exact ⟨ret_bool HF.out, b1⟩
    · have HF : Hid (false = canC k l x) := by show _ = _; unfold canC; rw [h1, Bool.true_and]; exact (decide_eq_false (fun h => h0 h.1)).symm
      clear h1
      go_wp2_with fail
      go_ret
      exact ⟨ret_bool HF.out, b1⟩

set_option maxRecDepth 100000 in
set_option maxHeartbeats 800000 in
theorem implGrowthOf (k : Int) (A : Option Addr) (n c B : Nat) (l : List R) (x : Int) (w : World) (h : Own B w (.slice A n c) 2 n (rulesC l)) (hsm : smallR l) (hlet : Let w) :
    Calls Tryd.prog 11 #[.agg #[.int .i64 k, .slice A n c], .int .i64 x] w fun e w' => ∃ v, e = .returned v ∧ Own w.heap.size w' v 1 (growS k l x).length (ints (growS k l x)) ∧ Below w.heap.size w w' := by
  have HO := Lib.hid h
  have HL := Lib.hid hlet
  clear h hlet
  go_enter Tryd.func11, Tryd.ntmps11
  go_wp2_with fail
  refine (canCount_any k A n c B l x _ (HO.out.below (bel1 w _)) hsm (HL.out.keep (bel1 w _) (Nat.le_refl _))).mono ?_
  rintro e w1 ⟨rfl, hb1⟩
  have b1 := (bel1 w _).trans (hb1.mono (by simp))
  have HS1 := Lib.hid ((Blk.new1 w #[.int .i64 k, .slice A n c] 25).below hb1 (by simp))
  clear hb1
  cases h1 : canC k l x
  · have HF := Lib.hid (growS_no h1)
    clear h1
    go_wp2_with fail
    go_ret
    rw [HF.out]
    exact ⟨_, rfl, Own.none_, b1⟩
  · obtain ⟨k', x', rfl, rfl, hk1, hk4, hx, h12, hl⟩ := canC_parts h1
    have HF := Lib.hid (growS_yes h1)
    obtain ⟨s0, s1, -, -, sl⟩ := HS1.out.two
    clear h1
    go_wp2_with fail
    refine (languageOf_any k' A n c B l w1 (HO.out.below b1) (fun r hr => (hl r hr).1) h12 hk4 (HL.out.keep b1 (Nat.le_refl _))).mono ?_
    rintro e w2 ⟨gL, mA, Q, rfl, hL, hQ, hb2⟩
    have b2 := b1.trans (hb2.mono b1.size)
    clear s0 s1 sl
    go_wp2_with fail
    refine (growth_any k' l _ gL mA 1000 x' Q w2 (fun r hr => (hl r hr).1) h12 hk4 hQ (HL.out.keep b2 (Nat.le_refl _)) hL (by omega)).mono ?_
    rintro e w3 ⟨v, rfl, o3, hb3⟩
    have b3 := b2.trans (hb3.mono b2.size)
    have O3 := Lib.hid (o3.mono b2.size)
    clear o3 hb3
    go_wp2_with fail
    go_ret
    rw [HF.out]
    exact ⟨_, rfl, by rw [growL_len]; exact O3.out, b3⟩

theorem growL_get (l : List R) (k n i : Nat) (h : i < n) : (growL l k n)[i]? = some (wr (countN l k i)) := by simp [growL, h]
set_option maxRecDepth 100000 in
set_option maxHeartbeats 800000 in
theorem implCountReduced (k : Int) (A : Option Addr) (n c B : Nat) (l : List R) (x : Int) (w : World) (h : Own B w (.slice A n c) 2 n (rulesC l)) (hsm : smallR l) (hlet : Let w) :
    Calls Tryd.prog 12 #[.agg #[.int .i64 k, .slice A n c], .int .i64 x] w fun e w' => e = .returned (.int .i64 (countR k l x)) ∧ Below w.heap.size w w' := by
  have HO := Lib.hid h
  have HL := Lib.hid hlet
  clear h hlet
  go_enter Tryd.func12, Tryd.ntmps12
  go_wp2_with fail
  refine (canCount_any k A n c B l x _ (HO.out.below (bel1 w _)) hsm (HL.out.keep (bel1 w _) (Nat.le_refl _))).mono ?_
  rintro e w1 ⟨rfl, hb1⟩
  have b1 := (bel1 w _).trans (hb1.mono (by simp))
  have HS1 := Lib.hid ((Blk.new1 w #[.int .i64 k, .slice A n c] 25).below hb1 (by simp))
  clear hb1
  cases h1 : canC k l x
  · have HF := Lib.hid (countR_no h1)
    clear h1
    go_wp2_with fail
    go_ret
    exact ⟨by rw [HF.out]; rfl, b1⟩
  · obtain ⟨k', x', rfl, rfl, hk1, hk4, hx, h12, hl⟩ := canC_parts h1
    have HF := Lib.hid (countR_yes h1)
    obtain ⟨s0, s1, -, -, sl⟩ := HS1.out.two
    clear h1
    go_wp2_with fail
    refine (languageOf_any k' A n c B l w1 (HO.out.below b1) (fun r hr => (hl r hr).1) h12 hk4 (HL.out.keep b1 (Nat.le_refl _))).mono ?_
    rintro e w2 ⟨gL, mA, Q, rfl, hL, hQ, hb2⟩
    have b2 := b1.trans (hb2.mono b1.size)
    clear s0 s1 sl
    go_wp2_with fail
    refine (growth_any k' l _ gL mA 1000 x' Q w2 (fun r hr => (hl r hr).1) h12 hk4 hQ (HL.out.keep b2 (Nat.le_refl _)) hL (by omega)).mono ?_
    rintro e w3 ⟨v, rfl, o3, hb3⟩
    have b3 := b2.trans (hb3.mono b2.size)
    obtain ⟨g, off, cc, rfl⟩ := o3.formR (by omega)
    obtain ⟨g', off', e, -, hgl, hcell⟩ := o3.int (by omega)
    obtain ⟨rfl, rfl⟩ : g = g' ∧ off = off' := by injection e with e; injection e with e1 e2; exact ⟨e1, e2⟩
    obtain ⟨y, hy, x0, -⟩ := hcell x' (by omega)
    rw [growL_get l k' _ x' (by omega)] at hy
    injection hy with hy
    have Hy := Lib.hid hy
    clear o3 hb3 hcell e hy
    go_wp2_with fail
    go_ret
    exact ⟨by rw [HF.out, Hy.out]; rfl, b3⟩
end Go.Proofs.YtjecadpofkblnaaDoor
