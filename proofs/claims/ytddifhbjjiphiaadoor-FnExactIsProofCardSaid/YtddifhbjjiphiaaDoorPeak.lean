/- Chains of links: both IsProof, both PeakOf. -/
import Derived.Test.YtddifhbjjiphiaaDoorChain
import Derived.Test.YtddifhbjjiphiaaDoorLess
namespace Go.Proofs.YtddifhbjjiphiaaDoor
open Go.RowKit

/-- Does the chain lead to v? -/
def proofS (k : Int) (l : List R) (s v : ByteArray) (xs : List LK) : Bool := (chainS k l s xs).2 && (((chainS k l s xs).1.getD xs.length ⟨#[]⟩).toList == v.toList)
/-- The least index of a greatest word among the first j. -/
def peakTo (L : List ByteArray) : Nat → Nat
  | 0 => 0
  | j + 1 => if lessS (L.getD (peakTo L j) ⟨#[]⟩) (L.getD j ⟨#[]⟩) then j else peakTo L j
def peakS (k : Int) (l : List R) (s : ByteArray) (xs : List LK) : Int × Bool := if (chainS k l s xs).2 then (((peakTo (chainS k l s xs).1 (chainS k l s xs).1.length : Nat) : Int), true) else (0, false)
theorem peakTo_lt (L : List ByteArray) : ∀ j, peakTo L j ≤ j ∧ (0 < j → peakTo L j < j)
  | 0 => ⟨Nat.le_refl _, fun h => absurd h (by omega)⟩
  | j + 1 => by
    have := peakTo_lt L j
    rw [peakTo]
    split
    · exact ⟨by omega, fun _ => by omega⟩
    · exact ⟨by omega, fun _ => by omega⟩
theorem chain_form {B : Nat} {w : World} {v : Value} {k : Int} {l : List R} {s : ByteArray} {xs : List LK} {m : Nat} (h : Own B w v 1 (chainS k l s xs).1.length (strs (chainS k l s xs).1)) (hm : xs.length = m) (hok : (chainS k l s xs).2 = true) :
    ∃ g off c, v = .slice (some ⟨g, off, none⟩) (m + 1) c ∧ (chainS k l s xs).1.length = m + 1 ∧ m ≤ 200 ∧ g < w.heap.size ∧ ∀ j, j < m + 1 → w.cell? ⟨g, off + j, none⟩ = some (.string ((chainS k l s xs).1.getD j ⟨#[]⟩)) := by
  obtain ⟨h1, h2⟩ := chainS_yes hok
  have hl := chainL_len k l xs s _ h2
  rw [hm] at hl h1
  rw [hl] at h
  obtain ⟨A, c, rfl⟩ := h.form
  obtain ⟨g, off, rfl, -, hlt, hc⟩ := h.str (by omega)
  refine ⟨g, off, c, rfl, hl, h1, hlt, fun j hj => ?_⟩
  obtain ⟨u, hu, hcell, -⟩ := hc j hj
  rw [hcell, List.getD_eq_getElem?_getD, hu]; rfl

set_option maxRecDepth 100000 in
set_option maxHeartbeats 1600000 in
theorem specIsProof (k : Int) (A A' : Option Addr) (n c B m c' B' : Nat) (l : List R) (s v : ByteArray) (xs : List LK) (w : World) (h : Own B w (.slice A n c) 2 n (rulesC l)) (hsm : smallR l) (hs : s.size ≤ 1048576) (hX : Own B' w (.slice A' m c') 3 m (linksC xs)) :
    Calls Tryd.prog 25 #[.agg #[.int .i64 k, .slice A n c], .string s, .string v, .slice A' m c'] w fun e w' => e = .returned (.bool (proofS k l s v xs)) ∧ Below w.heap.size w w' := by
  have HO := Lib.hid h
  have HX := Lib.hid hX
  have Hlen := Lib.hid hX.llen
  clear h hX
  go_enter Tryd.func25, Tryd.ntmps25
  go_wp2_with fail
  refine (specChainOf k A A' n c B m c' B' l s xs _ (HO.out.below (bel1 _ _)) hsm hs (HX.out.below (bel1 _ _))).mono ?_
  rintro e w1 ⟨v1, rfl, o1, hb1⟩
  have b1 := (bel1 w _).trans (hb1.mono (by simp))
  clear hb1
  cases hok : (chainS k l s xs).2
  · have HF : Hid (proofS k l s v xs = false) := by show _ = _; rw [proofS, hok]; rfl
    clear hok o1
    go_wp2_with fail
    go_ret
    exact ⟨ret_bool HF.out.symm, b1⟩
  · obtain ⟨g, off, c1, rfl, hl, hm, hlt, hc⟩ := chain_form o1 Hlen.out hok
    have y := hc m (by omega)
    generalize hu : (chainS k l s xs).1.getD m ⟨#[]⟩ = u at *
    have HF : Hid (proofS k l s v xs = (u.toList == v.toList)) := by show _ = _; rw [proofS, hok, Hlen.out, hu]; rfl
    obtain ⟨N, hN⟩ : ∃ N, m + 1 = N := ⟨_, rfl⟩
    have hmN : ((N : Int) - 1) = (m : Int) := by omega
    have hmN2 : m < N := by omega
    rw [hN]
    clear hok o1 hc hl hN hu
    generalize hq : (u.toList == v.toList) = q at *
    go_wp2_with fail
    go_ret
    exact ⟨ret_bool HF.out.symm, b1⟩

set_option maxRecDepth 100000 in
set_option maxHeartbeats 1600000 in
theorem implIsProof (k : Int) (A A' : Option Addr) (n c B m c' B' : Nat) (l : List R) (s v : ByteArray) (xs : List LK) (w : World) (h : Own B w (.slice A n c) 2 n (rulesC l)) (hsm : smallR l) (hs : s.size ≤ 1048576) (hX : Own B' w (.slice A' m c') 3 m (linksC xs)) (hlet : Let w) :
    Calls Tryd.prog 26 #[.agg #[.int .i64 k, .slice A n c], .string s, .string v, .slice A' m c'] w fun e w' => e = .returned (.bool (proofS k l s v xs)) ∧ Below w.heap.size w w' := by
  have HO := Lib.hid h
  have HX := Lib.hid hX
  have Hlen := Lib.hid hX.llen
  have HL := Lib.hid (fun (w' : World) (hb : Below w.heap.size w w') => hlet.keep hb (Nat.le_refl _))
  clear h hX hlet
  go_enter Tryd.func26, Tryd.ntmps26
  go_wp2_with fail
  refine (implChainOf k A A' n c B m c' B' l s xs _ (HO.out.below (bel1 _ _)) hsm hs (HX.out.below (bel1 _ _)) (HL.out _ (bel1 _ _))).mono ?_
  rintro e w1 ⟨v1, rfl, o1, hb1⟩
  have b1 := (bel1 w _).trans (hb1.mono (by simp))
  clear hb1
  cases hok : (chainS k l s xs).2
  · have HF : Hid (proofS k l s v xs = false) := by show _ = _; rw [proofS, hok]; rfl
    clear hok o1
    go_wp2_with fail
    go_ret
    exact ⟨ret_bool HF.out.symm, b1⟩
  · obtain ⟨g, off, c1, rfl, hl, hm, hlt, hc⟩ := chain_form o1 Hlen.out hok
    have y := hc m (by omega)
    generalize hu : (chainS k l s xs).1.getD m ⟨#[]⟩ = u at *
    have HF : Hid (proofS k l s v xs = (u.toList == v.toList)) := by show _ = _; rw [proofS, hok, Hlen.out, hu]; rfl
    obtain ⟨N, hN⟩ : ∃ N, m + 1 = N := ⟨_, rfl⟩
    have hmN2 : m < N := by omega
    rw [hN]
    clear hok o1 hc hl hN hu
    generalize hq : (u.toList == v.toList) = q at *
    go_wp2_with fail
    go_ret
    exact ⟨ret_bool HF.out.symm, b1⟩
theorem ret_ib {a b : Int × Bool} (h : a = b) : Ending.returned (.tuple #[.int .i64 a.1, .bool a.2]) = .returned (.tuple #[.int .i64 b.1, .bool b.2]) := by rw [h]

set_option maxRecDepth 100000 in
set_option maxHeartbeats 1600000 in
theorem specPeakOf (k : Int) (A A' : Option Addr) (n c B m c' B' : Nat) (l : List R) (s : ByteArray) (xs : List LK) (w : World) (h : Own B w (.slice A n c) 2 n (rulesC l)) (hsm : smallR l) (hs : s.size ≤ 1048576) (hX : Own B' w (.slice A' m c') 3 m (linksC xs)) :
    Calls Tryd.prog 32 #[.agg #[.int .i64 k, .slice A n c], .string s, .slice A' m c'] w fun e w' => e = .returned (.tuple #[.int .i64 (peakS k l s xs).1, .bool (peakS k l s xs).2]) ∧ Below w.heap.size w w' := by
  have HO := Lib.hid h
  have HX := Lib.hid hX
  have Hlen := Lib.hid hX.llen
  clear h hX
  go_enter Tryd.func32, Tryd.ntmps32
  go_wp2_with fail
  refine (specChainOf k A A' n c B m c' B' l s xs _ (HO.out.below (bel1 _ _)) hsm hs (HX.out.below (bel1 _ _))).mono ?_
  rintro e w1 ⟨v1, rfl, o1, hb1⟩
  have b1 := (bel1 w _).trans (hb1.mono (by simp))
  clear hb1
  cases hok : (chainS k l s xs).2
  · have HF : Hid (peakS k l s xs = (0, false)) := by show _ = _; rw [peakS, hok]; rfl
    clear hok o1
    go_wp2_with fail
    go_ret2
    exact ⟨ret_ib HF.out.symm, b1⟩
  · obtain ⟨g, off, c1, rfl, hl, hm, hlt, hc⟩ := chain_form o1 Hlen.out hok
    have HF : Hid (peakS k l s xs = (((peakTo (chainS k l s xs).1 (m + 1) : Nat) : Int), true)) := by show _ = _; rw [peakS, hok, if_pos rfl, hl]
    have HC := Lib.hid hc
    obtain ⟨N, hN⟩ : ∃ N, m + 1 = N := ⟨_, rfl⟩
    rw [hN] at HF HC ⊢
    have hN2 : 1 ≤ N ∧ N ≤ 201 := by omega
    clear hok o1 hc hl hN
    generalize (chainS k l s xs).1 = L at *
    go_wp2_with fail
    go_loopw [10, 24] (fun o i wr => ∃ j : Nat, j ≤ N ∧ i = .int .i64 j ∧ o = .int .i64 (peakTo L j : Nat) ∧ wr = w1) (fun _ i _ => N - (intOf i).toNat)
    case atStart => exact ⟨0, Nat.zero_le _, rfl, rfl, rfl⟩
    case round =>
      obtain ⟨j, hj, rfl, rfl, rfl⟩ := hrel
      by_cases hlt2 : j < N
      · have y1 := HC.out j hlt2
        have hpk := (peakTo_lt L j).1
        have y2 := HC.out (peakTo L j) (by omega)
        have hst := Lib.hid (show peakTo L (j + 1) = if lessS (L.getD (peakTo L j) ⟨#[]⟩) (L.getD j ⟨#[]⟩) then j else peakTo L j from rfl)
        generalize L.getD j ⟨#[]⟩ = u at *
        generalize L.getD (peakTo L j) ⟨#[]⟩ = v at *
        generalize peakTo L j = p at *
        have hpN : p < N := by omega
        go_wp2_with fail
        refine (specIsLess v u _).mono ?_
        rintro e w2 ⟨rfl, rfl⟩
        cases hq : lessS v u
        · have hp : Hid (peakTo L (j + 1) = p) := by show _ = _; rw [hst.out, hq]; rfl
          clear hq
          go_wp2_with fail
          go_roundw
          case rel => exact ⟨j + 1, by omega, by go_num, by rw [hp.out], by first | exact trivial | rfl⟩
          case measure => simp [intOf]; omega
        · have hp : Hid (peakTo L (j + 1) = j) := by show _ = _; rw [hst.out, hq]; rfl
          clear hq
          go_wp2_with fail
          go_roundw
          case rel => exact ⟨j + 1, by omega, by go_num, by rw [hp.out], by first | exact trivial | rfl⟩
          case measure => simp [intOf]; omega
      · obtain rfl : j = N := by omega
        go_wp2_with fail
        go_ret2
        exact ⟨ret_ib HF.out.symm, b1⟩

set_option maxRecDepth 100000 in
set_option maxHeartbeats 1600000 in
theorem implPeakOf (k : Int) (A A' : Option Addr) (n c B m c' B' : Nat) (l : List R) (s : ByteArray) (xs : List LK) (w : World) (h : Own B w (.slice A n c) 2 n (rulesC l)) (hsm : smallR l) (hs : s.size ≤ 1048576) (hX : Own B' w (.slice A' m c') 3 m (linksC xs)) (hlet : Let w) :
    Calls Tryd.prog 33 #[.agg #[.int .i64 k, .slice A n c], .string s, .slice A' m c'] w fun e w' => e = .returned (.tuple #[.int .i64 (peakS k l s xs).1, .bool (peakS k l s xs).2]) ∧ Below w.heap.size w w' := by
  have HO := Lib.hid h
  have HX := Lib.hid hX
  have Hlen := Lib.hid hX.llen
  have HL := Lib.hid (fun (w' : World) (hb : Below w.heap.size w w') => hlet.keep hb (Nat.le_refl _))
  clear h hX hlet
  go_enter Tryd.func33, Tryd.ntmps33
  go_wp2_with fail
  refine (implChainOf k A A' n c B m c' B' l s xs _ (HO.out.below (bel1 _ _)) hsm hs (HX.out.below (bel1 _ _)) (HL.out _ (bel1 _ _))).mono ?_
  rintro e w1 ⟨v1, rfl, o1, hb1⟩
  have b1 := (bel1 w _).trans (hb1.mono (by simp))
  clear hb1
  cases hok : (chainS k l s xs).2
  · have HF : Hid (peakS k l s xs = (0, false)) := by show _ = _; rw [peakS, hok]; rfl
    clear hok o1
    go_wp2_with fail
    go_ret2
    exact ⟨ret_ib HF.out.symm, b1⟩
  · obtain ⟨g, off, c1, rfl, hl, hm, hlt, hc⟩ := chain_form o1 Hlen.out hok
    have HF : Hid (peakS k l s xs = (((peakTo (chainS k l s xs).1 (m + 1) : Nat) : Int), true)) := by show _ = _; rw [peakS, hok, if_pos rfl, hl]
    have HC := Lib.hid hc
    obtain ⟨N, hN⟩ : ∃ N, m + 1 = N := ⟨_, rfl⟩
    rw [hN] at HF HC ⊢
    have hN2 : 1 ≤ N ∧ N ≤ 201 := by omega
    clear hok o1 hc hl hN
    generalize (chainS k l s xs).1 = L at *
    go_wp2_with fail
    go_loopw [10, 23] (fun o i wr => ∃ j : Nat, j ≤ N ∧ i = .int .i64 j ∧ o = .int .i64 (peakTo L j : Nat) ∧ Below w1.heap.size w1 wr) (fun _ i _ => N - (intOf i).toNat)
    case atStart => exact ⟨0, Nat.zero_le _, rfl, rfl, Below.refl _ _⟩
    case round =>
      obtain ⟨j, hj, rfl, rfl, hb⟩ := hrel
      have hltr := Nat.lt_of_lt_of_le hlt hb.size
      by_cases hlt2 : j < N
      · have y1 := (hb.cell (p := ⟨g, off + j, none⟩) hlt).trans (HC.out j hlt2)
        have hpk := (peakTo_lt L j).1
        have y2 := (hb.cell (p := ⟨g, off + peakTo L j, none⟩) hlt).trans (HC.out (peakTo L j) (by omega))
        have hst := Lib.hid (show peakTo L (j + 1) = if lessS (L.getD (peakTo L j) ⟨#[]⟩) (L.getD j ⟨#[]⟩) then j else peakTo L j from rfl)
        generalize L.getD j ⟨#[]⟩ = u at *
        generalize L.getD (peakTo L j) ⟨#[]⟩ = v at *
        generalize peakTo L j = p at *
        have hpN : p < N := by omega
        go_wp2_with fail
        go_region_held3 (fun w' => w'.cell? ⟨g, off + j, none⟩ = some (.string u) ∧ w'.cell? ⟨g, off + p, none⟩ = some (.string v) ∧ Below w1.heap.size w1 w')
          (first | exact ⟨y1, y2, hb.drew⟩ | assumption)
          ((go_at_call 61; refine (implIsLess v u _).mono ?_; rintro e w2 ⟨rfl, rfl⟩))
        have hS := (‹_ ∧ _ ∧ Below w1.heap.size w1 _›).2.2
        cases hq : lessS v u
        · have hp : Hid (peakTo L (j + 1) = p) := by show _ = _; rw [hst.out, hq]; rfl
          clear hq
          go_wp2_with fail
          go_roundw
          case rel => exact ⟨j + 1, by omega, by go_num, by rw [hp.out], hS⟩
          case measure => simp [intOf]; omega
        · have hp : Hid (peakTo L (j + 1) = j) := by show _ = _; rw [hst.out, hq]; rfl
          clear hq
          go_wp2_with fail
          go_roundw
          case rel => exact ⟨j + 1, by omega, by go_num, by rw [hp.out], hS⟩
          case measure => simp [intOf]; omega
      · obtain rfl : j = N := by omega
        go_wp2_with fail
        go_ret2
        exact ⟨ret_ib HF.out.symm, b1.trans (hb.mono b1.size)⟩
end Go.Proofs.YtddifhbjjiphiaaDoor
