/- The program's lists of images: countLists, nextList, monoidFor. -/
import Derived.Test.YtlgaihofaiigcaaDoorImplMean
import Derived.Test.YtlgaihofaiigcaaDoorSpecMaps
import Derived.Test.YtlgaihofaiigcaaDoorTurn
namespace Go.Proofs.YtlgaihofaiigcaaDoor
open Go.RowKit

set_option maxRecDepth 100000 in
set_option maxHeartbeats 800000 in
theorem countLists_any (g N K : Nat) (xs : List Int) (w : World) (h : MonAt w g N xs) (h1 : 1 ≤ N) (h40 : N ≤ 40) (hK : K ≤ 4) :
    Calls Tryd.prog 73 #[.pointer (some ⟨g, 0, none⟩), .int .i64 (K : Int)] w fun e w' => e = .returned (.int .i64 ((N ^ K : Nat) : Int)) ∧ w = w' := by
  have x := h.size
  clear h
  have hP : N ^ K ≤ 2560000 := Nat.le_trans (Nat.pow_le_pow_left h40 K) (Nat.le_trans (Nat.pow_le_pow_right (by omega) hK) (by decide))
  go_enter Tryd.func73, Tryd.ntmps73
  go_wp2_with fail
  go_loop [5, 7] (fun p i' => ∃ i : Nat, i' = .int .i64 i ∧ i ≤ K ∧ p = .int .i64 ((N ^ i : Nat) : Int)) (fun _ i' => K - (intOf i').toNat)
  case atStart => exact ⟨0, rfl, Nat.zero_le _, by simp⟩
  case round =>
    obtain ⟨i, rfl, hi, rfl⟩ := hrel
    by_cases hlt : i < K
    · have hU := Nat.le_trans (pow_mono (N := N) h1 (show i + 1 ≤ K by omega)) hP
      have Hs := Lib.hid (Nat.pow_succ (n := N) (m := i))
      rw [Hs.out] at hU
      have hcast : ((N ^ i : Nat) : Int) * (N : Int) = ((N ^ i * N : Nat) : Int) := by simp
      generalize N ^ i = V at *
      obtain ⟨U, hUe⟩ : ∃ U : Nat, V * N = U := ⟨_, rfl⟩
      rw [hUe] at Hs hcast hU
      have hm0 : 0 ≤ (V : Int) * (N : Int) := by rw [hcast]; omega
      have hm1 : (V : Int) * (N : Int) ≤ 2560000 := by rw [hcast]; omega
      clear hUe
      go_wp2_with fail
      go_round
      case rel => exact ⟨i + 1, by go_num, by omega, by rw [Hs.out]⟩
      case measure => simp [intOf]; omega
    · obtain rfl : K = i := by omega
      obtain ⟨V, hV⟩ : ∃ V, N ^ K = V := ⟨_, rfl⟩
      have HV := Lib.hid hV
      rw [hV]
      clear hV
      go_wp2_with fail
      go_ret
      exact ⟨ret_i64 (by rw [← HV.out]; simp), rfl⟩
theorem turn_drewN {S : List Nat} {W W' : World} (h : Turn S W W') (m : Nat) : Turn S W (W'.drewN m) := h.trans (turn_below (below_drewN (Below.refl _ _) m))
set_option maxRecDepth 100000 in
set_option maxHeartbeats 1600000 in
theorem nextList_any (g N K n b : Nat) (xs : List Int) (w : World) (h : MonAt w g N xs) (h1 : 1 ≤ N) (h40 : N ≤ 40) (hK : K ≤ 4) (hn : n < N ^ K) (hL : Nums w b (imgsAt N K n)) (hbg : b ≠ g) :
    Calls Tryd.prog 75 #[.pointer (some ⟨g, 0, none⟩), .slice (some ⟨b, 0, none⟩) K K] w fun e w' => e = .returned (.bool (decide (n + 1 < N ^ K))) ∧ (n + 1 < N ^ K → Nums w' b (imgsAt N K (n + 1))) ∧ Turn [b] w w' ∧ w'.heap.size = w.heap.size := by
  have HM := Lib.hid (fun (w' : World) (hb : Turn [b] w w') (hs : w'.heap.size = w.heap.size) => (World.cell?_of_block (w := w) (a := ⟨g, 0, none⟩) (hb.block g h.lt (by simp; omega))).trans h.size)
  have HN0 : Hid (Nums w b (nxtL N K n [])) := by show Nums _ _ _; unfold nxtL; rw [List.append_nil]; exact hL
  have hS0 := Nxt.start (N := N) hn
  clear h hL
  go_enter Tryd.func75, Tryd.ntmps75
  go_wp2_with fail
  go_loopw [5] (fun i' wr => ∃ (i m : Nat) (Zt : List Nat), i' = .int .i64 ((i : Int) - 1) ∧ i ≤ K ∧ Hid (Nxt N K n i m Zt) ∧ Hid (Nums wr b (nxtL N i m Zt)) ∧ Hid (Turn [b] w wr) ∧ wr.heap.size = w.heap.size) (fun i' _ => (intOf i' + 1).toNat)
  case atStart => exact ⟨K, n, [], rfl, Nat.le_refl _, hS0, HN0, Turn.refl _ _, rfl⟩
  case round =>
    obtain ⟨i, m, Zt, rfl, hi, HX, HN, HT, hsz⟩ := hrel
    cases i with
    | zero =>
      have hno := HX.out.none_
      have Hno := Lib.hid hno
      have Hd := Lib.hid (decide_eq_false hno)
      clear hno
      go_wp2_with fail
      go_ret
      exact ⟨ret_bool Hd.out.symm, fun h => absurd h Hno.out, HT.out, hsz⟩
    | succ i =>
      have hx := HM.out _ HT.out hsz
      obtain ⟨y0, y1⟩ := HN.out.cell (nxtL_get N i m Zt)
      have hmm := HX.out.mod_lt h1
      have hi1 : i < K := by omega
      have Hset := Lib.hid (fun v => nxtL_set N i m Zt v)
      rw [show (((i + 1 : Nat) : Int) - 1) = (i : Int) by omega]
      have hi0 : (0 : Int) ≤ (i : Int) := by omega
      have hiK : (i : Int) < (K : Int) := by omega
      by_cases hlow : m % N < N - 1
      · have HF := Lib.hid (HX.out.found h1 hlow)
        have Hd := Lib.hid (decide_eq_true HF.out.2)
        have HN2 := Lib.hid (fun q => by
          have h2 := (HN.out.below (below_drewN (Below.refl _ wr) q)).set_ i (m % N + 1)
          rw [Hset.out, ← HF.out.1, show (((m % N + 1 : Nat)) : Int) = ((m % N : Nat) : Int) + 1 by omega] at h2
          exact h2)
        have HT2 := Lib.hid (fun q (u : Value) => (turn_drewN HT.out q).trans (turn_set (wr.drewN q) b i u (by simp)))
        have hlt2 : ((m % N : Nat) : Int) < (N : Int) - 1 := by omega
        clear hlow
        generalize m % N = MM at *
        go_wp2_with fail
        go_quiet (fail)
        all_goals go_wp2_with fail
        go_ret
        exact ⟨ret_bool Hd.out.symm, fun _ => HN2.out _, HT2.out _ _, by rw [World.size_setCell]; exact hsz⟩
      · have hhigh : m % N = N - 1 := by omega
        have HX2 := Lib.hid (HX.out.step h1 hhigh)
        have HN2 := Lib.hid (fun q => by
          have h2 := (HN.out.below (below_drewN (Below.refl _ wr) q)).set_ i 0
          rw [Hset.out] at h2
          exact (h2 : Nums ((wr.drewN q).setCell ⟨b, i, none⟩ (.int .i64 0)) b (nxtL N i (m / N) (0 :: Zt))))
        have HT2 := Lib.hid (fun q (u : Value) => (turn_drewN HT.out q).trans (turn_set (wr.drewN q) b i u (by simp)))
        have hlt2 : ¬ ((m % N : Nat) : Int) < (N : Int) - 1 := by omega
        clear hlow hhigh hmm
        generalize m % N = MM at *
        generalize m / N = MD at *
        go_wp2_with fail
        go_quiet (fail)
        all_goals go_wp2_with fail
        go_roundw
        case rel => exact ⟨i, MD, 0 :: Zt, by first | rfl | go_num, by omega, HX2, HN2.out _, HT2.out _ _, by rw [World.size_setCell]; exact hsz⟩
        case measure => simp [intOf]
def MFor (k : Int) (l : List R) (q : Int) (xs : List Int) (e : Ending) (w' : World) : Prop :=
  (∃ K N g : Nat, k = K ∧ q = N ∧ mapsOk K l N xs = true ∧ TabOk N xs ∧ e = .returned (.tuple #[.pointer (some ⟨g, 0, none⟩), .bool true]) ∧ MonAt w' g N xs) ∨ (mapsOk k l q xs = false ∧ e = .returned (.tuple #[.pointer none, .bool false]))
set_option maxRecDepth 100000 in
set_option maxHeartbeats 800000 in
theorem monoidFor_any (k : Int) (Z : Option Addr) (nz cz Bz : Nat) (l : List R) (q : Int) (A : Option Addr) (n c B : Nat) (xs : List Int) (w : World) (hZ : Own Bz w (.slice Z nz cz) 2 nz (rulesC l)) (hsm : smallR l) (h : Own B w (.slice A n c) 1 n (ints xs)) (hlet : Let w) :
    Calls Tryd.prog 48 #[.agg #[.int .i64 k, .slice Z nz cz], tabV q A n c] w fun e w' => MFor k l q xs e w' ∧ Below w.heap.size w w' := by
  have b0 := bel2 w (.cells #[.int .i64 k, .slice Z nz cz] 41) (.cells #[.int .i64 q, .slice A n c] 28)
  have HZ := Lib.hid (hZ.below b0)
  have HO := Lib.hid (fun (w' : World) (hb : Below w.heap.size w w') => h.below hb)
  have HL := Lib.hid (hlet.keep b0 (Nat.le_refl _))
  have X0 := Lib.hid ((Blk.new1 w #[.int .i64 k, .slice Z nz cz] 41).alloc (.cells #[.int .i64 q, .slice A n c] 28))
  have Y0 := Lib.hid (Blk.new2 w (.cells #[.int .i64 k, .slice Z nz cz] 41) #[.int .i64 q, .slice A n c] 28)
  have Hsm := Lib.hid hsm
  clear h hZ hsm hlet
  go_enter Tryd.func48, Tryd.ntmps48
  go_wp2_with fail
  generalize (w.alloc (.cells #[.int .i64 k, .slice Z nz cz] 41)).alloc (.cells #[.int .i64 q, .slice A n c] 28) = w0 at *
  refine (implRulesOk k Z nz cz Bz l _ HZ.out Hsm.out HL.out).mono ?_
  rintro e w1 ⟨rfl, hb1⟩
  have b1 := b0.trans (hb1.mono b0.size)
  have X1 := Lib.hid (X0.out.below hb1 X0.out.lt)
  have Y1 := Lib.hid (Y0.out.below hb1 Y0.out.lt)
  clear hb1 X0 Y0
  obtain ⟨x0, x1, -, -, xl⟩ := X1.out.two
  obtain ⟨y0, y1, -, -, yl⟩ := Y1.out.two
  cases hr : rulesOk k l
  · have He := Lib.hid (mapsOk_no1 (q := q) (xs := xs) hr)
    clear hr
    go_wp2_with fail
    go_ret2
    exact ⟨.inr ⟨He.out, rfl⟩, b1⟩
  have Hr := Lib.hid hr
  clear hr
  go_wp2_with fail
  refine (monoidFrom_any q A n c B xs _ (HO.out _ b1)).mono ?_
  rintro e w2 ⟨hm, hb2⟩
  have b2 := b1.trans (hb2.mono b1.size)
  have X2 := Lib.hid (X1.out.below hb2 X1.out.lt)
  clear hb2 x0 x1 xl y0 y1 yl X1 Y1
  obtain ⟨x0, x1, -, -, xl⟩ := X2.out.two
  rcases hm with ⟨N, g, rfl, hT, rfl, hg, hM⟩ | ⟨hT, rfl⟩
  · obtain ⟨hk1, hk4, -⟩ := rulesOk_letters Hr.out
    obtain ⟨K, rfl⟩ : ∃ K : Nat, k = K := ⟨k.toNat, by omega⟩
    have HT := Lib.hid hT
    have HM := Lib.hid hM
    have h1 := hT.lo
    have h40 := hT.hi
    clear hT hM
    go_wp2_with fail
    refine (countLists_any g N K xs _ HM.out h1 h40 (by omega)).mono ?_
    rintro e w3 ⟨rfl, rfl⟩
    by_cases hbig : 4096 < N ^ K
    · have He := Lib.hid (mapsOk_no3 (l := l) (xs := xs) hbig)
      generalize N ^ K = V at *
      go_wp2_with fail
      go_ret2
      exact ⟨.inr ⟨He.out, rfl⟩, b2⟩
    · have He := Lib.hid (mapsOk_yes Hr.out HT.out (by omega))
      have hP : N ^ K ≤ 4096 := by omega
      clear hbig
      generalize N ^ K = V at *
      go_wp2_with fail
      go_ret2
      exact ⟨.inl ⟨K, N, g, rfl, rfl, He.out, HT.out, rfl, HM.out⟩, b2⟩
  · have He := Lib.hid (mapsOk_no2 (k := k) (l := l) hT)
    clear hT
    go_wp2_with fail
    go_ret2
    exact ⟨.inr ⟨He.out, rfl⟩, b2⟩
set_option maxHeartbeats 400000 in
theorem maps_any (g : Nat) (k : Int) (Z : Option Addr) (nz cz : Nat) (w : World) :
    Calls Tryd.prog 49 #[.pointer (some ⟨g, 0, none⟩), .agg #[.int .i64 k, .slice Z nz cz]] w fun e w' =>
      e = .returned (.func (.func 74) #[] #[.pointer (some ⟨w.heap.size + 1, 0, none⟩), .pointer (some ⟨w.heap.size, 0, none⟩)]) ∧
      w' = (w.alloc (.cells #[.pointer (some ⟨g, 0, none⟩)] 71)).alloc (.cells #[.int .i64 k, .slice Z nz cz] 41) := by
  go_enter Tryd.func49, Tryd.ntmps49
  go_wp2_with fail
  go_ret
  exact ⟨rfl, rfl⟩
end Go.Proofs.YtlgaihofaiigcaaDoor
