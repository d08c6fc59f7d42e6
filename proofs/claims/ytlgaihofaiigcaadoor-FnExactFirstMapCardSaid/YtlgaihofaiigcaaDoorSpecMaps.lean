/- The model's CountMaps, FirstMap. -/
import Derived.Test.YtlgaihofaiigcaaDoorSpecMean
import Derived.Test.YtlgaihofaiigcaaDoorMapsPlain
namespace Go.Proofs.YtlgaihofaiigcaaDoor
open Go.RowKit

noncomputable def listsN (k : Int) (l : List R) (q : Int) (xs : List Int) : Int := if mapsOk k l q xs then ((q.toNat ^ k.toNat : Nat) : Int) else -1
theorem listsN_yes {K N : Nat} {l : List R} {xs : List Int} (h : mapsOk K l N xs = true) : listsN K l N xs = ((N ^ K : Nat) : Int) := by unfold listsN; rw [h]; rfl
theorem listsN_no {k q : Int} {l : List R} {xs : List Int} (h : mapsOk k l q xs = false) : listsN k l q xs = -1 := by unfold listsN; rw [h]; rfl
theorem pow_mono {N i K : Nat} (h1 : 1 ≤ N) (h : i ≤ K) : N ^ i ≤ N ^ K := Nat.pow_le_pow_right h1 h
set_option maxRecDepth 100000 in
set_option maxHeartbeats 1600000 in
theorem l11Lists_any (k : Int) (Z : Option Addr) (nz cz Bz : Nat) (l : List R) (q : Int) (A : Option Addr) (n c B : Nat) (xs : List Int) (w : World) (hZ : Own Bz w (.slice Z nz cz) 2 nz (rulesC l)) (hsm : smallR l) (h : Own B w (.slice A n c) 1 n (ints xs)) (hn : n ≤ 1048576) :
    Calls Tryd.prog 46 #[.agg #[.int .i64 k, .slice Z nz cz], tabV q A n c] w fun e w' => e = .returned (.int .i64 (listsN k l q xs)) ∧ Below w.heap.size w w' := by
  have b0 := bel2 w (.cells #[.int .i64 k, .slice Z nz cz] 41) (.cells #[.int .i64 q, .slice A n c] 28)
  have HZ := Lib.hid (hZ.below b0)
  have HO := Lib.hid (fun (w' : World) (hb : Below w.heap.size w w') => h.below hb)
  have X0 := Lib.hid ((Blk.new1 w #[.int .i64 k, .slice Z nz cz] 41).alloc (.cells #[.int .i64 q, .slice A n c] 28))
  have Y0 := Lib.hid (Blk.new2 w (.cells #[.int .i64 k, .slice Z nz cz] 41) #[.int .i64 q, .slice A n c] 28)
  have Hsm := Lib.hid hsm
  clear h hZ hsm
  go_enter Tryd.func46, Tryd.ntmps46
  go_wp2_with fail
  generalize (w.alloc (.cells #[.int .i64 k, .slice Z nz cz] 41)).alloc (.cells #[.int .i64 q, .slice A n c] 28) = w0 at *
  refine (specRulesOk k Z nz cz Bz l _ HZ.out Hsm.out).mono ?_
  rintro e w1 ⟨rfl, hb1⟩
  have b1 := b0.trans (hb1.mono b0.size)
  have X1 := Lib.hid (X0.out.below hb1 X0.out.lt)
  have Y1 := Lib.hid (Y0.out.below hb1 Y0.out.lt)
  clear hb1 X0 Y0
  obtain ⟨x0, x1, -, -, xl⟩ := X1.out.two
  obtain ⟨y0, y1, -, -, yl⟩ := Y1.out.two
  cases hr : rulesOk k l
  · have He := Lib.hid (listsN_no (mapsOk_no1 (q := q) (xs := xs) hr))
    clear hr
    go_wp2_with fail
    go_ret
    exact ⟨ret_i64 He.out.symm, b1⟩
  have Hr := Lib.hid hr
  clear hr
  go_wp2_with fail
  refine (specTableOk q A n c B xs _ (HO.out _ b1) hn).mono ?_
  rintro e w2 ⟨rfl, hb2⟩
  have b2 := b1.trans (hb2.mono b1.size)
  have X2 := Lib.hid (X1.out.below hb2 X1.out.lt)
  have Y2 := Lib.hid (Y1.out.below hb2 Y1.out.lt)
  clear hb2 x0 x1 xl y0 y1 yl X1 Y1
  obtain ⟨x0, x1, -, -, xl⟩ := X2.out.two
  obtain ⟨y0, y1, -, -, yl⟩ := Y2.out.two
  cases hT : tableOk q xs
  · have He := Lib.hid (listsN_no (mapsOk_no2 (k := k) (l := l) hT))
    clear hT
    go_wp2_with fail
    go_ret
    exact ⟨ret_i64 He.out.symm, b2⟩
  obtain ⟨N, rfl, hTab⟩ := tableOk_iff hT
  obtain ⟨hk1, hk4, -⟩ := rulesOk_letters Hr.out
  obtain ⟨K, rfl⟩ : ∃ K : Nat, k = K := ⟨k.toNat, by omega⟩
  have HT := Lib.hid hTab
  have h1 := hTab.lo
  have h40 := hTab.hi
  clear hT hTab
  go_wp2_with fail
  go_loop [5, 6] (fun p i' => ∃ i : Nat, i' = .int .i64 i ∧ i ≤ K ∧ p = .int .i64 (N ^ i : Nat) ∧ N ^ i ≤ 4096) (fun _ i' => K - (intOf i').toNat)
  case atStart => exact ⟨0, rfl, Nat.zero_le _, by simp, by simp⟩
  case round =>
    obtain ⟨i, rfl, hi, rfl, hp⟩ := hrel
    by_cases hlt : i < K
    · have Hs := Lib.hid (Nat.pow_succ (n := N) (m := i))
      have hmul : N ^ i * N ≤ 4096 * 40 := Nat.mul_le_mul hp h40
      have hcast : ((N ^ i : Nat) : Int) * (N : Int) = ((N ^ i * N : Nat) : Int) := by simp
      have hm0 : 0 ≤ ((N ^ i : Nat) : Int) * (N : Int) := by rw [hcast]; omega
      have hm1 : ((N ^ i : Nat) : Int) * (N : Int) ≤ 163840 := by rw [hcast]; omega
      obtain ⟨V, hV⟩ : ∃ V : Nat, N ^ i = V := ⟨_, rfl⟩
      have Hpk := Lib.hid (pow_mono (N := N) h1 (show i + 1 ≤ K by omega))
      rw [hV] at hcast hm0 hm1 hp Hs hmul ⊢
      obtain ⟨U, hU⟩ : ∃ U : Nat, V * N = U := ⟨_, rfl⟩
      rw [hU] at Hs hcast hmul
      have Hcast := Lib.hid hcast
      rw [hcast] at hm0 hm1
      by_cases hbig : 4096 < U
      · have He := Lib.hid (listsN_no (mapsOk_no3 (l := l) (xs := xs) (K := K) (N := N) (Nat.lt_of_lt_of_le (by rw [Hs.out]; exact hbig) Hpk.out)))
        clear hV hU hmul
        go_wp2_with fail
        go_ret
        exact ⟨ret_i64 He.out.symm, b2⟩
      · clear hV hU hmul
        go_wp2_with fail
        go_round
        case rel => exact ⟨i + 1, by go_num, by omega, by rw [Hs.out], by rw [Hs.out]; omega⟩
        case measure => simp [intOf]; omega
    · obtain rfl : K = i := by omega
      have He := Lib.hid (listsN_yes (mapsOk_yes Hr.out HT.out hp))
      generalize N ^ K = V at *
      go_wp2_with fail
      go_ret
      exact ⟨ret_i64 He.out.symm, b2⟩
theorem run_makeInts (u : World) (n : Nat) (hn : n ≤ 1048576) : (Instr.makeSlice 22 (.int .i64 (n : Int)) (.int .i64 (n : Int))).run Tryd.prog u =
      .ok (.slice (some ⟨u.heap.size, 0, none⟩) n n) (u.alloc (.cells (madeCells #[.int .i64 0] n) 3)) := by
  obtain ⟨i0, hi, hz0, hz1, hz2⟩ := infoR_parts infoInt
  have h := run_make (P := Tryd.prog) u 22 3 i0 (.int .i64 0) Tryd.underlying22 hi hz0 .i64 .i64 (n : Int) (n : Int) (by omega) (Int.le_refl _) (by rw [hz2]; omega) (by omega)
  simpa [hz1, Value.cells] using h
/-- Block b holds these numbers. -/
def Nums (w : World) (b : Nat) (L : List Nat) : Prop := Blk w b 3 (ints (nints L)).toArray
theorem Nums.new (w : World) (n : Nat) : Nums (w.alloc (.cells (madeCells #[.int .i64 0] n) 3)) w.heap.size (List.replicate n 0) := by
  have e : madeCells #[Value.int .i64 0] n = (ints (nints (List.replicate n 0))).toArray := by
    apply Array.ext
    · simp [madeCells, ints, nints]
    · intro i h1 h2; simp [madeCells, ints, nints, Nat.mod_one]
  unfold Nums; rw [e]; exact Blk.new1 _ _ _
section
variable {w w' : World} {b : Nat} {L : List Nat}
theorem Nums.lt (h : Nums w b L) : b < w.heap.size := Blk.lt h
theorem Nums.cell (h : Nums w b L) {j x : Nat} (hj : L[j]? = some x) : w.cell? ⟨b, j, none⟩ = some (.int .i64 (x : Int)) ∧ w.frozen? ⟨b, j, none⟩ = false := by
  refine ⟨(Blk.cell h j).trans ?_, Blk.frozen h j⟩
  rw [List.getElem?_toArray]; simp [ints, nints, hj]
theorem Nums.set_ (h : Nums w b L) (i v : Nat) : Nums (w.setCell ⟨b, i, none⟩ (.int .i64 (v : Int))) b (L.set i v) := by
  have h2 := Blk.set_ h i (.int .i64 (v : Int))
  unfold Nums
  rwa [List.setIfInBounds_toArray, ← nints_set] at h2
theorem Nums.below (h : Nums w b L) (hb : Below w.heap.size w w') : Nums w' b L := (hb.block b h.lt).trans h
theorem Nums.own (h : Nums w b L) (hn : L.length ≤ maxLen) {B : Nat} (hB : B ≤ b) : Own B w (.slice (some ⟨b, 0, none⟩) L.length L.length) 1 L.length (ints (nints L)) := by
  refine ⟨by rw [ints_length, nints_length]; omega, _, _, rfl, Nat.le_refl _, hn, fun _ => ⟨b, 0, rfl, hB, h.lt, fun j hj => ?_⟩⟩
  rw [ints_length, nints_length] at hj
  rw [Nat.zero_add]
  have h3 := h.cell (j := j) (x := L[j]) (List.getElem?_eq_getElem hj)
  exact ⟨by rw [h3.1]; simp [ints, nints, hj], h3.2⟩
end
set_option maxRecDepth 100000 in
set_option maxHeartbeats 1600000 in
theorem l11Images_any (K N j : Nat) (Z : Option Addr) (nz cz : Nat) (A : Option Addr) (n c : Nat) (w : World) (h1 : 1 ≤ N) (h40 : N ≤ 40) (hK : K ≤ 4) (hj : j ≤ 4096) :
    Calls Tryd.prog 47 #[.agg #[.int .i64 K, .slice Z nz cz], tabV N A n c, .int .i64 j] w fun e w' => ∃ v, e = .returned v ∧ Own w.heap.size w' v 1 K (ints (nints (imgsAt N K j))) ∧ Below w.heap.size w w' := by
  have b0 := bel2 w (.cells #[.int .i64 K, .slice Z nz cz] 41) (.cells #[.int .i64 N, .slice A n c] 28)
  have X0 := Lib.hid ((Blk.new1 w #[.int .i64 K, .slice Z nz cz] 41).alloc (.cells #[.int .i64 N, .slice A n c] 28))
  have Y0 := Lib.hid (Blk.new2 w (.cells #[.int .i64 K, .slice Z nz cz] 41) #[.int .i64 N, .slice A n c] 28)
  have hs0 : ((w.alloc (.cells #[.int .i64 K, .slice Z nz cz] 41)).alloc (.cells #[.int .i64 N, .slice A n c] 28)).heap.size = w.heap.size + 2 := by simp
  have hmk := fun u => run_makeInts u K (by omega)
  obtain ⟨x0, x1, -, -, xl⟩ := X0.out.two
  go_enter Tryd.func47, Tryd.ntmps47
  go_wp2_with fail
  clear x0 x1 xl hmk
  generalize (w.alloc (.cells #[.int .i64 K, .slice Z nz cz] 41)).alloc (.cells #[.int .i64 N, .slice A n c] 28) = w0 at *
  have N1 := Lib.hid (Nums.new w0 K)
  rw [hs0] at N1
  have b1 := b0.alloc b0.size (.cells (madeCells #[.int .i64 0] K) 3)
  have Y1 := Lib.hid (Y0.out.alloc (.cells (madeCells #[.int .i64 0] K) 3))
  generalize w0.alloc (.cells (madeCells #[.int .i64 0] K) 3) = w1 at *
  clear b0 X0 Y0
  go_loopw [2, 8] (fun q' i' wr => ∃ (i m : Nat) (Zt : List Nat), q' = .int .i64 m ∧ i' = .int .i64 ((i : Int) - 1) ∧ i ≤ K ∧ m ≤ 4096 ∧ Hid (Nums wr (w.heap.size + 2) (List.replicate i 0 ++ Zt)) ∧ Zt.length = K - i ∧ Hid (imgsAt N K j = imgsAt N i m ++ Zt) ∧ Hid (Blk wr (w.heap.size + 1) 28 #[.int .i64 (N : Int), .slice A n c]) ∧ Below w.heap.size w wr) (fun _ i' _ => (intOf i' + 1).toNat)
  case atStart => exact ⟨K, j, [], rfl, rfl, Nat.le_refl _, hj, by rw [List.append_nil]; exact N1, by simp, by show _ = _; rw [List.append_nil], Y1, b1⟩
  case round =>
    obtain ⟨i, m, Zt, rfl, rfl, hi, hm, HN, hZ, HE, HY, hb⟩ := hrel
    cases i with
    | zero =>
      have hZ0 : Zt.length = K := by simpa using hZ
      have HE0 : Hid (imgsAt N K j = Zt) := HE
      have HN0 : Hid (Nums wr (w.heap.size + 2) Zt) := by simpa [Hid] using HN
      have HX := Lib.hid (HN0.out.own (B := w.heap.size) (by rw [hZ0]; unfold maxLen; omega) (by omega))
      rw [hZ0, ← HE0.out] at HX
      go_wp2_with fail
      go_ret
      exact ⟨_, rfl, HX.out, hb⟩
    | succ i =>
      have hiK : i < K := by omega
      have hg : (List.replicate (i + 1) 0 ++ Zt)[i]? = some 0 := by
        rw [List.getElem?_append_left (by simp)]; simp
      have hst : (List.replicate (i + 1) 0 ++ Zt).set i (m % N) = List.replicate i 0 ++ (m % N) :: Zt := by
        rw [List.replicate_succ', List.append_assoc, List.set_append_right _ _ (by simp)]; simp
      obtain ⟨y0, y1⟩ := HN.out.cell hg
      have HN2 := Lib.hid (HN.out.set_ i (m % N))
      rw [hst] at HN2
      have HE2 : Hid (imgsAt N K j = imgsAt N i (m / N) ++ (m % N) :: Zt) := by
        show _ = _
        rw [HE.out]
        show imgsAt N i (m / N) ++ [m % N] ++ Zt = _
        rw [List.append_assoc]; rfl
      have HY2 := Lib.hid (HY.out.far (p := ⟨w.heap.size + 2, i, none⟩) (by show w.heap.size + 1 ≠ w.heap.size + 2; omega) (.int .i64 ((m % N : Nat) : Int)))
      have hb2 : Below w.heap.size w (wr.setCell ⟨w.heap.size + 2, i, none⟩ (.int .i64 ((m % N : Nat) : Int))) := hb.setCell (by show w.heap.size ≤ w.heap.size + 2; omega) _
      obtain ⟨q0, q1, -, -, ql⟩ := HY.out.two
      obtain ⟨q2, q3, -, -, -⟩ := HY2.out.two
      have e1 : (m : Int).tmod (N : Int) = ((m % N : Nat) : Int) := by rw [Int.tmod_eq_emod_of_nonneg (by omega)]; simp
      have e2 : (m : Int).tdiv (N : Int) = ((m / N : Nat) : Int) := by rw [Int.tdiv_eq_ediv_of_nonneg (by omega)]; simp
      have hmd : m / N ≤ 4096 := Nat.le_trans (Nat.div_le_self _ _) hm
      have hmm : m % N < N := Nat.mod_lt _ (by omega)
      have hz2 : ((m % N) :: Zt).length = K - i := by simp; omega
      have hz3 := Lib.hid hz2
      clear hg hst HN HE HY hb hz2
      generalize m % N = MM at *
      generalize m / N = MD at *
      have e3 : (i : Int) + 1 - 1 = i := by omega
      rw [show (((i + 1 : Nat) : Int) - 1) = (i : Int) by omega]
      go_wp2_with fail
      go_roundw
      case rel => exact ⟨i, MD, MM :: Zt, by first | rfl | go_num, by first | rfl | go_num, by omega, hmd, HN2, hz3.out, HE2, HY2, hb2⟩
      case measure => simp [intOf]
set_option maxRecDepth 100000 in
set_option maxHeartbeats 1600000 in
theorem specCountMaps (k : Int) (Z : Option Addr) (nz cz Bz : Nat) (l : List R) (q : Int) (A : Option Addr) (n c B : Nat) (xs : List Int) (w : World) (hZ : Own Bz w (.slice Z nz cz) 2 nz (rulesC l)) (hsm : smallR l) (h : Own B w (.slice A n c) 1 n (ints xs)) (hn : n ≤ 1048576) :
    Calls Tryd.prog 21 #[.agg #[.int .i64 k, .slice Z nz cz], tabV q A n c] w fun e w' => e = .returned (.int .i64 (countMaps k l q xs)) ∧ Below w.heap.size w w' := by
  have b0 := bel2 w (.cells #[.int .i64 k, .slice Z nz cz] 41) (.cells #[.int .i64 q, .slice A n c] 28)
  have HZ := Lib.hid (fun (w' : World) (hb : Below w.heap.size w w') => hZ.below hb)
  have HO := Lib.hid (fun (w' : World) (hb : Below w.heap.size w w') => h.below hb)
  have X0 := Lib.hid ((Blk.new1 w #[.int .i64 k, .slice Z nz cz] 41).alloc (.cells #[.int .i64 q, .slice A n c] 28))
  have Y0 := Lib.hid (Blk.new2 w (.cells #[.int .i64 k, .slice Z nz cz] 41) #[.int .i64 q, .slice A n c] 28)
  have Hsm := Lib.hid hsm
  clear h hZ hsm
  go_enter Tryd.func21, Tryd.ntmps21
  go_wp2_with fail
  generalize (w.alloc (.cells #[.int .i64 k, .slice Z nz cz] 41)).alloc (.cells #[.int .i64 q, .slice A n c] 28) = w0 at *
  refine (l11Lists_any k Z nz cz Bz l q A n c B xs _ (HZ.out _ b0) Hsm.out (HO.out _ b0) hn).mono ?_
  rintro e w1 ⟨rfl, hb1⟩
  have b1 := b0.trans (hb1.mono b0.size)
  have X1 := Lib.hid (X0.out.below hb1 X0.out.lt)
  have Y1 := Lib.hid (Y0.out.below hb1 Y0.out.lt)
  clear hb1 X0 Y0
  cases hok : mapsOk k l q xs
  · have He := Lib.hid (countMaps_no hok)
    rw [listsN_no hok]
    clear hok
    go_wp2_with fail
    refine wp_loop_rounds 1 ?_
    rw [rounds_succ]
    go_wp2_with fail
    go_ret
    exact ⟨ret_i64 He.out.symm, b1⟩
  obtain ⟨K, N, rfl, rfl, hr, hT, h4096⟩ := mapsOk_iff hok
  obtain ⟨hk1, hk4, -⟩ := rulesOk_letters hr
  have He := Lib.hid (countMaps_yes hok)
  have Hr := Lib.hid hr
  have HT := Lib.hid hT
  have h1 := hT.lo
  have h40 := hT.hi
  rw [listsN_yes hok]
  clear hok hr hT
  generalize N ^ K = M at *
  go_wp2_with fail
  go_loopw [5, 7] (fun t' i' wr => ∃ i : Nat, i' = .int .i64 i ∧ i ≤ M ∧ t' = .int .i64 ((pick (mapB N K xs l) i).length : Nat) ∧ Below w1.heap.size w1 wr) (fun _ i' _ => M - (intOf i').toNat)
  case atStart => exact ⟨0, rfl, Nat.zero_le _, by simp [pick], Below.refl _ _⟩
  case round =>
    obtain ⟨i, rfl, hi, rfl, hb⟩ := hrel
    have hbs := hb.size
    have hbw := b1.trans (hb.mono b1.size)
    have hpl := pick_len (mapB N K xs l) i
    by_cases hlt : i < M
    · obtain ⟨x0, x1, -, -, xl⟩ := (X1.out.below hb X1.out.lt).two
      obtain ⟨y0, y1, -, -, yl⟩ := (Y1.out.below hb Y1.out.lt).two
      have HD := Lib.hid (fun (w' : World) (hS : w'.cell? ⟨w.heap.size, 0, none⟩ = some (.int .i64 (K : Int)) ∧ w'.cell? ⟨w.heap.size, 1, none⟩ = some (.slice Z nz cz) ∧ w'.cell? ⟨w.heap.size + 1, 0, none⟩ = some (.int .i64 (N : Int)) ∧ w'.cell? ⟨w.heap.size + 1, 1, none⟩ = some (.slice A n c) ∧ Below wr.heap.size wr w') => hbw.trans (hS.2.2.2.2.mono hbw.size))
      have hIm : (imgsAt N K i).length = K := imgsAt_length N K i
      have hLt := Lib.hid (imgsAt_lt (N := N) h1 K i)
      have Hside := Lib.hid (fun r (hr : r ∈ l) => rulesOk_side Hr.out hr)
      have hnz : nz ≤ 1048576 := by have h1 := (rulesOk_letters Hr.out).2.2; have := (HZ.out _ hbw).rlen; omega
      have Hst := Lib.hid (pick_succ (mapB N K xs l) i)
      have Hob := Lib.hid (show obeyB N xs (imgsAt N K i) l = mapB N K xs l i from rfl)
      rw [← hIm] at Hside
      go_wp2_with fail
      cases hm : mapB N K xs l i
      · rw [hm] at Hob Hst
        clear hm
        go_region_held3 (fun w' => w'.cell? ⟨w.heap.size, 0, none⟩ = some (.int .i64 (K : Int)) ∧ w'.cell? ⟨w.heap.size, 1, none⟩ = some (.slice Z nz cz) ∧ w'.cell? ⟨w.heap.size + 1, 0, none⟩ = some (.int .i64 (N : Int)) ∧ w'.cell? ⟨w.heap.size + 1, 1, none⟩ = some (.slice A n c) ∧ Below wr.heap.size wr w')
          (first | exact ⟨x0, x1, y0, y1, (Below.refl _ wr).drew⟩ | exact held4_keep (by assumption) hb5 (Nat.le_refl _) xl yl | exact held4_keep (by assumption) hb6 (Nat.le_refl _) xl yl)
          ((first
            | (go_at_call 47; refine (l11Images_any K N i Z nz cz A n c _ h1 h40 (by omega) (by omega)).mono ?_; rintro e w5 ⟨v5, rfl, o5, hb5⟩; obtain ⟨A5, c5, rfl⟩ := o5.form)
            | (go_at_call 42; refine (l11Fits_any K Z nz cz Bz l N A A5 n c K c5 B _ xs (imgsAt N K i) _ (HZ.out _ (HD.out _ (by assumption))) (HO.out _ (HD.out _ (by assumption))) o5 HT.out hLt.out (by omega) Hside.out hnz).mono ?_; rw [Hob.out]; rintro e w6 ⟨rfl, hb6⟩)))
        have b6 := (‹_ ∧ _ ∧ _ ∧ _ ∧ Below wr.heap.size wr w6›).2.2.2.2
        have HPl : Hid ((pick (mapB N K xs l) (i + 1)).length = (pick (mapB N K xs l) i).length) := by show _ = _; rw [Hst.out]; simp
        have hb7 := hb.trans (b6.mono hbs)
        clear b6 hb5 hb6 o5
        generalize (pick (mapB N K xs l) i).length = V at *
        go_wp2_with fail
        go_roundw
        case rel => exact ⟨i + 1, by go_num, by omega, by rw [HPl.out], hb7⟩
        case measure => simp [intOf]; omega
      · rw [hm] at Hob Hst
        clear hm
        go_region_held3 (fun w' => w'.cell? ⟨w.heap.size, 0, none⟩ = some (.int .i64 (K : Int)) ∧ w'.cell? ⟨w.heap.size, 1, none⟩ = some (.slice Z nz cz) ∧ w'.cell? ⟨w.heap.size + 1, 0, none⟩ = some (.int .i64 (N : Int)) ∧ w'.cell? ⟨w.heap.size + 1, 1, none⟩ = some (.slice A n c) ∧ Below wr.heap.size wr w')
          (first | exact ⟨x0, x1, y0, y1, (Below.refl _ wr).drew⟩ | exact held4_keep (by assumption) hb5 (Nat.le_refl _) xl yl | exact held4_keep (by assumption) hb6 (Nat.le_refl _) xl yl)
          ((first
            | (go_at_call 47; refine (l11Images_any K N i Z nz cz A n c _ h1 h40 (by omega) (by omega)).mono ?_; rintro e w5 ⟨v5, rfl, o5, hb5⟩; obtain ⟨A5, c5, rfl⟩ := o5.form)
            | (go_at_call 42; refine (l11Fits_any K Z nz cz Bz l N A A5 n c K c5 B _ xs (imgsAt N K i) _ (HZ.out _ (HD.out _ (by assumption))) (HO.out _ (HD.out _ (by assumption))) o5 HT.out hLt.out (by omega) Hside.out hnz).mono ?_; rw [Hob.out]; rintro e w6 ⟨rfl, hb6⟩)))
        have b6 := (‹_ ∧ _ ∧ _ ∧ _ ∧ Below wr.heap.size wr w6›).2.2.2.2
        have HPl : Hid ((pick (mapB N K xs l) (i + 1)).length = (pick (mapB N K xs l) i).length + 1) := by show _ = _; rw [Hst.out]; simp
        have hb7 := hb.trans (b6.mono hbs)
        clear b6 hb5 hb6 o5
        generalize (pick (mapB N K xs l) i).length = V at *
        go_wp2_with fail
        go_roundw
        case rel => exact ⟨i + 1, by go_num, by omega, by rw [HPl.out]; go_num, hb7⟩
        case measure => simp [intOf]; omega
    · obtain rfl : M = i := by omega
      generalize (pick (mapB N K xs l) M).length = V at *
      go_wp2_with fail
      go_ret
      exact ⟨ret_i64 (by rw [He.out]), hbw⟩
theorem ret_vb {v : Value} {b b' : Bool} (h : b = b') : Ending.returned (.tuple #[v, .bool b]) = .returned (.tuple #[v, .bool b']) := by rw [h]
set_option maxRecDepth 100000 in
set_option maxHeartbeats 1600000 in
theorem specFirstMap (k : Int) (Z : Option Addr) (nz cz Bz : Nat) (l : List R) (q : Int) (A : Option Addr) (n c B : Nat) (xs : List Int) (w : World) (hZ : Own Bz w (.slice Z nz cz) 2 nz (rulesC l)) (hsm : smallR l) (h : Own B w (.slice A n c) 1 n (ints xs)) (hn : n ≤ 1048576) :
    Calls Tryd.prog 23 #[.agg #[.int .i64 k, .slice Z nz cz], tabV q A n c] w fun e w' => (∃ v, e = .returned (.tuple #[v, .bool (firstMap k l q xs).2]) ∧ Own w.heap.size w' v 1 (firstMap k l q xs).1.length (ints (firstMap k l q xs).1)) ∧ Below w.heap.size w w' := by
  have b0 := bel2 w (.cells #[.int .i64 k, .slice Z nz cz] 41) (.cells #[.int .i64 q, .slice A n c] 28)
  have HZ := Lib.hid (fun (w' : World) (hb : Below w.heap.size w w') => hZ.below hb)
  have HO := Lib.hid (fun (w' : World) (hb : Below w.heap.size w w') => h.below hb)
  have X0 := Lib.hid ((Blk.new1 w #[.int .i64 k, .slice Z nz cz] 41).alloc (.cells #[.int .i64 q, .slice A n c] 28))
  have Y0 := Lib.hid (Blk.new2 w (.cells #[.int .i64 k, .slice Z nz cz] 41) #[.int .i64 q, .slice A n c] 28)
  have Hsm := Lib.hid hsm
  clear h hZ hsm
  go_enter Tryd.func23, Tryd.ntmps23
  go_wp2_with fail
  generalize (w.alloc (.cells #[.int .i64 k, .slice Z nz cz] 41)).alloc (.cells #[.int .i64 q, .slice A n c] 28) = w0 at *
  refine (l11Lists_any k Z nz cz Bz l q A n c B xs _ (HZ.out _ b0) Hsm.out (HO.out _ b0) hn).mono ?_
  rintro e w1 ⟨rfl, hb1⟩
  have b1 := b0.trans (hb1.mono b0.size)
  have X1 := Lib.hid (X0.out.below hb1 X0.out.lt)
  have Y1 := Lib.hid (Y0.out.below hb1 Y0.out.lt)
  clear hb1 X0 Y0
  cases hok : mapsOk k l q xs
  · have He := Lib.hid (firstMap_no hok)
    rw [listsN_no hok]
    clear hok
    go_wp2_with fail
    refine wp_loop_rounds 1 ?_
    rw [rounds_succ]
    go_wp2_with fail
    go_ret2
    exact ⟨⟨_, ret_vb (by rw [He.out]), by rw [He.out]; exact Own.none_⟩, b1⟩
  obtain ⟨K, N, rfl, rfl, hr, hT, h4096⟩ := mapsOk_iff hok
  obtain ⟨hk1, hk4, -⟩ := rulesOk_letters hr
  have Hok := Lib.hid hok
  have Hr := Lib.hid hr
  have HT := Lib.hid hT
  have h1 := hT.lo
  have h40 := hT.hi
  rw [listsN_yes hok]
  have HM := Lib.hid (show 1 ≤ N ^ K from Nat.pow_pos h1)
  clear hok hr hT
  obtain ⟨M, hMe⟩ : ∃ M, N ^ K = M := ⟨_, rfl⟩
  have HMe := Lib.hid hMe
  rw [hMe] at h4096 ⊢
  rw [hMe] at HM
  clear hMe
  have hM1 := HM.out
  go_wp2_with fail
  go_loopw [7] (fun i' wr => ∃ i : Nat, i' = .int .i64 i ∧ 1 ≤ i ∧ i ≤ M ∧ Hid (∀ j, 0 < j → j < i → mapB N K xs l j = false) ∧ Below w1.heap.size w1 wr) (fun i' _ => M - (intOf i').toNat)
  case atStart => exact ⟨1, rfl, Nat.le_refl _, hM1, fun j h1 h2 => by omega, Below.refl _ _⟩
  case round =>
    obtain ⟨i, rfl, hi1, hi, HB, hb⟩ := hrel
    have hbs := hb.size
    have hbw := b1.trans (hb.mono b1.size)
    by_cases hlt : i < M
    · obtain ⟨x0, x1, -, -, xl⟩ := (X1.out.below hb X1.out.lt).two
      obtain ⟨y0, y1, -, -, yl⟩ := (Y1.out.below hb Y1.out.lt).two
      have hIm : (imgsAt N K i).length = K := imgsAt_length N K i
      have hLt := Lib.hid (imgsAt_lt (N := N) h1 K i)
      have Hside := Lib.hid (fun r (hr : r ∈ l) => rulesOk_side Hr.out hr)
      have hnz : nz ≤ 1048576 := by have h1 := (rulesOk_letters Hr.out).2.2; have := (HZ.out _ hbw).rlen; omega
      have Hob := Lib.hid (show obeyB N xs (imgsAt N K i) l = mapB N K xs l i from rfl)
      rw [← hIm] at Hside
      go_wp2_with fail
      refine (l11Images_any K N i Z nz cz A n c _ h1 h40 (by omega) (by omega)).mono ?_
      rintro e w5 ⟨v5, rfl, o5, hb5⟩
      obtain ⟨A5, c5, rfl⟩ := o5.form
      have hb5w := hb.trans (hb5.mono hbs)
      have hbw5 := b1.trans (hb5w.mono b1.size)
      have O5 := Lib.hid o5
      clear x0 x1 xl y0 y1 yl hb5 o5
      obtain ⟨x0, x1, -, -, xl⟩ := (X1.out.below hb5w X1.out.lt).two
      obtain ⟨y0, y1, -, -, yl⟩ := (Y1.out.below hb5w Y1.out.lt).two
      go_wp2_with fail
      refine (l11Fits_any K Z nz cz Bz l N A A5 n c K c5 B _ xs (imgsAt N K i) _ (HZ.out _ hbw5) (HO.out _ hbw5) O5.out HT.out hLt.out (by omega) Hside.out hnz).mono ?_
      rw [Hob.out]
      rintro e w6 ⟨rfl, hb6⟩
      have hb6w := hb5w.trans (hb6.mono hb5w.size)
      have O6 := Lib.hid (O5.out.below hb6)
      have hbws := hbw.size
      clear hb6 x0 x1 xl y0 y1 yl
      cases hm : mapB N K xs l i
      · have HB1 : Hid (∀ j, 0 < j → j < i + 1 → mapB N K xs l j = false) := fun j h1 h2 => by
          by_cases e : j = i
          · subst e; exact hm
          · exact HB.out j h1 (by omega)
        clear hm
        go_wp2_with fail
        go_roundw
        case rel => exact ⟨i + 1, by go_num, by omega, by omega, HB1, hb6w⟩
        case measure => simp [intOf]; omega
      · have He := Lib.hid (firstMap_at Hok.out hi1 (by rw [HMe.out]; exact hlt) hm HB.out)
        clear hm
        go_wp2_with fail
        go_ret2
        refine ⟨⟨_, ret_vb (by rw [He.out]), ?_⟩, b1.trans (hb6w.mono b1.size)⟩
        rw [He.out]
        dsimp only
        rw [nints_length, hIm]
        exact O6.out.mono hbws
    · obtain rfl : M = i := by omega
      have He := Lib.hid (firstMap_none Hok.out (by rw [HMe.out]; exact HB.out))
      go_wp2_with fail
      go_ret2
      exact ⟨⟨_, ret_vb (by rw [He.out]), by rw [He.out]; exact Own.none_⟩, hbw⟩
end Go.Proofs.YtlgaihofaiigcaaDoor
