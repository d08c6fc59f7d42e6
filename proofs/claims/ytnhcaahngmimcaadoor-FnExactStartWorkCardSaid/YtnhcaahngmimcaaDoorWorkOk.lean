/- WorkOk: the program's and the model's. -/
import Derived.Test.YtnhcaahngmimcaaDoorWork
namespace Go.Proofs.YtnhcaahngmimcaaDoor
open Go.RowKit
theorem ret_b {a b : Bool} (h : b = a) : Ending.returned (.bool a) = Ending.returned (.bool b) := by rw [h]
set_option maxRecDepth 100000 in
set_option maxHeartbeats 1600000 in
theorem specWorkOk (k t : Int) (A Q : Option Addr) (n c m d B D : Nat) (l q : List R) (w : World) (h : Own B w (.slice A n c) 2 n (rulesC l)) (hq : Own D w (.slice Q m d) 2 m (rulesC q)) (hsm : smallR l) (hsq : smallR q) :
    Calls Tryd.prog 34 #[workV k A n c Q m d t] w fun e w' => e = .returned (.bool (workOk k l q t)) ∧ Below w.heap.size w w' := by
  have hqmax := hq.bound
  have hqlen := hq.rlen
  unfold maxLen at hqmax
  have HO := Lib.hid (fun o1 => h.below (bel1 w o1))
  have HQ := Lib.hid (fun (w' : World) (hb : Below w.heap.size w w') => hq.below hb)
  have HQF := Lib.hid (fun hn => hq.formR hn)
  have Hsq := Lib.hid hsq
  have Hlen := Lib.hid hqlen
  clear h hq hsq hqlen
  cases h1 : systemOk k l
  · have He := Lib.hid (workOk_1 (t := t) (q := q) h1)
    have H1 := Lib.hid h1
    clear h1
    go_enter Tryd.func34, Tryd.ntmps34
    go_wp2_with fail
    refine (specSystemOk k _ _ _ _ l _ (HO.out _) hsm).mono ?_
    rw [H1.out]
    rintro e w1 ⟨rfl, hb1⟩
    have b1 := (bel1 w _).trans (hb1.mono (by simp))
    clear hb1
    go_wp2_with fail
    go_ret
    exact ⟨ret_b He.out, b1⟩
  go_enter Tryd.func34, Tryd.ntmps34
  go_wp2_with fail
  have H1 := Lib.hid h1
  refine (specSystemOk k _ _ _ _ l _ (HO.out _) hsm).mono ?_
  rw [H1.out]
  rintro e w1 ⟨rfl, hb1⟩
  have b1 := (bel1 w _).trans (hb1.mono (by simp))
  have P1 := Lib.hid ((Blk.new1 w _ _).below hb1 (by simp))
  clear hb1 h1
  obtain ⟨d0, d1, d2, d3, -, -, -, -, l1⟩ := P1.out.four
  by_cases h2 : m ≤ 400
  · have H2 := Lib.hid h2
    cases h3 : turnsOk t
    · have He := Lib.hid (workOk_3 (k := k) (l := l) (q := q) h3)
      have Ht := Lib.hid (show t < 0 ∨ 200 < t by simp [turnsOk] at h3; omega)
      clear h3
      go_wp2_with fail
      refine (l01In_no _ _ _ _ Ht.out).mono ?_
      rintro e w' ⟨rfl, rfl⟩
      go_wp2_with fail
      go_ret
      exact ⟨ret_b He.out, b1⟩
    have H3 := Lib.hid h3
    have Ht := Lib.hid (show 0 ≤ t ∧ t ≤ 200 by simpa [turnsOk] using h3)
    clear h3
    go_wp2_with fail
    refine (l01In_yes _ _ _ _ Ht.out.1 Ht.out.2).mono ?_
    rintro e w' ⟨rfl, rfl⟩
    go_wp2_with fail
    go_loopw [24] (fun i wr => ∃ j : Nat, j ≤ m ∧ i = .int .i64 j ∧ Hid ((q.take j).all (bothOk k) = true) ∧ Hid (Blk wr w.heap.size 29 #[.int .i64 k, .slice A n c, .slice Q m d, .int .i64 t]) ∧ Below w.heap.size w wr) (fun i _ => m - (intOf i).toNat)
    case atStart => exact ⟨0, Nat.zero_le _, rfl, rfl, P1.out, b1⟩
    case round =>
      obtain ⟨j, hj, rfl, HX, HB, hb⟩ := hrel
      clear d0 d1 d2 d3 l1 P1 b1
      obtain ⟨d0, d1, d2, d3, -, -, -, -, l1⟩ := HB.out.four
      by_cases hlt : j < m
      · obtain ⟨g, off, c0, hv⟩ := HQF.out (by omega)
        obtain ⟨rfl, rfl⟩ : Q = some ⟨g, off, none⟩ ∧ d = c0 := by injection hv with a _ b; exact ⟨a, b⟩
        clear hv
        obtain ⟨-, hgl, ⟨u, v⟩, hr, x0, x1, -, -⟩ := (HQ.out _ hb).rule hlt
        have Hr := Lib.hid hr
        have hsz := Hsq.out _ (List.mem_of_getElem? hr)
        have Hu := Lib.hid hsz.1
        have Hv := Lib.hid hsz.2
        clear hr hsz
        have HB1 := Lib.hid (fun o => HB.out.alloc o)
        have hbw1 := Lib.hid (fun o => hb.alloc hb.size o)
        clear hb HB
        cases hu : wordOk k u
        · have He := Lib.hid (workOk_4 (t := t) (l := l) (all_bad q j _ (bothOk k) Hr.out (by simp [bothOk, hu])))
          have Hu1 := Lib.hid hu
          clear hu
          go_wp2_with fail
          refine (specWordOk k u _ Hu.out).mono ?_
          rw [Hu1.out]
          rintro e w2 ⟨rfl, rfl⟩
          go_wp2_with fail
          go_ret
          exact ⟨ret_b He.out, hbw1.out _⟩
        cases hv : wordOk k v
        · have He := Lib.hid (workOk_4 (t := t) (l := l) (all_bad q j _ (bothOk k) Hr.out (by simp [bothOk, hv])))
          have Hu1 := Lib.hid hu
          have Hv1 := Lib.hid hv
          clear hu hv
          go_wp2_with fail
          refine (specWordOk k u _ Hu.out).mono ?_
          rw [Hu1.out]
          rintro e w2 ⟨rfl, rfl⟩
          go_wp2_with fail
          refine (specWordOk k v _ Hv.out).mono ?_
          rw [Hv1.out]
          rintro e w2 ⟨rfl, rfl⟩
          go_wp2_with fail
          go_ret
          exact ⟨ret_b He.out, hbw1.out _⟩
        · have HX2 : Hid ((q.take (j + 1)).all (bothOk k) = true) := by
            show _ = true
            rw [take_step q j _ Hr.out, List.all_append, HX.out]; simp [bothOk, hu, hv]
          have Hu1 := Lib.hid hu
          have Hv1 := Lib.hid hv
          clear hu hv
          go_wp2_with fail
          refine (specWordOk k u _ Hu.out).mono ?_
          rw [Hu1.out]
          rintro e w2 ⟨rfl, rfl⟩
          go_wp2_with fail
          refine (specWordOk k v _ Hv.out).mono ?_
          rw [Hv1.out]
          rintro e w2 ⟨rfl, rfl⟩
          go_wp2_with fail
          go_roundw
          case rel => exact ⟨j + 1, by omega, by go_num, HX2, HB1.out _, hbw1.out _⟩
          case measure => simp [intOf]; omega
      · have He := Lib.hid (show workOk k l q t = true from workOk_5 H1.out (by rw [Hlen.out]; exact H2.out) H3.out (by
          have h1 := HX.out
          rw [List.take_of_length_le (by rw [Hlen.out]; omega)] at h1
          exact h1))
        go_wp2_with fail
        go_ret
        exact ⟨ret_b He.out, hb⟩
  · have He := Lib.hid (workOk_2 (k := k) (l := l) (q := q) (t := t) (by rw [Hlen.out]; exact h2))
    go_wp2_with fail
    go_ret
    exact ⟨ret_b He.out, b1⟩
set_option maxRecDepth 100000 in
set_option maxHeartbeats 1600000 in
theorem implWorkOk (k t : Int) (A Q : Option Addr) (n c m d B D : Nat) (l q : List R) (w : World) (h : Own B w (.slice A n c) 2 n (rulesC l)) (hq : Own D w (.slice Q m d) 2 m (rulesC q)) (hsm : smallR l) (hsq : smallR q) (hlet : Let w) :
    Calls Tryd.prog 14 #[workV k A n c Q m d t] w fun e w' => e = .returned (.bool (workOk k l q t)) ∧ Below w.heap.size w w' := by
  have hqmax := hq.bound
  have hqlen := hq.rlen
  unfold maxLen at hqmax
  have HO := Lib.hid (fun o1 => h.below (bel1 w o1))
  have HQ := Lib.hid (fun (w' : World) (hb : Below w.heap.size w w') => hq.below hb)
  have HQF := Lib.hid (fun hn => hq.formR hn)
  have Hsq := Lib.hid hsq
  have Hlen := Lib.hid hqlen
  have HL := Lib.hid (fun (w' : World) (hb : Below w.heap.size w w') (m : Nat) => (hlet.keep hb (Nat.le_refl _)).drewN m)
  clear h hq hsq hqlen hlet
  cases h1 : systemOk k l
  · have He := Lib.hid (workOk_1 (t := t) (q := q) h1)
    have H1 := Lib.hid h1
    clear h1
    go_enter Tryd.func14, Tryd.ntmps14
    go_wp2_with fail
    refine (implSystemOk k _ _ _ _ l _ (HO.out _) hsm (HL.out _ (bel1 _ _) 0)).mono ?_
    rw [H1.out]
    rintro e w1 ⟨rfl, hb1⟩
    have b1 := (bel1 w _).trans (hb1.mono (by simp))
    clear hb1
    go_wp2_with fail
    go_ret
    exact ⟨ret_b He.out, b1⟩
  go_enter Tryd.func14, Tryd.ntmps14
  go_wp2_with fail
  have H1 := Lib.hid h1
  refine (implSystemOk k _ _ _ _ l _ (HO.out _) hsm (HL.out _ (bel1 _ _) 0)).mono ?_
  rw [H1.out]
  rintro e w1 ⟨rfl, hb1⟩
  have b1 := (bel1 w _).trans (hb1.mono (by simp))
  have P1 := Lib.hid ((Blk.new1 w _ _).below hb1 (by simp))
  clear hb1 h1
  obtain ⟨d0, d1, d2, d3, -, -, -, -, l1⟩ := P1.out.four
  by_cases h2 : m ≤ 400
  · have H2 := Lib.hid h2
    cases h3 : turnsOk t
    · have He := Lib.hid (workOk_3 (k := k) (l := l) (q := q) h3)
      have ht : t < 0 ∨ 200 < t := by simp [turnsOk] at h3; omega
      clear h3
      rcases ht with ht | ht
      · go_wp2_with fail
        go_ret
        exact ⟨ret_b He.out, b1⟩
      · go_wp2_with fail
        go_ret
        exact ⟨ret_b He.out, b1⟩
    have H3 := Lib.hid h3
    obtain ⟨ht1, ht2⟩ : 0 ≤ t ∧ t ≤ 200 := by simpa [turnsOk] using h3
    clear h3
    go_wp2_with fail
    go_loopw [28] (fun i wr => ∃ j : Nat, j ≤ m ∧ i = .int .i64 j ∧ Hid ((q.take j).all (bothOk k) = true) ∧ Hid (Blk wr w.heap.size 29 #[.int .i64 k, .slice A n c, .slice Q m d, .int .i64 t]) ∧ Below w.heap.size w wr) (fun i _ => m - (intOf i).toNat)
    case atStart => exact ⟨0, Nat.zero_le _, rfl, rfl, P1.out, b1⟩
    case round =>
      obtain ⟨j, hj, rfl, HX, HB, hb⟩ := hrel
      clear d0 d1 d2 d3 l1 P1 b1
      obtain ⟨d0, d1, d2, d3, -, -, -, -, l1⟩ := HB.out.four
      by_cases hlt : j < m
      · obtain ⟨g, off, c0, hv⟩ := HQF.out (by omega)
        obtain ⟨rfl, rfl⟩ : Q = some ⟨g, off, none⟩ ∧ d = c0 := by injection hv with a _ b; exact ⟨a, b⟩
        clear hv
        obtain ⟨-, hgl, ⟨u, v⟩, hr, x0, x1, -, -⟩ := (HQ.out _ hb).rule hlt
        have Hr := Lib.hid hr
        have hsz := Hsq.out _ (List.mem_of_getElem? hr)
        have Hu := Lib.hid hsz.1
        have Hv := Lib.hid hsz.2
        clear hr hsz
        have HB1 := Lib.hid (fun o => HB.out.alloc o)
        have hbw1 := Lib.hid (fun o => hb.alloc hb.size o)
        clear hb HB
        cases hu : wordOk k u
        · have He := Lib.hid (workOk_4 (t := t) (l := l) (all_bad q j _ (bothOk k) Hr.out (by simp [bothOk, hu])))
          have Hu1 := Lib.hid hu
          clear hu
          go_wp2_with fail
          refine (implWordOk k u _ Hu.out (HL.out _ (hbw1.out _) 0)).mono ?_
          rw [Hu1.out]
          rintro e w2 ⟨rfl, m2, rfl⟩
          go_wp2_with fail
          go_ret
          exact ⟨ret_b He.out, below_drewN (hbw1.out _) _⟩
        cases hv : wordOk k v
        · have He := Lib.hid (workOk_4 (t := t) (l := l) (all_bad q j _ (bothOk k) Hr.out (by simp [bothOk, hv])))
          have Hu1 := Lib.hid hu
          have Hv1 := Lib.hid hv
          clear hu hv
          go_wp2_with fail
          refine (implWordOk k u _ Hu.out (HL.out _ (hbw1.out _) 0)).mono ?_
          rw [Hu1.out]
          rintro e w2 ⟨rfl, m2, rfl⟩
          go_wp2_with fail
          refine (implWordOk k v _ Hv.out (HL.out _ (hbw1.out _) m2)).mono ?_
          rw [Hv1.out]
          rintro e w2 ⟨rfl, m3, rfl⟩
          go_wp2_with fail
          go_ret
          exact ⟨ret_b He.out, below_drewN (hbw1.out _) _⟩
        · have HX2 : Hid ((q.take (j + 1)).all (bothOk k) = true) := by
            show _ = true
            rw [take_step q j _ Hr.out, List.all_append, HX.out]; simp [bothOk, hu, hv]
          have Hu1 := Lib.hid hu
          have Hv1 := Lib.hid hv
          clear hu hv
          go_wp2_with fail
          refine (implWordOk k u _ Hu.out (HL.out _ (hbw1.out _) 0)).mono ?_
          rw [Hu1.out]
          rintro e w2 ⟨rfl, m2, rfl⟩
          go_wp2_with fail
          refine (implWordOk k v _ Hv.out (HL.out _ (hbw1.out _) m2)).mono ?_
          rw [Hv1.out]
          rintro e w2 ⟨rfl, m3, rfl⟩
          go_wp2_with fail
          go_roundw
          case rel => exact ⟨j + 1, by omega, by go_num, HX2, (HB1.out _).drewN _, below_drewN (hbw1.out _) _⟩
          case measure => simp [intOf]; omega
      · have He := Lib.hid (show workOk k l q t = true from workOk_5 H1.out (by rw [Hlen.out]; exact H2.out) H3.out (by
          have h1 := HX.out
          rw [List.take_of_length_le (by rw [Hlen.out]; omega)] at h1
          exact h1))
        go_wp2_with fail
        go_ret
        exact ⟨ret_b He.out, hb⟩
  · have He := Lib.hid (workOk_2 (k := k) (l := l) (q := q) (t := t) (by rw [Hlen.out]; exact h2))
    go_wp2_with fail
    go_ret
    exact ⟨ret_b He.out, b1⟩
end Go.Proofs.YtnhcaahngmimcaaDoor
