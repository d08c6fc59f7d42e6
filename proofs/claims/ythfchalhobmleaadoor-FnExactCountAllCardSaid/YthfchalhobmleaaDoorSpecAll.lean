/- The model's CountAll. -/
import Derived.Test.YthfchalhobmleaaDoorSpecLong
import Derived.Test.YthfchalhobmleaaDoorSpecGrowthOf
import Derived.Test.YthfchalhobmleaaDoorAllPlain
namespace Go.Proofs.YthfchalhobmleaaDoor
open Go.RowKit

set_option maxRecDepth 100000 in
set_option maxHeartbeats 2000000 in
theorem specCountAll (k : Int) (A : Option Addr) (n c B : Nat) (l : List R) (w : World) (h : Own B w (.slice A n c) 2 n (rulesC l)) (hsm : smallR l) :
    Calls Tryd.prog 38 #[.agg #[.int .i64 k, .slice A n c]] w fun e w' => ∃ r : Int, e = .returned (.int .i64 r) ∧ Hid (AllRet k l r) ∧ Below w.heap.size w w' := by
  have HO := Lib.hid h
  clear h
  go_enter Tryd.func38, Tryd.ntmps38
  go_wp2_with fail
  refine (specLongestB k A n c B l _ (HO.out.below (bel1 w _)) hsm).mono ?_
  rintro e w1 ⟨d, rfl, Hd, hdb, hb1⟩
  have b1 := (bel1 w _).trans (hb1.mono (by simp))
  have HS1 := Lib.hid ((Blk.new1 w #[.int .i64 k, .slice A n c] 25).below hb1 (by simp))
  clear hb1
  by_cases hd : d < 0
  · have HA : Hid (AllRet k l (-1)) := ⟨d, Hd.out, .inl ⟨hd, rfl⟩⟩
    clear hdb
    go_wp2_with fail
    go_ret
    exact ⟨-1, rfl, HA, b1⟩
  · obtain ⟨dn, rfl⟩ : ∃ dn : Nat, d = dn := ⟨d.toNat, by omega⟩
    obtain ⟨h1, -, -⟩ := Hd.out.yes
    obtain ⟨k', rfl, hk1, hk4, h12, hl⟩ := systemOk_parts h1
    have Hl := Lib.hid (fun r hr => (hl r hr).1)
    have HA : Hid (AllRet (k' : Int) l (Go.Proofs.YthfchalhobmleaaDoor.wr (sumC l k' (dn + 1)))) := ⟨dn, Hd.out, .inr ⟨dn, rfl, by rw [Int.toNat_natCast]⟩⟩
    have Hz : Hid (Value.int .i64 1 = .int .i64 (Go.Proofs.YthfchalhobmleaaDoor.wr (sumC l k' (0 + 1)))) := by show _ = _; rw [show sumC l k' (0 + 1) = 1 from rfl, wr_one]
    have hdn : dn ≤ 400000 := by omega
    clear h1 hl Hd hdb
    go_wp2_with fail
    clear hd
    have hwl := HS1.out.lt
    have HS2 := Lib.hid ((HS1.out.alloc (.cells #[.string ⟨#[]⟩] 9)).alloc (.cells #[.int .i64 1] 3))
    have HW0 := Lib.hid (((Own.new w1 #[.string ⟨#[]⟩] 1 9 rfl (by unfold maxLen; omega)).below (bel1 _ (.cells #[.int .i64 1] 3))).mono (Nat.le_of_lt hwl))
    have hC0 := (Own.new (w1.alloc (.cells #[.string ⟨#[]⟩] 9)) #[.int .i64 1] 1 3 rfl (by unfold maxLen; omega)).mono (B' := w.heap.size) (by simp; omega)
    rw [World.size_alloc] at hC0
    have hc1 : ints (wrs [1]) = [.int .i64 1] := by
      show [Value.int .i64 (Go.Proofs.YthfchalhobmleaaDoor.wr 1)] = _
      rw [wr_one]
    have HC0 := Lib.hid hC0
    have b3 : Below w.heap.size w ((w1.alloc (.cells #[.string ⟨#[]⟩] 9)).alloc (.cells #[.int .i64 1] 3)) := b1.trans ((bel2 w1 _ _).mono (Nat.le_of_lt hwl))
    have Hc1 := Lib.hid hc1
    clear hC0 hc1 HS1 b1
    go_loopw [4, 5, 6, 7] (fun v4 v5 v6 v7 wr => ∃ (i : Nat) (Ws : List ByteArray) (cs : List Nat) (A5 A6 : Option Addr) (c5 c6 : Nat), v4 = .slice A5 Ws.length c5 ∧ v5 = .slice A6 Ws.length c6 ∧ v6 = .int .i64 (Go.Proofs.YthfchalhobmleaaDoor.wr (sumC l k' (i + 1))) ∧ v7 = .int .i64 i ∧ i ≤ dn ∧ Hid (SpecSt l k' i Ws cs) ∧ Hid (Own w.heap.size wr (.slice A5 Ws.length c5) 1 Ws.length (strs Ws)) ∧ Hid (Own w.heap.size wr (.slice A6 Ws.length c6) 1 Ws.length (ints (wrs cs))) ∧ Hid (Blk wr w.heap.size 25 #[.int .i64 k', .slice A n c]) ∧ Below w.heap.size w wr) (fun _ _ _ v7 _ => dn - (intOf v7).toNat)
    case atStart => exact ⟨0, [⟨#[]⟩], [1], _, _, _, _, rfl, rfl, Hz.out, rfl, Nat.zero_le _, SpecSt.start l k', HW0, (by show Own _ _ _ _ _ _; rw [Hc1.out]; exact HC0.out), HS2, b3⟩
    case round =>
      clear HW0 HC0 HS2 b3 Hc1 Hz
      obtain ⟨i, Ws, cs, A5, A6, c5, c6, rfl, rfl, rfl, rfl, hi, HT, HW, HC, HB, hb⟩ := hrel
      have hbs := hb.size
      have hbl := HB.out.lt
      by_cases hlt : i < dn
      · obtain ⟨s0, s1, -, -, sl⟩ := HB.out.two
        go_wp2_with fail
        clear s0 s1 sl
        refine (specNext_any k' A A5 A6 n c B c5 c6 _ _ i l Ws cs wr (HO.out.below hb) hsm Hl.out hk4 (Nat.le_trans HT.out.bound (by omega)) HW.out HC.out HT.out).mono ?_
        rintro e w4 ⟨vO, vN, O, N, rfl, oO, oN, hT2, hb4⟩
        obtain ⟨A7, c7, rfl⟩ := oO.form
        obtain ⟨A8, c8, rfl⟩ := oN.form
        have HOO := Lib.hid (oO.mono hbs)
        have HON := Lib.hid (oN.mono hbs)
        have HT2 := Lib.hid hT2
        have HNl := Lib.hid hT2.len
        have hOl : O.length ≤ 390625 := hT2.bound
        have HB4 := Lib.hid (HB.out.below hb4 hbl)
        have b4 := hb.trans (hb4.mono hbs)
        clear oO oN hT2 hb4 HW HC HB HT hb
        go_wp2_with fail
        go_loopw [6, 30] (fun v6 v30 wx => ∃ q : Nat, v30 = .int .i64 q ∧ v6 = .int .i64 (Go.Proofs.YthfchalhobmleaaDoor.wr (sumC l k' (i + 1) + (N.take q).sum)) ∧ q ≤ O.length ∧ wx = w4) (fun _ v30 _ => O.length - (intOf v30).toNat)
        case atStart => exact ⟨0, rfl, by rw [List.take_zero, List.sum_nil]; rfl, Nat.zero_le _, rfl⟩
        case round =>
          obtain ⟨q, rfl, rfl, hq, rfl⟩ := hrel
          by_cases hqo : q < O.length
          · obtain ⟨g8, o8, hA8, -, hg8, hc8⟩ := HON.out.int (by omega)
            subst hA8
            obtain ⟨yv, hyv, z0, -⟩ := hc8 q hqo
            obtain ⟨bN, hbN⟩ : ∃ bN, N[q]? = some bN := ⟨_, List.getElem?_eq_getElem (by rw [← HNl.out]; exact hqo)⟩
            rw [wrs_get hbN] at hyv
            injection hyv with hyv
            subst hyv
            have hwa := wr_add64 (sumC l k' (i + 1) + (N.take q).sum) bN
            rw [Nat.add_assoc, ← sum_take hbN] at hwa
            have Hwa := Lib.hid (congrArg (Value.int .i64) hwa)
            clear hc8 hbN hwa
            go_wp2_with fail
            go_roundw
            case rel => exact ⟨q + 1, by go_num, Hwa.out, by omega, trivial⟩
            case measure => simp [intOf]; omega
          · have hql : q = O.length := by omega
            subst hql
            have Hsum : Hid (sumC l k' (i + 1) + (N.take O.length).sum = sumC l k' (i + 1 + 1)) := by
              show _ = _
              rw [List.take_of_length_le (by rw [HNl.out]; exact Nat.le_refl _), sumC_step l k' (i + 1)]
              exact congrArg _ HT2.out.count
            rw [Hsum.out]
            clear Hsum HNl
            go_wp2_with fail
            go_roundw
            case rel => exact ⟨i + 1, O, N, A7, A8, c7, c8, rfl, rfl, rfl, by go_num, by omega, HT2, HOO, HON, HB4, b4⟩
            case measure => simp [intOf]; omega
      · have hix : i = dn := by omega
        subst hix
        go_wp2_with fail
        go_ret
        exact ⟨_, rfl, HA, hb⟩
end Go.Proofs.YthfchalhobmleaaDoor
