/- The model's GrowthOf and CountReduced. -/
import Derived.Test.YtjecadpofkblnaaDoorSpecNext
import Derived.Test.YtjecadpofkblnaaDoorL01In
namespace Go.Proofs.YtjecadpofkblnaaDoor
open Go.RowKit

theorem Own.keepFrom {B size n : Nat} {w w' : World} {v : Value} {xs : List Value} (h : Own B w v size n xs) (hs : w.heap.size ≤ w'.heap.size) (hk : ∀ g, B ≤ g → g < w.heap.size → w'.heap[g]? = w.heap[g]?) : Own B w' v size n xs := by
  obtain ⟨h1, A, c, hv, hc, hm, h2⟩ := h
  refine ⟨h1, A, c, hv, hc, hm, fun hn => ?_⟩
  obtain ⟨g, off, e, hg, hlt, r⟩ := h2 hn
  refine ⟨g, off, e, hg, by omega, fun j hj => ?_⟩
  have hh := hk g hg hlt
  exact ⟨(World.cell?_of_block (w := w) (a := ⟨g, off + j, none⟩) hh).trans (r j hj).1, (World.frozen?_of_block (w := w) (a := ⟨g, off + j, none⟩) hh).trans (r j hj).2⟩
theorem sum_take {cs : List Nat} {q b : Nat} (h : cs[q]? = some b) : (cs.take (q + 1)).sum = (cs.take q).sum + b := by
  obtain ⟨hq, he⟩ := List.getElem?_eq_some_iff.1 h
  rw [List.take_succ_eq_append_getElem hq, he, List.sum_append]; simp

set_option maxRecDepth 100000 in
set_option maxHeartbeats 2000000 in
theorem specGrowthOf (k : Int) (A : Option Addr) (n c B : Nat) (l : List R) (x : Int) (w : World) (h : Own B w (.slice A n c) 2 n (rulesC l)) (hsm : smallR l) :
    Calls Tryd.prog 74 #[.agg #[.int .i64 k, .slice A n c], .int .i64 x] w fun e w' => ∃ v, e = .returned v ∧ Own w.heap.size w' v 1 (growS k l x).length (ints (growS k l x)) ∧ Below w.heap.size w w' := by
  obtain ⟨j0, hj, hy0, hy1, hy2⟩ := info_parts infoInt
  have HO := Lib.hid h
  clear h
  go_enter Tryd.func74, Tryd.ntmps74
  go_wp2_with fail
  refine (specSystemOk k A n c B l _ (HO.out.below (bel1 w _)) hsm).mono ?_
  rintro e w1 ⟨rfl, hb1⟩
  have b1 := (bel1 w _).trans (hb1.mono (by simp))
  have HS1 := Lib.hid ((Blk.new1 w #[.int .i64 k, .slice A n c] 25).below hb1 (by simp))
  clear hb1
  cases h1 : systemOk k l
  · have HF : Hid (growS k l x = []) := growS_no (by unfold canC; rw [h1]; rfl)
    clear h1
    go_wp2_with fail
    go_ret
    rw [HF.out]
    exact ⟨_, rfl, Own.none_, b1⟩
  by_cases hx : 0 ≤ x ∧ x ≤ 16
  case neg =>
    have HF : Hid (growS k l x = []) := growS_no (by unfold canC; rw [decide_eq_false hx, Bool.and_false])
    clear h1
    go_wp2_with fail
    refine (l01In_no x 0 16 _ (by omega)).mono ?_
    rintro e w2 ⟨rfl, rfl⟩
    go_wp2_with fail
    go_ret
    rw [HF.out]
    exact ⟨_, rfl, Own.none_, b1⟩
  have hcan : canC k l x = true := by unfold canC; rw [h1, decide_eq_true hx]; rfl
  obtain ⟨k', x', rfl, rfl, hk1, hk4, hx16, h12, hl⟩ := canC_parts hcan
  have HF := Lib.hid (growS_yes hcan)
  have Hl := Lib.hid (fun r hr => (hl r hr).1)
  clear h1 hcan hx hl
  go_wp2_with fail
  refine (l01In_yes _ 0 16 _ (by omega) (by omega)).mono ?_
  rintro e w2 ⟨rfl, rfl⟩
  go_wp2_with fail
  have hwl := HS1.out.lt
  have HS2 := Lib.hid (((HS1.out.alloc (.cells #[.string ⟨#[]⟩] 9)).alloc (.cells #[.int .i64 1] 3)).alloc (.cells #[.int .i64 1] 3))
  have HW0 := Lib.hid (((Own.new w1 #[.string ⟨#[]⟩] 1 9 rfl (by unfold maxLen; omega)).below (bel2 _ (.cells #[.int .i64 1] 3) (.cells #[.int .i64 1] 3))).mono (Nat.le_of_lt hwl))
  have hC0 := ((Own.new (w1.alloc (.cells #[.string ⟨#[]⟩] 9)) #[.int .i64 1] 1 3 rfl (by unfold maxLen; omega)).below (bel1 _ (.cells #[.int .i64 1] 3))).mono (B' := w.heap.size) (by simp; omega)
  rw [World.size_alloc] at hC0
  have hR0 : ((((w1.alloc (.cells #[.string ⟨#[]⟩] 9)).alloc (.cells #[.int .i64 1] 3)).alloc (.cells #[.int .i64 1] 3))).ownsRow (w.heap.size + 1) 3 1 (.slice (some ⟨w1.heap.size + 1 + 1, 0, none⟩) 1 1) 1 [.int .i64 1] :=
    ⟨rfl, Or.inr ⟨w1.heap.size + 1 + 1, 1, #[.int .i64 1], rfl, by omega, Blk.new3 w1 _ _ _ _, Nat.le_refl _, by unfold maxLen; omega, rfl, rfl⟩⟩
  have hg1 : ints (growL l k' (0 + 1)) = [.int .i64 1] := by
    show [Value.int .i64 (Go.Proofs.YtjecadpofkblnaaDoor.wr 1)] = _
    rw [wr_one]
  have hc1 : ints (wrs [1]) = [.int .i64 1] := by
    show [Value.int .i64 (Go.Proofs.YtjecadpofkblnaaDoor.wr 1)] = _
    rw [wr_one]
  have HC0 := Lib.hid hC0
  have HR0 := Lib.hid hR0
  have b3 : Below w.heap.size w (((w1.alloc (.cells #[.string ⟨#[]⟩] 9)).alloc (.cells #[.int .i64 1] 3)).alloc (.cells #[.int .i64 1] 3)) := b1.trans ((bel3 w1 _ _ _).mono (Nat.le_of_lt hwl))
  have Hg1 := Lib.hid hg1
  have Hc1 := Lib.hid hc1
  clear hC0 hR0 hg1 hc1 HS1 b1
  go_loopw [5, 6, 7, 8] (fun v5 v6 v7 v8 wr => ∃ (i : Nat) (Ws : List ByteArray) (cs : List Nat) (A5 A6 : Option Addr) (c5 c6 : Nat), v5 = .slice A5 Ws.length c5 ∧ v6 = .slice A6 Ws.length c6 ∧ v8 = .int .i64 i ∧ i ≤ x' ∧ Hid (SpecSt l k' i Ws cs) ∧ Hid (Own w.heap.size wr (.slice A5 Ws.length c5) 1 Ws.length (strs Ws)) ∧ Hid (Own w.heap.size wr (.slice A6 Ws.length c6) 1 Ws.length (ints (wrs cs))) ∧ Hid (wr.ownsRow (w.heap.size + 1) 3 1 v7 (i + 1) (ints (growL l k' (i + 1)))) ∧ Hid (Blk wr w.heap.size 25 #[.int .i64 k', .slice A n c]) ∧ Below w.heap.size w wr) (fun _ _ _ v8 _ => x' - (intOf v8).toNat)
  case atStart => exact ⟨0, [⟨#[]⟩], [1], _, _, _, _, rfl, rfl, rfl, Nat.zero_le _, SpecSt.start l k', HW0, (by show Own _ _ _ _ _ _; rw [Hc1.out]; exact HC0.out), (by show World.ownsRow _ _ _ _ _ _ _; rw [Hg1.out]; exact HR0.out), HS2, b3⟩
  case round =>
    clear HW0 HC0 HR0 HS2 b3 Hg1 Hc1
    obtain ⟨i, Ws, cs, A5, A6, c5, c6, rfl, rfl, rfl, hi, HT, HW, HC, HR, HB, hb⟩ := hrel
    have hbs := hb.size
    have hbl := HB.out.lt
    by_cases hlt : i < x'
    · obtain ⟨s0, s1, -, -, sl⟩ := HB.out.two
      go_wp2_with fail
      clear s0 s1 sl
      refine (specNext_any k' A A5 A6 n c B c5 c6 _ _ i l Ws cs wr (HO.out.below hb) hsm Hl.out hk4 (Nat.le_trans HT.out.bound (by omega)) HW.out HC.out HT.out).mono ?_
      rintro e w4 ⟨vO, vN, O, N, rfl, oO, oN, hT2, hb4⟩
      obtain ⟨A7, c7, rfl⟩ := oO.form
      obtain ⟨A8, c8, rfl⟩ := oN.form
      have HOO := Lib.hid oO
      have HON := Lib.hid oN
      have HT2 := Lib.hid hT2
      have HNl := Lib.hid hT2.len
      have hOl : O.length ≤ 4294967296 := by
        rw [hT2.len]
        exact Nat.le_trans hT2.few (Nat.pow_le_pow_right (by omega) (show i + 1 ≤ 16 by omega))
      have HR4 := Lib.hid (ownsRow_below HR.out hb4)
      have HB4 := Lib.hid (HB.out.below hb4 hbl)
      have b4 := hb.trans (hb4.mono hbs)
      have hs4 := hb4.size
      have hltR : Hid (∀ g, some g = u7.ownBlock → g < wr.heap.size) := fun g hg => (HR.out.lt g hg.symm).2
      clear oO oN hT2 hb4 HW HC HR HB HT
      go_wp2_with fail
      obtain ⟨w5, hw5⟩ : ∃ x : Nat, x = wr.heap.size := ⟨_, rfl⟩
      rw [← hw5] at HOO HON hltR hs4
      have hw5' : w.heap.size + 1 ≤ w5 := by omega
      clear hw5
      go_loopw [9, 37] (fun v9 v37 wx => ∃ q : Nat, v37 = .int .i64 q ∧ v9 = .int .i64 (Go.Proofs.YtjecadpofkblnaaDoor.wr (N.take q).sum) ∧ q ≤ O.length ∧ wx = w4) (fun _ v37 _ => O.length - (intOf v37).toNat)
      case atStart => exact ⟨0, rfl, by rw [List.take_zero, List.sum_nil, wr_zero], Nat.zero_le _, rfl⟩
      case round =>
        obtain ⟨q, rfl, rfl, hq, rfl⟩ := hrel
        by_cases hqo : q < O.length
        · obtain ⟨g8, o8, hA8, -, hg8, hc8⟩ := HON.out.int (by omega)
          subst hA8
          obtain ⟨yv, hyv, z0, -⟩ := hc8 q hqo
          obtain ⟨bN, hbN⟩ : ∃ bN, N[q]? = some bN := ⟨_, List.getElem?_eq_getElem (by rw [← HNl.out]; exact hqo)⟩
          rw [wrs_get hbN] at hyv
          injection hyv with hyv
          subst hyv
          have hwa := wr_add64 (N.take q).sum bN
          rw [← sum_take hbN] at hwa
          have Hwa := Lib.hid (congrArg (Value.int .i64) hwa)
          clear hc8 hbN hwa
          go_wp2_with fail
          go_roundw
          case rel => exact ⟨q + 1, by go_num, Hwa.out, by omega, trivial⟩
          case measure => simp [intOf]; omega
        · have hql : q = O.length := by omega
          subst hql
          have Hsum : Hid ((N.take O.length).sum = countN l k' (i + 1)) := by
            show _ = _
            rw [List.take_of_length_le (by rw [HNl.out]; exact Nat.le_refl _)]
            exact HT2.out.count
          have Hst := Lib.hid (growL_step l k' (i + 1))
          rw [Hsum.out]
          generalize Go.Proofs.YtjecadpofkblnaaDoor.wr (countN l k' (i + 1)) = xs at *
          go_wp2_with (at_builtin; refine wpList_append_own _ rfl _ _ 31 rfl (w.heap.size + 1) 3 j0 (.int .i64 0) 1 8 Tryd.underlying31 hj hy0 hy1 hy2 rfl (by decide) _ _ _ rfl (HR4.out.alloc _) ⟨wr.heap.size, 0, none⟩ 1 1 [.int .i64 xs] rfl rfl ?c1 ?c2 ?c3 ?c4 ?c5 ?_)
          case c1 =>
            intro j u hj
            match j, hj with
            | 0, hj => simp at hj; subst hj; exact (Blk.new1 wr _ _).cell 0
          case c2 => intro u hu; simp at hu; subst hu; rfl
          case c3 => unfold maxLen; omega
          case c4 => omega
          case c5 => simp; omega
          intro v7 w6 hown hgrow _
          have hR6 : w6.ownsRow (w.heap.size + 1) 3 1 v7 (i + 1 + 1) (ints (growL l k' (i + 1 + 1))) := by
            have e : ints (growL l k' (i + 1 + 1)) = ints (growL l k' (i + 1)) ++ [Value.int .i64 xs] := by rw [Hst.out]; simp [ints]
            rw [e]; exact hown
          have HR6 := Lib.hid hR6
          have hkf : ∀ g, w5 ≤ g → g < wr.heap.size → w6.heap[g]? = wr.heap[g]? := fun g h1 h2 => (hgrow.block g (by simp; omega) (fun e => by have := hltR.out g e; omega)).trans (Below.heap_alloc _ _ _ h2)
          have hgs := hgrow.size
          simp at hgs
          have HW6 := Lib.hid ((HOO.out.keepFrom (by omega) hkf).mono (B' := w.heap.size) (by omega))
          have HC6 := Lib.hid ((HON.out.keepFrom (by omega) hkf).mono (B' := w.heap.size) (by omega))
          have HB6 : Hid (Blk w6 w.heap.size 25 #[.int .i64 k', .slice A n c]) := (grown_block HR4.out hgrow (by omega) (by omega)).trans HB4.out
          have b6 : Below w.heap.size w w6 := grown_one HR4.out hgrow b4 (by omega) (by omega)
          clear hown hgrow hR6 hkf HOO HON HR4 HB4 b4
          go_wp2_with fail
          go_roundw
          case rel => exact ⟨i + 1, O, N, A7, A8, c7, c8, rfl, rfl, by go_num, by omega, HT2, HW6, HC6, HR6, HB6, b6⟩
          case measure => simp [intOf]; omega
    · have hix : i = x' := by omega
      subst hix
      obtain ⟨A9, c9, rfl⟩ := (Own.of_row HR.out).form
      go_wp2_with fail
      go_ret
      rw [HF.out]
      exact ⟨_, rfl, by rw [growL_len]; exact (Own.of_row HR.out).mono (by omega), hb⟩
end Go.Proofs.YtjecadpofkblnaaDoor
