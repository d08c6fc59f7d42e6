/- The program's CommutatorsOf. -/
import Derived.Test.YtkiomohpmajjcaaSpecCom
namespace Go.Proofs.Ytkiomohpmajjcaa
open Go.RowKit

set_option maxRecDepth 100000 in
set_option maxHeartbeats 1600000 in
theorem commutators_any (h g N : Nat) (xs : List Int) (w : World) (H : GrpAt w h g N xs) (hG : Grp N xs) :
    Calls Try.prog 56 #[.pointer (some ⟨h, 0, none⟩)] w fun e w' => (∃ v L, e = .returned v ∧ L ≤ 1600 ∧ Own w.heap.size w' v 1 L (ints (nints (comTo N xs N)))) ∧ Below w.heap.size w w' := by
  obtain ⟨i0, hi0, hz0, hz1, hz2⟩ := infoR_parts infoInt
  have h40 := hG.tab.hi
  have HG := Lib.hid hG
  have HH := Lib.hid (fun (w' : World) (hb : Below w.heap.size w w') => H.below hb)
  have x1 := H.ptr
  have x2 := H.mon.size
  have hlh := H.lt
  have hlg := H.mon.lt
  clear H hG
  go_enter Try.func56, Try.ntmps56
  go_wp2_with fail
  clear x1 x2
  go_loopw [3, 13] (fun v x' wr => ∃ (x L : Nat), x' = .int .i64 x ∧ x ≤ N ∧ L = x * N ∧ Hid (wr.ownsRow w.heap.size 3 1 v L (ints (nints (comTo N xs x)))) ∧ Below w.heap.size w wr) (fun _ x' _ => N - (intOf x').toNat)
  case atStart => exact ⟨0, 0, rfl, Nat.zero_le _, by simp, World.ownsRow_nil _ _ _ _, Below.refl _ _⟩
  case round =>
    obtain ⟨x, L, rfl, hxN, hL, HR, hb⟩ := hrel
    have HL := Lib.hid hL
    have hL16 : L ≤ 1600 := by rw [hL]; exact Nat.le_trans (Nat.mul_le_mul_right N hxN) (sq_le h40)
    clear hL
    by_cases hlt : x < N
    · have x1 := (HH.out _ hb).ptr
      have x2 := (HH.out _ hb).mon.size
      go_wp2_with fail
      clear x1 x2
      have HR1 : Hid (wr.ownsRow w.heap.size 3 1 u3 (L + 0) (ints (nints (comTo N xs x ++ comRow N xs x 0)))) := by show World.ownsRow _ _ _ _ _ _ _; simp [comRow]; exact HR.out
      go_loopw [3, 23] (fun v y' wr => ∃ (y : Nat), y' = .int .i64 y ∧ y ≤ N ∧ Hid (wr.ownsRow w.heap.size 3 1 v (L + y) (ints (nints (comTo N xs x ++ comRow N xs x y)))) ∧ Below w.heap.size w wr) (fun _ y' _ => N - (intOf y').toNat)
      case atStart => exact ⟨0, rfl, Nat.zero_le _, HR1, hb⟩
      case round =>
        clear HR HR1 hb
        obtain ⟨y, rfl, hyN, HR, hb⟩ := hrel
        have hbs := hb.size
        by_cases hylt : y < N
        · obtain ⟨z, hz⟩ : ∃ z, com N xs x y = z := ⟨_, rfl⟩
          have HS := Lib.hid (show nints (comTo N xs x ++ comRow N xs x (y + 1)) = nints (comTo N xs x ++ comRow N xs x y) ++ [(z : Int)] by rw [comRow_succ, ← List.append_assoc, nints_snoc, hz])
          have hT := HG.out.conj_lt hlt hylt
          have hI := (HG.out.inv_spec hylt).1
          obtain ⟨T, hTq⟩ : ∃ T, conj N xs x y = T := ⟨_, rfl⟩
          obtain ⟨I, hIq⟩ : ∃ I, tinv N xs y = I := ⟨_, rfl⟩
          rw [hTq] at hT
          rw [hIq] at hI
          have hzz : tmul N xs T I = z := by rw [← hz, ← hTq, ← hIq]; rfl
          have HSt : Hid (∀ w', Below w.heap.size w w' → w'.cell? ⟨h, 0, none⟩ = some (.pointer (some ⟨g, 0, none⟩)) ∧ w'.cell? ⟨h, 1 + y, none⟩ = some (.int .i64 (I : Nat)) ∧ w'.cell? ⟨g, 1 + T * 40 + I, none⟩ = some (.int .i64 (z : Nat)) ∧ Below w.heap.size w w') := fun w' hw => by
            have h1 := (HH.out w' hw).inv y hylt
            have h2 := (HH.out w' hw).mon.num HG.out.tab.rng hT hI
            rw [hIq] at h1
            rw [hzz] at h2
            exact ⟨(HH.out w' hw).ptr, h1, h2, hw⟩
          have c0 : Below wr.heap.size wr wr.drew := (Below.refl _ wr).drew
          have HRx := Lib.hid (fun (w' : World) (hS : Below wr.heap.size wr w') => row_below HR.out hS)
          have HConj := Lib.hid (fun (w' : World) (hS : Below wr.heap.size wr w') => by have h := (conjugate_any h g N y x xs w' (HH.out w' (hb.trans (hS.mono hbs))) HG.out hylt hlt).mono (fun e w'' (hp : _ ∧ ∃ m, w'' = w'.drewN m) => (⟨hp.1, by obtain ⟨m, e⟩ := hp.2; rw [e]; exact below_drewN (Below.refl _ _) m⟩ : _ ∧ Below w'.heap.size w' w'')); rw [hTq] at h; exact h)
          have hT40 : (0 : Int) ≤ (T : Int) ∧ (T : Int) < 40 := by omega
          have hI40 : (0 : Int) ≤ (I : Int) ∧ (I : Int) < 40 := by omega
          have hy40 : (0 : Int) ≤ (y : Int) ∧ (y : Int) < 40 := by omega
          obtain ⟨hT0, hT1⟩ := hT40
          obtain ⟨hI0, hI1⟩ := hI40
          obtain ⟨hy0, hy1⟩ := hy40
          clear hz hTq hIq hzz
          go_wp2_with fail
          go_region_held3 (fun w' => w'.cell? ⟨h, 0, none⟩ = some (.pointer (some ⟨g, 0, none⟩)) ∧ w'.cell? ⟨h, 1 + y, none⟩ = some (.int .i64 (I : Nat)) ∧ w'.cell? ⟨g, 1 + T * 40 + I, none⟩ = some (.int .i64 (z : Nat)) ∧ Below w.heap.size w w')
            ((refine HSt.out _ ?_; first | exact b10 | exact hb.trans ((by assumption : Below wr.heap.size wr _).mono hbs) | exact hb.trans ((bel_alloc (by assumption : Below wr.heap.size wr _) _).mono hbs)))
            ((first
              | (go_at_call 67; refine (HConj.out _ (by assumption)).mono ?_; rintro e w7 ⟨rfl, hb7⟩; have b7 := Below.trans (by assumption : Below wr.heap.size wr _) (hb7.mono (Below.size (by assumption))); clear hb7)
              | (refine (id ?_); rw [if_pos (by simp [Region.wanted])]; refine wp_append_lies _ (.tmp 26) (.tmp 46) 22 rfl w.heap.size 3 i0 (.int .i64 0) 1 8 Try.underlying22 hi0 hz0 hz1 hz2 rfl (by omega) u3 (L + y) (ints (nints (comTo N xs x ++ comRow N xs x y))) rfl ((HRx.out w7 b7).alloc _) ⟨w7.heap.size, 0, none⟩ 1 1 [.int .i64 (z : Int)] rfl rfl (news1 ((Blk.new1 w7 _ _).cell 0)) (one_int z) (by omega) (by unfold maxLen; omega) (by omega) (by have := b7.size; simp; omega) _ rfl ?_; intro g10 c10 w10 hR10 hG10 hat10 hlt10; (have b10 : Below w.heap.size w w10 := grown_one (HRx.out w7 b7) hG10 (hb.trans (b7.mono hbs)) (Nat.le_refl _) (by have := b7.size; omega)); clear hat10 hlt10)))
          have HX6 : Hid (w10.ownsRow w.heap.size 3 1 (.slice (some ⟨g10, 0, none⟩) (L + y + 1) c10) (L + (y + 1)) (ints (nints (comTo N xs x ++ comRow N xs x (y + 1))))) := by
            show World.ownsRow _ _ _ _ _ _ _
            rw [HS.out, ← Nat.add_assoc]; simpa [ints] using hR10
          clear hR10 hG10 b7 HConj HSt HRx c0
          go_wp2_with fail
          go_roundw
          case rel => exact ⟨y + 1, by go_num, by omega, HX6, b10⟩
          case measure => simp [intOf]; omega
        · obtain rfl : N = y := by omega
          have HX6 : Hid (wr.ownsRow w.heap.size 3 1 u3 (L + N) (ints (nints (comTo N xs (x + 1))))) := by
            show World.ownsRow _ _ _ _ _ _ _
            rw [comTo_succ]; exact HR.out
          have hL2 : Hid (L + N = (x + 1) * N) := by show _ = _; rw [HL.out, Nat.succ_mul]
          go_wp2_with fail
          go_roundw
          case rel => exact ⟨x + 1, L + N, by go_num, by omega, hL2.out, HX6, hb⟩
          case measure => simp [intOf]; omega
    · obtain rfl : N = x := by omega
      obtain ⟨A9, c9, rfl⟩ := (Own.of_row HR.out).form
      go_wp2_with fail
      go_ret
      exact ⟨⟨_, L, rfl, hL16, Own.of_row HR.out⟩, hb⟩
set_option maxRecDepth 100000 in
set_option maxHeartbeats 1600000 in
theorem groupWith_none (q : Int) (A : Option Addr) (n c B : Nat) (xs : List Int) (w : World) (h : Own B w (.slice A n c) 1 n (ints xs)) :
    Calls Try.prog 42 #[tabV q A n c, .slice none 0 0] w fun e w' => GWPost q xs [] e w' ∧ Below w.heap.size w w' :=
  groupWith_any q A none n c 0 0 B 0 xs [] w h Own.none_
set_option maxRecDepth 100000 in
set_option maxHeartbeats 1600000 in
theorem implCommutatorsOf (q : Int) (A : Option Addr) (n c B : Nat) (xs : List Int) (w : World) (h : Own B w (.slice A n c) 1 n (ints xs)) (_hn : n ≤ 1048576) :
    Calls Try.prog 35 #[tabV q A n c] w fun e w' => ∃ v, e = .returned v ∧ Own w.heap.size w' v 1 (commOf q xs).length (ints (commOf q xs)) ∧ Below w.heap.size w w' := by
  have HO := Lib.hid (h.below (bel1 w (.cells #[.int .i64 q, .slice A n c] 28)))
  clear h
  go_enter Try.func35, Try.ntmps35
  go_wp2_with fail
  refine (groupWith_none q A n c B xs _ HO.out).mono ?_
  rintro e w1 ⟨hmm, hb1⟩
  have b1 := (bel1 w _).trans (hb1.mono (by simp))
  clear hb1 HO
  rcases hmm with ⟨N, h, g, rfl, hG, -, rfl, hM⟩ | ⟨ha, rfl⟩
  · have He := Lib.hid (commOf_yes hG)
    have HG := Lib.hid hG
    have Hg := Lib.hid hG.comTo_lt
    have h40 := hG.tab.hi
    have HM := Lib.hid (fun (w' : World) (hb : Below w1.heap.size w1 w') => hM.below hb)
    have x1 := hM.ptr
    have hlt := hM.lt
    have hpl := pick_len (genB N xs (comTo N xs N)) N
    have hbs := b1.size
    clear hG hM
    go_wp2_with fail
    go_region_held3 (fun w' => w'.cell? ⟨h, 0, none⟩ = some (.pointer (some ⟨g, 0, none⟩)) ∧ Below w1.heap.size w1 w')
      (first | exact ⟨x1, (Below.refl _ w1).drew⟩ | exact held1_keep (by assumption) hb9 (Nat.le_refl _) hlt | exact held1_keep (by assumption) hb8 (Nat.le_refl _) hlt | exact held1_keep (by assumption) hb7 (Nat.le_refl _) hlt | assumption)
      ((first
        | (go_at_call 56; refine (commutators_any h g N xs _ (HM.out _ (And.right (by assumption))) HG.out).mono ?_; rintro e w7 ⟨⟨v7, L, rfl, hL, o7⟩, hb7⟩; obtain ⟨A7, c7, rfl⟩ := o7.form)
        | (go_at_call 49; refine (subgroupWith_any h g N A7 L c7 _ xs (comTo N xs N) _ (HM.out _ (And.right (by assumption))) HG.out o7 Hg.out (by omega)).mono ?_; rintro e w8 ⟨⟨v8, rfl, hS8⟩, hb8⟩; obtain ⟨t8, r8, f8, rfl, -⟩ := hS8.callee)
        | (go_at_call 48; refine (elementsWith_has g N _ xs (comTo N xs N) _ _ (HM.out _ (And.right (by assumption))).mon HG.out.tab hS8).mono ?_; rintro e w9 ⟨v9, rfl, o9, hb9⟩; obtain ⟨A9, c9, rfl⟩ := o9.form)))
    have hS := (‹_ ∧ Below w1.heap.size w1 w9›).2
    have hb78 : w.heap.size ≤ w8.heap.size := by have h7 : w1.heap.size ≤ w7.heap.size := hb7.size; have h8 := hb8.size; omega
    have O9 := Lib.hid (o9.mono hb78)
    have b9 := b1.trans (hS.mono hbs)
    clear hb7 hb8 hb9 hS o9 hS8 o7
    go_wp2_with fail
    go_ret
    exact ⟨_, rfl, by rw [He.out]; exact O9.out, b9⟩
  · have He := Lib.hid (commOf_no (group_not ha))
    clear ha
    go_wp2_with fail
    go_ret
    exact ⟨_, rfl, by rw [He.out]; exact Own.none_, b1⟩
end Go.Proofs.Ytkiomohpmajjcaa
