/- The overlaps of two words: both OverlapsOf. -/
import Derived.Test.YtpgfjcnbgomagaaPlaces
namespace Go.Proofs.Ytpgfjcnbgomagaa
open Go.RowKit

/-- Is the end of u with n bytes the beginning of v? -/
def ovAt (u v : ByteArray) (n : Nat) : Bool := decide (1 ≤ n) && ((u.extract (u.size - n) u.size).toList == (v.extract 0 n).toList)
def ovL (u v : ByteArray) (k : Nat) : List Int := ((List.range k).filter (ovAt u v)).map fun i : Nat => (i : Int)
theorem ovL_step (u v : ByteArray) (k : Nat) : ovL u v (k + 1) = ovL u v k ++ (if ovAt u v k then [(k : Int)] else []) := by
  unfold ovL
  rw [List.range_succ, List.filter_append, List.map_append]
  congr 1
  by_cases h : ovAt u v k <;> simp [h]
theorem ovL_len (u v : ByteArray) (k : Nat) : (ovL u v k).length ≤ k := by
  unfold ovL
  rw [List.length_map]
  exact Nat.le_trans (List.length_filter_le _ _) (by simp)
theorem ovL_one (u v : ByteArray) : ovL u v 1 = [] := by
  rw [show (1 : Nat) = 0 + 1 from rfl, ovL_step]; simp [ovL, ovAt]
def overlapsOf (u v : ByteArray) : List Int := ovL u v (max 1 (min u.size v.size))
theorem overlapsOf_len (u v : ByteArray) : (overlapsOf u v).length ≤ u.size + 1 := Nat.le_trans (ovL_len _ _ _) (by omega)
theorem begS_ov (u v : ByteArray) (n : Nat) (h1 : 1 ≤ n) (h2 : n < u.size) (h3 : n < v.size) : begS v (u.extract (u.size - n) u.size) = ovAt u v n := by
  unfold begS ovAt
  have hsz : (u.extract (u.size - n) u.size).size = n := by simp; omega
  rw [hsz, decide_eq_true h1, decide_eq_true (by omega), Bool.true_and, Bool.true_and, Bool.beq_comm]

set_option maxHeartbeats 800000 in
set_option maxRecDepth 100000 in
theorem specOverlapsOf (s p : ByteArray) (w : World) (hs : s.size ≤ 1048576) (hp : p.size ≤ 1048576) :
    Calls Try.prog 19 #[.string s, .string p] w fun e w' => ∃ v, e = .returned v ∧ Own w.heap.size w' v 1 (overlapsOf s p).length (ints (overlapsOf s p)) ∧ Below w.heap.size w w' := by
  obtain ⟨i0, hi, hz0, hz1, hz2⟩ := info_parts infoInt
  have HD : Hid (overlapsOf s p = ovL s p (max 1 (min s.size p.size))) := rfl
  have H1 := Lib.hid (ovL_one s p)
  go_enter Try.func19, Try.ntmps19
  go_wp2_with fail
  go_loopw [5, 6] (fun v i wr => ∃ k : Nat, i = .int .i64 k ∧ 1 ≤ k ∧ k ≤ max 1 (min s.size p.size) ∧ Hid (wr.ownsRow w.heap.size 3 1 v (ovL s p k).length (ints (ovL s p k))) ∧ Below w.heap.size w wr ∧ w.heap.size ≤ wr.heap.size) (fun _ i _ => s.size - (intOf i).toNat)
  case atStart => exact ⟨1, rfl, Nat.le_refl _, by omega, by rw [H1.out]; exact ⟨rfl, Or.inr ⟨w.heap.size, 0, #[], rfl, Nat.le_refl _, heap_alloc_new w _, Nat.le_refl _, by unfold maxLen; omega, rfl, rfl⟩⟩, (Below.refl _ _).alloc (Nat.le_refl _) _, by simp⟩
  case round =>
    obtain ⟨k, rfl, hk0, hk, HO, hbw, hsz⟩ := hrel
    have hlen := ovL_len s p k
    have Hst := Lib.hid (ovL_step s p k)
    by_cases hlt : k < s.size ∧ k < p.size
    · obtain ⟨hlt, hlt2⟩ := hlt
      cases hq : ((s.extract (s.size - k) s.size).toList == (p.extract 0 k).toList)
      · have Hat := Lib.hid (show ovAt s p k = false by unfold ovAt; rw [hq, Bool.and_false])
        go_wp2_with fail
        go_quiet (fail)
        go_wp2_with fail
        have HO2 : Hid (wr.ownsRow w.heap.size 3 1 u5 (ovL s p (k + 1)).length (ints (ovL s p (k + 1)))) := by
          show World.ownsRow _ _ _ _ _ _ _
          rw [Hst.out, Hat.out, if_neg (by simp), List.append_nil]; exact HO.out
        go_roundw
        case rel => exact ⟨k + 1, by go_num, by omega, by omega, HO2, below_drewN hbw _, hsz⟩
        case measure => simp [intOf]; omega
      · have Hat := Lib.hid (show ovAt s p k = true by unfold ovAt; rw [hq, Bool.and_true, decide_eq_true hk0])
        go_wp2_with fail
        go_quiet (fail)
        go_wp2_with (at_builtin; refine wpList_append_own _ rfl _ _ 23 rfl w.heap.size 3 i0 (.int .i64 0) 1 8 Try.underlying23 hi hz0 hz1 hz2 rfl (by decide) _ _ _ rfl (show World.ownsRow _ _ _ _ _ _ _ from (HO.out.alloc _)) ⟨wr.heap.size, 0, none⟩ 1 1 [.int .i64 k] rfl rfl ?c1 ?c2 ?c3 ?c4 ?c5 ?_)
        case c1 =>
          intro j u hj
          match j, hj with
          | 0, hj => simp at hj; subst hj; rw [show (⟨wr.heap.size, 0, none⟩ : Addr).add 0 = ⟨wr.heap.size, 0, none⟩ from rfl, World.cell?_alloc_at _ _ _ _ (by simp)]; rfl
        case c2 => intro u hu; simp at hu; subst hu; rfl
        case c3 => unfold maxLen; omega
        case c4 => omega
        case c5 => simp; omega
        intro v' w3 hown' hgrow _
        have hO2 : w3.ownsRow w.heap.size 3 1 v' (ovL s p (k + 1)).length (ints (ovL s p (k + 1))) := by
          have e : ints (ovL s p k) ++ [Value.int .i64 k] = ints (ovL s p (k + 1)) := by
            rw [Hst.out, Hat.out, if_pos rfl]; simp [ints]
          rw [← e, show (ovL s p (k + 1)).length = (ovL s p k).length + 1 by rw [Hst.out, Hat.out, if_pos rfl]; simp]; exact hown'
        have hbw3 : Below w.heap.size w w3 := grown_one (w := wr.drewN _) (show World.ownsRow _ _ _ _ _ _ _ from HO.out) hgrow (below_drewN hbw _) (Nat.le_refl _) hsz
        have hsz3 := hgrow.size
        simp at hsz3
        have HO2 := Lib.hid hO2
        clear hO2 hown' hgrow
        go_wp2_with fail
        go_roundw
        case rel => exact ⟨k + 1, by go_num, by omega, by omega, HO2, hbw3, by omega⟩
        case measure => simp [intOf]; omega
    · have He := Lib.hid (show overlapsOf s p = ovL s p k by rw [HD.out]; congr 1; omega)
      by_cases hls : k < s.size
      · have hlp : ¬ k < p.size := fun h => hlt ⟨hls, h⟩
        clear hlt
        go_wp2_with fail
        go_ret
        refine ⟨_, rfl, ?_, hbw⟩
        rw [He.out]; exact Own.of_row HO.out
      · clear hlt
        go_wp2_with fail
        go_ret
        refine ⟨_, rfl, ?_, hbw⟩
        rw [He.out]; exact Own.of_row HO.out

set_option maxHeartbeats 800000 in
set_option maxRecDepth 100000 in
theorem wordOverlaps (s p : ByteArray) (w : World) (hs : s.size ≤ 1048576) :
    Calls Try.prog 30 #[.string s, .string p] w fun e w' => ∃ v, e = .returned v ∧ Own w.heap.size w' v 1 (overlapsOf s p).length (ints (overlapsOf s p)) ∧ Below w.heap.size w w' := by
  obtain ⟨i0, hi, hz0, hz1, hz2⟩ := info_parts infoInt
  have HD : Hid (overlapsOf s p = ovL s p (max 1 (min s.size p.size))) := rfl
  have H1 := Lib.hid (ovL_one s p)
  obtain ⟨m, hm, hmn⟩ : ∃ m : Nat, m = min s.size p.size ∧ (if p.size < s.size then (p.size : Int) else (s.size : Int)) = (m : Int) := ⟨min s.size p.size, rfl, by split <;> omega⟩
  have HM := Lib.hid hm
  clear hm
  go_enter Try.func30, Try.ntmps30
  go_wp2_with fail
  go_loopw [5, 6] (fun v i wr => ∃ k : Nat, i = .int .i64 k ∧ 1 ≤ k ∧ k ≤ max 1 m ∧ Hid (wr.ownsRow w.heap.size 3 1 v (ovL s p k).length (ints (ovL s p k))) ∧ Below w.heap.size w wr ∧ w.heap.size ≤ wr.heap.size) (fun _ i _ => s.size - (intOf i).toNat)
  case atStart => exact ⟨1, rfl, Nat.le_refl _, by omega, by rw [H1.out]; exact World.ownsRow_nil _ _ _ _, Below.refl _ _, Nat.le_refl _⟩
  case round =>
    obtain ⟨k, rfl, hk0, hk, HO, hbw, hsz⟩ := hrel
    have hlen := ovL_len s p k
    have Hst := Lib.hid (ovL_step s p k)
    by_cases hlt : k < m
    · have hlt1 : k < s.size := by have := HM.out; omega
      have hlt2 : k < p.size := by have := HM.out; omega
      have Hbe := Lib.hid (begS_ov s p k hk0 hlt1 hlt2)
      cases hq : ovAt s p k
      · have Hat := Lib.hid hq
        clear hq
        go_wp2_with (go_at_call 35; refine (beginsWith_any _ _ _).mono ?_; rw [Hbe.out, Hat.out]; rintro e w' ⟨rfl, rfl⟩)
        have HO2 : Hid (wr.ownsRow w.heap.size 3 1 u5 (ovL s p (k + 1)).length (ints (ovL s p (k + 1)))) := by
          show World.ownsRow _ _ _ _ _ _ _
          rw [Hst.out, Hat.out, if_neg (by simp), List.append_nil]; exact HO.out
        go_roundw
        case rel => exact ⟨k + 1, by go_num, by omega, by omega, HO2, hbw, hsz⟩
        case measure => simp [intOf]; omega
      · have Hat := Lib.hid hq
        clear hq
        go_wp2_with (first | (at_builtin; refine wpList_append_own _ rfl _ _ 23 rfl w.heap.size 3 i0 (.int .i64 0) 1 8 Try.underlying23 hi hz0 hz1 hz2 rfl (by decide) _ _ _ rfl (HO.out.alloc _) ⟨wr.heap.size, 0, none⟩ 1 1 [.int .i64 k] rfl rfl ?c1 ?c2 ?c3 ?c4 ?c5 ?_) | (go_at_call 35; refine (beginsWith_any _ _ _).mono ?_; rw [Hbe.out, Hat.out]; rintro e w' ⟨rfl, rfl⟩))
        case c1 =>
          intro j u hj
          match j, hj with
          | 0, hj => simp at hj; subst hj; simp [Addr.add]
        case c2 => intro u hu; simp at hu; subst hu; rfl
        case c3 => unfold maxLen; omega
        case c4 => omega
        case c5 => simp; omega
        intro v' w3 hown' hgrow _
        have hO2 : w3.ownsRow w.heap.size 3 1 v' (ovL s p (k + 1)).length (ints (ovL s p (k + 1))) := by
          have e : ints (ovL s p k) ++ [Value.int .i64 k] = ints (ovL s p (k + 1)) := by
            rw [Hst.out, Hat.out, if_pos rfl]; simp [ints]
          rw [← e, show (ovL s p (k + 1)).length = (ovL s p k).length + 1 by rw [Hst.out, Hat.out, if_pos rfl]; simp]; exact hown'
        have hbw3 : Below w.heap.size w w3 := grown_one HO.out hgrow hbw (Nat.le_refl _) hsz
        have hsz3 := hgrow.size
        simp at hsz3
        have HO2 := Lib.hid hO2
        clear hO2 hown' hgrow
        go_wp2_with fail
        go_roundw
        case rel => exact ⟨k + 1, by go_num, by omega, by omega, HO2, hbw3, by omega⟩
        case measure => simp [intOf]; omega
    · have He := Lib.hid (show overlapsOf s p = ovL s p k by rw [HD.out, ← HM.out]; congr 1; omega)
      go_wp2_with fail
      go_ret
      refine ⟨_, rfl, ?_, hbw⟩
      rw [He.out]; exact Own.of_row HO.out

theorem implOverlapsOf (s p : ByteArray) (w : World) (hs : s.size ≤ 1048576) :
    Calls Try.prog 20 #[.string s, .string p] w fun e w' => ∃ v, e = .returned v ∧ Own w.heap.size w' v 1 (overlapsOf s p).length (ints (overlapsOf s p)) ∧ Below w.heap.size w w' := by
  go_enter Try.func20, Try.ntmps20
  go_wp2_with (go_at_call 30; refine (wordOverlaps _ _ _ hs).mono ?_)
  rintro e w1 ⟨v, rfl, o, b⟩
  have HO := Lib.hid o
  clear o
  go_wp2_with fail
  go_ret
  exact ⟨v, rfl, HO.out, b⟩
end Go.Proofs.Ytpgfjcnbgomagaa
