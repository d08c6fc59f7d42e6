/- The places of a part in a word: both PlacesOf. -/
import Derived.Test.YtomejfebmibfjaaDoorInts
import Derived.Lib.Strings
namespace Go.Proofs.YtomejfebmibfjaaDoor
open Go.RowKit

/-- Does p begin at the place i of s? -/
def atP (s p : ByteArray) (i : Nat) : Bool := decide (i + p.size ≤ s.size) && ((s.extract i (i + p.size)).toList == p.toList)
def placesL (s p : ByteArray) (k : Nat) : List Int := ((List.range k).filter (atP s p)).map fun i : Nat => (i : Int)
theorem placesL_step (s p : ByteArray) (k : Nat) : placesL s p (k + 1) = placesL s p k ++ (if atP s p k then [(k : Int)] else []) := by
  unfold placesL
  rw [List.range_succ, List.filter_append, List.map_append]
  congr 1
  by_cases h : atP s p k <;> simp [h]
theorem placesL_len (s p : ByteArray) (k : Nat) : (placesL s p k).length ≤ k := by
  unfold placesL
  rw [List.length_map]
  exact Nat.le_trans (List.length_filter_le _ _) (by simp)
theorem placesL_end (s p : ByteArray) (k : Nat) (h : s.size < k + p.size) : ∀ d, placesL s p (k + d) = placesL s p k
  | 0 => rfl
  | d + 1 => by
    rw [← Nat.add_assoc, placesL_step, placesL_end s p k h d]
    have : atP s p (k + d) = false := by unfold atP; rw [decide_eq_false (by omega), Bool.false_and]
    simp [this]

set_option maxHeartbeats 800000 in
set_option maxRecDepth 100000 in
theorem specPlacesOf_part (s p : ByteArray) (w : World) (hs : s.size ≤ 1048576) (hp : p.size ≤ 1048576) (hne : 0 < p.size) :
    Calls Tryd.prog 49 #[.string s, .string p] w fun e w' => ∃ v, e = .returned v ∧ Own w.heap.size w' v 1 (placesL s p s.size).length (ints (placesL s p s.size)) ∧ Below w.heap.size w w' := by
  obtain ⟨i0, hi, hz0, hz1, hz2⟩ := info_parts infoInt
  have hpe : p.toList.isEmpty = false := isEmpty_no hne
  go_enter Tryd.func49, Tryd.ntmps49
  go_wp2_with fail
  go_loopw [5, 6] (fun v i wr => ∃ k : Nat, i = .int .i64 k ∧ k ≤ s.size ∧ Hid (wr.ownsRow w.heap.size 3 1 v (placesL s p k).length (ints (placesL s p k))) ∧ Below w.heap.size w wr ∧ w.heap.size ≤ wr.heap.size) (fun _ i _ => s.size - (intOf i).toNat)
  case atStart => exact ⟨0, rfl, Nat.zero_le _, ⟨rfl, Or.inr ⟨w.heap.size, 0, #[], rfl, Nat.le_refl _, heap_alloc_new w _, Nat.le_refl _, by unfold maxLen; omega, rfl, rfl⟩⟩, (Below.refl _ _).alloc (Nat.le_refl _) _, by simp⟩
  case round =>
    obtain ⟨k, rfl, hk, HO, hbw, hsz⟩ := hrel
    have hlen := placesL_len s p k
    have Hst := Lib.hid (placesL_step s p k)
    by_cases hlt : k + p.size ≤ s.size
    · cases hq : ((s.extract k (k + p.size)).toList == p.toList)
      · have Hat := Lib.hid (show atP s p k = false by unfold atP; rw [hq, Bool.and_false])
        go_wp2_with fail
        have HO2 : Hid (wr.ownsRow w.heap.size 3 1 u5 (placesL s p (k + 1)).length (ints (placesL s p (k + 1)))) := by
          show World.ownsRow _ _ _ _ _ _ _
          rw [Hst.out, Hat.out, if_neg (by simp), List.append_nil]; exact HO.out
        go_roundw
        case rel => exact ⟨k + 1, by go_num, by omega, HO2, hbw, hsz⟩
        case measure => simp [intOf]; omega
      · have Hat := Lib.hid (show atP s p k = true by unfold atP; rw [hq, Bool.and_true, decide_eq_true hlt])
        go_wp2_with (at_builtin; refine wpList_append_own _ rfl _ _ 68 rfl w.heap.size 3 i0 (.int .i64 0) 1 8 Tryd.underlying68 hi hz0 hz1 hz2 rfl (by decide) _ _ _ rfl (HO.out.alloc _) ⟨wr.heap.size, 0, none⟩ 1 1 [.int .i64 k] rfl rfl ?c1 ?c2 ?c3 ?c4 ?c5 ?_)
        case c1 =>
          intro j u hj
          match j, hj with
          | 0, hj => simp at hj; subst hj; simp [Addr.add]
        case c2 => intro u hu; simp at hu; subst hu; rfl
        case c3 => unfold maxLen; omega
        case c4 => omega
        case c5 => simp; omega
        intro v' w3 hown' hgrow _
        have hO2 : w3.ownsRow w.heap.size 3 1 v' (placesL s p (k + 1)).length (ints (placesL s p (k + 1))) := by
          have e : ints (placesL s p k) ++ [Value.int .i64 k] = ints (placesL s p (k + 1)) := by
            rw [Hst.out, Hat.out, if_pos rfl]; simp [ints]
          rw [← e, show (placesL s p (k + 1)).length = (placesL s p k).length + 1 by rw [Hst.out, Hat.out, if_pos rfl]; simp]; exact hown'
        have hbw3 : Below w.heap.size w w3 := grown_one HO.out hgrow hbw (Nat.le_refl _) hsz
        have hsz3 := hgrow.size
        simp at hsz3
        have HO2 := Lib.hid hO2
        clear hO2 hown' hgrow
        go_wp2_with fail
        go_roundw
        case rel => exact ⟨k + 1, by go_num, by omega, HO2, hbw3, by omega⟩
        case measure => simp [intOf]; omega
    · have He := Lib.hid (show placesL s p s.size = placesL s p k by have := placesL_end s p k (by omega) (s.size - k); rwa [show k + (s.size - k) = s.size by omega] at this)
      go_wp2_with fail
      go_ret
      refine ⟨_, rfl, ?_, hbw⟩
      rw [He.out]; exact Own.of_row HO.out

/-- Does s begin with p? -/
def begS (s p : ByteArray) : Bool := decide (p.size ≤ s.size) && ((s.extract 0 p.size).toList == p.toList)
theorem begS_at (s p : ByteArray) (i : Nat) (h : i ≤ s.size) : begS (s.extract i s.size) p = atP s p i := by
  unfold begS atP
  have hsz : (s.extract i s.size).size = s.size - i := by simp
  rw [hsz]
  by_cases hle : i + p.size ≤ s.size
  · rw [decide_eq_true hle, decide_eq_true (by omega), Bool.true_and, Bool.true_and]
    have : (s.extract i s.size).extract 0 p.size = s.extract i (i + p.size) := by
      rw [ByteArray.extract_extract]; congr 1; omega
    rw [this]
  · rw [decide_eq_false hle, decide_eq_false (by omega), Bool.false_and, Bool.false_and]

set_option maxHeartbeats 400000 in
theorem beginsWith_any (s p : ByteArray) (w : World) :
    Calls Tryd.prog 86 #[.string s, .string p] w fun e w' => e = .returned (.bool (begS s p)) ∧ w = w' := by
  by_cases h : p.size ≤ s.size
  · have He := Lib.hid (show ((s.extract 0 p.size).toList == p.toList) = begS s p by unfold begS; rw [decide_eq_true h, Bool.true_and])
    go_enter Tryd.func86, Tryd.ntmps86
    go_wp2_with fail
    go_ret
    exact ⟨ret_bool He.out, rfl⟩
  · have He := Lib.hid (show false = begS s p by unfold begS; rw [decide_eq_false h, Bool.false_and])
    go_enter Tryd.func86, Tryd.ntmps86
    go_wp2_with fail
    go_ret
    exact ⟨ret_bool He.out, rfl⟩

set_option maxHeartbeats 800000 in
set_option maxRecDepth 100000 in
theorem wordPlaces (s p : ByteArray) (w : World) (hs : s.size ≤ 1048576) :
    Calls Tryd.prog 92 #[.string s, .string p] w fun e w' => ∃ v, e = .returned v ∧ Own w.heap.size w' v 1 (placesL s p s.size).length (ints (placesL s p s.size)) ∧ Below w.heap.size w w' := by
  obtain ⟨i0, hi, hz0, hz1, hz2⟩ := info_parts infoInt
  go_enter Tryd.func92, Tryd.ntmps92
  go_wp2_with fail
  go_loopw [5, 6, 9] (fun v _ i wr => ∃ k : Nat, i = .int .i64 k ∧ k ≤ s.size ∧ Hid (wr.ownsRow w.heap.size 3 1 v (placesL s p k).length (ints (placesL s p k))) ∧ Below w.heap.size w wr ∧ w.heap.size ≤ wr.heap.size) (fun _ _ i _ => s.size - (intOf i).toNat)
  case atStart => exact ⟨0, rfl, Nat.zero_le _, World.ownsRow_nil _ _ _ _, Below.refl _ _, Nat.le_refl _⟩
  case round =>
    obtain ⟨k, rfl, hk, HO, hbw, hsz⟩ := hrel
    have hlen := placesL_len s p k
    have Hst := Lib.hid (placesL_step s p k)
    have Hbe := Lib.hid (begS_at s p k hk)
    by_cases hlt : k < s.size
    · cases hq : atP s p k
      · have Hat := Lib.hid hq
        clear hq
        go_wp2_with (go_at_call 86; refine (beginsWith_any _ _ _).mono ?_; rw [Hbe.out, Hat.out]; rintro e w' ⟨rfl, rfl⟩)
        have HO2 : Hid (wr.ownsRow w.heap.size 3 1 u5 (placesL s p (k + 1)).length (ints (placesL s p (k + 1)))) := by
          show World.ownsRow _ _ _ _ _ _ _
          rw [Hst.out, Hat.out, if_neg (by simp), List.append_nil]; exact HO.out
        go_roundw
        case rel => exact ⟨k + 1, by go_num, by omega, HO2, hbw, hsz⟩
        case measure => simp [intOf]; omega
      · have Hat := Lib.hid hq
        clear hq
        go_wp2_with (first | (at_builtin; refine wpList_append_own _ rfl _ _ 68 rfl w.heap.size 3 i0 (.int .i64 0) 1 8 Tryd.underlying68 hi hz0 hz1 hz2 rfl (by decide) _ _ _ rfl (HO.out.alloc _) ⟨wr.heap.size, 0, none⟩ 1 1 [.int .i64 k] rfl rfl ?c1 ?c2 ?c3 ?c4 ?c5 ?_) | (go_at_call 86; refine (beginsWith_any _ _ _).mono ?_; rw [Hbe.out, Hat.out]; rintro e w' ⟨rfl, rfl⟩))
        case c1 =>
          intro j u hj
          match j, hj with
          | 0, hj => simp at hj; subst hj; simp [Addr.add]
        case c2 => intro u hu; simp at hu; subst hu; rfl
        case c3 => unfold maxLen; omega
        case c4 => omega
        case c5 => simp; omega
        intro v' w3 hown' hgrow _
        have hO2 : w3.ownsRow w.heap.size 3 1 v' (placesL s p (k + 1)).length (ints (placesL s p (k + 1))) := by
          have e : ints (placesL s p k) ++ [Value.int .i64 k] = ints (placesL s p (k + 1)) := by
            rw [Hst.out, Hat.out, if_pos rfl]; simp [ints]
          rw [← e, show (placesL s p (k + 1)).length = (placesL s p k).length + 1 by rw [Hst.out, Hat.out, if_pos rfl]; simp]; exact hown'
        have hbw3 : Below w.heap.size w w3 := grown_one HO.out hgrow hbw (Nat.le_refl _) hsz
        have hsz3 := hgrow.size
        simp at hsz3
        have HO2 := Lib.hid hO2
        clear hO2 hown' hgrow
        go_wp2_with fail
        go_roundw
        case rel => exact ⟨k + 1, by go_num, by omega, HO2, hbw3, by omega⟩
        case measure => simp [intOf]; omega
    · obtain rfl : k = s.size := by omega
      go_wp2_with fail
      go_ret
      exact ⟨_, rfl, Own.of_row HO.out, hbw⟩

theorem implPlacesOf_part (s p : ByteArray) (w : World) (hs : s.size ≤ 1048576) (hne : 0 < p.size) :
    Calls Tryd.prog 84 #[.string s, .string p] w fun e w' => ∃ v, e = .returned v ∧ Own w.heap.size w' v 1 (placesL s p s.size).length (ints (placesL s p s.size)) ∧ Below w.heap.size w w' := by
  have hpe : p.toList.isEmpty = false := isEmpty_no hne
  go_enter Tryd.func84, Tryd.ntmps84
  go_wp2_with (go_at_call 92; refine (wordPlaces _ _ _ hs).mono ?_)
  rintro e w1 ⟨v, rfl, o, b⟩
  have HO := Lib.hid o
  clear o
  go_wp2_with fail
  go_ret
  exact ⟨v, rfl, HO.out, b⟩

/-- All places of p in s; none if p is empty. -/
def placesOf (s p : ByteArray) : List Int := if p.size = 0 then [] else placesL s p s.size
theorem placesOf_len (s p : ByteArray) : (placesOf s p).length ≤ s.size := by
  unfold placesOf
  split
  · simp
  · exact placesL_len _ _ _
theorem specPlacesOf (s p : ByteArray) (w : World) (hs : s.size ≤ 1048576) (hp : p.size ≤ 1048576) :
    Calls Tryd.prog 49 #[.string s, .string p] w fun e w' => ∃ v, e = .returned v ∧ Own w.heap.size w' v 1 (placesOf s p).length (ints (placesOf s p)) ∧ Below w.heap.size w w' := by
  by_cases h : p.size = 0
  · have he : placesOf s p = [] := if_pos h
    rw [he]
    obtain rfl := size_zero h
    clear he h
    go_enter Tryd.func49, Tryd.ntmps49
    go_wp2_with fail
    go_ret
    exact ⟨_, rfl, Own.none_, Below.refl _ _⟩
  · have he : placesOf s p = placesL s p s.size := if_neg h
    rw [he]
    exact specPlacesOf_part s p w hs hp (by omega)
theorem implPlacesOf (s p : ByteArray) (w : World) (hs : s.size ≤ 1048576) :
    Calls Tryd.prog 84 #[.string s, .string p] w fun e w' => ∃ v, e = .returned v ∧ Own w.heap.size w' v 1 (placesOf s p).length (ints (placesOf s p)) ∧ Below w.heap.size w w' := by
  by_cases h : p.size = 0
  · have he : placesOf s p = [] := if_pos h
    rw [he]
    obtain rfl := size_zero h
    clear he h
    go_enter Tryd.func84, Tryd.ntmps84
    go_wp2_with fail
    go_ret
    exact ⟨_, rfl, Own.none_, Below.refl _ _⟩
  · have he : placesOf s p = placesL s p s.size := if_neg h
    rw [he]
    exact implPlacesOf_part s p w hs (by omega)
end Go.Proofs.YtomejfebmibfjaaDoor
