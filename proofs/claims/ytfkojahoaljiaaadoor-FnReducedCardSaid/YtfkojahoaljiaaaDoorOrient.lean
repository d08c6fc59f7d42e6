/- OrientRule: the program's and the model's. -/
import Derived.Test.YtfkojahoaljiaaaDoorRulesOk
import Derived.Test.YtfkojahoaljiaaaDoorOrder
namespace Go.Proofs.YtfkojahoaljiaaaDoor
open Go.RowKit

/-- What OrientRule answers. -/
def oriented (r : R) : R := if lessS r.1 r.2 then (r.2, r.1) else r
def canOrient (k : Int) (r : R) : Bool := sidesOk k r && !decide (r.1 = r.2)
def noRule : R := (⟨#[]⟩, ⟨#[]⟩)
def orientOf (k : Int) (r : R) : R := if canOrient k r then oriented r else noRule

theorem orient_no1 {k : Int} {u v : ByteArray} (h : sidesOk k (u, v) = false) : orientOf k (u, v) = noRule ∧ canOrient k (u, v) = false := by simp [orientOf, canOrient, h]
theorem orient_no2 {k : Int} (u : ByteArray) : orientOf k (u, u) = noRule ∧ canOrient k (u, u) = false := by simp [orientOf, canOrient]
theorem orient_1 {k : Int} {u v : ByteArray} (h : sidesOk k (u, v) = true) (hn : u ≠ v) (hl : lessS u v = true) : orientOf k (u, v) = (v, u) ∧ canOrient k (u, v) = true := by simp [orientOf, canOrient, oriented, h, hn, hl]
theorem orient_2 {k : Int} {u v : ByteArray} (h : sidesOk k (u, v) = true) (hn : u ≠ v) (hl : lessS u v = false) : orientOf k (u, v) = (u, v) ∧ canOrient k (u, v) = true := by simp [orientOf, canOrient, oriented, h, hn, hl]
theorem ret_rule {a b : R} {p q : Bool} (h : a = b ∧ p = q) : Ending.returned (.tuple #[ruleV b, .bool q]) = Ending.returned (.tuple #[ruleV a, .bool p]) := by rw [h.1, h.2]

set_option maxRecDepth 100000 in
set_option maxHeartbeats 800000 in
theorem specOrientRule (k : Int) (u v : ByteArray) (w : World) (hu : u.size ≤ 1048576) (hv : v.size ≤ 1048576) :
    Calls Tryd.prog 36 #[.int .i64 k, .agg #[.string u, .string v]] w fun e w' => e = .returned (.tuple #[ruleV (orientOf k (u, v)), .bool (canOrient k (u, v))]) ∧ Below w.heap.size w w' := by
  have Hu : Hid (u.size ≤ 1048576) := hu
  have Hv : Hid (v.size ≤ 1048576) := hv
  clear hu hv
  go_enter Tryd.func36, Tryd.ntmps36
  go_wp2_with fail
  refine (specSidesOk k u v _ Hu.out Hv.out).mono ?_
  rintro e w1 ⟨rfl, hb1⟩
  have b1 := (bel2 w _ _).trans (hb1.mono (by simp; omega))
  obtain ⟨q0, q1, -, -, ql⟩ := (((Blk.new1 w _ _).alloc _).below hb1 (by simp; omega)).two
  obtain ⟨r0, r1, f0, f1, rl⟩ := ((Blk.new2 w _ _ _).below hb1 (by simp)).two
  clear hb1
  cases h1 : sidesOk k (u, v)
  · have He := Lib.hid (orient_no1 h1)
    clear h1
    go_wp2_with fail
    refine bodyPost_ret (v := .tuple #[.agg #[.string ⟨#[]⟩, .string ⟨#[]⟩], .bool false]) (by simp [results, Tryd.results36, go_sem, *]) rfl ⟨ret_rule He.out, ?_⟩
    exact (b1.setCell (by simp) _).setCell (by simp) _
  by_cases hn : u = v
  · subst hn
    have He := Lib.hid (orient_no2 (k := k) u)
    clear h1
    go_wp2_with fail
    refine bodyPost_ret (v := .tuple #[.agg #[.string ⟨#[]⟩, .string ⟨#[]⟩], .bool false]) (by simp [results, Tryd.results36, go_sem, *]) rfl ⟨ret_rule He.out, ?_⟩
    exact (b1.setCell (by simp) _).setCell (by simp) _
  have hd : (u.toList == v.toList) = false := toList_ne hn
  cases hl : lessS u v
  · have He := Lib.hid (orient_2 h1 hn hl)
    have Hl := Lib.hid hl
    clear h1 hn hl
    go_wp2_with fail
    refine (specIsLess u v _).mono ?_
    rintro e w2 ⟨rfl, rfl⟩
    rw [Hl.out]
    go_wp2_with fail
    refine bodyPost_ret (v := .tuple #[.agg #[.string u, .string v], .bool true]) (by simp [results, Tryd.results36, go_sem, *]) rfl ⟨ret_rule He.out, ?_⟩
    exact (b1.setCell (by simp) _).setCell (by simp) _
  · have He := Lib.hid (orient_1 h1 hn hl)
    have Hl := Lib.hid hl
    clear h1 hn hl
    go_wp2_with fail
    refine (specIsLess u v _).mono ?_
    rintro e w2 ⟨rfl, rfl⟩
    rw [Hl.out]
    go_wp2_with fail
    refine bodyPost_ret (v := .tuple #[.agg #[.string v, .string u], .bool true]) (by simp [results, Tryd.results36, go_sem, *]) rfl ⟨ret_rule He.out, ?_⟩
    exact (b1.setCell (by simp) _).setCell (by simp) _

end Go.Proofs.YtfkojahoaljiaaaDoor
