/- OrientRule: the program's and the model's. -/
import Derived.Test.YtpmghdecfpfahaaDoorRulesOk
import Derived.Test.YtpmghdecfpfahaaDoorOrder
namespace Go.Proofs.YtpmghdecfpfahaaDoor
open Go.RowKit

/-- What OrientRule answers. -/
def oriented (r : R) : R := if lessS r.1 r.2 then (r.2, r.1) else r
def canOrient (k : Int) (r : R) : Bool := sidesOk k r && !decide (r.1 = r.2)
def noRule : R := (⟨#[]⟩, ⟨#[]⟩)
def orientOf (k : Int) (r : R) : R := if canOrient k r then oriented r else noRule

theorem orient_no1 {k : Int} {u v : ByteArray} (h : sidesOk k (u, v) = false) : orientOf k (u, v) = noRule ∧ canOrient k (u, v) = false := by simp [orientOf, canOrient, h]
theorem orient_no2 {k : Int} (u : ByteArray) : orientOf k (u, u) = noRule ∧ canOrient k (u, u) = false := by simp [orientOf, canOrient]
theorem orient_1 {k : Int} {u v : ByteArray} (h : sidesOk k (u, v) = true) (hn : u ≠ v) (hl : lessS u v = true) : orientOf k (u, v) = (v, u) ∧ canOrient k (u, v) = true := by simp [orientOf, canOrient, oriented, h, hn, hl]
theorem orient_2 {k : Int} {u v : ByteArray} (h : sidesOk k (u, v) = true) (hn : u ≠ v) (hl : lessS u v = false) : orientOf k (u, v) = (u, v) ∧ canOrient k (u, v) = true := by simp [orientOf, canOrient, oriented, h, hn, hl]
theorem ret_rule {a b : R} {p q : Bool} (h : a = b ∧ p = q) : Ending.returned (.tuple #[ruleV b, .bool q]) = Ending.returned (.tuple #[ruleV a, .bool p]) := by rw [h.1, h.2]

set_option maxRecDepth 100000 in
set_option maxHeartbeats 800000 in
theorem specOrientRule (k : Int) (u v : ByteArray) (w : World) (hu : u.size ≤ 1048576) (hv : v.size ≤ 1048576) :
    Calls Tryd.prog 22 #[.int .i64 k, .agg #[.string u, .string v]] w fun e w' => e = .returned (.tuple #[ruleV (orientOf k (u, v)), .bool (canOrient k (u, v))]) ∧ Below w.heap.size w w' := by
  have Hu : Hid (u.size ≤ 1048576) := hu
  have Hv : Hid (v.size ≤ 1048576) := hv
  clear hu hv
  go_enter Tryd.func22, Tryd.ntmps22
  go_wp2_with fail
  refine (specSidesOk k u v _ Hu.out Hv.out).mono ?_
  rintro e w1 ⟨rfl, hb1⟩
  have b1 := (bel2 w _ _).trans (hb1.mono (by simp; omega))
  obtain ⟨q0, q1, -, -, ql⟩ := (((Blk.new1 w _ _).alloc _).below hb1 (by simp; omega)).two
  obtain ⟨r0, r1, f0, f1, rl⟩ := ((Blk.new2 w _ _ _).below hb1 (by simp)).two
  clear hb1
  cases h1 : sidesOk k (u, v)
  · have He := Lib.hid (orient_no1 h1)
    clear h1
    go_wp2_with fail
    refine bodyPost_ret (v := .tuple #[.agg #[.string ⟨#[]⟩, .string ⟨#[]⟩], .bool false]) (by simp [results, Tryd.results22, go_sem, *]) rfl ⟨ret_rule He.out, ?_⟩
    exact (b1.setCell (by simp) _).setCell (by simp) _
  by_cases hn : u = v
  · subst hn
    have He := Lib.hid (orient_no2 (k := k) u)
    clear h1
    go_wp2_with fail
    refine bodyPost_ret (v := .tuple #[.agg #[.string ⟨#[]⟩, .string ⟨#[]⟩], .bool false]) (by simp [results, Tryd.results22, go_sem, *]) rfl ⟨ret_rule He.out, ?_⟩
    exact (b1.setCell (by simp) _).setCell (by simp) _
  have hd : (u.toList == v.toList) = false := toList_ne hn
  cases hl : lessS u v
  · have He := Lib.hid (orient_2 h1 hn hl)
    have Hl := Lib.hid hl
    clear h1 hn hl
    go_wp2_with fail
    refine (specIsLess u v _).mono ?_
    rintro e w2 ⟨rfl, rfl⟩
    rw [Hl.out]
    go_wp2_with fail
    refine bodyPost_ret (v := .tuple #[.agg #[.string u, .string v], .bool true]) (by simp [results, Tryd.results22, go_sem, *]) rfl ⟨ret_rule He.out, ?_⟩
    exact (b1.setCell (by simp) _).setCell (by simp) _
  · have He := Lib.hid (orient_1 h1 hn hl)
    have Hl := Lib.hid hl
    clear h1 hn hl
    go_wp2_with fail
    refine (specIsLess u v _).mono ?_
    rintro e w2 ⟨rfl, rfl⟩
    rw [Hl.out]
    go_wp2_with fail
    refine bodyPost_ret (v := .tuple #[.agg #[.string v, .string u], .bool true]) (by simp [results, Tryd.results22, go_sem, *]) rfl ⟨ret_rule He.out, ?_⟩
    exact (b1.setCell (by simp) _).setCell (by simp) _

set_option maxRecDepth 100000 in
set_option maxHeartbeats 800000 in
theorem implOrientRule (k : Int) (u v : ByteArray) (w : World) (hu : u.size ≤ 1048576) (hv : v.size ≤ 1048576) (h : Let w) :
    Calls Tryd.prog 23 #[.int .i64 k, .agg #[.string u, .string v]] w fun e w' => e = .returned (.tuple #[ruleV (orientOf k (u, v)), .bool (canOrient k (u, v))]) ∧ Below w.heap.size w w' := by
  have Hu : Hid (u.size ≤ 1048576) := hu
  have Hv : Hid (v.size ≤ 1048576) := hv
  clear hu hv
  have HL := Lib.hid (fun o1 o2 => h.keep (bel2 w o1 o2) (Nat.le_refl _))
  clear h
  go_enter Tryd.func23, Tryd.ntmps23
  go_wp2_with fail
  refine (implSidesOk k u v _ Hu.out Hv.out (HL.out _ _)).mono ?_
  rintro e w1 ⟨rfl, hb1⟩
  have b1 := (bel2 w _ _).trans (hb1.mono (by simp; omega))
  obtain ⟨q0, q1, -, -, ql⟩ := (((Blk.new1 w _ _).alloc _).below hb1 (by simp; omega)).two
  obtain ⟨r0, r1, f0, f1, rl⟩ := ((Blk.new2 w _ _ _).below hb1 (by simp)).two
  clear hb1
  cases h1 : sidesOk k (u, v)
  · have He := Lib.hid (orient_no1 h1)
    clear h1
    go_wp2_with fail
    refine bodyPost_ret (v := .tuple #[.agg #[.string ⟨#[]⟩, .string ⟨#[]⟩], .bool false]) (by simp [results, Tryd.results23, go_sem, *]) rfl ⟨ret_rule He.out, ?_⟩
    exact (b1.setCell (by simp) _).setCell (by simp) _
  by_cases hn : u = v
  · subst hn
    have He := Lib.hid (orient_no2 (k := k) u)
    clear h1
    go_wp2_with fail
    refine bodyPost_ret (v := .tuple #[.agg #[.string ⟨#[]⟩, .string ⟨#[]⟩], .bool false]) (by simp [results, Tryd.results23, go_sem, *]) rfl ⟨ret_rule He.out, ?_⟩
    exact (b1.setCell (by simp) _).setCell (by simp) _
  have hd : (u.toList == v.toList) = false := toList_ne hn
  cases hl : lessS v u
  · have hl2 : lessS u v = true := by
      cases h : lessS u v
      · exact absurd (lessS_total u v h hl) hn
      · rfl
    have He := Lib.hid (orient_1 h1 hn hl2)
    have Hl : Hid (ordered (u, v) = false) := hl
    clear h1 hn hl hl2
    go_wp2_with fail
    refine (isOrdered_any u v _).mono ?_
    rintro e w2 ⟨rfl, hb2⟩
    have b2 := b1.trans (hb2.mono b1.size)
    have z0 := (hb2.cell (p := ⟨w.heap.size, 0, none⟩) ql).trans q0
    have z1 := (hb2.cell (p := ⟨w.heap.size, 1, none⟩) ql).trans q1
    have y0 := (hb2.cell (p := ⟨w.heap.size + 1, 0, none⟩) rl).trans r0
    have y1 := (hb2.cell (p := ⟨w.heap.size + 1, 1, none⟩) rl).trans r1
    have g0 := (hb2.frozen (p := ⟨w.heap.size + 1, 0, none⟩) rl).trans f0
    have g1 := (hb2.frozen (p := ⟨w.heap.size + 1, 1, none⟩) rl).trans f1
    have rl2 : w.heap.size + 1 < w2.heap.size := Nat.lt_of_lt_of_le rl hb2.size
    clear q0 q1 r0 r1 f0 f1 b1 ql rl hb2
    rw [Hl.out]
    go_wp2_with fail
    refine bodyPost_ret (v := .tuple #[.agg #[.string v, .string u], .bool true]) (by simp [results, Tryd.results23, go_sem, *]) rfl ⟨ret_rule He.out, ?_⟩
    exact (b2.setCell (by simp) _).setCell (by simp) _
  · have He := Lib.hid (orient_2 h1 hn (lessS_asymm v u hl))
    have Hl : Hid (ordered (u, v) = true) := hl
    clear h1 hn hl
    go_wp2_with fail
    refine (isOrdered_any u v _).mono ?_
    rintro e w2 ⟨rfl, hb2⟩
    have b2 := b1.trans (hb2.mono b1.size)
    have z0 := (hb2.cell (p := ⟨w.heap.size, 0, none⟩) ql).trans q0
    have z1 := (hb2.cell (p := ⟨w.heap.size, 1, none⟩) ql).trans q1
    have y0 := (hb2.cell (p := ⟨w.heap.size + 1, 0, none⟩) rl).trans r0
    have y1 := (hb2.cell (p := ⟨w.heap.size + 1, 1, none⟩) rl).trans r1
    have g0 := (hb2.frozen (p := ⟨w.heap.size + 1, 0, none⟩) rl).trans f0
    have g1 := (hb2.frozen (p := ⟨w.heap.size + 1, 1, none⟩) rl).trans f1
    have rl2 : w.heap.size + 1 < w2.heap.size := Nat.lt_of_lt_of_le rl hb2.size
    clear q0 q1 r0 r1 f0 f1 b1 ql rl hb2
    rw [Hl.out]
    go_wp2_with fail
    refine bodyPost_ret (v := .tuple #[.agg #[.string u, .string v], .bool true]) (by simp [results, Tryd.results23, go_sem, *]) rfl ⟨ret_rule He.out, ?_⟩
    exact (b2.setCell (by simp) _).setCell (by simp) _
end Go.Proofs.YtpmghdecfpfahaaDoor
