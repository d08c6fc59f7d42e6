/- FormatRule: the program's and the model's. -/
import Derived.Test.YtfkojahoaljiaaaDoorRules
import Derived.Test.YtfkojahoaljiaaaDoorJoinPlain
import Derived.Lib.SmallJoins
import Derived.IntWalk
import Derived.Laws.Rows
namespace Go.Proofs.YtfkojahoaljiaaaDoor
open Go.RowKit Go.Joins

theorem isEmptyT (u : ByteArray) : (u.toList == ([] : List UInt8)) = decide (u.size = 0) := by
  rw [toList_data]
  have : u.data.toList.length = u.size := by simp
  generalize u.data.toList = l at this
  rw [← this]
  cases l <;> simp
/-- The text of a side. -/
def sideT (u : ByteArray) : ByteArray := if u.size = 0 then ⟨#[46]⟩ else u
def ruleT (r : R) : ByteArray := sideT r.1 ++ ⟨#[62]⟩ ++ sideT r.2
theorem sideT_size (u : ByteArray) : (sideT u).size ≤ u.size + 1 := by
  unfold sideT; split
  · show 1 ≤ _; omega
  · omega
theorem join_gt (a b : ByteArray) : joinS [a, b] ⟨#[62]⟩ = a ++ ⟨#[62]⟩ ++ b := by
  unfold joinS
  simp only [List.map_cons, List.map_nil, Lib.join_cons, Lib.joinTail]
  apply ByteArray.ext
  simp
theorem join_gt_len (a b : ByteArray) : (Lib.join ([a, b].map (·.data.toList)) (⟨#[62]⟩ : ByteArray).data.toList).length = a.size + b.size + 1 := by
  simp only [List.map_cons, List.map_nil, Lib.join_cons, Lib.joinTail]
  simp; omega

set_option maxHeartbeats 400000 in
theorem l03Side_any (u : ByteArray) (w : World) : Calls Tryd.prog 82 #[.string u] w fun e w' => e = .returned (.string (sideT u)) ∧ w = w' := by
  by_cases hz : u.size = 0
  · have hz1 : (u.toList == []) = true := by rw [isEmptyT]; simp [hz]
    have He := Lib.hid (show (⟨#[46]⟩ : ByteArray) = sideT u by unfold sideT; rw [if_pos hz])
    clear hz
    go_enter Tryd.func82, Tryd.ntmps82
    go_wp2_with fail
    go_ret
    exact ⟨ret_str He.out, rfl⟩
  · have hz1 : (u.toList == []) = false := by rw [isEmptyT]; simp [hz]
    have He := Lib.hid (show u = sideT u by unfold sideT; rw [if_neg hz])
    clear hz
    go_enter Tryd.func82, Tryd.ntmps82
    go_wp2_with fail
    go_ret
    exact ⟨ret_str He.out, rfl⟩
set_option maxRecDepth 100000 in
set_option maxHeartbeats 800000 in
theorem specFormatRule (u v : ByteArray) (w : World) (hu : u.size ≤ 1048576) (hv : v.size ≤ 1048576) :
    Calls Tryd.prog 73 #[.agg #[.string u, .string v]] w fun e w' => e = .returned (.string (ruleT (u, v))) ∧ Below w.heap.size w w' := by
  have hsu := sideT_size u
  have hsv := sideT_size v
  have He := Lib.hid (show sideT u ++ ⟨#[62]⟩ ++ sideT v = ruleT (u, v) from rfl)
  have HU := Lib.hid (fun W => l03Side_any u W)
  have HV := Lib.hid (fun W => l03Side_any v W)
  generalize sideT u = a at *
  generalize sideT v = b at *
  have k0 : (⟨#[62]⟩ : ByteArray).size = 1 := rfl
  have k1 := fun W => run_string_add_sum (P := Tryd.prog) W a ⟨#[62]⟩ (by rw [k0]; omega)
  have k2 := fun W => run_string_add_sum (P := Tryd.prog) W (a ++ ⟨#[62]⟩) b (by rw [ByteArray.size_append, k0]; omega)
  clear k0
  go_enter Tryd.func73, Tryd.ntmps73
  go_wp2_with fail
  have q := (Blk.new1 w #[.string u, .string v] 70).two
  obtain ⟨q0, q1, -, -, ql⟩ := q
  go_region_held3 (fun w' => w'.cell? ⟨w.heap.size, 0, none⟩ = some (.string u) ∧ w'.cell? ⟨w.heap.size, 1, none⟩ = some (.string v) ∧ Below w.heap.size w w')
    (first | exact ⟨q0, q1, (bel1 w _).drew⟩ | assumption)
    ((first | (go_at_call 82; refine (HU.out _).mono ?_; rintro e w' ⟨rfl, rfl⟩) | (go_at_call 82; refine (HV.out _).mono ?_; rintro e w' ⟨rfl, rfl⟩)))
  all_goals (go_wp2_with fail; go_ret; exact ⟨ret_str He.out, (bel1 w _).drew⟩)
theorem held2_keep {W W1 : World} {g o q B : Nat} {a b : Value} {w : World} (h : W.cell? ⟨g, o, none⟩ = some a ∧ W.cell? ⟨g, q, none⟩ = some b ∧ Below B w W) (hb : Below W.heap.size W W1) (hB : B ≤ W.heap.size) (hg : g < B) :
    W1.cell? ⟨g, o, none⟩ = some a ∧ W1.cell? ⟨g, q, none⟩ = some b ∧ Below B w W1 :=
  ⟨(hb.cell (by show g < _; omega)).trans h.1, (hb.cell (by show g < _; omega)).trans h.2.1, h.2.2.trans (hb.mono hB)⟩
end Go.Proofs.YtfkojahoaljiaaaDoor
