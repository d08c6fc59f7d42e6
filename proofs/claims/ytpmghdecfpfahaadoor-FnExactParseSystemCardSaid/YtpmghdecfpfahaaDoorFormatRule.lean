/- FormatRule: the program's and the model's. -/
import Derived.Test.YtpmghdecfpfahaaDoorRules
import Derived.Test.YtpmghdecfpfahaaDoorJoinParts
namespace Go.Proofs.YtpmghdecfpfahaaDoor
open Go.RowKit Go.Joins

theorem isEmptyT (u : ByteArray) : (u.toList == ([] : List UInt8)) = decide (u.size = 0) := by
  rw [toList_data]
  have : u.data.toList.length = u.size := by simp
  generalize u.data.toList = l at this
  rw [← this]
  cases l <;> simp
/-- The text of a side. -/
def sideT (u : ByteArray) : ByteArray := if u.size = 0 then ⟨#[46]⟩ else u
def ruleT (r : R) : ByteArray := sideT r.1 ++ ⟨#[62]⟩ ++ sideT r.2
theorem sideT_size (u : ByteArray) : (sideT u).size ≤ u.size + 1 := by
  unfold sideT; split
  · show 1 ≤ _; omega
  · omega
theorem join_gt (a b : ByteArray) : joinS [a, b] ⟨#[62]⟩ = a ++ ⟨#[62]⟩ ++ b := by
  unfold joinS
  simp only [List.map_cons, List.map_nil, Lib.join_cons, Lib.joinTail]
  apply ByteArray.ext
  simp
theorem join_gt_len (a b : ByteArray) : (Lib.join ([a, b].map (·.data.toList)) (⟨#[62]⟩ : ByteArray).data.toList).length = a.size + b.size + 1 := by
  simp only [List.map_cons, List.map_nil, Lib.join_cons, Lib.joinTail]
  simp; omega

set_option maxHeartbeats 400000 in
theorem l03Side_any (u : ByteArray) (w : World) : Calls Tryd.prog 62 #[.string u] w fun e w' => e = .returned (.string (sideT u)) ∧ w = w' := by
  by_cases hz : u.size = 0
  · have hz1 : (u.toList == []) = true := by rw [isEmptyT]; simp [hz]
    have He := Lib.hid (show (⟨#[46]⟩ : ByteArray) = sideT u by unfold sideT; rw [if_pos hz])
    clear hz
    go_enter Tryd.func62, Tryd.ntmps62
    go_wp2_with fail
    go_ret
    exact ⟨ret_str He.out, rfl⟩
  · have hz1 : (u.toList == []) = false := by rw [isEmptyT]; simp [hz]
    have He := Lib.hid (show u = sideT u by unfold sideT; rw [if_neg hz])
    clear hz
    go_enter Tryd.func62, Tryd.ntmps62
    go_wp2_with fail
    go_ret
    exact ⟨ret_str He.out, rfl⟩
set_option maxHeartbeats 400000 in
theorem formatSide_any (u : ByteArray) (w : World) : Calls Tryd.prog 66 #[.string u] w fun e w' => e = .returned (.string (sideT u)) ∧ w = w' := by
  by_cases hz : u.size = 0
  · have hz1 : (u.toList == []) = true := by rw [isEmptyT]; simp [hz]
    have He := Lib.hid (show (⟨#[46]⟩ : ByteArray) = sideT u by unfold sideT; rw [if_pos hz])
    clear hz
    go_enter Tryd.func66, Tryd.ntmps66
    go_wp2_with fail
    go_ret
    exact ⟨ret_str He.out, rfl⟩
  · have hz1 : (u.toList == []) = false := by rw [isEmptyT]; simp [hz]
    have He := Lib.hid (show u = sideT u by unfold sideT; rw [if_neg hz])
    clear hz
    go_enter Tryd.func66, Tryd.ntmps66
    go_wp2_with fail
    go_ret
    exact ⟨ret_str He.out, rfl⟩

set_option maxRecDepth 100000 in
set_option maxHeartbeats 800000 in
theorem specFormatRule (u v : ByteArray) (w : World) (hu : u.size ≤ 1048576) (hv : v.size ≤ 1048576) :
    Calls Tryd.prog 49 #[.agg #[.string u, .string v]] w fun e w' => e = .returned (.string (ruleT (u, v))) ∧ Below w.heap.size w w' := by
  have hsu := sideT_size u
  have hsv := sideT_size v
  have He := Lib.hid (show sideT u ++ ⟨#[62]⟩ ++ sideT v = ruleT (u, v) from rfl)
  have HU := Lib.hid (fun W => l03Side_any u W)
  have HV := Lib.hid (fun W => l03Side_any v W)
  generalize sideT u = a at *
  generalize sideT v = b at *
  have k0 : (⟨#[62]⟩ : ByteArray).size = 1 := rfl
  have k1 := fun W => run_string_add_sum (P := Tryd.prog) W a ⟨#[62]⟩ (by rw [k0]; omega)
  have k2 := fun W => run_string_add_sum (P := Tryd.prog) W (a ++ ⟨#[62]⟩) b (by rw [ByteArray.size_append, k0]; omega)
  clear k0
  go_enter Tryd.func49, Tryd.ntmps49
  go_wp2_with fail
  have q := (Blk.new1 w #[.string u, .string v] 26).two
  obtain ⟨q0, q1, -, -, ql⟩ := q
  go_region_held3 (fun w' => w'.cell? ⟨w.heap.size, 0, none⟩ = some (.string u) ∧ w'.cell? ⟨w.heap.size, 1, none⟩ = some (.string v) ∧ Below w.heap.size w w')
    (first | exact ⟨q0, q1, (bel1 w _).drew⟩ | assumption)
    ((first | (go_at_call 62; refine (HU.out _).mono ?_; rintro e w' ⟨rfl, rfl⟩) | (go_at_call 62; refine (HV.out _).mono ?_; rintro e w' ⟨rfl, rfl⟩)))
  all_goals (go_wp2_with fail; go_ret; exact ⟨ret_str He.out, (bel1 w _).drew⟩)
theorem held2_keep {W W1 : World} {g o q B : Nat} {a b : Value} {w : World} (h : W.cell? ⟨g, o, none⟩ = some a ∧ W.cell? ⟨g, q, none⟩ = some b ∧ Below B w W) (hb : Below W.heap.size W W1) (hB : B ≤ W.heap.size) (hg : g < B) :
    W1.cell? ⟨g, o, none⟩ = some a ∧ W1.cell? ⟨g, q, none⟩ = some b ∧ Below B w W1 :=
  ⟨(hb.cell (by show g < _; omega)).trans h.1, (hb.cell (by show g < _; omega)).trans h.2.1, h.2.2.trans (hb.mono hB)⟩
set_option maxRecDepth 100000 in
set_option maxHeartbeats 800000 in
theorem implFormatRule (u v : ByteArray) (w : World) (hu : u.size ≤ 1048576) (hv : v.size ≤ 1048576) :
    Calls Tryd.prog 54 #[.agg #[.string u, .string v]] w fun e w' => e = .returned (.string (ruleT (u, v))) ∧ Below w.heap.size w w' := by
  have hsu := sideT_size u
  have hsv := sideT_size v
  have He := Lib.hid (show joinS [sideT u, sideT v] ⟨#[62]⟩ = ruleT (u, v) by rw [join_gt]; rfl)
  have HU := Lib.hid (fun W => formatSide_any u W)
  have HV := Lib.hid (fun W => formatSide_any v W)
  generalize sideT u = a at *
  generalize sideT v = b at *
  have Hlen := Lib.hid (show (Lib.join ([a, b].map (·.data.toList)) (⟨#[62]⟩ : ByteArray).data.toList).length ≤ 140737488355328 by rw [join_gt_len]; omega)
  go_enter Tryd.func54, Tryd.ntmps54
  go_wp2_with fail
  have HB := Lib.hid (Blk.new1 w #[.string u, .string v] 26)
  have b1 := bel1 w (.cells #[.string u, .string v] 26)
  generalize w.alloc (.cells #[.string u, .string v] 26) = w1 at *
  obtain ⟨q0, q1, -, -, ql⟩ := HB.out.two
  have HJ := Lib.hid (joinParts_any w1.heap.size 0 2 [a, b] ⟨#[62]⟩ (w1.alloc (.cells #[.string a, .string b] 9)).drew (fun j x hx => by
    rw [show (w1.alloc (.cells #[.string a, .string b] 9)).drew.cell? ⟨w1.heap.size, 0 + j, none⟩ = (w1.alloc (.cells #[.string a, .string b] 9)).cell? ⟨w1.heap.size, 0 + j, none⟩ from rfl, cell_of_row _ _ _ _ _ _ (heap_alloc_new w1 _)]
    match j, hx with
    | 0, hx => simp at hx; subst hx; rfl
    | 1, hx => simp at hx; subst hx; rfl) (by show _ < (w1.alloc _).heap.size; simp) (by simp) (by simp) Hlen.out)
  go_region_held3 (fun w' => w'.cell? ⟨w.heap.size, 0, none⟩ = some (.string u) ∧ w'.cell? ⟨w.heap.size, 1, none⟩ = some (.string v) ∧ Below w1.heap.size w1 w')
    (first | exact ⟨q0, q1, (Below.refl _ w1).drew⟩ | exact ⟨(HB.out.alloc _).cell 0, (HB.out.alloc _).cell 1, (bel1 w1 _).drew⟩ | assumption | exact held2_keep (by assumption) hb3 (by simp) ql)
    ((first | (go_at_call 66; refine (HU.out _).mono ?_; rintro e w' ⟨rfl, rfl⟩) | (go_at_call 66; refine (HV.out _).mono ?_; rintro e w' ⟨rfl, rfl⟩) | (go_at_call 65; refine HJ.out.mono ?_; rintro e w3 ⟨rfl, hb3⟩)))
  have hS := ‹_ ∧ _ ∧ Below w1.heap.size w1 w3›
  go_wp2_with fail
  go_ret
  exact ⟨ret_str He.out, b1.trans (hS.2.2.mono b1.size)⟩
end Go.Proofs.YtpmghdecfpfahaaDoor
