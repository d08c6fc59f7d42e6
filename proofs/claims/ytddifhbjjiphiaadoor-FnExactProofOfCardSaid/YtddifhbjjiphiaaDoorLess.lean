/- The order of words: spec.IsLess, impl.IsLess. -/
import Derived.Test.YtddifhbjjiphiaaDoorBase
import Derived.Deep.QuietTactic
import Derived.BigQuiet
namespace Go.Proofs.YtddifhbjjiphiaaDoor
open Go.RowKit

/-- Is u shorter than v, or of the same length and less bytewise? -/
def lessS (u v : ByteArray) : Bool := if u.size = v.size then Op.bytesLess u.toList v.toList else decide (u.size < v.size)

set_option maxHeartbeats 400000 in
theorem specIsLess (u v : ByteArray) (w : World) :
    Calls Tryd.prog 60 #[.string u, .string v] w fun e w' => e = .returned (.bool (lessS u v)) ∧ w = w' := by
  by_cases h : u.size = v.size
  · have He := Lib.hid (show Op.bytesLess u.toList v.toList = lessS u v by unfold lessS; rw [if_pos h])
    have hq : ((u.size : Int) == (v.size : Int)) = true := by rw [h]; simp
    clear h
    go_enter Tryd.func60, Tryd.ntmps60
    go_wp2_with fail
    go_ret
    exact ⟨ret_bool He.out, rfl⟩
  · have He := Lib.hid (show decide (u.size < v.size) = lessS u v by unfold lessS; rw [if_neg h])
    have hq : ((u.size : Int) == (v.size : Int)) = false := by rw [beq_eq_false_iff_ne]; omega
    clear h
    go_enter Tryd.func60, Tryd.ntmps60
    go_wp2_with fail
    go_ret
    exact ⟨ret_bool (by rw [← He.out]), rfl⟩

set_option maxHeartbeats 400000 in
theorem wordIsLess (u v : ByteArray) (w : World) :
    Calls Tryd.prog 74 #[.string u, .string v] w fun e w' => e = .returned (.bool (lessS u v)) ∧ w = w' := by
  by_cases h : u.size = v.size
  · have He := Lib.hid (show Op.bytesLess u.toList v.toList = lessS u v by unfold lessS; rw [if_pos h])
    have hq : ((u.size : Int) == (v.size : Int)) = true := by rw [h]; simp
    clear h
    go_enter Tryd.func74, Tryd.ntmps74
    go_wp2_with fail
    go_ret
    exact ⟨ret_bool He.out, rfl⟩
  · have He := Lib.hid (show decide (u.size < v.size) = lessS u v by unfold lessS; rw [if_neg h])
    have hq : ((u.size : Int) == (v.size : Int)) = false := by rw [beq_eq_false_iff_ne]; omega
    clear h
    go_enter Tryd.func74, Tryd.ntmps74
    go_wp2_with fail
    go_ret
    exact ⟨ret_bool (by rw [← He.out]), rfl⟩

set_option maxHeartbeats 400000 in
theorem implIsLess (u v : ByteArray) (w : World) :
    Calls Tryd.prog 61 #[.string u, .string v] w fun e w' => e = .returned (.bool (lessS u v)) ∧ w = w' := by
  go_enter Tryd.func61, Tryd.ntmps61
  go_wp2_with (go_at_call 74; refine (wordIsLess _ _ _).mono ?_; rintro e w' ⟨rfl, rfl⟩)
  go_ret
  exact ⟨rfl, rfl⟩
end Go.Proofs.YtddifhbjjiphiaaDoor
