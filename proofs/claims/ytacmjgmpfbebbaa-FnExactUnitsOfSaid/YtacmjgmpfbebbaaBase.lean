/- Two closed facts of the loaded program. -/
import Derived.Test.YtacmjgmpfbebbaaKit
namespace Go.Proofs.Ytacmjgmpfbebbaa
theorem own : ownKnob Try.prog.godebug = none := by kernel_rfl
theorem laidOut : laidOutB Try.prog = true := by kernel_rfl
end Go.Proofs.Ytacmjgmpfbebbaa
