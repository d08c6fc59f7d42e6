/- Two closed facts of the loaded program. -/
import Derived.Test.YtddifhbjjiphiaaDoorKit
namespace Go.Proofs.YtddifhbjjiphiaaDoor
theorem own : ownKnob Tryd.prog.godebug = none := by kernel_rfl
theorem laidOut : laidOutB Tryd.prog = true := by kernel_rfl
end Go.Proofs.YtddifhbjjiphiaaDoor
