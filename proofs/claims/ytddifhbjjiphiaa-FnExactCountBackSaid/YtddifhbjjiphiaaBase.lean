/- Two closed facts of the loaded program. -/
import Derived.Test.YtddifhbjjiphiaaKit
namespace Go.Proofs.Ytddifhbjjiphiaa
theorem own : ownKnob Try.prog.godebug = none := by kernel_rfl
theorem laidOut : laidOutB Try.prog = true := by kernel_rfl
end Go.Proofs.Ytddifhbjjiphiaa
